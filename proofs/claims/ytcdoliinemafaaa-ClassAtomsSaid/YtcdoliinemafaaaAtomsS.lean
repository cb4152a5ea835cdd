/-
  galleylaw01.sameClasses; a block of classes that is written.
-/
import Derived.Test.YtcdoliinemafaaaAtomsE
import Derived.Deep.AppendLies
namespace Go.Proofs.Ytcdoliinemafaaa
open Go.RowKit

set_option maxHeartbeats 2000000 in
set_option maxRecDepth 100000 in
theorem sameClasses_yes (w : World) (va vb : Value) (cs : List Cl) (ha : CC w va cs) (hb : CC w vb cs) (hlen : cs.length ≤ 4611686018427387904) :
    Calls Try.prog 28 #[va, vb] w fun e w' => e = .returned (.bool true) ∧ ∃ q, w' = w.drewN q := by
  obtain ⟨aa, ca, rfl, -⟩ := id ha
  obtain ⟨ab, cb, rfl, -⟩ := id hb
  obtain ⟨n, hn⟩ : ∃ n, cs.length = n := ⟨_, rfl⟩
  have HN := Lib.hid hn
  rw [hn] at ha hb hlen ⊢
  clear hn
  have hne : ((n : Int) != (n : Int)) = false := by simp
  go_enter Try.func28, Try.ntmps28
  go_wp2_with fail
  go_loopw [5] (fun i wr => ∃ k q : Nat, k ≤ n ∧ i = .int .i64 k ∧ wr = w.drewN q) (fun i _ => n - (intOf i).toNat)
  case atStart => exact ⟨0, 0, Nat.zero_le _, rfl, rfl⟩
  case round =>
    obtain ⟨k, q, hk, rfl, rfl⟩ := hrel
    by_cases hlt : k < n
    · have hkl : k < cs.length := by rw [HN.out]; exact hlt
      obtain ⟨b1, o1, rfl, hw1⟩ := ha.words k hkl
      obtain ⟨b2, o2, rfl, hw2⟩ := hb.words k hkl
      obtain ⟨p0, p1, p2, p3, hp⟩ := isC_words cs[k].1 cs[k].2
      obtain ⟨c0, c1, c2, c3⟩ := hw1 p0 p1 p2 p3 hp
      obtain ⟨d0, d1, d2, d3⟩ := hw2 p0 p1 p2 p3 hp
      have e1 := fun W => run_neq_rowC W cs[k].1 cs[k].1 cs[k].2.1 cs[k].2.1
      rw [decide_eq_true rfl, show row64 cs[k].1 = #[.int .u64 (p0 : Int), .int .u64 (p1 : Int), .int .u64 (p2 : Int), .int .u64 (p3 : Int)] by rw [hp]; rfl] at e1
      have hgu := fun w op x y xs ys => run_guardTC w op x y xs ys
      have e0 : decide (k < n) = true := decide_eq_true hlt
      have hmI : (k : Int) < (n : Int) := by omega
      clear hw1 hw2 hp
      go_wp2_with fail
      go_quiet (fail)
      clear e1 hgu
      go_wp2_with fail
      go_roundw
      case rel => exact ⟨k + 1, _, hlt, by go_num, rfl⟩
      case measure => simp [intOf]; omega
    · obtain rfl : k = n := by omega
      go_wp2_with fail
      go_ret
      exact ⟨rfl, q, rfl⟩
theorem sameClasses_q (w : World) (va vb : Value) (cs : List Cl) (ha : CC w va cs) (hb : CC w vb cs) (hlen : cs.length ≤ 4611686018427387904) (q : Nat) :
    Calls Try.prog 28 #[va, vb] (w.drewN q) fun e w' => e = .returned (.bool true) ∧ ∃ m, w' = w.drewN m :=
  (sameClasses_yes (w.drewN q) va vb cs (ha.below (below_drewN (Below.refl _ _) q)) (hb.below (below_drewN (Below.refl _ _) q)) hlen).mono fun e w' ⟨h1, m, h2⟩ => ⟨h1, q + m, by rw [h2, World.drewN_drewN]⟩

/-! ### A block of classes -/
/-- Block g holds the classes xs. -/
def ArrC (w : World) (g : Nat) (xs : List Cl) : Prop := w.heap[g]? = some (.cells (cellsC xs).toArray 24 (0, 0))
theorem ArrC.lt {w : World} {g : Nat} {xs : List Cl} (h : ArrC w g xs) : g < w.heap.size := (Array.getElem?_eq_some_iff.1 h).1
theorem ArrC.kept {w w' : World} {g : Nat} {xs : List Cl} (h : ArrC w g xs) (hk : w'.heap[g]? = w.heap[g]?) : ArrC w' g xs := hk.trans h
theorem ArrC.below {w w' : World} {g : Nat} {xs : List Cl} (h : ArrC w g xs) {B : Nat} (hb : Below B w w') (hg : g < B) : ArrC w' g xs := (hb.block g hg).trans h
theorem ArrC.frozen {w : World} {g : Nat} {xs : List Cl} (h : ArrC w g xs) (i : Nat) : w.frozen? ⟨g, i, none⟩ = false := frozen_of_row w g i _ _ h
theorem ArrC.words {w : World} {g : Nat} {xs : List Cl} (h : ArrC w g xs) (k : Nat) (hk : k < xs.length) {p0 p1 p2 p3 : Nat} (e : xs[k].1 = [p0, p1, p2, p3]) :
    w.cell? ⟨g, k * 4, none⟩ = some (.int .u64 (p0 : Int)) ∧ w.cell? ⟨g, k * 4 + 1, none⟩ = some (.int .u64 (p1 : Int)) ∧ w.cell? ⟨g, k * 4 + 2, none⟩ = some (.int .u64 (p2 : Int)) ∧ w.cell? ⟨g, k * 4 + 3, none⟩ = some (.int .u64 (p3 : Int)) := by
  have hx := cells_of xs[k] e
  have hc : ∀ c, c < 4 → w.cell? ⟨g, k * 4 + c, none⟩ = (encC xs[k])[c]? := fun c hc => by
    rw [cell_of_row w g _ _ _ (0, 0) h]
    have := cellsC_get xs k c hc
    rw [List.getElem?_eq_getElem hk] at this
    simpa using this
  rw [hx] at hc
  exact ⟨hc 0 (by omega), hc 1 (by omega), hc 2 (by omega), hc 3 (by omega)⟩
theorem cellsC_set (xs : List Cl) (k c : Nat) (hc : c < 4) (hk : k < xs.length) (y : Cl) (v : Nat) (hy : y.1 = (xs[k]).1.set c v) : cellsC (xs.set k y) = (cellsC xs).set (k * 4 + c) (.int .u64 (v : Int)) := by
  induction xs generalizing k with
  | nil => simp at hk
  | cons x xs ih =>
    cases k with
    | zero =>
      simp only [List.set_cons_zero, cellsC, List.flatMap_cons, Nat.zero_mul, Nat.zero_add]
      simp only [List.getElem_cons_zero] at hy
      have he : encC y = (encC x).set c (.int .u64 (v : Int)) := by
        unfold encC
        rw [hy, List.map_set]
      rw [he, List.set_append_left _ _ (by rw [encC_len]; exact hc)]
    | succ k =>
      simp only [List.set_cons_succ, cellsC, List.flatMap_cons]
      have h := ih k (by simpa using hk) (by simpa using hy)
      simp only [cellsC] at h
      rw [h, List.set_append_right _ _ (by rw [encC_len]; omega), encC_len, show (k + 1) * 4 + c - 4 = k * 4 + c by omega]
/-- A word of a class of the block is written. -/
theorem ArrC.word {w : World} {g : Nat} {xs : List Cl} (h : ArrC w g xs) (k c : Nat) (hc : c < 4) (hk : k < xs.length) (y : Cl) (v : Nat) (hy : y.1 = (xs[k]).1.set c v) : ArrC (w.setCell ⟨g, k * 4 + c, none⟩ (.int .u64 (v : Int))) g (xs.set k y) := by
  unfold ArrC
  rw [cellsC_set xs k c hc hk y v hy]
  have := heap_setCell_same w g (k * 4 + c) _ _ (.int .u64 (v : Int)) h
  rw [this]
  simp

theorem cellsC_put (xs : List Cl) (k : Nat) (hk : k < xs.length) (y : Cl) {u0 u1 u2 u3 : Nat} (e : y.1 = [u0, u1, u2, u3]) :
    cellsC (xs.set k y) = ((((cellsC xs).set (k * 4) (.int .u64 (u0 : Int))).set (k * 4 + 1) (.int .u64 (u1 : Int))).set (k * 4 + 2) (.int .u64 (u2 : Int))).set (k * 4 + 3) (.int .u64 (u3 : Int)) := by
  induction xs generalizing k with
  | nil => simp at hk
  | cons x xs ih =>
    obtain ⟨p0, p1, p2, p3, hp⟩ := isC_words x.1 x.2
    have hx := cells_of x hp
    have hy := cells_of y e
    cases k with
    | zero =>
      simp only [List.set_cons_zero, cellsC, List.flatMap_cons, Nat.zero_mul, Nat.zero_add]
      rw [hx, hy]
      rfl
    | succ k =>
      simp only [List.set_cons_succ, cellsC, List.flatMap_cons]
      have h := ih k (by simpa using hk)
      simp only [cellsC] at h
      rw [h, List.set_append_right _ _ (by rw [encC_len]; omega), List.set_append_right _ _ (by rw [encC_len]; omega), List.set_append_right _ _ (by rw [encC_len]; omega), List.set_append_right _ _ (by rw [encC_len]; omega), encC_len,
        show (k + 1) * 4 - 4 = k * 4 by omega, show (k + 1) * 4 + 1 - 4 = k * 4 + 1 by omega, show (k + 1) * 4 + 2 - 4 = k * 4 + 2 by omega, show (k + 1) * 4 + 3 - 4 = k * 4 + 3 by omega]
abbrev put4C (W : World) (g k : Nat) (u0 u1 u2 u3 : Nat) : World := (((W.setCell ⟨g, k * 4, none⟩ (.int .u64 (u0 : Int))).setCell ⟨g, k * 4 + 1, none⟩ (.int .u64 (u1 : Int))).setCell ⟨g, k * 4 + 2, none⟩ (.int .u64 (u2 : Int))).setCell ⟨g, k * 4 + 3, none⟩ (.int .u64 (u3 : Int))
theorem ArrC.put {w : World} {g : Nat} {xs : List Cl} (h : ArrC w g xs) (k : Nat) (hk : k < xs.length) (y : Cl) {u0 u1 u2 u3 : Nat} (e : y.1 = [u0, u1, u2, u3]) : ArrC (put4C w g k u0 u1 u2 u3) g (xs.set k y) := by
  unfold ArrC
  rw [cellsC_put xs k hk y e]
  have h1 := heap_setCell_same w g (k * 4) _ _ (.int .u64 (u0 : Int)) h
  have h2 := heap_setCell_same _ g (k * 4 + 1) _ _ (.int .u64 (u1 : Int)) h1
  have h3 := heap_setCell_same _ g (k * 4 + 2) _ _ (.int .u64 (u2 : Int)) h2
  have h4 := heap_setCell_same _ g (k * 4 + 3) _ _ (.int .u64 (u3 : Int)) h3
  rw [h4]
  simp
theorem put4C_other (w : World) (g k b : Nat) (u0 u1 u2 u3 : Nat) (h : b ≠ g) : (put4C w g k u0 u1 u2 u3).heap[b]? = w.heap[b]? := by
  unfold put4C
  rw [heap_setCell_other _ ⟨g, _, none⟩ b _ h, heap_setCell_other _ ⟨g, _, none⟩ b _ h, heap_setCell_other _ ⟨g, _, none⟩ b _ h, heap_setCell_other _ ⟨g, _, none⟩ b _ h]
theorem put4C_below {B : Nat} {a w : World} (h : Below B a w) {g : Nat} (hg : B ≤ g) (k u0 u1 u2 u3 : Nat) : Below B a (put4C w g k u0 u1 u2 u3) := (((h.setCell hg _).setCell hg _).setCell hg _).setCell hg _
theorem put4C_size (w : World) (g k u0 u1 u2 u3 : Nat) : (put4C w g k u0 u1 u2 u3).heap.size = w.heap.size := by simp [put4C]
theorem ArrC.cc {w : World} {g : Nat} {xs cs : List Cl} (h : ArrC w g xs) (cap : Nat) (hp : ∃ t, xs = cs ++ t) : CC w (.slice (some ⟨g, 0, none⟩) cs.length cap) cs := by
  obtain ⟨t, rfl⟩ := hp
  refine ⟨_, cap, rfl, .inr ⟨g, 0, rfl, fun i hi c hc => ?_⟩⟩
  rw [Nat.zero_add, cell_of_row w g _ _ _ (0, 0) h]
  have := cellsC_get (cs ++ t) i c hc
  rw [List.getElem?_append_left hi, List.getElem?_eq_getElem hi] at this
  simpa using this

/-! ### A list that is written from its head on -/
def updL {α : Type} (F : List α) (z : α) (k : Nat) : List α := F.take k ++ List.replicate (F.length - k) z
theorem updL_len {α : Type} (F : List α) (z : α) (k : Nat) (h : k ≤ F.length) : (updL F z k).length = F.length := by simp [updL]; omega
theorem updL_zero {α : Type} (F : List α) (z : α) : updL F z 0 = List.replicate F.length z := by simp [updL]
theorem updL_all {α : Type} (F : List α) (z : α) : updL F z F.length = F := by simp [updL]
theorem updL_step {α : Type} (F : List α) (z : α) (k : Nat) (h : k < F.length) : (updL F z k).set k F[k] = updL F z (k + 1) := by
  apply List.ext_getElem?
  intro j
  unfold updL
  rcases Nat.lt_trichotomy j k with hj | hj | hj
  · rw [List.getElem?_set_ne (by omega), List.getElem?_append_left (by simp; omega), List.getElem?_append_left (by simp; omega), List.getElem?_take_of_lt hj, List.getElem?_take_of_lt (by omega)]
  · subst hj
    rw [List.getElem?_set_self (by simp; omega), List.getElem?_append_left (by simp; omega), List.getElem?_take_of_lt (by omega), List.getElem?_eq_getElem h]
  · rw [List.getElem?_set_ne (by omega), List.getElem?_append_right (by simp; omega), List.getElem?_append_right (by simp; omega), List.getElem?_replicate, List.getElem?_replicate]
    simp only [List.length_take]
    by_cases h3 : j < F.length
    · rw [if_pos (by omega), if_pos (by omega)]
    · rw [if_neg (by omega), if_neg (by omega)]
def mkC : Cl := ⟨[7, 7, 7, 7], by constructor; · rfl
                                  · intro i; match i with | 0 => simp | 1 => simp | 2 => simp | 3 => simp | n + 4 => simp⟩
/-- The classes, and three marks behind them. -/
abbrev inC (cs : List Cl) : List Cl := cs ++ [mkC, mkC, mkC]
theorem inC_len (cs : List Cl) : (inC cs).length = cs.length + 3 := by simp [inC]
theorem inC_low (cs : List Cl) (i : Nat) (h : i < cs.length) (h2 : i < (inC cs).length) : (inC cs)[i] = cs[i] := by
  exact List.getElem_append_left h
theorem inC_high (cs : List Cl) (i : Nat) (h : cs.length ≤ i) (h2 : i < (inC cs).length) : (inC cs)[i] = mkC := by
  have hl := inC_len cs
  rw [List.getElem_append_right h]
  obtain h3 | h3 | h3 : i - cs.length = 0 ∨ i - cs.length = 1 ∨ i - cs.length = 2 := by omega
  all_goals simp [h3]
theorem madeC (w : World) (n m : Nat) (hm : m = n + 3) (hn : n ≤ 65536) : (Instr.makeSlice 43 (.int .i64 ((n : Int) + 3)) (.int .i64 ((n : Int) + 3))).run Try.prog w = .ok (.slice (some ⟨w.heap.size, 0, none⟩) m m) (w.alloc (.cells (cellsC (List.replicate m noneC)).toArray 24)) := by
  obtain ⟨i, hi, hz, hs, hb⟩ := info_partsQ infoCl
  have h := run_make (P := Try.prog) w 43 24 i _ Try.underlying43 hi hz .i64 .i64 m m (by omega) (by omega) (by rw [hb]; omega) (by omega)
  rw [show ((m : Nat) : Int) = (n : Int) + 3 by omega] at h
  rw [h, hs, show ((n : Int) + 3).toNat = m by omega]
  have e : madeCells (Value.cells (.agg #[.int .u64 0, .int .u64 0, .int .u64 0, .int .u64 0])) (m * 4) = (cellsC (List.replicate m noneC)).toArray := by
    have h1 : (cellsC (List.replicate m noneC)) = List.replicate (m * 4) (.int .u64 0) := by
      refine List.eq_replicate_iff.2 ⟨by rw [cellsC_len]; simp, fun b hb => ?_⟩
      unfold cellsC at hb
      obtain ⟨z, hz, hb⟩ := List.mem_flatMap.1 hb
      rw [List.mem_replicate] at hz
      rw [hz.2] at hb
      have : encC noneC = [.int .u64 0, .int .u64 0, .int .u64 0, .int .u64 0] := rfl
      rw [this] at hb
      simpa using hb
    rw [h1]
    apply Array.ext'
    refine List.eq_replicate_iff.2 ⟨by simp [madeCells], fun b hb => ?_⟩
    simp [madeCells, Value.cells] at hb
    obtain ⟨a, _, rfl⟩ := hb
    obtain h4 | h4 | h4 | h4 : a % 4 = 0 ∨ a % 4 = 1 ∨ a % 4 = 2 ∨ a % 4 = 3 := by omega
    all_goals rw [h4]; rfl
  rw [e]

/-! ### A list of classes of the call's own, written -/
theorem OwnCs.put {w : World} {base g n cap : Nat} {xs : List Cl} (h : OwnCs w base (.slice (some ⟨g, 0, none⟩) n cap) xs) (k : Nat) (hk : k < xs.length) (y : Cl) {u0 u1 u2 u3 : Nat} (e : y.1 = [u0, u1, u2, u3]) :
    OwnCs (put4C w g k u0 u1 u2 u3) base (.slice (some ⟨g, 0, none⟩) n cap) (xs.set k y) := by
  rcases h.2 with ⟨he, _⟩ | ⟨g', cap', cur, he, hbg, hg, hnc, hcm, hcs, htake⟩
  · simp at he
  · simp only [Value.slice.injEq, Option.some.injEq, Addr.mk.injEq] at he
    obtain ⟨⟨rfl, -⟩, rfl, rfl⟩ := he
    refine ⟨?_, .inr ⟨g, cap, (((cur.setIfInBounds (k * 4) (.int .u64 (u0 : Int))).setIfInBounds (k * 4 + 1) (.int .u64 (u1 : Int))).setIfInBounds (k * 4 + 2) (.int .u64 (u2 : Int))).setIfInBounds (k * 4 + 3) (.int .u64 (u3 : Int)), by rw [List.length_set], hbg, ?_, by rw [List.length_set]; exact hnc, hcm, ?_, ?_⟩⟩
    · rw [cellsC_len, List.length_set]
    · have h1 := heap_setCell_same w g (k * 4) _ _ (.int .u64 (u0 : Int)) hg
      have h2 := heap_setCell_same _ g (k * 4 + 1) _ _ (.int .u64 (u1 : Int)) h1
      have h3 := heap_setCell_same _ g (k * 4 + 2) _ _ (.int .u64 (u2 : Int)) h2
      exact heap_setCell_same _ g (k * 4 + 3) _ _ (.int .u64 (u3 : Int)) h3
    · simp [hcs]
    · rw [List.length_set, cellsC_put xs k hk y e, ← htake]
      simp only [Array.toList_setIfInBounds, List.take_set]
theorem OwnCs.cells {w : World} {base g n cap : Nat} {xs : List Cl} (h : OwnCs w base (.slice (some ⟨g, 0, none⟩) n cap) xs) (k : Nat) (hk : k < xs.length) :
    (∃ p0 p1 p2 p3 : Nat, w.cell? ⟨g, k * 4, none⟩ = some (.int .u64 (p0 : Int)) ∧ w.cell? ⟨g, k * 4 + 1, none⟩ = some (.int .u64 (p1 : Int)) ∧ w.cell? ⟨g, k * 4 + 2, none⟩ = some (.int .u64 (p2 : Int)) ∧ w.cell? ⟨g, k * 4 + 3, none⟩ = some (.int .u64 (p3 : Int))) ∧
      ∀ i : Nat, w.frozen? ⟨g, i, none⟩ = false := by
  have hn : n = xs.length := by
    obtain ⟨_, _, he⟩ := h.shape
    simp only [Value.slice.injEq] at he
    exact he.2.1
  subst hn
  obtain ⟨p0, p1, p2, p3, hp⟩ := isC_words xs[k].1 xs[k].2
  refine ⟨⟨p0, p1, p2, p3, own_words h k hk p0 p1 p2 p3 hp⟩, fun i => ?_⟩
  rcases h.2 with ⟨he, _⟩ | ⟨g', cap', cur, he, hbg, hg, _⟩
  · simp at he
  · simp only [Value.slice.injEq, Option.some.injEq, Addr.mk.injEq] at he
    obtain ⟨⟨rfl, -⟩, -, -⟩ := he
    exact frozen_of_row w g i _ _ hg
theorem OwnCs.some {w : World} {base n c : Nat} {a : Option Addr} {xs : List Cl} (h : OwnCs w base (.slice a n c) xs) (h0 : 0 < xs.length) : ∃ g, a = some ⟨g, 0, none⟩ ∧ base ≤ g ∧ g < w.heap.size := by
  rcases h.2 with ⟨he, hn⟩ | ⟨g', cap', cur, he, hbg, hg, _⟩
  · omega
  · simp only [Value.slice.injEq] at he
    exact ⟨g', he.1, hbg, (Array.getElem?_eq_some_iff.1 hg).1⟩
end Go.Proofs.Ytcdoliinemafaaa

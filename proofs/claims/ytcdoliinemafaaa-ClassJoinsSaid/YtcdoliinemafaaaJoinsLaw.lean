/-
  galleylaw01.ClassJoins: its walk.
-/
import Derived.Test.YtcdoliinemafaaaJoinsM
import Derived.Test.YtcdoliinemafaaaWorks
import Derived.Deep.RegionLaw
import Derived.Shelf.RegionOpen
namespace Go.Proofs.Ytcdoliinemafaaa
open Go.RowKit Go.Shelf

attribute [local go_sem] Oper.semAt_some

theorem cellsR_at (rs : List (Nat × Nat)) (i : Nat) (r : Nat × Nat) (h : rs[i]? = some r) : (cellsR rs)[i * 2]? = some (.int .u8 (r.1 : Int)) ∧ (cellsR rs)[i * 2 + 1]? = some (.int .u8 (r.2 : Int)) := by
  induction rs generalizing i with
  | nil => cases h
  | cons x t ih =>
    have e : cellsR (x :: t) = [.int .u8 (x.1 : Int), .int .u8 (x.2 : Int)] ++ cellsR t := by simp [cellsR]
    rw [e]
    match i with
    | 0 => simp at h; subst h; exact ⟨rfl, rfl⟩
    | i + 1 =>
      have := ih i (by simpa using h)
      rw [show (i + 1) * 2 = i * 2 + 2 by omega, show i * 2 + 2 + 1 = (i * 2 + 1) + 2 by omega]
      exact this
theorem OwnRn.below {w w' : World} {base : Nat} {v : Value} {rs : List (Nat × Nat)} (h : OwnRn w base v rs) (hb : Below w.heap.size w w') : OwnRn w' base v rs :=
  World.ownsRow.kept h (row := none) ⟨hb.os, hb.tape, hb.output, hb.size, fun k hk _ => hb.block k hk⟩ (by cases v.ownBlock <;> simp)
theorem OwnRn.mono {w : World} {base base' : Nat} {v : Value} {rs : List (Nat × Nat)} (h : OwnRn w base v rs) (hb : base' ≤ base) : OwnRn w base' v rs := ⟨h.1, h.2.imp_right fun ⟨g, cap, cur, e, hg, r⟩ => ⟨g, cap, cur, e, by omega, r⟩⟩
theorem OwnRn.shape {w : World} {base : Nat} {v : Value} {rs : List (Nat × Nat)} (h : OwnRn w base v rs) : ∃ a cap, v = .slice a rs.length cap ∧ (rs = [] ∨ ∃ g, a = some ⟨g, 0, none⟩ ∧ base ≤ g ∧ g < w.heap.size) := by
  rcases h.2 with ⟨rfl, hn⟩ | ⟨g, cap, cur, rfl, hg, hb, _⟩
  · exact ⟨none, 0, by rw [hn], .inl (List.eq_nil_of_length_eq_zero hn)⟩
  · exact ⟨_, cap, rfl, .inr ⟨g, rfl, hg, (Array.getElem?_eq_some_iff.1 hb).1⟩⟩
theorem own_run {W : World} {base g n cap : Nat} {rs : List (Nat × Nat)} (h : OwnRn W base (.slice (some ⟨g, 0, none⟩) n cap) rs) (hn : rs.length = n) (i : Nat) (r : Nat × Nat) (hr : rs[i]? = some r) :
    W.cell? ⟨g, i * 2, none⟩ = some (.int .u8 (r.1 : Int)) ∧ W.cell? ⟨g, i * 2 + 1, none⟩ = some (.int .u8 (r.2 : Int)) := by
  have hlt := (List.getElem?_eq_some_iff.1 hr).1
  obtain ⟨h1, h2⟩ := cellsR_at rs i r hr
  subst hn
  exact ⟨(World.ownsRow.cellAt h (i * 2) (by omega)).trans h1, (World.ownsRow.cellAt h (i * 2 + 1) (by omega)).trans h2⟩

/-- The numbers of the runs of a class. -/
theorem runs_num (c : List Nat) : ∀ (i : Nat) (r : Nat × Nat), (runsOf (elemsL c))[i]? = some r → r.1 ≤ r.2 ∧ r.2 < 256 ∧ (∀ q, 0 < i → (runsOf (elemsL c))[i - 1]? = some q → q.2 + 1 < r.1) ∧ sumR ((runsOf (elemsL c)).take i) ≤ 256 ∧
    sumR ((runsOf (elemsL c)).take (i + 1)) = sumR ((runsOf (elemsL c)).take i) + (r.2 + 1 - r.1) ∧ joinR ((runsOf (elemsL c)).take (i + 1)) = orL (joinR ((runsOf (elemsL c)).take i)) (rangeL r.1 r.2) := by
  intro i r hr
  have h1 := run_is c i r hr
  have hlt := (List.getElem?_eq_some_iff.1 hr).1
  have et : (runsOf (elemsL c)).take (i + 1) = (runsOf (elemsL c)).take i ++ [r] := by rw [List.take_add_one, hr]; rfl
  have hs : sumR ((runsOf (elemsL c)).take i) ≤ 256 := by
    have h2 := sumR_all c
    have h3 := cnt_le c 256
    have h4 : sumR (runsOf (elemsL c)) = sumR ((runsOf (elemsL c)).take i) + sumR ((runsOf (elemsL c)).drop i) := by
      unfold sumR
      rw [← List.sum_append, ← List.map_append, List.take_append_drop]
    omega
  refine ⟨h1.1, h1.2, fun q hi hq => ?_, hs, by rw [et, sumR_snoc], by rw [et, joinR_snoc]⟩
  obtain ⟨j, rfl⟩ : ∃ j, i = j + 1 := ⟨i - 1, by omega⟩
  exact runs_gap c j q r hq hr
theorem isR_take (c : List Nat) (i : Nat) (rs : List (Nat × Nat)) (h : runsOf (elemsL c) = rs) : IsR (rs.take i) := fun r hr => by
  rw [← h] at hr
  exact isR_of _ r (List.mem_of_mem_take hr)
/-- A box with the class, a box with what is joined, the runs. -/
structure JW (w W : World) (b5 : Nat) (v : Value) (c acc : List Nat) (rs : List (Nat × Nat)) : Prop where
  a1 : Arr64 W w.heap.size 24 c
  a5 : Arr64 W b5 24 acc
  ow : OwnRn W w.heap.size v rs
  bel : Below w.heap.size w W
  lt : w.heap.size < b5
  ne : v.ownBlock ≠ some b5
theorem JW.below {w W W' : World} {b5 : Nat} {v : Value} {c acc : List Nat} {rs : List (Nat × Nat)} (h : JW w W b5 v c acc rs) (hb : Below W.heap.size W W') : JW w W' b5 v c acc rs :=
  { h with a1 := h.a1.below hb h.a1.lt, a5 := h.a5.below hb h.a5.lt, ow := h.ow.below hb, bel := h.bel.trans (hb.mono h.bel.size) }

/-- Four words are stored into a box. -/
def put4 (W : World) (b : Nat) (u0 u1 u2 u3 : Nat) : World := (((W.setCell ⟨b, 0, none⟩ (.int .u64 (u0 : Int))).setCell ⟨b, 1, none⟩ (.int .u64 (u1 : Int))).setCell ⟨b, 2, none⟩ (.int .u64 (u2 : Int))).setCell ⟨b, 3, none⟩ (.int .u64 (u3 : Int))
theorem arr_put4 {W : World} {b : Nat} {acc : List Nat} (h : Arr64 W b 24 acc) (hc : IsC acc) (u0 u1 u2 u3 : Nat) : Arr64 (put4 W b u0 u1 u2 u3) b 24 [u0, u1, u2, u3] := by
  obtain ⟨p0, p1, p2, p3, hp⟩ := isC_words acc hc
  rw [hp] at h
  exact (((h.set 0 u0).set 1 u1).set 2 u2).set 3 u3
theorem arr_put4_other {W : World} {b g : Nat} {T : TypeId} {c : List Nat} (h : Arr64 W g T c) (hne : g ≠ b) (u0 u1 u2 u3 : Nat) : Arr64 (put4 W b u0 u1 u2 u3) g T c :=
  (((h.other _ hne _).other _ hne _).other _ hne _).other _ hne _
theorem below_put4 {B : Nat} {w W : World} (h : Below B w W) {b : Nat} (hb : B ≤ b) (u0 u1 u2 u3 : Nat) : Below B w (put4 W b u0 u1 u2 u3) :=
  (((h.setCell (p := ⟨b, 0, none⟩) hb _).setCell (p := ⟨b, 1, none⟩) hb _).setCell (p := ⟨b, 2, none⟩) hb _).setCell (p := ⟨b, 3, none⟩) hb _
theorem runs_put4 {W : World} {base b : Nat} {v : Value} {rs : List (Nat × Nat)} (h : OwnRn W base v rs) (hne : v.ownBlock ≠ some b) (u0 u1 u2 u3 : Nat) : OwnRn (put4 W b u0 u1 u2 u3) base v rs :=
  ownsRow_setCell_other (ownsRow_setCell_other (ownsRow_setCell_other (ownsRow_setCell_other h hne _) hne _) hne _) hne _
theorem JW.set {w W : World} {b5 : Nat} {v : Value} {c acc acc' : List Nat} {rs : List (Nat × Nat)} (h : JW w W b5 v c acc rs) (hc : IsC acc) {u0 u1 u2 u3 : Nat} (e : acc' = [u0, u1, u2, u3]) : JW w (put4 W b5 u0 u1 u2 u3) b5 v c acc' rs :=
  ⟨arr_put4_other h.a1 (by have := h.lt; omega) _ _ _ _, by rw [e]; exact arr_put4 h.a5 hc _ _ _ _, runs_put4 h.ow h.ne _ _ _ _, below_put4 h.bel (by have := h.lt; omega) _ _ _ _, h.lt, h.ne⟩

theorem eql_nilFunc (w : World) (bA : Nat) : Sem.run Try.prog (binOp .eql 33 (Value.func (Fn.func 33) #[] #[Value.pointer (some ⟨bA, 0, none⟩)]) Value.nilFunc) w = .ok (.bool false) w := by
  kernel_rfl

/-- What the rounds over the bytes keep: bytes joined in box b8, counted in box b8 + 1. -/
structure JI (w W0 : World) (b8 : Nat) (pre : List Byt) (W : World) : Prop where
  keep : ∀ k, k < W0.heap.size → k ≠ b8 → k ≠ b8 + 1 → W.heap[k]? = W0.heap[k]?
  a8 : Arr64 W b8 24 (joinE pre)
  k9 : Boxed W (b8 + 1) 3 (.int .i64 (pre.length : Nat))
  bel : Below w.heap.size w W
  size : W0.heap.size ≤ W.heap.size
theorem JI.below {w W0 W W' : World} {b8 : Nat} {pre : List Byt} (h : JI w W0 b8 pre W) (hb : Below W.heap.size W W') : JI w W0 b8 pre W' :=
  ⟨fun k hk h1 h2 => (hb.block k (Nat.lt_of_lt_of_le hk h.size)).trans (h.keep k hk h1 h2), h.a8.below hb h.a8.lt, (hb.block _ h.k9.lt).trans h.k9, h.bel.trans (hb.mono h.bel.size), Nat.le_trans h.size hb.size⟩
theorem JI.from {w W0 : World} {b8 : Nat} (h0 : w.heap.size ≤ W0.heap.size) (h1 : b8 + 1 < W0.heap.size) : OwnFrom W0.heap.size (fun pre W => JI w W0 b8 pre W) := fun pre W W' row h hg hr => by
  have hne : ∀ k, k < W0.heap.size → some k ≠ row := fun k hk e => by have := (hr k e.symm).1; omega
  have hbl : ∀ k, k < W0.heap.size → W'.heap[k]? = W.heap[k]? := fun k hk => hg.block k (Nat.lt_of_lt_of_le hk h.size) (hne k hk)
  exact ⟨fun k hk a b => (hbl k hk).trans (h.keep k hk a b), (hbl _ (by omega)).trans h.a8, (hbl _ h1).trans h.k9, h.bel.grown hg h.bel.size (fun k e => Nat.le_trans h0 (hr k e).1), Nat.le_trans h.size hg.size⟩
theorem JI.step {w W0 W W1 : World} {b8 : Nat} {pre : List Byt} {x : Byt} (h : JI w W0 b8 pre W) (hb : Below W.heap.size W W1) (hw : w.heap.size ≤ b8) {u0 u1 u2 u3 : Nat} (e : joinE (pre ++ [x]) = [u0, u1, u2, u3]) :
    JI w W0 b8 (pre ++ [x]) ((put4 W1 b8 u0 u1 u2 u3).setCell ⟨b8 + 1, 0, none⟩ (.int .i64 ((pre.length : Nat) + 1))) := by
  have h1 := h.below hb
  have ha := arr_put4 h1.a8 (joinE_both pre).1 u0 u1 u2 u3
  have hsz : (put4 W1 b8 u0 u1 u2 u3).heap.size = W1.heap.size := by simp [put4]
  have hk : Boxed (put4 W1 b8 u0 u1 u2 u3) (b8 + 1) 3 (.int .i64 (pre.length : Nat)) := by
    unfold Boxed put4
    rw [heap_setCell_other _ ⟨b8, 3, none⟩ _ _ (by simp), heap_setCell_other _ ⟨b8, 2, none⟩ _ _ (by simp), heap_setCell_other _ ⟨b8, 1, none⟩ _ _ (by simp), heap_setCell_other _ ⟨b8, 0, none⟩ _ _ (by simp)]
    exact h1.k9
  refine ⟨fun k hk a b => ?_, ?_, ?_, ?_, ?_⟩
  · rw [heap_setCell_other _ ⟨b8 + 1, 0, none⟩ k _ b]
    unfold put4
    rw [heap_setCell_other _ ⟨b8, 3, none⟩ k _ a, heap_setCell_other _ ⟨b8, 2, none⟩ k _ a, heap_setCell_other _ ⟨b8, 1, none⟩ k _ a, heap_setCell_other _ ⟨b8, 0, none⟩ k _ a]
    exact h1.keep k hk a b
  · rw [e]; exact ha.other _ (by simp) _
  · have := hk.set (.int .i64 ((pre.length : Nat) + 1))
    rw [List.length_append]
    exact this
  · exact (below_put4 h1.bel hw _ _ _ _).setCell (by simp; omega) _
  · simp [hsz]; exact h1.size
theorem keeps_step {W W1 : World} (B b8 : Nat) (hb : Below W.heap.size W W1) (u0 u1 u2 u3 : Nat) (v : Value) : KeepsFrom B W ((put4 W1 b8 u0 u1 u2 u3).setCell ⟨b8 + 1, 0, none⟩ v) :=
  ((⟨hb.size, fun k _ _ hk _ => (hb.block k (Array.getElem?_eq_some_iff.1 hk).1).trans hk⟩ : KeepsFrom B W W1).trans (((((KeepsOthers.setCell W1 ⟨b8, 0, none⟩ _).trans (KeepsOthers.setCell _ ⟨b8, 1, none⟩ _)).trans (KeepsOthers.setCell _ ⟨b8, 2, none⟩ _)).trans (KeepsOthers.setCell _ ⟨b8, 3, none⟩ _)).from B)).trans ((KeepsOthers.setCell _ ⟨b8 + 1, 0, none⟩ _).from B)
theorem keepB_step {W W1 : World} (bA b8 : Nat) (hb : Below W.heap.size W W1) (hA : bA < W.heap.size) (h1 : b8 + 1 < bA) (u0 u1 u2 u3 : Nat) (v : Value) : KeepB bA W ((put4 W1 b8 u0 u1 u2 u3).setCell ⟨b8 + 1, 0, none⟩ v) := by
  show (((put4 W1 b8 u0 u1 u2 u3).setCell ⟨b8 + 1, 0, none⟩ v)).heap[bA]? = _
  rw [heap_setCell_other _ ⟨b8 + 1, 0, none⟩ bA _ (by simp; omega)]
  unfold put4
  rw [heap_setCell_other _ ⟨b8, 3, none⟩ bA _ (by simp; omega), heap_setCell_other _ ⟨b8, 2, none⟩ bA _ (by simp; omega), heap_setCell_other _ ⟨b8, 1, none⟩ bA _ (by simp; omega), heap_setCell_other _ ⟨b8, 0, none⟩ bA _ (by simp; omega)]
  exact hb.block _ hA
theorem one_sb (w : World) (x : Nat) (hx : x < 256) : SB (w.alloc (.cells #[.int .u8 (x : Int)] 5)) (.slice (some ⟨w.heap.size, 0, none⟩) 1 1) [(x : Int)] :=
  SB.lit w 5 [(x : Int)] _ (0, 0) 1 rfl (by simp; omega) (by simp)

set_option maxHeartbeats 4000000 in
set_option maxRecDepth 100000 in
theorem joins_walk (w : World) (c : List Nat) (hc : IsC c) :
    Calls Try.prog 8 #[.agg (row64 c)] w fun e w' => e = .returned (.bool true) ∧ Below w.heap.size w w' := by
  obtain ⟨p0, p1, p2, p3, hp⟩ := isC_words c hc
  have HP := Lib.hid hp
  have hrp : row64 c = #[.int .u64 (p0 : Int), .int .u64 (p1 : Int), .int .u64 (p2 : Int), .int .u64 (p3 : Int)] := by rw [hp]; rfl
  have hru := fun W => runs_any W c hc
  have a1 : Arr64 (w.alloc (.cells (row64 c) 24)) w.heap.size 24 c := heap_alloc_new w _
  rw [hrp] at hru a1 ⊢
  have HRU := Lib.hid hru
  have HRP := Lib.hid hrp
  have hb0 := (Below.refl w.heap.size w).alloc (Nat.le_refl _) (.cells #[.int .u64 (p0 : Int), .int .u64 (p1 : Int), .int .u64 (p2 : Int), .int .u64 (p3 : Int)] 24)
  clear hru hrp hp
  refine (callsIn_wide (n := 4)).1 ?_
  refine callsIn_of_wp_marks Try.func8 rfl trivial ?_ rfl
  refine wpIn_wide.2 ?_
  simp only [Try.ntmps8, List.size_toArray, List.length_cons, List.length_nil, Nat.reduceAdd, Nat.reduceSub, Array.replicate_succ, Array.replicate_zero, List.push_toArray, List.append_toArray, List.nil_append, List.cons_append]
  go_wp2_with fail
  refine (works_any _).mono ?_
  rintro e w1 ⟨rfl, hb1⟩
  have a1 := a1.below hb1 a1.lt
  have hb1 := hb0.trans (hb1.mono hb0.size)
  obtain ⟨c0, c1, c2, c3⟩ := a1.four HP.out
  clear hb0
  go_wp2_with fail
  refine (HRU.out _).mono ?_
  rintro e w2 ⟨v, rfl, ho, hb2⟩
  have a2 := a1.below hb2 a1.lt
  have ho := OwnRn.mono ho hb1.size
  have hb2 := hb1.trans (hb2.mono hb1.size)
  have HN := Lib.hid (runs_num c)
  obtain ⟨rs, hrs⟩ : ∃ rs, runsOf (elemsL c) = rs := ⟨_, rfl⟩
  rw [hrs] at ho HN
  have HRS := Lib.hid hrs
  obtain ⟨av, cap, rfl, hsh⟩ := ho.shape
  obtain ⟨m, hm⟩ : ∃ m, rs.length = m := ⟨_, rfl⟩
  rw [hm] at ho ⊢
  have hm256 : m ≤ 256 := by
    have h1 := runsOf_len (elemsL c)
    have h2 := elemsU_len c 256
    rw [hrs, hm] at h1
    exact Nat.le_trans h1 h2
  have HM := Lib.hid hm
  have hbz := (Below.refl w2.heap.size w2).alloc (Nat.le_refl _) (.cells #[.int .u64 0, .int .u64 0, .int .u64 0, .int .u64 0] 24)
  have hlt2 := a2.lt
  have hJ : JW w (w2.alloc (.cells #[.int .u64 0, .int .u64 0, .int .u64 0, .int .u64 0] 24)) w2.heap.size (.slice av m cap) c (joinR (rs.take 0)) rs :=
    ⟨a2.below hbz hlt2, Arr64.new w2 _ noneL, ho.below hbz, hb2.trans (hbz.mono hb2.size), hlt2, fun e => by
      rcases hsh with rfl | ⟨g, rfl, _, hg⟩
      · rcases ho.2 with ⟨h1, _⟩ | ⟨g, _, _, h1, _, hb, _⟩
        · rw [h1] at e; simp [Value.ownBlock] at e
        · rw [h1] at e; simp [Value.ownBlock] at e; have := (Array.getElem?_eq_some_iff.1 hb).1; omega
      · simp [Value.ownBlock] at e; omega⟩
  have HSH : Hid (∀ i : Nat, i < m → ∃ g, av = some ⟨g, 0, none⟩) := Lib.hid (fun i hi => by
    rcases hsh with rfl | ⟨g, rfl, _, hg⟩
    · rw [List.length_nil] at hm; omega
    · exact ⟨g, rfl⟩)
  clear c0 c1 c2 c3 a1 hb1 HRU a2 hb2 ho hbz hlt2 hsh hrs hm
  go_upto_region 5 with fail
  generalize w2.heap.size = b5 at hJ ⊢
  generalize w2.alloc (.cells #[.int .u64 0, .int .u64 0, .int .u64 0, .int .u64 0] 24) = W3 at hJ ⊢
  go_wp2_with fail
  go_loopw [6, 7] (fun v6 v7 wr => ∃ i : Nat, i ≤ m ∧ v7 = .int .i64 i ∧ v6 = .int .i64 (sumR (rs.take i) : Nat) ∧ JW w wr b5 (.slice av m cap) c (joinR (rs.take i)) rs) (fun _ v7 _ => m - (intOf v7).toNat)
  case atStart => exact ⟨0, by omega, rfl, rfl, hJ⟩
  case round =>
    clear hJ
    obtain ⟨i, hi, rfl, rfl, hW⟩ := hrel
    by_cases hlt : i < m
    · obtain ⟨g, rfl⟩ := HSH.out i hlt
      have hil : i < rs.length := by rw [HM.out]; exact hlt
      obtain ⟨r, hr⟩ : ∃ r, rs[i]? = some r := ⟨_, List.getElem?_eq_getElem hil⟩
      obtain ⟨n1, n2, n3, n4, n5, n6⟩ := HN.out i r hr
      obtain ⟨x0, x1⟩ := own_run hW.ow HM.out i r hr
      obtain ⟨lo, hi'⟩ := r
      have HJ6 := Lib.hid n6
      have HRI := Lib.hid hr
      have HS5 := Lib.hid n5
      have hcmp : ¬ (hi' < lo) := by simpa using n1
      have HW := Lib.hid hW
      have hmI : (i : Int) < (m : Int) := by omega
      simp only at n1 n2 x0 x1
      obtain ⟨s, hs⟩ : ∃ s, sumR (rs.take i) = s := ⟨_, rfl⟩
      rw [hs] at n4 HS5 ⊢
      clear hr hil hW n5 n6 hs
      go_upto_region 9 with fail
      go_cut [53] from 16 to 82 (fun v53 wx => v53 = .bool false ∧ ∃ q, wx = wr.drewN q)
      case first =>
        have g1 : decide ((hi' : Int) < (lo : Int)) = false := by simp; omega
        by_cases h0 : i = 0
        · subst h0
          clear n3
          have x0 : wr.cell? ⟨g, 0, none⟩ = some (.int .u8 (lo : Int)) := by simpa using x0
          have x1 : wr.cell? ⟨g, 1, none⟩ = some (.int .u8 (hi' : Int)) := by simpa using x1
          go_quiet (fail)
          go_wp2_with fail
          go_meet
          case rel => exact ⟨rfl, _, rfl⟩
        · have hjl : i - 1 < rs.length := by rw [HM.out]; omega
          obtain ⟨q, hq⟩ : ∃ q, rs[i - 1]? = some q := ⟨_, List.getElem?_eq_getElem hjl⟩
          have hg := n3 q (by omega) hq
          obtain ⟨-, y1⟩ := own_run HW.out.ow HM.out (i - 1) q hq
          have hq2 : q.2 < 256 := by omega
          generalize q.2 = pv at hg y1 hq2
          have g2 : decide ((lo : Int) ≤ (pv : Int) + 1) = false := by simp; omega
          have g0 : decide ((0 : Int) < (i : Int)) = true := by simp; omega
          have g0' : 0 < i := by omega
          have d1 : IntKind.i64.wrap ((i : Int) - 1) = (i : Int) - 1 := IntWalk.i64_in _ (by omega)
          have d2 : (1 : Int) ≤ (i : Int) := by omega
          have d3 : (i : Int) - 1 < (m : Int) := by omega
          have d4 : ((i : Int) - 1).toNat = i - 1 := by omega
          have d5 : IntKind.i64.wrap ((pv : Int) + 1) = (pv : Int) + 1 := IntWalk.i64_in _ (by omega)
          have d6 : (0 : Int) ≤ (i : Int) - 1 := by omega
          clear n3 hq hjl hg
          go_quiet (fail)
          go_wp2_with fail
          go_meet
          case rel => exact ⟨rfl, _, rfl⟩
      case rest =>
        obtain ⟨rfl, q, rfl⟩ := hcut
        have hWd := HW.out.below (below_drewN (Below.refl _ _) q)
        generalize wr.drewN q = wq at hWd ⊢
        clear x0 x1 HW n3
        have hjc := (joinR_both (rs.take i) (isR_take c i _ HRS.out)).1
        go_upto_region 10 with fail
        go_cut [] from 16 to 82 (fun wx => JW w wx b5 (.slice (some ⟨g, 0, none⟩) m cap) c (joinR (rs.take (i + 1))) rs)
        case first =>
          have HR := Lib.hid HJ6
          obtain ⟨q0, q1, q2, q3, hq⟩ := isC_words (joinR (rs.take i)) hjc
          obtain ⟨u0, u1, u2, u3, hu⟩ := isC_words (joinR (rs.take (i + 1))) (by rw [HJ6.out]; exact isC_or _ _ hjc (isC_rangeL _ _))
          have hrq : row64 (joinR (rs.take i)) = #[.int .u64 (q0 : Int), .int .u64 (q1 : Int), .int .u64 (q2 : Int), .int .u64 (q3 : Int)] := by rw [hq]; rfl
          have hrg := fun W => range_any W lo hi' (by omega) n2
          have hor := fun W => or_any W (joinR (rs.take i)) (rangeL lo hi') hjc (isC_rangeL _ _)
          rw [← HJ6.out, hrq, show row64 (joinR (rs.take (i + 1))) = #[.int .u64 (u0 : Int), .int .u64 (u1 : Int), .int .u64 (u2 : Int), .int .u64 (u3 : Int)] by rw [hu]; rfl] at hor
          generalize row64 (rangeL lo hi') = gr at hrg hor
          have hWe := hWd.below (Below.refl _ _).drew
          obtain ⟨x0, x1⟩ := own_run hWe.ow HM.out i (lo, hi') HRI.out
          obtain ⟨z0, z1, z2, z3⟩ := hWe.a5.four hq
          have HRG := Lib.hid hrg
          have HOR := Lib.hid hor
          have HQ := Lib.hid hq
          have HU := Lib.hid hu
          have HC := Lib.hid hjc
          simp only at x0 x1
          clear hrq hrg hor hq hu hjc
          refine wp_region_noPanic ?_
          go_region_with (first | (go_at_call 29; (with_reducible refine (HRG.out _).mono ?_); rintro e w9 ⟨rfl, hb9⟩; have hWf := hWe.below hb9; obtain ⟨v0, v1, v2, v3⟩ := hWf.a5.four HQ.out) | (go_at_call 13; (with_reducible refine (HOR.out _).mono ?_); rintro e w8 ⟨rfl, hb8⟩; have hWg := hWf.below hb8; have g0 := hWg.a5.frozen 0; have g1 := hWg.a5.frozen 1; have g2 := hWg.a5.frozen 2; have g3 := hWg.a5.frozen 3; obtain ⟨k0, k1, k2, k3⟩ := hWg.a5.four HQ.out))
          all_goals
            have hn := Lib.hid (hWg.set HC.out HU.out)
            clear hWg hb8 g0 g1 g2 g3 k0 k1 k2 k3 v0 v1 v2 v3 x0 x1 z0 z1 z2 z3 hWe hWf
            refine NoPanic.normal ?_
            go_wp2_with fail
            go_meet
            case rel => exact hn.out
        case rest =>
          clear hWd
          have hW := hcut
          clear hcut
          obtain ⟨x0, x1⟩ := own_run hW.ow HM.out i (lo, hi') HRI.out
          simp only at x0 x1
          have d1 : IntKind.i64.wrap ((s : Int) + (hi' : Int)) = (s : Int) + (hi' : Int) := IntWalk.i64_in _ (by omega)
          have d2 : IntKind.i64.wrap ((s : Int) + (hi' : Int) - (lo : Int)) = (s : Int) + (hi' : Int) - (lo : Int) := IntWalk.i64_in _ (by omega)
          have d3 : IntKind.i64.wrap ((s : Int) + (hi' : Int) - (lo : Int) + 1) = (s : Int) + (hi' : Int) - (lo : Int) + 1 := IntWalk.i64_in _ (by omega)
          have HD := Lib.hid (show (s : Int) + (hi' : Int) - (lo : Int) + 1 = ((s + (hi' + 1 - lo) : Nat) : Int) by omega)
          have HW := Lib.hid hW
          clear hW
          go_wp2_with fail
          go_quiet (fail)
          rename_i nq
          have HW2 := Lib.hid (HW.out.below (below_drewN (Below.refl _ _) nq))
          clear d1 d2 d3 x0 x1 HW
          go_wp2_with fail
          go_roundw
          case rel => exact ⟨i + 1, by omega, by go_num, by rw [HS5.out, HD.out], HW2.out⟩
          case measure => simp [intOf]; omega
    · obtain rfl : i = m := by omega
      have e : rs.take i = rs := List.take_of_length_le (by rw [HM.out]; exact Nat.le_refl _)
      rw [e, ← HRS.out, joinR_all c hc] at hW
      rw [e, ← HRS.out, sumR_all]
      clear e hlt
      have HSZ := Lib.hid (cnt_le c 256)
      obtain ⟨sz, hsz⟩ : ∃ sz, cntL c 256 = sz := ⟨_, rfl⟩
      rw [hsz] at HSZ ⊢
      have HZ := Lib.hid hsz
      clear hsz
      have hb7 := below_alloc2 wr (.cells #[.int .u64 0, .int .u64 0, .int .u64 0, .int .u64 0] 24) (.cells #[.int .i64 0] 3)
      have hW6 := hW.below hb7
      have e8 : Arr64 ((wr.alloc (.cells #[.int .u64 0, .int .u64 0, .int .u64 0, .int .u64 0] 24)).alloc (.cells #[.int .i64 0] 3)) wr.heap.size 24 noneL := Arr64.alloc (l := noneL) (heap_alloc_new wr _) _
      have k9 : Boxed ((wr.alloc (.cells #[.int .u64 0, .int .u64 0, .int .u64 0, .int .u64 0] 24)).alloc (.cells #[.int .i64 0] 3)) (wr.heap.size + 1) 3 (.int .i64 0) := heap_alloc2 wr _ _
      have h85 : b5 < wr.heap.size := hW.a5.lt
      clear hW hb7
      have hA := fun W => all_any W c
      rw [HRP.out] at hA
      have HA := Lib.hid hA
      clear hA
      go_upto_region 14 with fail
      generalize (wr.alloc (.cells #[.int .u64 0, .int .u64 0, .int .u64 0, .int .u64 0] 24)).alloc (.cells #[.int .i64 0] 3) = W6 at hW6 e8 k9 ⊢
      obtain ⟨b8, hb8⟩ : ∃ b, wr.heap.size = b := ⟨_, rfl⟩
      rw [hb8] at e8 k9 h85 ⊢
      clear hb8
      obtain ⟨c0, c1, c2, c3⟩ := hW6.a1.four HP.out
      go_wp2_with fail
      refine (HA.out _).mono ?_
      rintro e w7 ⟨rfl, rfl⟩
      have hbx := (Below.refl W6.heap.size W6).alloc (Nat.le_refl _) (.cells #[.int .u64 (p0 : Int), .int .u64 (p1 : Int), .int .u64 (p2 : Int), .int .u64 (p3 : Int)] 24)
      have hW7 := hW6.below hbx
      have e8 := e8.below hbx e8.lt
      have k9' := k9.alloc (.cells #[.int .u64 (p0 : Int), .int .u64 (p1 : Int), .int .u64 (p2 : Int), .int .u64 (p3 : Int)] 24)
      have aA : Arr64 (W6.alloc (.cells #[.int .u64 (p0 : Int), .int .u64 (p1 : Int), .int .u64 (p2 : Int), .int .u64 (p3 : Int)] 24)) W6.heap.size 24 c := by
        have := heap_alloc_new W6 (.cells #[.int .u64 (p0 : Int), .int .u64 (p1 : Int), .int .u64 (p2 : Int), .int .u64 (p3 : Int)] 24)
        rw [← HRP.out] at this ⊢
        exact this
      have hA9 := k9.lt
      clear c0 c1 c2 c3 hbx HA hW6 k9
      go_upto_region 15 with fail
      generalize W6.alloc (.cells #[.int .u64 (p0 : Int), .int .u64 (p1 : Int), .int .u64 (p2 : Int), .int .u64 (p3 : Int)] 24) = W7 at hW7 e8 k9' aA ⊢
      generalize W6.heap.size = bA at aA hA9 ⊢
      have hen := fun W => eql_nilFunc W bA
      have hW7s := hW7.bel.size
      have h8w : w.heap.size < b8 := by have := hW7.lt; omega
      go_wp2_with fail
      refine (wpIn_wide (n := 4)).1 ?_
      generalize Value.agg #[Value.int .u64 (p0 : Int), .int .u64 (p1 : Int), .int .u64 (p2 : Int), .int .u64 (p3 : Int)] = ag
      apply wpIn_rangeFunc_ownG rfl (by omega) (gf := 33) (lb := #[.pointer (some ⟨bA, 0, none⟩)]) rfl trivial (enters_of Try.func33 (by kernel_rfl) rfl)
        (all_stops (4 - 1) (by omega) bA c hc W7 aA) (keepB_t _) (keepB_b aA.lt) (Below.refl _ _) (fun _ => rfl)
        (fun pre W => JI w W7 b8 pre W)
        (fun _ _ _ => False)
        (JI.from hW7s k9'.lt)
        (fun _ _ _ _ _ hs _ _ => hs)
        ⟨fun k _ _ _ => rfl, e8, k9', hW7.bel, Nat.le_refl _⟩
        _ ?assign ?body ?done ?stop
      case assign =>
        intro l x W K hK
        gi_wp2
        exact hK
      case stop =>
        intro D c2 pre W _ _ h _
        exact h.elim
      case body =>
        intro l pre x W hI hlt
        have hlen : pre.length < 256 := hlt
        have hjc := (joinE_both pre).1
        obtain ⟨q0, q1, q2, q3, hq⟩ := isC_words (joinE pre) hjc
        obtain ⟨u0, u1, u2, u3, hu⟩ := isC_words (joinE (pre ++ [x])) (joinE_both _).1
        have hrq : row64 (joinE pre) = #[.int .u64 (q0 : Int), .int .u64 (q1 : Int), .int .u64 (q2 : Int), .int .u64 (q3 : Int)] := by rw [hq]; rfl
        have hof := of_any _ _ _ ((one_sb W x.1 x.2).below (Below.refl _ _).drew)
        have hor := fun W' => or_any W' (joinE pre) (ofL [(x.1 : Int)]) hjc (isC_ofL _)
        rw [← joinE_snoc, hrq, show row64 (joinE (pre ++ [x])) = #[.int .u64 (u0 : Int), .int .u64 (u1 : Int), .int .u64 (u2 : Int), .int .u64 (u3 : Int)] by rw [hu]; rfl] at hor
        generalize row64 (ofL [(x.1 : Int)]) = go at hof hor
        have hId := hI.below (Below.refl W.heap.size W).drew
        have hIa := (hI.below ((Below.refl W.heap.size W).alloc (Nat.le_refl _) (.cells #[.int .u8 (x.1 : Int)] 5))).below (Below.refl _ _).drew
        have hBa : Below W.heap.size W (W.alloc (.cells #[.int .u8 (x.1 : Int)] 5)).drew := ((Below.refl _ W).alloc (Nat.le_refl _) _).drew
        obtain ⟨z0, z1, z2, z3⟩ := hId.a8.four hq
        obtain ⟨y0, y1, y2, y3⟩ := hIa.a8.four hq
        have HOF := Lib.hid hof
        have HOR := Lib.hid hor
        have HQ := Lib.hid hq
        have HU := Lib.hid hu
        have HA := Lib.hid aA.lt
        have hmix : Try.prog.follows .mixedOrders = true := by kernel_rfl
        clear hrq hof hor hq hu hjc
        gi_wp2_with fail
        gi_region_with_o (first | (refine ⟨trivial, ?_⟩; gi_at_call 30; (with_reducible refine (CallsIn.inRound l (callsIn_wide.2 HOF.out)).mono ?_); rintro e w9 ⟨rfl, hb9⟩; have hIb := hIa.below hb9; have hBb := hBa.trans (hb9.mono hBa.size); obtain ⟨v0, v1, v2, v3⟩ := hIb.a8.four HQ.out) | (refine ⟨trivial, ?_⟩; gi_at_call 13; (with_reducible refine (CallsIn.inRound l (callsIn_wide.2 (HOR.out _))).mono ?_); rintro e w8 ⟨rfl, hb8⟩; have hIc := hIb.below hb8; have hBc := hBb.trans (hb8.mono hBb.size); have g0 := hIc.a8.frozen 0; have g1 := hIc.a8.frozen 1; have g2 := hIc.a8.frozen 2; have g3 := hIc.a8.frozen 3; obtain ⟨k0, k1, k2, k3⟩ := hIc.a8.four HQ.out))
        all_goals
          have HST := Lib.hid (hI.step hBc (by omega) HU.out)
          have HKS := Lib.hid (keeps_step W7.heap.size b8 hBc u0 u1 u2 u3 (.int .i64 ((pre.length : Nat) + 1)))
          have HKB := Lib.hid (fun h => keepB_step bA b8 hBc h hA9 u0 u1 u2 u3 (.int .i64 ((pre.length : Nat) + 1)))
          have hkc : (put4 w8 b8 u0 u1 u2 u3).cell? ⟨b8 + 1, 0, none⟩ = some (.int .i64 (pre.length : Nat)) := by
            unfold put4
            rw [World.cell?_setCell_other _ _ _ _ (by simp), World.cell?_setCell_other _ _ _ _ (by simp), World.cell?_setCell_other _ _ _ _ (by simp), World.cell?_setCell_other _ _ _ _ (by simp)]
            exact hIc.k9.cell
          have hkf : (put4 w8 b8 u0 u1 u2 u3).frozen? ⟨b8 + 1, 0, none⟩ = false := by
            unfold put4
            rw [World.frozen?_setCell, World.frozen?_setCell, World.frozen?_setCell, World.frozen?_setCell]
            exact hIc.k9.frozen
          have HLT := Lib.hid (Nat.lt_of_lt_of_le HA.out hI.size)
          clear hI hId hIa hIb hIc hBa hBb hBc hb8 hb9 g0 g1 g2 g3 k0 k1 k2 k3 v0 v1 v2 v3 y0 y1 y2 y3 z0 z1 z2 z3 HOF HOR hmix
          generalize hp4 : ((((w8.setCell ⟨b8, 0, none⟩ (.int .u64 (u0 : Int))).setCell ⟨b8, 1, none⟩ (.int .u64 (u1 : Int))).setCell ⟨b8, 2, none⟩ (.int .u64 (u2 : Int))).setCell ⟨b8, 3, none⟩ (.int .u64 (u3 : Int))) = W9
          have hp5 : put4 w8 b8 u0 u1 u2 u3 = W9 := hp4
          rw [hp5] at hkc hkf HST HKS HKB
          clear hp4 hp5
          gi_wp2_with fail
          exact ⟨HKS.out, HKB.out HLT.out, HST.out⟩
      case done =>
        rintro D ys W hD rfl hI hK
        have b1 : Arr64 W w.heap.size 24 c := (hI.keep _ hW7.a1.lt (by omega) (by omega)).trans hW7.a1
        have b5' : Arr64 W b5 24 c := (hI.keep _ hW7.a5.lt (by omega) (by omega)).trans hW7.a5
        have b8' := hI.a8
        rw [joinE_all c hc] at b8'
        have hk := hI.k9
        rw [elems_size, HZ.out] at hk
        obtain ⟨c0, c1, c2, c3⟩ := b1.four HP.out
        obtain ⟨d0, d1, d2, d3⟩ := b5'.four HP.out
        obtain ⟨e0, e1, e2, e3⟩ := b8'.four HP.out
        have eq := fun W => run_eql_rowC W c c hc.1 hc.1
        rw [decide_eq_true rfl, HRP.out] at eq
        have hsi := fun W => size_any W c hc
        rw [HRP.out, HZ.out] at hsi
        have hgu := fun w op x y xs ys => run_guardTC w op x y xs ys
        have HSI := Lib.hid hsi
        have HK := Lib.hid hK
        have HB := Lib.hid hI.bel
        clear hsi hK b1 b5' b8' hI hen
        go_wp2_with fail
        refine (HSI.out _).mono ?_
        rintro e w9 ⟨rfl, hb9⟩
        have hk2 : Boxed w9 (b8 + 1) 3 (.int .i64 (sz : Nat)) := (hb9.block _ hk.lt).trans hk
        have hkc := hk2.cell
        have HK2 : Hid (w9.heap[D]? = some (.deferred (some []))) := Lib.hid ((hb9.block _ (Array.getElem?_eq_some_iff.1 HK.out).1).trans HK.out)
        have HB2 := Lib.hid (HB.out.trans (hb9.mono HB.out.size))
        clear c0 c1 c2 c3 d0 d1 d2 d3 e0 e1 e2 e3 eq hgu hb9 HSI
        go_wp2_with fail
        refine ⟨by simp, .inl ⟨_, _, rfl, run_takeDeferred HK2.out, ?_⟩⟩
        exact ⟨_, results_tmp rfl _ _ _, rfl, HB2.out.trans (belowK_b (w := w) (Nat.le_refl _) w9 D _ _ (by have := hW7.bel.size; omega) HK2.out rfl rfl)⟩
end Go.Proofs.Ytcdoliinemafaaa

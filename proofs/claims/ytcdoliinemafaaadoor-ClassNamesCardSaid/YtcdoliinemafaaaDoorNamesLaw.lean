/-
  galleylaw01.ClassNames: its walk.
-/
import Derived.Test.YtcdoliinemafaaaDoorNamesM
import Derived.Test.YtcdoliinemafaaaDoorWorks
import Derived.Deep.MidRow
import Derived.Deep.RegionHeld3
namespace Go.Proofs.YtcdoliinemafaaaDoor
open Go.RowKit

theorem below_range {w w' : World} {b o : Nat} {cs : List Value} (h : w.rangeAt b o cs) (hb : Below w.heap.size w w') : w'.rangeAt b o cs := fun j v hv => by
  have := h j v hv
  rw [hb.cell (p := ⟨b, o + j, none⟩) (World.block_lt_of_cell? w _ this)]; exact this
theorem below_there {w w' : World} {b o n : Nat} (h : w.there b o n) (hb : Below w.heap.size w w') : w'.there b o n := fun j hj => by
  obtain ⟨h1, h2⟩ := h j hj
  obtain ⟨u, hu⟩ := Option.isSome_iff_exists.1 h1
  have hlt := World.block_lt_of_cell? w _ hu
  exact ⟨by rw [hb.cell (p := ⟨b, o + j, none⟩) hlt]; exact h1, by rw [hb.frozen (p := ⟨b, o + j, none⟩) hlt]; exact h2⟩
theorem below_setCells {B : Nat} {w : World} {b : Nat} (hB : B ≤ b) : ∀ (vs : List Value) (o : Nat) (W : World), Below B w W → Below B w (W.setCells b o vs)
  | [], _, _, h => h
  | v :: r, o, W, h => by rw [World.setCells]; exact below_setCells hB r (o + 1) _ (h.setCell (p := ⟨b, o, none⟩) hB v)
def nmV : List Value := [.string ⟨#[97, 108, 110, 117, 109]⟩, .string ⟨#[97, 108, 112, 104, 97]⟩, .string ⟨#[98, 108, 97, 110, 107]⟩, .string ⟨#[99, 110, 116, 114, 108]⟩, .string ⟨#[100, 105, 103, 105, 116]⟩, .string ⟨#[103, 114, 97, 112, 104]⟩, .string ⟨#[108, 111, 119, 101, 114]⟩, .string ⟨#[112, 114, 105, 110, 116]⟩, .string ⟨#[112, 117, 110, 99, 116]⟩, .string ⟨#[115, 112, 97, 99, 101]⟩, .string ⟨#[117, 112, 112, 101, 114]⟩, .string ⟨#[120, 100, 105, 103, 105, 116]⟩]
def szV : List Value := [.int .i64 62, .int .i64 52, .int .i64 2, .int .i64 33, .int .i64 10, .int .i64 94, .int .i64 26, .int .i64 95, .int .i64 32, .int .i64 6, .int .i64 26, .int .i64 22]
theorem nmV_at (k : Nat) (h : k < 12) : nmV[k]? = some (.string (nmk k)) := by
  rcases lt12 h with rfl | rfl | rfl | rfl | rfl | rfl | rfl | rfl | rfl | rfl | rfl | rfl <;> rfl
theorem szV_at (k : Nat) (h : k < 12) : szV[k]? = some (.int .i64 (szk k : Nat)) := by
  rcases lt12 h with rfl | rfl | rfl | rfl | rfl | rfl | rfl | rfl | rfl | rfl | rfl | rfl <;> rfl
/-- What the rounds keep: the names, their sizes, the classes that are stored. -/
structure NmW (w W : World) (b k : Nat) : Prop where
  l : W.rangeAt b 0 nmV
  z : W.rangeAt (b + 1) 0 szV
  c : ∀ i, i < k → W.rangeAt (b + 1 + 1) (i * 4) (row64 (clK i)).toList
  t : W.there (b + 1 + 1) 0 48
  n : NamW W
  bel : Below w.heap.size w W
  le : w.heap.size ≤ b
  pos : 0 < b
theorem NmW.below {w W W' : World} {b k : Nat} (h : NmW w W b k) (hb : Below W.heap.size W W') : NmW w W' b k :=
  ⟨below_range h.l hb, below_range h.z hb, fun i hi => below_range (h.c i hi) hb, below_there h.t hb, h.n.below hb (Nat.le_refl _), h.bel.trans (hb.mono h.bel.size), h.le, h.pos⟩
theorem NmW.drew {w W : World} {b k : Nat} (h : NmW w W b k) : NmW w W.drew b k := h.below (Below.refl _ _).drew
theorem NmW.name {w W : World} {b k n : Nat} (h : NmW w W b n) (hk : k < 12) : W.cell? ⟨b, k, none⟩ = some (.string (nmk k)) := by
  have := h.l k _ (nmV_at k hk); rw [Nat.zero_add] at this; exact this
theorem NmW.size {w W : World} {b k n : Nat} (h : NmW w W b n) (hk : k < 12) : W.cell? ⟨b + 1, k, none⟩ = some (.int .i64 (szk k : Nat)) := by
  have := h.z k _ (szV_at k hk); rw [Nat.zero_add] at this; exact this
theorem there_part {w : World} {b n o m : Nat} (h : w.there b 0 n) (hm : o + m ≤ n) : w.there b o m := fun j hj => by
  have := h (o + j) (by omega); rw [Nat.zero_add] at this; exact this
theorem rowc_len (k : Nat) : (row64 (clK k)).toList.length = 4 := by rw [Array.length_toList, row64_size]; exact (isC_clK k).1
theorem NmW.store {w W : World} {b k : Nat} (h : NmW w W b k) (hk : k < 12) : NmW w (W.setCells (b + 1 + 1) (k * 4) (row64 (clK k)).toList) b (k + 1) := by
  have hl := rowc_len
  refine ⟨World.rangeAt_setCells_apart h.l _ _ _ (.inl (by omega)), World.rangeAt_setCells_apart h.z _ _ _ (.inl (by omega)), fun i hi => ?_, World.there_setCells h.t _ _ _, World.rangeAt_setCells_apart h.n _ _ _ (.inl (by omega)), below_setCells (by have := h.le; omega) _ _ _ h.bel, h.le, h.pos⟩
  by_cases e : i = k
  · subst e
    exact World.rangeAt_setCells_same _ _ _ _ (there_part h.t (by rw [hl]; omega))
  · exact World.rangeAt_setCells_apart (h.c i (by omega)) _ _ _ (.inr (.inl (by rw [hl]; omega)))
theorem there_new (W : World) (C : Array Value) (T : TypeId) (b : Nat) (h : b = W.heap.size) : (W.alloc (.cells C T)).there b 0 C.size := fun j hj => by
  subst h
  refine ⟨?_, World.frozen?_alloc_new W C T _⟩
  rw [cell_of_row _ W.heap.size (0 + j) _ _ (0, 0) (heap_alloc_new W _), Nat.zero_add]
  simp [hj]
theorem range_new (W : World) (C : Array Value) (T : TypeId) (b : Nat) (h : b = W.heap.size) : (W.alloc (.cells C T)).rangeAt b 0 C.toList := fun j v hv => by
  subst h
  rw [cell_of_row _ W.heap.size (0 + j) _ _ (0, 0) (heap_alloc_new W _), Nat.zero_add]
  rw [← hv, Array.getElem?_toList]
theorem nm_start (w W : World) (T1 T2 T3 : TypeId) (C : Array Value) (hC : C.size = 48) (hN : NamW W) (hb : Below w.heap.size w W) :
    NmW w (((W.alloc (.cells nmV.toArray T1)).alloc (.cells szV.toArray T2)).alloc (.cells C T3)) W.heap.size 0 :=
  ⟨World.rangeAt_alloc (World.rangeAt_alloc (range_new W nmV.toArray T1 _ rfl) _) _, World.rangeAt_alloc (range_new (W.alloc _) szV.toArray T2 _ (by simp)) _, fun i hi => by omega,
    by have := there_new ((W.alloc (.cells nmV.toArray T1)).alloc (.cells szV.toArray T2)) C T3 (W.heap.size + 1 + 1) (by simp); rw [hC] at this; exact this,
    World.rangeAt_alloc (World.rangeAt_alloc (World.rangeAt_alloc hN _) _) _, ((hb.alloc hb.size _).alloc (by have := hb.size; simp; omega) _).alloc (by have := hb.size; simp; omega) _, hb.size, hN.lt⟩
theorem there4 {w : World} {b o : Nat} (h : w.there b o 4) : (∃ v, w.cell? ⟨b, o, none⟩ = some v) ∧ (∃ v, w.cell? ⟨b, o + 1, none⟩ = some v) ∧ (∃ v, w.cell? ⟨b, o + 2, none⟩ = some v) ∧ (∃ v, w.cell? ⟨b, o + 3, none⟩ = some v) ∧
    w.frozen? ⟨b, o, none⟩ = false ∧ w.frozen? ⟨b, o + 1, none⟩ = false ∧ w.frozen? ⟨b, o + 2, none⟩ = false ∧ w.frozen? ⟨b, o + 3, none⟩ = false :=
  ⟨Option.isSome_iff_exists.1 (h 0 (by omega)).1, Option.isSome_iff_exists.1 (h 1 (by omega)).1, Option.isSome_iff_exists.1 (h 2 (by omega)).1, Option.isSome_iff_exists.1 (h 3 (by omega)).1,
    (h 0 (by omega)).2, (h 1 (by omega)).2, (h 2 (by omega)).2, (h 3 (by omega)).2⟩
theorem one32_sb (w : World) : SB (w.alloc (.cells #[.int .u8 32] 5)) (.slice (some ⟨w.heap.size, 0, none⟩) 1 1) [32] :=
  SB.lit w 5 [32] _ (0, 0) 1 rfl (by simp) (by simp)
theorem NmW.cells {w W : World} {b n : Nat} (h : NmW w W b n) (i o : Nat) (hi : i < n) (ho : i * 4 = o) {v0 v1 v2 v3 : Value} (hr : row64 (clK i) = #[v0, v1, v2, v3]) :
    W.cell? ⟨b + 1 + 1, o, none⟩ = some v0 ∧ W.cell? ⟨b + 1 + 1, o + 1, none⟩ = some v1 ∧ W.cell? ⟨b + 1 + 1, o + 2, none⟩ = some v2 ∧ W.cell? ⟨b + 1 + 1, o + 3, none⟩ = some v3 := by
  subst ho
  have := h.c i hi
  rw [hr] at this
  exact ⟨this 0 _ rfl, this 1 _ rfl, this 2 _ rfl, this 3 _ rfl⟩
theorem row_vals (i : Nat) : ∃ v0 v1 v2 v3 : Value, row64 (clK i) = #[v0, v1, v2, v3] := by
  obtain ⟨a, b, c, d, h⟩ := isC_words (clK i) (isC_clK i)
  exact ⟨.int .u64 a, .int .u64 b, .int .u64 c, .int .u64 d, by rw [h]; rfl⟩
/-- What region 9 keeps. -/
theorem keep9 {w w1 w2 : World} {b k z b2 q0 q1 q2 q3 : Nat} (h : NmW w w1 b k ∧ w1.cell? ⟨b + 1, k, none⟩ = some (.int .i64 (z : Nat)) ∧ w1.cell? ⟨b2, 0, none⟩ = some (.int .u64 (q0 : Int)) ∧ w1.cell? ⟨b2, 1, none⟩ = some (.int .u64 (q1 : Int)) ∧ w1.cell? ⟨b2, 2, none⟩ = some (.int .u64 (q2 : Int)) ∧ w1.cell? ⟨b2, 3, none⟩ = some (.int .u64 (q3 : Int))) (hb : Below w1.heap.size w1 w2) :
    NmW w w2 b k ∧ w2.cell? ⟨b + 1, k, none⟩ = some (.int .i64 (z : Nat)) ∧ w2.cell? ⟨b2, 0, none⟩ = some (.int .u64 (q0 : Int)) ∧ w2.cell? ⟨b2, 1, none⟩ = some (.int .u64 (q1 : Int)) ∧ w2.cell? ⟨b2, 2, none⟩ = some (.int .u64 (q2 : Int)) ∧ w2.cell? ⟨b2, 3, none⟩ = some (.int .u64 (q3 : Int)) := by
  have e : ∀ {a v}, w1.cell? a = some v → w2.cell? a = some v := fun {a v} ha => by rw [hb.cell (World.block_lt_of_cell? w1 _ ha)]; exact ha
  obtain ⟨h1, h2, x0, x1, x2, x3⟩ := h
  exact ⟨h1.below hb, e h2, e x0, e x1, e x2, e x3⟩
theorem start9 {w w1 : World} {b k z : Nat} (q0 q1 q2 q3 : Nat) (T : TypeId) (hr : NmW w w1 b k) (hz : w1.cell? ⟨b + 1, k, none⟩ = some (.int .i64 (z : Nat))) :
    (fun w' => NmW w w' b k ∧ w'.cell? ⟨b + 1, k, none⟩ = some (.int .i64 (z : Nat)) ∧ w'.cell? ⟨w1.heap.size, 0, none⟩ = some (.int .u64 (q0 : Int)) ∧ w'.cell? ⟨w1.heap.size, 1, none⟩ = some (.int .u64 (q1 : Int)) ∧ w'.cell? ⟨w1.heap.size, 2, none⟩ = some (.int .u64 (q2 : Int)) ∧ w'.cell? ⟨w1.heap.size, 3, none⟩ = some (.int .u64 (q3 : Int))) (w1.alloc (.cells #[.int .u64 (q0 : Int), .int .u64 (q1 : Int), .int .u64 (q2 : Int), .int .u64 (q3 : Int)] T)) := by
  have hba := (Below.refl w1.heap.size w1).alloc (Nat.le_refl _) (.cells #[.int .u64 (q0 : Int), .int .u64 (q1 : Int), .int .u64 (q2 : Int), .int .u64 (q3 : Int)] T)
  have hc := range_new w1 #[.int .u64 (q0 : Int), .int .u64 (q1 : Int), .int .u64 (q2 : Int), .int .u64 (q3 : Int)] T _ rfl
  exact ⟨hr.below hba, by rw [hba.cell (World.block_lt_of_cell? w1 _ hz)]; exact hz, hc 0 _ rfl, hc 1 _ rfl, hc 2 _ rfl, hc 3 _ rfl⟩

set_option maxHeartbeats 8000000 in
set_option maxRecDepth 100000 in
theorem names_walk (w : World) (x : Nat) (hx : x < 256) (hN : NamW w) :
    Calls Tryd.prog 4 #[.int .u8 (x : Int)] w fun e w' => e = .returned (.bool true) ∧ Below w.heap.size w w' := by
  go_enter Tryd.func4, Tryd.ntmps4
  go_wp2_with fail
  refine (works_any _).mono ?_
  rintro e w1 ⟨rfl, hbw⟩
  have hN1 := hN.below hbw (Nat.le_refl _)
  clear hN
  have HST := Lib.hid (fun T1 T2 T3 C hC => nm_start w w1 T1 T2 T3 C hC hN1 hbw)
  clear hN1 hbw
  go_wp2_with fail
  have hst := HST.out 32 33 34 #[.int .u64 0, .int .u64 0, .int .u64 0, .int .u64 0, .int .u64 0, .int .u64 0, .int .u64 0, .int .u64 0, .int .u64 0, .int .u64 0, .int .u64 0, .int .u64 0, .int .u64 0, .int .u64 0, .int .u64 0, .int .u64 0, .int .u64 0, .int .u64 0, .int .u64 0, .int .u64 0, .int .u64 0, .int .u64 0, .int .u64 0, .int .u64 0, .int .u64 0, .int .u64 0, .int .u64 0, .int .u64 0, .int .u64 0, .int .u64 0, .int .u64 0, .int .u64 0, .int .u64 0, .int .u64 0, .int .u64 0, .int .u64 0, .int .u64 0, .int .u64 0, .int .u64 0, .int .u64 0, .int .u64 0, .int .u64 0, .int .u64 0, .int .u64 0, .int .u64 0, .int .u64 0, .int .u64 0, .int .u64 0] rfl
  clear HST
  generalize w1.heap.size = b at hst ⊢
  go_loopw [7] (fun i W => ∃ k : Nat, k ≤ 12 ∧ i = .int .i64 k ∧ NmW w W b k) (fun i _ => 12 - (intOf i).toNat)
  case atStart => exact ⟨0, by omega, rfl, hst⟩
  case round =>
    clear hst
    obtain ⟨k, hk, rfl, hr⟩ := hrel
    by_cases hlt : k < 12
    · have c1 := hr.name hlt
      have c2 := hr.size hlt
      have hn := named_any wr (nmk k) (nmk_size k) hr.n
      unfold NamedPost at hn
      have hq := isC_words (clK k) (isC_clK k)
      obtain ⟨q0, q1, q2, q3, hq⟩ := hq
      have hrq : row64 (clK k) = #[.int .u64 (q0 : Int), .int .u64 (q1 : Int), .int .u64 (q2 : Int), .int .u64 (q3 : Int)] := by rw [hq]; rfl
      have hsz := fun W => size_any W (clK k) (isC_clK k)
      have hhas := fun W => has_any W (clK k) (isC_clK k) x hx
      have hst := fun {W : World} (h : NmW w W b k) => h.store hlt
      have hhi := clK_high k x hlt hx
      rw [clK_cnt k hlt] at hsz
      rw [show namedL (nmk k) = clK k from rfl, clK_some k hlt, hrq] at hn
      rw [hrq] at hsz hhas hst
      have hgz : szk k < 9223372036854775808 := by unfold szk; split <;> omega
      generalize szk k = z at c2 hsz hgz
      generalize hasL (clK k) x = hv at hhas hhi
      generalize nmk k = nk at c1 hn
      have HN := Lib.hid hn
      have HSZ := Lib.hid hsz
      have HHAS := Lib.hid hhas
      have HST := Lib.hid (fun (W : World) h => hst (W := W) h)
      have HR := Lib.hid hr
      have HHI := Lib.hid hhi
      clear hn hsz hhas hst hrq hq hr hhi
      go_wp2_with fail
      refine HN.out.mono ?_
      rintro e w2 ⟨rfl, hb2⟩
      have hr := HR.out.below hb2
      have c2 : w2.cell? ⟨b + 1, k, none⟩ = some (.int .i64 (z : Nat)) := by rw [hb2.cell (World.block_lt_of_cell? _ _ c2)]; exact c2
      clear HN HR hb2 c1
      go_upto_region 9 with fail
      have hS := start9 q0 q1 q2 q3 26 hr c2
      generalize w2.alloc (.cells #[.int .u64 (q0 : Int), .int .u64 (q1 : Int), .int .u64 (q2 : Int), .int .u64 (q3 : Int)] 26) = w3 at hS ⊢
      generalize w2.heap.size = b2 at hS ⊢
      clear hr c2
      obtain ⟨hd, hv1⟩ | hd : (decide ((127 : Int) < (x : Int)) = true ∧ hv = false) ∨ decide ((127 : Int) < (x : Int)) = false := by
        by_cases h : 127 < x
        · exact .inl ⟨decide_eq_true (by omega), HHI.out h⟩
        · exact .inr (decide_eq_false (by omega))
      · subst hv1
        clear HHI
        have hS := keep9 hS (Below.refl _ _).drew
        obtain ⟨hr, c2, k0, k1, k2, k3⟩ := hS
        go_wp2_with fail
        go_region_held3 (fun w' => NmW w w' b k ∧ w'.cell? ⟨b + 1, k, none⟩ = some (.int .i64 (z : Nat)) ∧ w'.cell? ⟨b2, 0, none⟩ = some (.int .u64 (q0 : Int)) ∧ w'.cell? ⟨b2, 1, none⟩ = some (.int .u64 (q1 : Int)) ∧ w'.cell? ⟨b2, 2, none⟩ = some (.int .u64 (q2 : Int)) ∧ w'.cell? ⟨b2, 3, none⟩ = some (.int .u64 (q3 : Int)))
          (first | exact ⟨hr, c2, k0, k1, k2, k3⟩ | assumption | exact keep9 (by assumption) (by assumption))
          (first | (go_at_call 12; (with_reducible refine (HSZ.out _).mono ?_); rintro e w' ⟨rfl, hb'⟩) | (go_at_call 13; (with_reducible refine (HHAS.out _).mono ?_); rintro e w' ⟨rfl, hb'⟩))
        rename_i hS
        clear hr c2 k0 k1 k2 k3 hd
        obtain ⟨hr, -, k0, k1, k2, k3⟩ := hS
        obtain ⟨⟨u0, m0⟩, ⟨u1, m1⟩, ⟨u2', m2⟩, ⟨u3, m3⟩, f0, f1, f2, f3⟩ := there4 (there_part (o := k * 4) (m := 4) hr.t (by omega))
        have hfin := HST.out _ hr
        clear hr HST HSZ HHAS
        go_wp2_with fail
        go_roundw
        case rel => exact ⟨k + 1, by omega, by go_num, hfin⟩
        case measure => simp [intOf]; omega
      · clear HHI
        have hS := keep9 hS (Below.refl _ _).drew
        refine wp_region_held_drew (S := fun w' => NmW w w' b k ∧ w'.cell? ⟨b + 1, k, none⟩ = some (.int .i64 (z : Nat)) ∧ w'.cell? ⟨b2, 0, none⟩ = some (.int .u64 (q0 : Int)) ∧ w'.cell? ⟨b2, 1, none⟩ = some (.int .u64 (q1 : Int)) ∧ w'.cell? ⟨b2, 2, none⟩ = some (.int .u64 (q2 : Int)) ∧ w'.cell? ⟨b2, 3, none⟩ = some (.int .u64 (q3 : Int))) (by kernel_rfl) hS (fun hHeld => ?_)
        clear hS
        refine wpAnyH_take (i := 0) (v := .bool true) rfl (by kernel_rfl) (by kernel_rfl) (by kernel_rfl) (fun _ _ _ h => h) (Or.inl ⟨by rfl, by intro w hSw; (try dsimp only at hSw); go_simp⟩) (by assumption) ?_
        simp only [Act.put, List.getElem_toArray, List.getElem_cons_zero, List.setIfInBounds_toArray, List.set_cons_zero, List.set_cons_succ]
        refine wpAnyH_take (i := 1) (v := .bool false) rfl (by kernel_rfl) (by kernel_rfl) (by kernel_rfl) (fun _ _ _ h => h) (Or.inl ⟨by rfl, by intro w hSw; (try dsimp only at hSw); go_simp⟩) (by assumption) ?_
        simp only [Act.put, List.getElem_toArray, List.getElem_cons_zero, List.getElem_cons_succ, List.setIfInBounds_toArray, List.set_cons_zero, List.set_cons_succ]
        refine wpAnyH_take (i := 2) (v := .bool false) rfl (by kernel_rfl) (by kernel_rfl) (by kernel_rfl) (fun _ _ _ h => h) (Or.inl ⟨by rfl, by intro w hSw; (try dsimp only at hSw); go_simp⟩) (by assumption) ?_
        simp only [Act.put, List.getElem_toArray, List.getElem_cons_zero, List.getElem_cons_succ, List.setIfInBounds_toArray, List.set_cons_zero, List.set_cons_succ]
        refine wpAnyH_take (i := 3) (v := .agg #[.int .u64 (q0 : Int), .int .u64 (q1 : Int), .int .u64 (q2 : Int), .int .u64 (q3 : Int)]) rfl (by kernel_rfl) (by kernel_rfl) (by kernel_rfl) (fun _ _ _ h => h) (Or.inl ⟨by rfl, by intro w hSw; (try dsimp only at hSw); go_simp⟩) (by assumption) ?_
        simp only [Act.put, List.getElem_toArray, List.getElem_cons_zero, List.getElem_cons_succ, List.setIfInBounds_toArray, List.set_cons_zero, List.set_cons_succ]
        refine wpAnyH_take (i := 5) (v := .int .i64 (k : Int)) rfl (by kernel_rfl) (by kernel_rfl) (by kernel_rfl) (fun _ _ _ h => h) (Or.inl ⟨by rfl, by intro w hSw; (try dsimp only at hSw); go_simp⟩) (by assumption) ?_
        simp only [Act.put, List.getElem_toArray, List.getElem_cons_zero, List.getElem_cons_succ, List.setIfInBounds_toArray, List.set_cons_zero, List.set_cons_succ]
        refine wpAnyH_take (i := 6) (v := .pointer (some ⟨b + 1, k, none⟩)) rfl (by kernel_rfl) (by kernel_rfl) (by kernel_rfl) (fun _ _ _ h => h) (Or.inl ⟨by rfl, by intro w hSw; (try dsimp only at hSw); go_simp⟩) (by assumption) ?_
        simp only [Act.put, List.getElem_toArray, List.getElem_cons_zero, List.getElem_cons_succ, List.setIfInBounds_toArray, List.set_cons_zero, List.set_cons_succ]
        refine wpAnyH_take (i := 7) (v := .int .i64 (z : Int)) rfl (by kernel_rfl) (by kernel_rfl) (by kernel_rfl) (fun _ _ _ h => h) (Or.inl ⟨by rfl, by intro w hSw; (try dsimp only at hSw); go_simp⟩) (by assumption) ?_
        simp only [Act.put, List.getElem_toArray, List.getElem_cons_zero, List.getElem_cons_succ, List.setIfInBounds_toArray, List.set_cons_zero, List.set_cons_succ]
        refine wpAnyH_ready (rs := [4]) (by kernel_rfl) (by simp) ?_
        refine AllReadyH.cons rfl (fun K hK => ?_) AllReadyH.nil
        go_simp
        refine (HSZ.out _).mono ?_
        rintro e w9 ⟨rfl, hb9⟩
        refine hK.out _ _ (keep9 hHeld hb9) (fun hHeld9 => ?_)
        clear hK K hHeld hb9
        refine wpAnyH_take (i := 8) (v := .bool false) rfl (by kernel_rfl) (by kernel_rfl) (by kernel_rfl) (fun _ _ _ h => h) (Or.inl ⟨by rfl, by intro w hSw; (try dsimp only at hSw); go_simp⟩) (by assumption) ?_
        simp only [Act.put, List.getElem_toArray, List.getElem_cons_zero, List.getElem_cons_succ, List.setIfInBounds_toArray, List.set_cons_zero, List.set_cons_succ]
        refine wpAnyH_take (i := 9) (v := .bool false) rfl (by kernel_rfl) (by kernel_rfl) (by kernel_rfl) (fun _ _ _ h => h) (Or.inl ⟨by rfl, by intro w hSw; (try dsimp only at hSw); go_simp⟩) (by assumption) ?_
        simp only [Act.put, List.getElem_toArray, List.getElem_cons_zero, List.getElem_cons_succ, List.setIfInBounds_toArray, List.set_cons_zero, List.set_cons_succ]
        refine wpAnyH_take (i := 10) (v := .bool false) rfl (by kernel_rfl) (by kernel_rfl) (by kernel_rfl) (fun _ _ _ h => h) (Or.inl ⟨by rfl, by intro w hSw; (try dsimp only at hSw); go_simp⟩) (by assumption) ?_
        simp only [Act.put, List.getElem_toArray, List.getElem_cons_zero, List.getElem_cons_succ, List.setIfInBounds_toArray, List.set_cons_zero, List.set_cons_succ]
        refine wpAnyH_take (i := 11) (v := .int .u8 (x : Int)) rfl (by kernel_rfl) (by kernel_rfl) (by kernel_rfl) (fun _ _ _ h => h) (Or.inl ⟨by rfl, by intro w hSw; (try dsimp only at hSw); go_simp⟩) (by assumption) ?_
        simp only [Act.put, List.getElem_toArray, List.getElem_cons_zero, List.getElem_cons_succ, List.setIfInBounds_toArray, List.set_cons_zero, List.set_cons_succ]
        refine wpAnyH_take (i := 12) (v := .bool false) rfl (by kernel_rfl) (by kernel_rfl) (by kernel_rfl) (fun _ _ _ h => h) (Or.inl ⟨by rfl, by intro w hSw; (try dsimp only at hSw); go_simp⟩) (by assumption) ?_
        simp only [Act.put, List.getElem_toArray, List.getElem_cons_zero, List.getElem_cons_succ, List.setIfInBounds_toArray, List.set_cons_zero, List.set_cons_succ]
        refine wpAnyH_take (i := 13) (v := .bool false) rfl (by kernel_rfl) (by kernel_rfl) (by kernel_rfl) (fun _ _ _ h => h) (Or.inl ⟨by rfl, by intro w hSw; (try dsimp only at hSw); go_simp⟩) (by assumption) ?_
        simp only [Act.put, List.getElem_toArray, List.getElem_cons_zero, List.getElem_cons_succ, List.setIfInBounds_toArray, List.set_cons_zero, List.set_cons_succ]
        refine wpAnyH_take (i := 14) (v := undef) rfl (by kernel_rfl) (by kernel_rfl) (by kernel_rfl) (fun _ _ _ h => h) (Or.inr ⟨by rfl, rfl⟩) (by assumption) ?_
        simp only [Act.put, List.getElem_toArray, List.getElem_cons_zero, List.getElem_cons_succ, List.setIfInBounds_toArray, List.set_cons_zero, List.set_cons_succ]
        refine wpAnyH_take (i := 15) (v := undef) rfl (by kernel_rfl) (by kernel_rfl) (by kernel_rfl) (fun _ _ _ h => h) (Or.inr ⟨by rfl, rfl⟩) (by assumption) ?_
        simp only [Act.put, List.getElem_toArray, List.getElem_cons_zero, List.getElem_cons_succ, List.setIfInBounds_toArray, List.set_cons_zero, List.set_cons_succ]
        refine wpAnyH_take (i := 16) (v := undef) rfl (by kernel_rfl) (by kernel_rfl) (by kernel_rfl) (fun _ _ _ h => h) (Or.inr ⟨by rfl, rfl⟩) (by assumption) ?_
        simp only [Act.put, List.getElem_toArray, List.getElem_cons_zero, List.getElem_cons_succ, List.setIfInBounds_toArray, List.set_cons_zero, List.set_cons_succ]
        refine wpAnyH_take (i := 17) (v := .bool false) rfl (by kernel_rfl) (by kernel_rfl) (by kernel_rfl) (fun _ _ _ h => h) (Or.inl ⟨by rfl, by intro w hSw; (try dsimp only at hSw); go_simp⟩) (by assumption) ?_
        simp only [Act.put, List.getElem_toArray, List.getElem_cons_zero, List.getElem_cons_succ, List.setIfInBounds_toArray, List.set_cons_zero, List.set_cons_succ]
        refine wpAnyH_take (i := 18) (v := .bool false) rfl (by kernel_rfl) (by kernel_rfl) (by kernel_rfl) (fun _ _ _ h => h) (Or.inl ⟨by rfl, by intro w hSw; (try dsimp only at hSw); go_simp⟩) (by assumption) ?_
        simp only [Act.put, List.getElem_toArray, List.getElem_cons_zero, List.getElem_cons_succ, List.setIfInBounds_toArray, List.set_cons_zero, List.set_cons_succ]
        refine wpAnyH_done (by kernel_rfl) ?_ _
        obtain ⟨hr9, -, y0, y1, y2, y3⟩ := hHeld9
        obtain ⟨⟨u0, m0⟩, ⟨u1, m1⟩, ⟨u2', m2⟩, ⟨u3, m3⟩, f0, f1, f2, f3⟩ := there4 (there_part (o := k * 4) (m := 4) hr9.t (by omega))
        have hfin := HST.out _ hr9
        clear hr9 HST HSZ HHAS hd
        go_wp2_with fail
        go_roundw
        case rel => exact ⟨k + 1, by omega, by go_num, hfin⟩
        case measure => simp [intOf]; omega
    · obtain rfl : k = 12 := by omega
      clear hk hlt
      have o0 := fun W => or_any W (clK 1) (clK 4) (isC_clK _) (isC_clK _)
      have o1 := fun W => or_any W (clK 6) (clK 10) (isC_clK _) (isC_clK _)
      have o2 := fun W => or_any W (clK 0) (clK 8) (isC_clK _) (isC_clK _)
      have o3 := fun W => or_any W (clK 5) (ofL [32]) (isC_clK _) (isC_ofL _)
      have a0 := fun W => and_any W (clK 0) (clK 8) (isC_clK _) (isC_clK _)
      have a1 := fun W => and_any W (clK 3) (clK 7) (isC_clK _) (isC_clK _)
      have a2 := fun W => and_any W (clK 2) (clK 9) (isC_clK _) (isC_clK _)
      have a3 := fun W => and_any W (clK 11) (clK 4) (isC_clK _) (isC_clK _)
      have f0 := fun W => of_any _ _ _ (one32_sb W)
      have h0 := fun W => has_any W (clK 6) (isC_clK _) 97 (by omega)
      have h1 := fun W => has_any W (clK 10) (isC_clK _) 90 (by omega)
      have h2 := fun W => has_any W (clK 11) (isC_clK _) 102 (by omega)
      have h3 := fun W => has_any W (clK 11) (isC_clK _) 103 (by omega)
      have h4 := fun W => has_any W (clK 9) (isC_clK _) 10 (by omega)
      have h5 := fun W => has_any W (clK 2) (isC_clK _) 9 (by omega)
      rw [clK_or1] at o0
      rw [clK_or2] at o1
      rw [clK_or3] at o2
      rw [clK_or4] at o3
      rw [clK_and1] at a0
      rw [clK_and2] at a1
      rw [clK_and3] at a2
      rw [clK_and4] at a3
      rw [clK_has.1] at h0
      rw [clK_has.2.1] at h1
      rw [clK_has.2.2.1] at h2
      rw [clK_has.2.2.2.1] at h3
      rw [clK_has.2.2.2.2.1] at h4
      rw [clK_has.2.2.2.2.2] at h5
      have z0 := fun W => run_eql_rowC W noneL noneL rfl rfl
      have q0 := fun W => run_eql_rowC W (clK 0) (clK 0) (isC_clK _).1 (isC_clK _).1
      have q1 := fun W => run_eql_rowC W (clK 1) (clK 1) (isC_clK _).1 (isC_clK _).1
      have q2 := fun W => run_eql_rowC W (clK 2) (clK 2) (isC_clK _).1 (isC_clK _).1
      have q4 := fun W => run_eql_rowC W (clK 4) (clK 4) (isC_clK _).1 (isC_clK _).1
      have q5 := fun W => run_eql_rowC W (clK 5) (clK 5) (isC_clK _).1 (isC_clK _).1
      have q7 := fun W => run_eql_rowC W (clK 7) (clK 7) (isC_clK _).1 (isC_clK _).1
      rw [decide_eq_true rfl] at z0 q0 q1 q2 q4 q5 q7
      have hrz : row64 noneL = #[.int .u64 0, .int .u64 0, .int .u64 0, .int .u64 0] := rfl
      rw [hrz] at z0 a0 a1
      obtain ⟨v0_0, v0_1, v0_2, v0_3, hr0⟩ := row_vals 0
      have L0 := Lib.hid (fun W (h : NmW w W b 12) => h.cells 0 0 (by omega) rfl hr0)
      rw [hr0] at o0 o2 a0 q0
      obtain ⟨v1_0, v1_1, v1_2, v1_3, hr1⟩ := row_vals 1
      have L1 := Lib.hid (fun W (h : NmW w W b 12) => h.cells 1 4 (by omega) rfl hr1)
      rw [hr1] at o0 o1 q1
      obtain ⟨v2_0, v2_1, v2_2, v2_3, hr2⟩ := row_vals 2
      have L2 := Lib.hid (fun W (h : NmW w W b 12) => h.cells 2 8 (by omega) rfl hr2)
      rw [hr2] at a2 h5 q2
      obtain ⟨v3_0, v3_1, v3_2, v3_3, hr3⟩ := row_vals 3
      have L3 := Lib.hid (fun W (h : NmW w W b 12) => h.cells 3 12 (by omega) rfl hr3)
      rw [hr3] at a1
      obtain ⟨v4_0, v4_1, v4_2, v4_3, hr4⟩ := row_vals 4
      have L4 := Lib.hid (fun W (h : NmW w W b 12) => h.cells 4 16 (by omega) rfl hr4)
      rw [hr4] at o0 a3 q4
      obtain ⟨v5_0, v5_1, v5_2, v5_3, hr5⟩ := row_vals 5
      have L5 := Lib.hid (fun W (h : NmW w W b 12) => h.cells 5 20 (by omega) rfl hr5)
      rw [hr5] at o2 o3 q5
      obtain ⟨v6_0, v6_1, v6_2, v6_3, hr6⟩ := row_vals 6
      have L6 := Lib.hid (fun W (h : NmW w W b 12) => h.cells 6 24 (by omega) rfl hr6)
      rw [hr6] at o1 h0
      obtain ⟨v7_0, v7_1, v7_2, v7_3, hr7⟩ := row_vals 7
      have L7 := Lib.hid (fun W (h : NmW w W b 12) => h.cells 7 28 (by omega) rfl hr7)
      rw [hr7] at o3 a1 q7
      obtain ⟨v8_0, v8_1, v8_2, v8_3, hr8⟩ := row_vals 8
      have L8 := Lib.hid (fun W (h : NmW w W b 12) => h.cells 8 32 (by omega) rfl hr8)
      rw [hr8] at o2 a0
      obtain ⟨v9_0, v9_1, v9_2, v9_3, hr9⟩ := row_vals 9
      have L9 := Lib.hid (fun W (h : NmW w W b 12) => h.cells 9 36 (by omega) rfl hr9)
      rw [hr9] at a2 h4
      obtain ⟨v10_0, v10_1, v10_2, v10_3, hr10⟩ := row_vals 10
      have L10 := Lib.hid (fun W (h : NmW w W b 12) => h.cells 10 40 (by omega) rfl hr10)
      rw [hr10] at o1 h1
      obtain ⟨v11_0, v11_1, v11_2, v11_3, hr11⟩ := row_vals 11
      have L11 := Lib.hid (fun W (h : NmW w W b 12) => h.cells 11 44 (by omega) rfl hr11)
      rw [hr11] at a3 h2 h3
      generalize row64 (ofL [32]) = rs at f0 o3
      have hgu := fun w op x y xs ys => run_guardTC w op x y xs ys
      have O0 := Lib.hid o0
      have O1 := Lib.hid o1
      have O2 := Lib.hid o2
      have O3 := Lib.hid o3
      have A0 := Lib.hid a0
      have A1 := Lib.hid a1
      have A2 := Lib.hid a2
      have A3 := Lib.hid a3
      have F0 := Lib.hid f0
      have H0 := Lib.hid h0
      have H1 := Lib.hid h1
      have H2 := Lib.hid h2
      have H3 := Lib.hid h3
      have H4 := Lib.hid h4
      have H5 := Lib.hid h5
      have Z0 := Lib.hid z0
      have Q0 := Lib.hid q0
      have Q1 := Lib.hid q1
      have Q2 := Lib.hid q2
      have Q4 := Lib.hid q4
      have Q5 := Lib.hid q5
      have Q7 := Lib.hid q7
      have HGU := Lib.hid hgu
      clear o0 o1 o2 o3 a0 a1 a2 a3 f0 h0 h1 h2 h3 h4 h5 z0 q0 q1 q2 q4 q5 q7 hgu hrz hr0 hr1 hr2 hr3 hr4 hr5 hr6 hr7 hr8 hr9 hr10 hr11
      go_wp2_with fail
      have l0_0 := fun W h => (L0.out W h).1
      have l0_1 := fun W h => (L0.out W h).2.1
      have l0_2 := fun W h => (L0.out W h).2.2.1
      have l0_3 := fun W h => (L0.out W h).2.2.2
      have l1_0 := fun W h => (L1.out W h).1
      have l1_1 := fun W h => (L1.out W h).2.1
      have l1_2 := fun W h => (L1.out W h).2.2.1
      have l1_3 := fun W h => (L1.out W h).2.2.2
      have l4_0 := fun W h => (L4.out W h).1
      have l4_1 := fun W h => (L4.out W h).2.1
      have l4_2 := fun W h => (L4.out W h).2.2.1
      have l4_3 := fun W h => (L4.out W h).2.2.2
      have l5_0 := fun W h => (L5.out W h).1
      have l5_1 := fun W h => (L5.out W h).2.1
      have l5_2 := fun W h => (L5.out W h).2.2.1
      have l5_3 := fun W h => (L5.out W h).2.2.2
      have l6_0 := fun W h => (L6.out W h).1
      have l6_1 := fun W h => (L6.out W h).2.1
      have l6_2 := fun W h => (L6.out W h).2.2.1
      have l6_3 := fun W h => (L6.out W h).2.2.2
      have l7_0 := fun W h => (L7.out W h).1
      have l7_1 := fun W h => (L7.out W h).2.1
      have l7_2 := fun W h => (L7.out W h).2.2.1
      have l7_3 := fun W h => (L7.out W h).2.2.2
      have l8_0 := fun W h => (L8.out W h).1
      have l8_1 := fun W h => (L8.out W h).2.1
      have l8_2 := fun W h => (L8.out W h).2.2.1
      have l8_3 := fun W h => (L8.out W h).2.2.2
      have l10_0 := fun W h => (L10.out W h).1
      have l10_1 := fun W h => (L10.out W h).2.1
      have l10_2 := fun W h => (L10.out W h).2.2.1
      have l10_3 := fun W h => (L10.out W h).2.2.2
      have q0 := Q0.out
      have q1 := Q1.out
      have q5 := Q5.out
      have q7 := Q7.out
      have hgu := HGU.out
      go_region_held3 (fun w' => NmW w w' b 12)
        (first | exact hr.drew | assumption | exact NmW.below (by assumption) (by assumption) | exact NmW.below (by assumption) ((Below.refl _ _).alloc (Nat.le_refl _) _))
        (first | (go_at_call 14; (with_reducible refine (O0.out _).mono ?_); rintro e w' ⟨rfl, hb'⟩) | (go_at_call 14; (with_reducible refine (O1.out _).mono ?_); rintro e w' ⟨rfl, hb'⟩) | (go_at_call 14; (with_reducible refine (O2.out _).mono ?_); rintro e w' ⟨rfl, hb'⟩) | (go_at_call 14; (with_reducible refine (O3.out _).mono ?_); rintro e w' ⟨rfl, hb'⟩) | (go_at_call 6; (with_reducible refine (F0.out _).mono ?_); rintro e w' ⟨rfl, hb'⟩))
      rename_i hS
      clear hr hgu l0_0 l0_1 l0_2 l0_3 l1_0 l1_1 l1_2 l1_3 l4_0 l4_1 l4_2 l4_3 l5_0 l5_1 l5_2 l5_3 l6_0 l6_1 l6_2 l6_3 l7_0 l7_1 l7_2 l7_3 l8_0 l8_1 l8_2 l8_3 l10_0 l10_1 l10_2 l10_3 q0 q1 q5 q7
      have hr := hS
      clear hS
      go_wp2_with fail
      have l0_0 := fun W h => (L0.out W h).1
      have l0_1 := fun W h => (L0.out W h).2.1
      have l0_2 := fun W h => (L0.out W h).2.2.1
      have l0_3 := fun W h => (L0.out W h).2.2.2
      have l8_0 := fun W h => (L8.out W h).1
      have l8_1 := fun W h => (L8.out W h).2.1
      have l8_2 := fun W h => (L8.out W h).2.2.1
      have l8_3 := fun W h => (L8.out W h).2.2.2
      have l3_0 := fun W h => (L3.out W h).1
      have l3_1 := fun W h => (L3.out W h).2.1
      have l3_2 := fun W h => (L3.out W h).2.2.1
      have l3_3 := fun W h => (L3.out W h).2.2.2
      have l7_0 := fun W h => (L7.out W h).1
      have l7_1 := fun W h => (L7.out W h).2.1
      have l7_2 := fun W h => (L7.out W h).2.2.1
      have l7_3 := fun W h => (L7.out W h).2.2.2
      have l2_0 := fun W h => (L2.out W h).1
      have l2_1 := fun W h => (L2.out W h).2.1
      have l2_2 := fun W h => (L2.out W h).2.2.1
      have l2_3 := fun W h => (L2.out W h).2.2.2
      have l9_0 := fun W h => (L9.out W h).1
      have l9_1 := fun W h => (L9.out W h).2.1
      have l9_2 := fun W h => (L9.out W h).2.2.1
      have l9_3 := fun W h => (L9.out W h).2.2.2
      have l11_0 := fun W h => (L11.out W h).1
      have l11_1 := fun W h => (L11.out W h).2.1
      have l11_2 := fun W h => (L11.out W h).2.2.1
      have l11_3 := fun W h => (L11.out W h).2.2.2
      have l4_0 := fun W h => (L4.out W h).1
      have l4_1 := fun W h => (L4.out W h).2.1
      have l4_2 := fun W h => (L4.out W h).2.2.1
      have l4_3 := fun W h => (L4.out W h).2.2.2
      have z0 := Z0.out
      have q2 := Q2.out
      have q4 := Q4.out
      have hgu := HGU.out
      go_region_held3 (fun w' => NmW w w' b 12)
        (first | exact hr.drew | assumption | exact NmW.below (by assumption) (by assumption) | exact NmW.below (by assumption) ((Below.refl _ _).alloc (Nat.le_refl _) _))
        (first | (go_at_call 15; (with_reducible refine (A0.out _).mono ?_); rintro e w' ⟨rfl, hb'⟩) | (go_at_call 15; (with_reducible refine (A1.out _).mono ?_); rintro e w' ⟨rfl, hb'⟩) | (go_at_call 15; (with_reducible refine (A2.out _).mono ?_); rintro e w' ⟨rfl, hb'⟩) | (go_at_call 15; (with_reducible refine (A3.out _).mono ?_); rintro e w' ⟨rfl, hb'⟩))
      rename_i hS
      clear hr hgu l0_0 l0_1 l0_2 l0_3 l8_0 l8_1 l8_2 l8_3 l3_0 l3_1 l3_2 l3_3 l7_0 l7_1 l7_2 l7_3 l2_0 l2_1 l2_2 l2_3 l9_0 l9_1 l9_2 l9_3 l11_0 l11_1 l11_2 l11_3 l4_0 l4_1 l4_2 l4_3 z0 q2 q4
      have hr := hS
      clear hS
      obtain ⟨c0, c1, c2, c3⟩ := L6.out _ hr
      go_wp2_with fail
      refine (H0.out _).mono ?_
      rintro e w10 ⟨rfl, hb'⟩
      clear c0 c1 c2 c3
      replace hr := hr.below hb'
      clear hb'
      obtain ⟨c0, c1, c2, c3⟩ := L10.out _ hr
      go_wp2_with fail
      refine (H1.out _).mono ?_
      rintro e w11 ⟨rfl, hb'⟩
      clear c0 c1 c2 c3
      replace hr := hr.below hb'
      clear hb'
      obtain ⟨c0, c1, c2, c3⟩ := L11.out _ hr
      go_wp2_with fail
      refine (H2.out _).mono ?_
      rintro e w12 ⟨rfl, hb'⟩
      clear c0 c1 c2 c3
      replace hr := hr.below hb'
      clear hb'
      obtain ⟨c0, c1, c2, c3⟩ := L11.out _ hr
      go_wp2_with fail
      refine (H3.out _).mono ?_
      rintro e w13 ⟨rfl, hb'⟩
      clear c0 c1 c2 c3
      replace hr := hr.below hb'
      clear hb'
      obtain ⟨c0, c1, c2, c3⟩ := L9.out _ hr
      go_wp2_with fail
      refine (H4.out _).mono ?_
      rintro e w14 ⟨rfl, hb'⟩
      clear c0 c1 c2 c3
      replace hr := hr.below hb'
      clear hb'
      obtain ⟨c0, c1, c2, c3⟩ := L2.out _ hr
      go_wp2_with fail
      refine (H5.out _).mono ?_
      rintro e w15 ⟨rfl, hb'⟩
      clear c0 c1 c2 c3
      replace hr := hr.below hb'
      clear hb'
      have hfin := hr.bel
      clear hr
      go_wp2_with fail
      go_ret
      exact ⟨rfl, hfin⟩
theorem names_any (w : World) (b : Int) (hb0 : 0 ≤ b) (hb1 : b ≤ 255) (hN : NamW w) :
    Calls Tryd.prog 4 #[.int .u8 b] w fun e w' => e = .returned (.bool true) ∧ Below w.heap.size w w' := by
  obtain ⟨x, rfl⟩ : ∃ x : Nat, b = x := ⟨b.toNat, by omega⟩
  exact names_walk w x (by omega) hN
end Go.Proofs.YtcdoliinemafaaaDoor

/-
  class.Atoms' comparison: the least bytes.
-/
import Derived.Test.YtakimaceohfpcaaLeast
import Derived.Test.YtakimaceohfpcaaShelf
import Derived.Deep.RegionHeld3
namespace Go.Proofs.Ytakimaceohfpcaa
open Go.Shelf Go.RowKit Go.Lib Go.Sort

theorem below_grow {W w' : World} (hb : Below W.heap.size W w') (hd : W.drawn ≤ w'.drawn) : ∃ q os, w' = grow (W.drewN q) os := by
  refine ⟨w'.drawn - W.drawn, w'.heap.extract W.heap.size w'.heap.size, ?_⟩
  have hh : w'.heap = W.heap ++ w'.heap.extract W.heap.size w'.heap.size := by
    apply Array.ext'
    have h1 := hb.size
    apply List.ext_getElem?
    intro i
    simp only [Array.toList_append, Array.toList_extract, List.extract_eq_take_drop]
    by_cases hi : i < W.heap.size
    · rw [List.getElem?_append_left (by simpa using hi)]
      have := hb.block i hi
      simpa using this
    · rw [List.getElem?_append_right (by simpa using hi)]
      simp only [Array.length_toList]
      rw [List.getElem?_take]
      by_cases h2 : i < w'.heap.size
      · rw [if_pos (by omega), List.getElem?_drop, show W.heap.size + (i - W.heap.size) = i by omega]
      · rw [if_neg (by omega), List.getElem?_eq_none (by simpa using h2)]
  cases w' with
  | mk heap tape drawn os output =>
    simp only at hh hd
    have e1 := hb.os
    have e2 := hb.tape
    have e3 := hb.output
    simp only at e1 e2 e3
    subst e1 e2 e3
    unfold grow World.drewN
    simp only [World.mk.injEq, true_and, and_true]
    exact ⟨hh, by omega⟩

theorem cmpInt_any (x y : Int) (W : World) : Calls Try.prog 45 #[.int .i64 x, .int .i64 y] W fun e w' => e = .returned (.int .i64 (Lib.compareInt x y)) ∧ w' = W := AnyG.cmp_Compare_int Try.cmpInt x y W
/-- Two classes in boxes, behind whatever lay behind them. -/
def CmpS (w : World) (p0 p1 p2 p3 q0 q1 q2 q3 : Nat) (w' : World) : Prop :=
  (w'.cell? ⟨w.heap.size, 0, none⟩ = some (.int .u64 (p0 : Int)) ∧ w'.cell? ⟨w.heap.size, 1, none⟩ = some (.int .u64 (p1 : Int)) ∧ w'.cell? ⟨w.heap.size, 2, none⟩ = some (.int .u64 (p2 : Int)) ∧ w'.cell? ⟨w.heap.size, 3, none⟩ = some (.int .u64 (p3 : Int))) ∧
  (w'.cell? ⟨w.heap.size + 1, 0, none⟩ = some (.int .u64 (q0 : Int)) ∧ w'.cell? ⟨w.heap.size + 1, 1, none⟩ = some (.int .u64 (q1 : Int)) ∧ w'.cell? ⟨w.heap.size + 1, 2, none⟩ = some (.int .u64 (q2 : Int)) ∧ w'.cell? ⟨w.heap.size + 1, 3, none⟩ = some (.int .u64 (q3 : Int))) ∧
  Below w.heap.size w w' ∧ w.drawn ≤ w'.drawn
theorem CmpS.keep {w w1 w2 : World} {p0 p1 p2 p3 q0 q1 q2 q3 : Nat} (h : CmpS w p0 p1 p2 p3 q0 q1 q2 q3 w1) (hb : Below w1.heap.size w1 w2 ∧ w1.drawn ≤ w2.drawn) : CmpS w p0 p1 p2 p3 q0 q1 q2 q3 w2 := by
  obtain ⟨⟨a0, a1, a2, a3⟩, ⟨b0, b1, b2, b3⟩, hB, hD⟩ := h
  have k : ∀ {a v}, w1.cell? a = some v → w2.cell? a = some v := fun {a v} ha => by rw [hb.1.cell (World.block_lt_of_cell? w1 _ ha)]; exact ha
  exact ⟨⟨k a0, k a1, k a2, k a3⟩, ⟨k b0, k b1, k b2, k b3⟩, hB.trans (hb.1.mono hB.size), Nat.le_trans hD hb.2⟩
theorem CmpS.drew {w w1 : World} {p0 p1 p2 p3 q0 q1 q2 q3 : Nat} (h : CmpS w p0 p1 p2 p3 q0 q1 q2 q3 w1) : CmpS w p0 p1 p2 p3 q0 q1 q2 q3 w1.drew := h.keep ⟨below_drewN (Below.refl _ _) 1, Nat.le_succ _⟩
theorem cmpS_start (w : World) (p0 p1 p2 p3 q0 q1 q2 q3 : Nat) (o1 o2 : Obj) (h1 : o1 = .cells (row64 [p0, p1, p2, p3]) 24) (h2 : o2 = .cells (row64 [q0, q1, q2, q3]) 24) : CmpS w p0 p1 p2 p3 q0 q1 q2 q3 ((w.alloc o1).alloc o2) := by
  subst h1 h2
  have a0 : Arr64 ((w.alloc (.cells (row64 [p0, p1, p2, p3]) 24)).alloc (.cells (row64 [q0, q1, q2, q3]) 24)) w.heap.size 24 [p0, p1, p2, p3] := (Arr64.new _ _ _).alloc _
  have a1 : Arr64 ((w.alloc (.cells (row64 [p0, p1, p2, p3]) 24)).alloc (.cells (row64 [q0, q1, q2, q3]) 24)) (w.heap.size + 1) 24 [q0, q1, q2, q3] := heap_alloc2 _ _ _
  exact ⟨a0.four rfl, a1.four rfl, below_alloc2 _ _ _, Nat.le_refl _⟩

set_option maxHeartbeats 1000000 in
set_option maxRecDepth 100000 in
theorem cmpC (x y : List Nat) (hx : IsC x) (hy : IsC y) (w : World) : Calls Try.prog 44 #[.agg (row64 x), .agg (row64 y)] w fun e w' =>
    e = .returned (.int .i64 (Lib.compareInt (leastL x : Nat) (leastL y : Nat))) ∧ Below w.heap.size w w' ∧ w.drawn ≤ w'.drawn := by
  obtain ⟨p0, p1, p2, p3, rfl⟩ := isC_words x hx
  obtain ⟨q0, q1, q2, q3, rfl⟩ := isC_words y hy
  have hrx : row64 [p0, p1, p2, p3] = #[.int .u64 (p0 : Int), .int .u64 (p1 : Int), .int .u64 (p2 : Int), .int .u64 (p3 : Int)] := rfl
  have hry : row64 [q0, q1, q2, q3] = #[.int .u64 (q0 : Int), .int .u64 (q1 : Int), .int .u64 (q2 : Int), .int .u64 (q3 : Int)] := rfl
  have hl : ∀ (a b c d : Nat) (_ : IsC [a, b, c, d]) (W : World), Calls Try.prog 46 #[.agg #[.int .u64 (a : Int), .int .u64 (b : Int), .int .u64 (c : Int), .int .u64 (d : Int)]] W fun e w' => e = .returned (.int .i64 (leastL [a, b, c, d] : Nat)) ∧ Below W.heap.size W w' ∧ W.drawn ≤ w'.drawn := fun a b c d h W => least_any W _ h
  rw [hrx, hry]
  have hs := cmpS_start w p0 p1 p2 p3 q0 q1 q2 q3 _ _ rfl rfl
  rw [hrx, hry] at hs
  have HS := Lib.hid hs
  have HL := Lib.hid hl
  clear hrx hry hl hs
  go_enter Try.func44, Try.ntmps44
  go_wp2_with fail
  generalize ((w.alloc _).alloc _) = W0 at HS ⊢
  go_region_held3 (fun w' => (w'.cell? ⟨w.heap.size, 0, none⟩ = some (.int .u64 (p0 : Int)) ∧ w'.cell? ⟨w.heap.size, 1, none⟩ = some (.int .u64 (p1 : Int)) ∧ w'.cell? ⟨w.heap.size, 2, none⟩ = some (.int .u64 (p2 : Int)) ∧ w'.cell? ⟨w.heap.size, 3, none⟩ = some (.int .u64 (p3 : Int))) ∧
      (w'.cell? ⟨w.heap.size + 1, 0, none⟩ = some (.int .u64 (q0 : Int)) ∧ w'.cell? ⟨w.heap.size + 1, 1, none⟩ = some (.int .u64 (q1 : Int)) ∧ w'.cell? ⟨w.heap.size + 1, 2, none⟩ = some (.int .u64 (q2 : Int)) ∧ w'.cell? ⟨w.heap.size + 1, 3, none⟩ = some (.int .u64 (q3 : Int))) ∧ Below w.heap.size w w' ∧ w.drawn ≤ w'.drawn)
    (first | exact HS.out.drew | assumption | exact CmpS.keep (by assumption) (by assumption))
    (first | (go_at_call 46; refine (HL.out _ _ _ _ (by assumption) _).mono ?_; rintro e w' ⟨rfl, hb'⟩) | (go_at_call 45; refine (cmpInt_any _ _ _).mono ?_; rintro e w' ⟨rfl, rfl⟩))
  obtain ⟨-, -, hB, hD⟩ := (by assumption : (w'.cell? ⟨w.heap.size, 0, none⟩ = some (.int .u64 (p0 : Int)) ∧ _) ∧ _ ∧ Below w.heap.size w w' ∧ w.drawn ≤ w'.drawn)
  clear hb'
  obtain ⟨r, hr⟩ : ∃ r, compareInt ((leastL [p0, p1, p2, p3] : Nat) : Int) ((leastL [q0, q1, q2, q3] : Nat) : Int) = r := ⟨_, rfl⟩
  rw [hr]
  have HR := Lib.hid hr
  clear hr
  go_wp2_with fail
  go_ret
  exact ⟨by rw [HR.out]; rfl, hB, hD⟩

/-! ### The sort -/
/-- A class that is one. -/
abbrev Cl := { l : List Nat // IsC l }
instance : Inhabited Cl := ⟨⟨noneL, isC_none⟩⟩
def encC (x : Cl) : List Value := x.1.map fun n : Nat => Value.int .u64 (n : Int)
def cfC (x y : Cl) : Int := Lib.compareInt (leastL x.1 : Nat) (leastL y.1 : Nat)
theorem ltC (x y : Cl) : ltOf cfC x y = decide (leastL x.1 < leastL y.1) := by
  unfold ltOf cfC Lib.compareInt
  by_cases h1 : leastL x.1 < leastL y.1
  · have : ((leastL x.1 : Nat) : Int) < (leastL y.1 : Nat) := by omega
    simp [h1]
  · by_cases h2 : leastL y.1 < leastL x.1
    · simp [h1, h2]
    · simp [h1, h2]
theorem swoC : SWO (ltOf cfC) where
  irrefl x := by rw [ltC]; simp
  trans x y z h1 h2 := by rw [ltC] at *; simp at *; omega
  ntrans x y z h1 h2 := by rw [ltC] at *; simp at *; omega
theorem cmpLaysC (blk off size : Nat) (w : World) : CmpLays Try.prog 44 #[] encC 4 cfC blk off size w :=
  fun _ _ _ _ x y => (cmpC x.1 y.1 x.2 y.2 _).mono fun _ _ ⟨he, hb, hd⟩ => ⟨he, below_grow hb hd⟩
theorem aggC (w : World) : (isAgg 24).run Try.prog w = .ok true w := by kernel_rfl
theorem sizeC (w : World) : (Go.sizeOf 24).run Try.prog w = .ok 4 w := by kernel_rfl
theorem sortC (blk off cap : Nat) (d : Array Cl) (w : World) (hH : HoldsK encC 4 w blk off d) (hblk : blk < w.heap.size) (hsz : d.size < 4611686018427387904) :
    Calls Try.prog 43 #[.slice (some ⟨blk, off, none⟩) d.size cap, .func (.func 44) #[] #[]] w fun e w' =>
      e = .returned (.tuple #[]) ∧ ∃ d' n os, PermIn 0 d.size d d' ∧ SortedIn (ltOf cfC) 0 d.size d' ∧ w' = sortWorldK encC 4 w blk off n d' os :=
  AnyQ.slices_SortFunc Try.sortCls 4 aggC sizeC encC (fun x => by unfold encC; rw [List.length_map]; exact x.2.1) (fun x v hv => by unfold encC at hv; obtain ⟨_, _, rfl⟩ := List.mem_map.1 hv; rfl) cfC swoC 44 #[] blk off cap d w (enters_of Try.func44 (by kernel_rfl) rfl) (cmpLaysC blk off d.size w) hH hblk hsz
end Go.Proofs.Ytakimaceohfpcaa

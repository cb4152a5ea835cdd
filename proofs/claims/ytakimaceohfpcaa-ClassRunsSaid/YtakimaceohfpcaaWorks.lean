/-
  galleylaw01.works.
-/
import Derived.Test.YtakimaceohfpcaaAtoms
import Derived.Test.YtakimaceohfpcaaRuns
import Derived.Test.YtakimaceohfpcaaSize
import Derived.Deep.DeepCutAuto
import Derived.Deep.RegionHeld3
namespace Go.Proofs.Ytakimaceohfpcaa
open Go.RowKit

theorem two_val : ofL [97, 99] = [0, 42949672960, 0, 0] := by decide +kernel
theorem two_isC : IsC [0, 42949672960, 0, 0] := by rw [← two_val]; exact isC_ofL _
def twoC : Cl := ⟨[0, 42949672960, 0, 0], two_isC⟩
theorem two_runs : runsOf (elemsL [0, 42949672960, 0, 0]) = [(97, 97), (99, 99)] := by decide +kernel
theorem two_size : cntL [0, 42949672960, 0, 0] 256 = 2 := by decide +kernel
theorem two_97 : hasL [0, 42949672960, 0, 0] 97 = true := by decide +kernel
theorem two_98 : hasL [0, 42949672960, 0, 0] 98 = false := by decide +kernel
theorem two_least : leastL [0, 42949672960, 0, 0] = 97 := by decide +kernel
theorem two_in : andL (rangeL 0 255) [0, 42949672960, 0, 0] = [0, 42949672960, 0, 0] := by decide +kernel
theorem two_ne : ¬ (andL (rangeL 0 255) [0, 42949672960, 0, 0] = rangeL 0 255 ∨ andL (rangeL 0 255) [0, 42949672960, 0, 0] = noneL) := by decide +kernel
theorem two_rest : leastL (andL (rangeL 0 255) (notL [0, 42949672960, 0, 0])) = 0 := by decide +kernel
def restC : Cl := andC allC (notC twoC)
theorem allC_val : allC.1 = rangeL 0 255 := by simp only [allC]
theorem twoC_val : twoC.1 = [0, 42949672960, 0, 0] := by simp only [twoC]
theorem restC_val : restC.1 = andL (rangeL 0 255) (notL [0, 42949672960, 0, 0]) := by simp only [restC, andC, notC, allC_val, twoC_val]
theorem two_fold : foldL [twoC] = [twoC, restC] := by
  have h : ¬ (andL allC.1 twoC.1 = allC.1 ∨ andL allC.1 twoC.1 = noneL) := by rw [allC_val, twoC_val]; exact two_ne
  have e : andC allC twoC = twoC := Subtype.ext (by simp only [andC, allC_val, twoC_val]; exact two_in)
  unfold foldL splitL
  rw [List.foldl_cons, List.foldl_nil, List.flatMap_cons, partL_two h, e, List.flatMap_nil]
  unfold restC
  rfl
theorem perm_two {p q : Cl} {ts : List Cl} (h : ts.Perm [p, q]) : ts = [p, q] ∨ ts = [q, p] := by
  have hl := h.length_eq
  match ts, hl with
  | [x, y], _ =>
    have hx : x ∈ [p, q] := h.subset (by simp)
    simp only [List.mem_cons, List.not_mem_nil, or_false] at hx
    rcases hx with rfl | rfl
    · have := (List.perm_cons x).1 h
      have := List.perm_singleton.1 this
      simp only [List.cons.injEq, and_true] at this
      exact .inl (by rw [this])
    · have h2 : [x, y].Perm [x, p] := h.trans (List.Perm.swap _ _ _)
      have := (List.perm_cons x).1 h2
      have := List.perm_singleton.1 this
      simp only [List.cons.injEq, and_true] at this
      exact .inr (by rw [this])
theorem two_atoms {ts : List Cl} (h : ts.Perm (foldL [twoC])) (hr : RiseC ts) : ts = [restC, twoC] := by
  rw [two_fold] at h
  rcases perm_two h with rfl | e
  · have h1 := (List.pairwise_cons.1 hr).1 restC (by simp)
    have h2 : leastL twoC.1 = 97 := by rw [twoC_val]; exact two_least
    have h3 : leastL restC.1 = 0 := by rw [restC_val]; exact two_rest
    rw [h2, h3] at h1
    omega
  · exact e

theorem two_row : row64 [0, 42949672960, 0, 0] = #[.int .u64 0, .int .u64 42949672960, .int .u64 0, .int .u64 0] := rfl
theorem two_sb (w : World) : SB (w.alloc (.cells #[.int .u8 97, .int .u8 99] 5)) (.slice (some ⟨w.heap.size, 0, none⟩) 2 2) [97, 99] :=
  (Arr.new w 5 [97, 99]).sb (fun i => by match i with | 0 => simp | 1 => simp | i + 2 => simp) (by simp) 2
theorem two_cc (w : World) : CC (w.alloc (.cells #[.int .u64 0, .int .u64 42949672960, .int .u64 0, .int .u64 0] 24)) (.slice (some ⟨w.heap.size, 0, none⟩) 1 1) [twoC] := by
  have e : (#[.int .u64 0, .int .u64 42949672960, .int .u64 0, .int .u64 0] : Array Value) = (cellsC [twoC]).toArray := by unfold cellsC; rw [List.flatMap_cons, cells_of twoC twoC_val]; rfl
  have ho : OwnCs (w.alloc (.cells (cellsC [twoC]).toArray 24)) w.heap.size (.slice (some ⟨w.heap.size, 0, none⟩) 1 1) [twoC] := World.ownsRow_lit w _ 1 (Nat.le_refl _) (by decide) (by rw [← e]; rfl)
  rw [e]
  exact ho.cc

theorem keepW {w w1 w2 : World} {b1 gr ga : Nat} (h : (w1.cell? ⟨b1, 0, none⟩ = some (.int .u64 0) ∧ w1.cell? ⟨b1, 1, none⟩ = some (.int .u64 42949672960) ∧ w1.cell? ⟨b1, 2, none⟩ = some (.int .u64 0) ∧ w1.cell? ⟨b1, 3, none⟩ = some (.int .u64 0)) ∧
      (w1.cell? ⟨gr, 2, none⟩ = some (.int .u8 99) ∧ w1.cell? ⟨gr, 3, none⟩ = some (.int .u8 99)) ∧
      (w1.cell? ⟨ga, 4, none⟩ = some (.int .u64 0) ∧ w1.cell? ⟨ga, 5, none⟩ = some (.int .u64 42949672960) ∧ w1.cell? ⟨ga, 6, none⟩ = some (.int .u64 0) ∧ w1.cell? ⟨ga, 7, none⟩ = some (.int .u64 0)) ∧ Below w.heap.size w w1) (hb : Below w1.heap.size w1 w2) :
    (w2.cell? ⟨b1, 0, none⟩ = some (.int .u64 0) ∧ w2.cell? ⟨b1, 1, none⟩ = some (.int .u64 42949672960) ∧ w2.cell? ⟨b1, 2, none⟩ = some (.int .u64 0) ∧ w2.cell? ⟨b1, 3, none⟩ = some (.int .u64 0)) ∧
      (w2.cell? ⟨gr, 2, none⟩ = some (.int .u8 99) ∧ w2.cell? ⟨gr, 3, none⟩ = some (.int .u8 99)) ∧
      (w2.cell? ⟨ga, 4, none⟩ = some (.int .u64 0) ∧ w2.cell? ⟨ga, 5, none⟩ = some (.int .u64 42949672960) ∧ w2.cell? ⟨ga, 6, none⟩ = some (.int .u64 0) ∧ w2.cell? ⟨ga, 7, none⟩ = some (.int .u64 0)) ∧ Below w.heap.size w w2 := by
  have k : ∀ {a v}, w1.cell? a = some v → w2.cell? a = some v := fun {a v} ha => by rw [hb.cell (World.block_lt_of_cell? w1 _ ha)]; exact ha
  obtain ⟨⟨x0, x1, x2, x3⟩, ⟨r2, r3⟩, ⟨y0, y1, y2, y3⟩, hB⟩ := h
  exact ⟨⟨k x0, k x1, k x2, k x3⟩, ⟨k r2, k r3⟩, ⟨k y0, k y1, k y2, k y3⟩, hB.trans (hb.mono hB.size)⟩

set_option maxHeartbeats 4000000 in
set_option maxRecDepth 100000 in
theorem works_any (w : World) : Calls Try.prog 5 #[] w fun e w' => e = .returned (.bool true) ∧ Below w.heap.size w w' := by
  have hof := of_any _ _ _ (two_sb w)
  have hru := fun W => runs_any W _ two_isC
  have hh1 := fun W => has_any W _ two_isC 97 (by omega)
  have hh2 := fun W => has_any W _ two_isC 98 (by omega)
  have hsi := fun W => size_any W _ two_isC
  rw [two_val, two_row] at hof
  rw [two_row] at hru hh1 hh2 hsi
  rw [two_runs] at hru
  rw [two_97] at hh1
  rw [two_98] at hh2
  rw [two_size] at hsi
  have hh1 : ∀ W, Calls Try.prog 21 #[.agg #[.int .u64 0, .int .u64 42949672960, .int .u64 0, .int .u64 0], .int .u8 97] W fun e w' => e = .returned (.bool true) ∧ Below W.heap.size W w' := hh1
  have hh2 : ∀ W, Calls Try.prog 21 #[.agg #[.int .u64 0, .int .u64 42949672960, .int .u64 0, .int .u64 0], .int .u8 98] W fun e w' => e = .returned (.bool false) ∧ Below W.heap.size W w' := hh2
  have hsi : ∀ W, Calls Try.prog 22 #[.agg #[.int .u64 0, .int .u64 42949672960, .int .u64 0, .int .u64 0]] W fun e w' => e = .returned (.int .i64 2) ∧ Below W.heap.size W w' := hsi
  have heq := fun W => run_eql_rowC W [0, 42949672960, 0, 0] [0, 42949672960, 0, 0] rfl rfl
  rw [two_row, decide_eq_true rfl] at heq
  have hgu := fun w op x y xs ys => run_guardTC w op x y xs ys
  have HO := Lib.hid hof
  have HRU := Lib.hid hru
  have HH1 := Lib.hid hh1
  have HH2 := Lib.hid hh2
  have HSI := Lib.hid hsi
  have HEQ := Lib.hid heq
  have HGU := Lib.hid hgu
  clear hof hru hh1 hh2 hsi heq hgu
  go_enter Try.func5, Try.ntmps5
  go_wp2_with fail
  refine HO.out.mono ?_
  rintro e wO ⟨rfl, hbO⟩
  have hb1 := (((Below.refl w.heap.size w).alloc (Nat.le_refl _) (.cells #[.int .u8 97, .int .u8 99] 5)).trans (hbO.mono (by rw [World.size_alloc]; omega)))
  have a1 : Arr64 (wO.alloc (.cells #[.int .u64 0, .int .u64 42949672960, .int .u64 0, .int .u64 0] 24)) wO.heap.size 24 [0, 42949672960, 0, 0] := by rw [← two_row]; exact Arr64.new _ _ _
  have hb2 := hb1.alloc hb1.size (.cells #[.int .u64 0, .int .u64 42949672960, .int .u64 0, .int .u64 0] 24)
  clear HO hbO
  go_upto_region 2 with fail
  generalize wO.heap.size = b1 at a1 ⊢
  generalize wO.alloc (.cells #[.int .u64 0, .int .u64 42949672960, .int .u64 0, .int .u64 0] 24) = W1 at a1 hb2 ⊢
  clear hb1
  have k0 : W1.cell? ⟨b1, 0, none⟩ = some (.int .u64 0) := a1.cell 0 (by simp)
  have k1 : W1.cell? ⟨b1, 1, none⟩ = some (.int .u64 42949672960) := a1.cell 1 (by simp)
  have k2 : W1.cell? ⟨b1, 2, none⟩ = some (.int .u64 0) := a1.cell 2 (by simp)
  have k3 : W1.cell? ⟨b1, 3, none⟩ = some (.int .u64 0) := a1.cell 3 (by simp)
  go_wp2_with fail
  refine (HRU.out _).mono ?_
  rintro e W2 ⟨vr, rfl, hor, hbR⟩
  have a2 := a1.below hbR a1.lt
  have hb3 := hb2.trans (hbR.mono hb2.size)
  obtain ⟨gr, cr, rfl⟩ := ownsRow_succ (k := 1) hor
  have r2 : W2.cell? ⟨gr, 2, none⟩ = some (.int .u8 99) := World.ownsRow.cellAt hor 2 (by simp)
  have r3 : W2.cell? ⟨gr, 3, none⟩ = some (.int .u8 99) := World.ownsRow.cellAt hor 3 (by simp)
  clear k0 k1 k2 k3 hor hbR a1 hb2
  have k0 : W2.cell? ⟨b1, 0, none⟩ = some (.int .u64 0) := a2.cell 0 (by simp)
  have k1 : W2.cell? ⟨b1, 1, none⟩ = some (.int .u64 42949672960) := a2.cell 1 (by simp)
  have k2 : W2.cell? ⟨b1, 2, none⟩ = some (.int .u64 0) := a2.cell 2 (by simp)
  have k3 : W2.cell? ⟨b1, 3, none⟩ = some (.int .u64 0) := a2.cell 3 (by simp)
  go_wp2_with fail
  refine (atoms_any _ _ _ (two_cc W2) (by simp)).mono ?_
  rintro e W3 ⟨va, ts, rfl, hp, hrise, hoa, hbA⟩
  obtain rfl := two_atoms hp hrise
  obtain ⟨ga, ca, rfl⟩ := ownsRow_succ (k := 1) hoa
  have hbW : Below W2.heap.size W2 W3 := ((Below.refl W2.heap.size W2).alloc (Nat.le_refl _) _).trans (hbA.mono (by rw [World.size_alloc]; omega))
  have hx := cells_of twoC twoC_val
  have y : ∀ c, c < 4 → W3.cell? ⟨ga, 4 + c, none⟩ = (encC twoC)[c]? := fun c hc => by
    rw [World.ownsRow.cellAt hoa (4 + c) (by simp; omega), show 4 + c = 1 * 4 + c by omega, cellsC_get _ 1 c hc]; rfl
  have y0 : W3.cell? ⟨ga, 4, none⟩ = some (.int .u64 0) := by have := y 0 (by omega); rw [hx] at this; exact this
  have y1 : W3.cell? ⟨ga, 5, none⟩ = some (.int .u64 42949672960) := by have := y 1 (by omega); rw [hx] at this; exact this
  have y2 : W3.cell? ⟨ga, 6, none⟩ = some (.int .u64 0) := by have := y 2 (by omega); rw [hx] at this; exact this
  have y3 : W3.cell? ⟨ga, 7, none⟩ = some (.int .u64 0) := by have := y 3 (by omega); rw [hx] at this; exact this
  have hb4 := hb3.trans (hbW.mono hb3.size)
  have r2 := (hbW.cell (World.block_lt_of_cell? W2 _ r2)).trans r2
  have r3 := (hbW.cell (World.block_lt_of_cell? W2 _ r3)).trans r3
  have k0 := (hbW.cell (World.block_lt_of_cell? W2 _ k0)).trans k0
  have k1 := (hbW.cell (World.block_lt_of_cell? W2 _ k1)).trans k1
  have k2 := (hbW.cell (World.block_lt_of_cell? W2 _ k2)).trans k2
  have k3 := (hbW.cell (World.block_lt_of_cell? W2 _ k3)).trans k3
  have heq := HEQ.out
  have hgu := HGU.out
  clear hp hrise hoa hbA hbW hx y hb3 a2
  go_wp2_with fail
  go_region_held3 (fun w' => (w'.cell? ⟨b1, 0, none⟩ = some (.int .u64 0) ∧ w'.cell? ⟨b1, 1, none⟩ = some (.int .u64 42949672960) ∧ w'.cell? ⟨b1, 2, none⟩ = some (.int .u64 0) ∧ w'.cell? ⟨b1, 3, none⟩ = some (.int .u64 0)) ∧
      (w'.cell? ⟨gr, 2, none⟩ = some (.int .u8 99) ∧ w'.cell? ⟨gr, 3, none⟩ = some (.int .u8 99)) ∧
      (w'.cell? ⟨ga, 4, none⟩ = some (.int .u64 0) ∧ w'.cell? ⟨ga, 5, none⟩ = some (.int .u64 42949672960) ∧ w'.cell? ⟨ga, 6, none⟩ = some (.int .u64 0) ∧ w'.cell? ⟨ga, 7, none⟩ = some (.int .u64 0)) ∧ Below w.heap.size w w')
    (first | exact ⟨⟨k0, k1, k2, k3⟩, ⟨r2, r3⟩, ⟨y0, y1, y2, y3⟩, hb4.drew⟩ | assumption | exact keepW (by assumption) (by assumption))
    (first | (go_at_call 21; (with_reducible refine (HH1.out _).mono ?_); rintro e w' ⟨rfl, hb'⟩) | (go_at_call 21; (with_reducible refine (HH2.out _).mono ?_); rintro e w' ⟨rfl, hb'⟩) | (go_at_call 22; refine (HSI.out _).mono ?_; rintro e w' ⟨rfl, hb'⟩))
  rename_i hH
  have hfin := hH.2.2.2
  clear hH heq hgu hb4
  go_wp2_with fail
  go_ret
  exact ⟨rfl, hfin⟩
end Go.Proofs.Ytakimaceohfpcaa

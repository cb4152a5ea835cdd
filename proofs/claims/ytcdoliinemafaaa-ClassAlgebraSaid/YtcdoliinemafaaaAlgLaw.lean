/-
  galleylaw01.ClassAlgebra: its walk.
-/
import Derived.Test.YtcdoliinemafaaaAlgM
namespace Go.Proofs.Ytcdoliinemafaaa
open Go.RowKit

theorem keep5C {w w1 w2 : World} {b3 b4 b5 b8 b9 : Nat} {p0 p1 p2 p3 q0 q1 q2 q3 r0 r1 r2 r3 x0 x1 x2 x3 : Nat} (h : (w1.cell? ⟨b3, 0, none⟩ = some (.int .u64 (p0 : Int)) ∧ w1.cell? ⟨b3, 1, none⟩ = some (.int .u64 (p1 : Int)) ∧ w1.cell? ⟨b3, 2, none⟩ = some (.int .u64 (p2 : Int)) ∧ w1.cell? ⟨b3, 3, none⟩ = some (.int .u64 (p3 : Int))) ∧ (w1.cell? ⟨b4, 0, none⟩ = some (.int .u64 (q0 : Int)) ∧ w1.cell? ⟨b4, 1, none⟩ = some (.int .u64 (q1 : Int)) ∧ w1.cell? ⟨b4, 2, none⟩ = some (.int .u64 (q2 : Int)) ∧ w1.cell? ⟨b4, 3, none⟩ = some (.int .u64 (q3 : Int))) ∧ (w1.cell? ⟨b5, 0, none⟩ = some (.int .u64 (r0 : Int)) ∧ w1.cell? ⟨b5, 1, none⟩ = some (.int .u64 (r1 : Int)) ∧ w1.cell? ⟨b5, 2, none⟩ = some (.int .u64 (r2 : Int)) ∧ w1.cell? ⟨b5, 3, none⟩ = some (.int .u64 (r3 : Int))) ∧ (w1.cell? ⟨b8, 0, none⟩ = some (.int .u64 0) ∧ w1.cell? ⟨b8, 1, none⟩ = some (.int .u64 0) ∧ w1.cell? ⟨b8, 2, none⟩ = some (.int .u64 0) ∧ w1.cell? ⟨b8, 3, none⟩ = some (.int .u64 0)) ∧ (w1.cell? ⟨b9, 0, none⟩ = some (.int .u64 (x0 : Int)) ∧ w1.cell? ⟨b9, 1, none⟩ = some (.int .u64 (x1 : Int)) ∧ w1.cell? ⟨b9, 2, none⟩ = some (.int .u64 (x2 : Int)) ∧ w1.cell? ⟨b9, 3, none⟩ = some (.int .u64 (x3 : Int))) ∧ Below w.heap.size w w1) (hb : Below w1.heap.size w1 w2) :
    (w2.cell? ⟨b3, 0, none⟩ = some (.int .u64 (p0 : Int)) ∧ w2.cell? ⟨b3, 1, none⟩ = some (.int .u64 (p1 : Int)) ∧ w2.cell? ⟨b3, 2, none⟩ = some (.int .u64 (p2 : Int)) ∧ w2.cell? ⟨b3, 3, none⟩ = some (.int .u64 (p3 : Int))) ∧ (w2.cell? ⟨b4, 0, none⟩ = some (.int .u64 (q0 : Int)) ∧ w2.cell? ⟨b4, 1, none⟩ = some (.int .u64 (q1 : Int)) ∧ w2.cell? ⟨b4, 2, none⟩ = some (.int .u64 (q2 : Int)) ∧ w2.cell? ⟨b4, 3, none⟩ = some (.int .u64 (q3 : Int))) ∧ (w2.cell? ⟨b5, 0, none⟩ = some (.int .u64 (r0 : Int)) ∧ w2.cell? ⟨b5, 1, none⟩ = some (.int .u64 (r1 : Int)) ∧ w2.cell? ⟨b5, 2, none⟩ = some (.int .u64 (r2 : Int)) ∧ w2.cell? ⟨b5, 3, none⟩ = some (.int .u64 (r3 : Int))) ∧ (w2.cell? ⟨b8, 0, none⟩ = some (.int .u64 0) ∧ w2.cell? ⟨b8, 1, none⟩ = some (.int .u64 0) ∧ w2.cell? ⟨b8, 2, none⟩ = some (.int .u64 0) ∧ w2.cell? ⟨b8, 3, none⟩ = some (.int .u64 0)) ∧ (w2.cell? ⟨b9, 0, none⟩ = some (.int .u64 (x0 : Int)) ∧ w2.cell? ⟨b9, 1, none⟩ = some (.int .u64 (x1 : Int)) ∧ w2.cell? ⟨b9, 2, none⟩ = some (.int .u64 (x2 : Int)) ∧ w2.cell? ⟨b9, 3, none⟩ = some (.int .u64 (x3 : Int))) ∧ Below w.heap.size w w2 := by
  have k : ∀ {a v}, w1.cell? a = some v → w2.cell? a = some v := fun {a v} ha => by rw [hb.cell (World.block_lt_of_cell? w1 _ ha)]; exact ha
  obtain ⟨⟨x0, x1, x2, x3⟩, ⟨y0, y1, y2, y3⟩, ⟨z0, z1, z2, z3⟩, ⟨t0, t1, t2, t3⟩, ⟨u0, u1, u2, u3⟩, hB⟩ := h
  exact ⟨⟨k x0, k x1, k x2, k x3⟩, ⟨k y0, k y1, k y2, k y3⟩, ⟨k z0, k z1, k z2, k z3⟩, ⟨k t0, k t1, k t2, k t3⟩, ⟨k u0, k u1, k u2, k u3⟩, hB.trans (hb.mono hB.size)⟩

set_option maxHeartbeats 8000000 in
set_option maxRecDepth 100000 in
theorem alg_walk (w : World) (a b c : Cl) :
    Calls Try.prog 7 #[.agg (row64 a.1), .agg (row64 b.1), .agg (row64 c.1)] w fun e w' => e = .returned (.bool true) ∧ Below w.heap.size w w' := by
  have hOAB := fun W => or_any W a.1 b.1 a.2 b.2
  have hNOAB := fun W => not_any W (orL a.1 b.1) (isC_or _ _ a.2 b.2)
  have hNA := fun W => not_any W a.1 a.2
  have hNB := fun W => not_any W b.1 b.2
  have hANB := fun W => and_any W (notL a.1) (notL b.1) (isC_not _ a.2) (isC_not _ b.2)
  have hNNA := fun W => not_any W (notL a.1) (isC_not _ a.2)
  have hOBC := fun W => or_any W b.1 c.1 b.2 c.2
  have hAOBC := fun W => and_any W a.1 (orL b.1 c.1) a.2 (isC_or _ _ b.2 c.2)
  have hAAB := fun W => and_any W a.1 b.1 a.2 b.2
  have hAAC := fun W => and_any W a.1 c.1 a.2 c.2
  have hOAA := fun W => or_any W (andL a.1 b.1) (andL a.1 c.1) (isC_and _ _ a.2 b.2) (isC_and _ _ a.2 c.2)
  have hOBA := fun W => or_any W b.1 a.1 b.2 a.2
  have hOAZ := fun W => or_any W a.1 noneL a.2 isC_none
  have hAAL := fun W => and_any W a.1 (rangeL 0 255) a.2 (isC_fromL _ _)
  have hANA := fun W => and_any W a.1 (notL a.1) a.2 (isC_not _ a.2)
  have hONA := fun W => or_any W a.1 (notL a.1) a.2 (isC_not _ a.2)
  have hSOAB := fun W => size_any W (orL a.1 b.1) (isC_or _ _ a.2 b.2)
  have hSAAB := fun W => size_any W (andL a.1 b.1) (isC_and _ _ a.2 b.2)
  have hSA := fun W => size_any W a.1 a.2
  have hSB := fun W => size_any W b.1 b.2
  have hSNA := fun W => size_any W (notL a.1) (isC_not _ a.2)
  rw [set_morgan a b] at hNOAB
  rw [set_twice a] at hNNA
  rw [set_part a b c] at hAOBC
  rw [set_comm a b] at hOBA
  rw [set_none a] at hOAZ
  rw [set_all a] at hAAL
  rw [set_gone a] at hANA
  rw [set_whole a] at hONA
  have hE1 := fun W => run_eql_rowC W (andL (notL a.1) (notL b.1)) (andL (notL a.1) (notL b.1)) (isC_and _ _ (isC_not _ a.2) (isC_not _ b.2)).1 (isC_and _ _ (isC_not _ a.2) (isC_not _ b.2)).1
  have hE2 := fun W => run_eql_rowC W (a.1) (a.1) a.2.1 a.2.1
  have hE3 := fun W => run_eql_rowC W (orL (andL a.1 b.1) (andL a.1 c.1)) (orL (andL a.1 b.1) (andL a.1 c.1)) (isC_or _ _ (isC_and _ _ a.2 b.2) (isC_and _ _ a.2 c.2)).1 (isC_or _ _ (isC_and _ _ a.2 b.2) (isC_and _ _ a.2 c.2)).1
  have hE4 := fun W => run_eql_rowC W (orL a.1 b.1) (orL a.1 b.1) (isC_or _ _ a.2 b.2).1 (isC_or _ _ a.2 b.2).1
  have hE5 := fun W => run_eql_rowC W (noneL) (noneL) rfl rfl
  have hE6 := fun W => run_eql_rowC W (rangeL 0 255) (rangeL 0 255) (isC_fromL _ _).1 (isC_fromL _ _).1
  rw [decide_eq_true rfl] at hE1 hE2 hE3 hE4 hE5 hE6
  have hRA := fun W => range_any W 0 255 (by omega) (by omega)
  have hcb := cnt_both a b 256 (Nat.le_refl _)
  have hcn := cnt_not a 256 (Nat.le_refl _)
  have ca := cnt_le a.1 256
  have cb := cnt_le b.1 256
  have c1' := cnt_le (orL a.1 b.1) 256
  have c2' := cnt_le (andL a.1 b.1) 256
  generalize cntL (orL a.1 b.1) 256 = s1 at hcb c1' hSOAB
  generalize cntL (andL a.1 b.1) 256 = s2 at hcb c2' hSAAB
  generalize cntL (notL a.1) 256 = sn at hcn hSNA
  generalize cntL a.1 256 = sa at hcb hcn ca hSA
  generalize cntL b.1 256 = sb at hcb cb hSB
  generalize row64 (andL (notL a.1) (notL b.1)) = nab at hNOAB hANB hE1
  generalize row64 (orL (andL a.1 b.1) (andL a.1 c.1)) = aobc at hAOBC hOAA hE3
  generalize row64 (orL a.1 b.1) = oab at hOAB hNOAB hOBA hSOAB hE4
  generalize row64 (orL b.1 c.1) = obc at hOBC hAOBC
  generalize row64 (andL a.1 b.1) = aab at hAAB hOAA hSAAB
  generalize row64 (andL a.1 c.1) = aac at hAAC hOAA
  generalize row64 (notL a.1) = na at hNA hANB hNNA hANA hONA hSNA
  generalize row64 (notL b.1) = nb at hNB hANB
  obtain ⟨p0, p1, p2, p3, hp⟩ := isC_words a.1 a.2
  obtain ⟨q0, q1, q2, q3, hq⟩ := isC_words b.1 b.2
  obtain ⟨r0, r1, r2, r3, hr⟩ := isC_words c.1 c.2
  obtain ⟨x0, x1, x2, x3, hx⟩ := isC_words (rangeL 0 255) (isC_fromL _ _)
  have hrp : row64 a.1 = #[.int .u64 (p0 : Int), .int .u64 (p1 : Int), .int .u64 (p2 : Int), .int .u64 (p3 : Int)] := by rw [hp]; rfl
  have hrq : row64 b.1 = #[.int .u64 (q0 : Int), .int .u64 (q1 : Int), .int .u64 (q2 : Int), .int .u64 (q3 : Int)] := by rw [hq]; rfl
  have hrr : row64 c.1 = #[.int .u64 (r0 : Int), .int .u64 (r1 : Int), .int .u64 (r2 : Int), .int .u64 (r3 : Int)] := by rw [hr]; rfl
  have hrx : row64 (rangeL 0 255) = #[.int .u64 (x0 : Int), .int .u64 (x1 : Int), .int .u64 (x2 : Int), .int .u64 (x3 : Int)] := by rw [hx]; rfl
  have hrz : row64 noneL = #[.int .u64 0, .int .u64 0, .int .u64 0, .int .u64 0] := rfl
  rw [hrp] at hOAB hNA hNNA hAOBC hAAB hAAC hOBA hOAZ hAAL hANA hONA hSA hE2
  rw [hrq] at hOAB hNB hOBC hAAB hOBA hSB
  rw [hrr] at hOBC hAAC
  rw [hrx] at hAAL hONA hE6 hRA
  rw [hrz] at hOAZ hANA hE5
  rw [hrp, hrq, hrr]
  have a3 : Arr64 (((w.alloc (.cells #[.int .u64 (p0 : Int), .int .u64 (p1 : Int), .int .u64 (p2 : Int), .int .u64 (p3 : Int)] 24)).alloc (.cells #[.int .u64 (q0 : Int), .int .u64 (q1 : Int), .int .u64 (q2 : Int), .int .u64 (q3 : Int)] 24)).alloc (.cells #[.int .u64 (r0 : Int), .int .u64 (r1 : Int), .int .u64 (r2 : Int), .int .u64 (r3 : Int)] 24)) w.heap.size 24 a.1 := by rw [← hrp]; exact ((Arr64.new _ _ _).alloc _).alloc _
  have a4 : Arr64 (((w.alloc (.cells #[.int .u64 (p0 : Int), .int .u64 (p1 : Int), .int .u64 (p2 : Int), .int .u64 (p3 : Int)] 24)).alloc (.cells #[.int .u64 (q0 : Int), .int .u64 (q1 : Int), .int .u64 (q2 : Int), .int .u64 (q3 : Int)] 24)).alloc (.cells #[.int .u64 (r0 : Int), .int .u64 (r1 : Int), .int .u64 (r2 : Int), .int .u64 (r3 : Int)] 24)) (w.heap.size + 1) 24 b.1 := by rw [← hrq]; exact Arr64.alloc (show Arr64 ((w.alloc _).alloc _) _ _ _ from heap_alloc2 _ _ _) _
  have a5 : Arr64 (((w.alloc (.cells #[.int .u64 (p0 : Int), .int .u64 (p1 : Int), .int .u64 (p2 : Int), .int .u64 (p3 : Int)] 24)).alloc (.cells #[.int .u64 (q0 : Int), .int .u64 (q1 : Int), .int .u64 (q2 : Int), .int .u64 (q3 : Int)] 24)).alloc (.cells #[.int .u64 (r0 : Int), .int .u64 (r1 : Int), .int .u64 (r2 : Int), .int .u64 (r3 : Int)] 24)) (w.heap.size + 1 + 1) 24 c.1 := by rw [← hrr]; exact heap_alloc3 _ _ _ _
  have hb0 := (below_alloc2 w (.cells #[.int .u64 (p0 : Int), .int .u64 (p1 : Int), .int .u64 (p2 : Int), .int .u64 (p3 : Int)] 24) (.cells #[.int .u64 (q0 : Int), .int .u64 (q1 : Int), .int .u64 (q2 : Int), .int .u64 (q3 : Int)] 24)).alloc (by simp; omega) (.cells #[.int .u64 (r0 : Int), .int .u64 (r1 : Int), .int .u64 (r2 : Int), .int .u64 (r3 : Int)] 24)
  have HOAB := Lib.hid hOAB
  have HNOAB := Lib.hid hNOAB
  have HNA := Lib.hid hNA
  have HNB := Lib.hid hNB
  have HANB := Lib.hid hANB
  have HNNA := Lib.hid hNNA
  have HOBC := Lib.hid hOBC
  have HAOBC := Lib.hid hAOBC
  have HAAB := Lib.hid hAAB
  have HAAC := Lib.hid hAAC
  have HOAA := Lib.hid hOAA
  have HOBA := Lib.hid hOBA
  have HOAZ := Lib.hid hOAZ
  have HAAL := Lib.hid hAAL
  have HANA := Lib.hid hANA
  have HONA := Lib.hid hONA
  have HSOAB := Lib.hid hSOAB
  have HSAAB := Lib.hid hSAAB
  have HSA := Lib.hid hSA
  have HSB := Lib.hid hSB
  have HSNA := Lib.hid hSNA
  have HE1 := Lib.hid hE1
  have HE2 := Lib.hid hE2
  have HE3 := Lib.hid hE3
  have HE4 := Lib.hid hE4
  have HE5 := Lib.hid hE5
  have HE6 := Lib.hid hE6
  have HRA := Lib.hid hRA
  have hgu := fun w op x y xs ys => run_guardTC w op x y xs ys
  have HGU := Lib.hid hgu
  have HP := Lib.hid hp
  have HQ := Lib.hid hq
  have HR := Lib.hid hr
  have HX := Lib.hid hx
  have HRX := Lib.hid hrx
  have v1 : IntKind.i64.wrap ((s1 : Int) + (s2 : Int)) = (s1 : Int) + (s2 : Int) := IntWalk.i64_in _ (by omega)
  have v2 : IntKind.i64.wrap ((sa : Int) + (sb : Int)) = (sa : Int) + (sb : Int) := IntWalk.i64_in _ (by omega)
  have v3 : IntKind.i64.wrap ((sa : Int) + (sn : Int)) = (sa : Int) + (sn : Int) := IntWalk.i64_in _ (by omega)
  have v4 : ((s1 : Int) + (s2 : Int) == (sa : Int) + (sb : Int)) = true := by rw [beq_iff_eq]; omega
  have v5 : ((sa : Int) + (sn : Int) == 256) = true := by rw [beq_iff_eq]; omega
  have V1 := Lib.hid v1
  have V2 := Lib.hid v2
  have V3 := Lib.hid v3
  have V4 := Lib.hid v4
  have V5 := Lib.hid v5
  clear v1 v2 v3 v4 v5 hcb hcn hgu hp hq hr hx hrp hrq hrr hrx hrz hOAB hNOAB hNA hNB hANB hNNA hOBC hAOBC hAAB hAAC hOAA hOBA hOAZ hAAL hANA hONA hSOAB hSAAB hSA hSB hSNA hE1 hE2 hE3 hE4 hE5 hE6 hRA
  go_enter Try.func7, Try.ntmps7
  go_wp2_with fail
  refine (works_any _).mono ?_
  rintro e w1 ⟨rfl, hbw⟩
  have a3 := a3.below hbw a3.lt
  have a4 := a4.below hbw a4.lt
  have a5 := a5.below hbw a5.lt
  have hb1 := hb0.trans (hbw.mono hb0.size)
  clear hb0 hbw
  go_wp2_with fail
  refine (HRA.out _).mono ?_
  rintro e w2 ⟨rfl, hbr⟩
  have hbz := (Below.refl w1.heap.size w1).alloc (Nat.le_refl _) (.cells #[.int .u64 0, .int .u64 0, .int .u64 0, .int .u64 0] 24)
  have z8 : Arr64 (w1.alloc (.cells #[.int .u64 0, .int .u64 0, .int .u64 0, .int .u64 0] 24)) w1.heap.size 24 noneL := Arr64.new w1 _ noneL
  have hbz2 := hbz.trans (hbr.mono (by rw [World.size_alloc]; omega))
  have z8 := z8.below hbr z8.lt
  have hbx := (Below.refl w2.heap.size w2).alloc (Nat.le_refl _) (.cells #[.int .u64 (x0 : Int), .int .u64 (x1 : Int), .int .u64 (x2 : Int), .int .u64 (x3 : Int)] 24)
  have z9 : Arr64 (w2.alloc (.cells #[.int .u64 (x0 : Int), .int .u64 (x1 : Int), .int .u64 (x2 : Int), .int .u64 (x3 : Int)] 24)) w2.heap.size 24 (rangeL 0 255) := by rw [← HRX.out]; exact Arr64.new _ _ _
  have hb3 := hbz2.trans (hbx.mono hbz2.size)
  have z8 := z8.below hbx z8.lt
  have a3 := a3.below hb3 a3.lt
  have a4 := a4.below hb3 a4.lt
  have a5 := a5.below hb3 a5.lt
  have hB := hb1.trans (hb3.mono hb1.size)
  clear hbz hbr hbz2 hbx hb3 hb1
  go_upto_region 4 with fail
  generalize w1.heap.size = b8 at z8 ⊢
  generalize w2.heap.size = b9 at z9 ⊢
  generalize w2.alloc (.cells #[.int .u64 (x0 : Int), .int .u64 (x1 : Int), .int .u64 (x2 : Int), .int .u64 (x3 : Int)] 24) = W at a3 a4 a5 z8 z9 hB ⊢
  have z0 : W.cell? ⟨b8, 0, none⟩ = some (.int .u64 0) := z8.cell 0 (by decide)
  have z1 : W.cell? ⟨b8, 1, none⟩ = some (.int .u64 0) := z8.cell 1 (by decide)
  have z2 : W.cell? ⟨b8, 2, none⟩ = some (.int .u64 0) := z8.cell 2 (by decide)
  have z3 : W.cell? ⟨b8, 3, none⟩ = some (.int .u64 0) := z8.cell 3 (by decide)
  have hS : (W.cell? ⟨w.heap.size, 0, none⟩ = some (.int .u64 (p0 : Int)) ∧ W.cell? ⟨w.heap.size, 1, none⟩ = some (.int .u64 (p1 : Int)) ∧ W.cell? ⟨w.heap.size, 2, none⟩ = some (.int .u64 (p2 : Int)) ∧ W.cell? ⟨w.heap.size, 3, none⟩ = some (.int .u64 (p3 : Int))) ∧ (W.cell? ⟨w.heap.size + 1, 0, none⟩ = some (.int .u64 (q0 : Int)) ∧ W.cell? ⟨w.heap.size + 1, 1, none⟩ = some (.int .u64 (q1 : Int)) ∧ W.cell? ⟨w.heap.size + 1, 2, none⟩ = some (.int .u64 (q2 : Int)) ∧ W.cell? ⟨w.heap.size + 1, 3, none⟩ = some (.int .u64 (q3 : Int))) ∧ (W.cell? ⟨w.heap.size + 1 + 1, 0, none⟩ = some (.int .u64 (r0 : Int)) ∧ W.cell? ⟨w.heap.size + 1 + 1, 1, none⟩ = some (.int .u64 (r1 : Int)) ∧ W.cell? ⟨w.heap.size + 1 + 1, 2, none⟩ = some (.int .u64 (r2 : Int)) ∧ W.cell? ⟨w.heap.size + 1 + 1, 3, none⟩ = some (.int .u64 (r3 : Int))) ∧ (W.cell? ⟨b8, 0, none⟩ = some (.int .u64 0) ∧ W.cell? ⟨b8, 1, none⟩ = some (.int .u64 0) ∧ W.cell? ⟨b8, 2, none⟩ = some (.int .u64 0) ∧ W.cell? ⟨b8, 3, none⟩ = some (.int .u64 0)) ∧ (W.cell? ⟨b9, 0, none⟩ = some (.int .u64 (x0 : Int)) ∧ W.cell? ⟨b9, 1, none⟩ = some (.int .u64 (x1 : Int)) ∧ W.cell? ⟨b9, 2, none⟩ = some (.int .u64 (x2 : Int)) ∧ W.cell? ⟨b9, 3, none⟩ = some (.int .u64 (x3 : Int))) ∧ Below w.heap.size w W := ⟨a3.four HP.out, a4.four HQ.out, a5.four HR.out, ⟨z0, z1, z2, z3⟩, z9.four HX.out, hB⟩
  clear a3 a4 a5 z8 z9 hB z0 z1 z2 z3
  obtain ⟨⟨k0, k1, k2, k3⟩, ⟨m0, m1, m2, m3⟩, ⟨l0, l1, l2, l3⟩, ⟨z0, z1, z2, z3⟩, ⟨y0, y1, y2, y3⟩, hB⟩ := hS
  have eE1 := HE1.out
  have eE2 := HE2.out
  have hgu := HGU.out
  go_region_held3 (fun w' => (w'.cell? ⟨w.heap.size, 0, none⟩ = some (.int .u64 (p0 : Int)) ∧ w'.cell? ⟨w.heap.size, 1, none⟩ = some (.int .u64 (p1 : Int)) ∧ w'.cell? ⟨w.heap.size, 2, none⟩ = some (.int .u64 (p2 : Int)) ∧ w'.cell? ⟨w.heap.size, 3, none⟩ = some (.int .u64 (p3 : Int))) ∧ (w'.cell? ⟨w.heap.size + 1, 0, none⟩ = some (.int .u64 (q0 : Int)) ∧ w'.cell? ⟨w.heap.size + 1, 1, none⟩ = some (.int .u64 (q1 : Int)) ∧ w'.cell? ⟨w.heap.size + 1, 2, none⟩ = some (.int .u64 (q2 : Int)) ∧ w'.cell? ⟨w.heap.size + 1, 3, none⟩ = some (.int .u64 (q3 : Int))) ∧ (w'.cell? ⟨w.heap.size + 1 + 1, 0, none⟩ = some (.int .u64 (r0 : Int)) ∧ w'.cell? ⟨w.heap.size + 1 + 1, 1, none⟩ = some (.int .u64 (r1 : Int)) ∧ w'.cell? ⟨w.heap.size + 1 + 1, 2, none⟩ = some (.int .u64 (r2 : Int)) ∧ w'.cell? ⟨w.heap.size + 1 + 1, 3, none⟩ = some (.int .u64 (r3 : Int))) ∧ (w'.cell? ⟨b8, 0, none⟩ = some (.int .u64 0) ∧ w'.cell? ⟨b8, 1, none⟩ = some (.int .u64 0) ∧ w'.cell? ⟨b8, 2, none⟩ = some (.int .u64 0) ∧ w'.cell? ⟨b8, 3, none⟩ = some (.int .u64 0)) ∧ (w'.cell? ⟨b9, 0, none⟩ = some (.int .u64 (x0 : Int)) ∧ w'.cell? ⟨b9, 1, none⟩ = some (.int .u64 (x1 : Int)) ∧ w'.cell? ⟨b9, 2, none⟩ = some (.int .u64 (x2 : Int)) ∧ w'.cell? ⟨b9, 3, none⟩ = some (.int .u64 (x3 : Int))) ∧ Below w.heap.size w w')
    (first | exact ⟨⟨k0, k1, k2, k3⟩, ⟨m0, m1, m2, m3⟩, ⟨l0, l1, l2, l3⟩, ⟨z0, z1, z2, z3⟩, ⟨y0, y1, y2, y3⟩, hB.drew⟩ | assumption | exact keep5C (by assumption) (by assumption))
    (first | (go_at_call 13; (with_reducible refine (HOAB.out _).mono ?_); rintro e w' ⟨rfl, hb'⟩) | (go_at_call 17; (with_reducible refine (HNOAB.out _).mono ?_); rintro e w' ⟨rfl, hb'⟩) | (go_at_call 17; (with_reducible refine (HNA.out _).mono ?_); rintro e w' ⟨rfl, hb'⟩) | (go_at_call 17; (with_reducible refine (HNB.out _).mono ?_); rintro e w' ⟨rfl, hb'⟩) | (go_at_call 15; (with_reducible refine (HANB.out _).mono ?_); rintro e w' ⟨rfl, hb'⟩) | (go_at_call 17; (with_reducible refine (HNNA.out _).mono ?_); rintro e w' ⟨rfl, hb'⟩))
  rename_i hS
  clear eE1 eE2 hgu k0 k1 k2 k3 m0 m1 m2 m3 l0 l1 l2 l3 z0 z1 z2 z3 y0 y1 y2 y3 hB
  go_wp2_with fail
  obtain ⟨⟨k0, k1, k2, k3⟩, ⟨m0, m1, m2, m3⟩, ⟨l0, l1, l2, l3⟩, ⟨z0, z1, z2, z3⟩, ⟨y0, y1, y2, y3⟩, hB⟩ := hS
  have eE3 := HE3.out
  have eE4 := HE4.out
  have hgu := HGU.out
  go_region_held3 (fun w' => (w'.cell? ⟨w.heap.size, 0, none⟩ = some (.int .u64 (p0 : Int)) ∧ w'.cell? ⟨w.heap.size, 1, none⟩ = some (.int .u64 (p1 : Int)) ∧ w'.cell? ⟨w.heap.size, 2, none⟩ = some (.int .u64 (p2 : Int)) ∧ w'.cell? ⟨w.heap.size, 3, none⟩ = some (.int .u64 (p3 : Int))) ∧ (w'.cell? ⟨w.heap.size + 1, 0, none⟩ = some (.int .u64 (q0 : Int)) ∧ w'.cell? ⟨w.heap.size + 1, 1, none⟩ = some (.int .u64 (q1 : Int)) ∧ w'.cell? ⟨w.heap.size + 1, 2, none⟩ = some (.int .u64 (q2 : Int)) ∧ w'.cell? ⟨w.heap.size + 1, 3, none⟩ = some (.int .u64 (q3 : Int))) ∧ (w'.cell? ⟨w.heap.size + 1 + 1, 0, none⟩ = some (.int .u64 (r0 : Int)) ∧ w'.cell? ⟨w.heap.size + 1 + 1, 1, none⟩ = some (.int .u64 (r1 : Int)) ∧ w'.cell? ⟨w.heap.size + 1 + 1, 2, none⟩ = some (.int .u64 (r2 : Int)) ∧ w'.cell? ⟨w.heap.size + 1 + 1, 3, none⟩ = some (.int .u64 (r3 : Int))) ∧ (w'.cell? ⟨b8, 0, none⟩ = some (.int .u64 0) ∧ w'.cell? ⟨b8, 1, none⟩ = some (.int .u64 0) ∧ w'.cell? ⟨b8, 2, none⟩ = some (.int .u64 0) ∧ w'.cell? ⟨b8, 3, none⟩ = some (.int .u64 0)) ∧ (w'.cell? ⟨b9, 0, none⟩ = some (.int .u64 (x0 : Int)) ∧ w'.cell? ⟨b9, 1, none⟩ = some (.int .u64 (x1 : Int)) ∧ w'.cell? ⟨b9, 2, none⟩ = some (.int .u64 (x2 : Int)) ∧ w'.cell? ⟨b9, 3, none⟩ = some (.int .u64 (x3 : Int))) ∧ Below w.heap.size w w')
    (first | exact ⟨⟨k0, k1, k2, k3⟩, ⟨m0, m1, m2, m3⟩, ⟨l0, l1, l2, l3⟩, ⟨z0, z1, z2, z3⟩, ⟨y0, y1, y2, y3⟩, hB.drew⟩ | assumption | exact keep5C (by assumption) (by assumption))
    (first | (go_at_call 13; (with_reducible refine (HOBC.out _).mono ?_); rintro e w' ⟨rfl, hb'⟩) | (go_at_call 15; (with_reducible refine (HAOBC.out _).mono ?_); rintro e w' ⟨rfl, hb'⟩) | (go_at_call 15; (with_reducible refine (HAAB.out _).mono ?_); rintro e w' ⟨rfl, hb'⟩) | (go_at_call 15; (with_reducible refine (HAAC.out _).mono ?_); rintro e w' ⟨rfl, hb'⟩) | (go_at_call 13; (with_reducible refine (HOAA.out _).mono ?_); rintro e w' ⟨rfl, hb'⟩) | (go_at_call 13; (with_reducible refine (HOAB.out _).mono ?_); rintro e w' ⟨rfl, hb'⟩) | (go_at_call 13; (with_reducible refine (HOBA.out _).mono ?_); rintro e w' ⟨rfl, hb'⟩))
  rename_i hS
  clear eE3 eE4 hgu k0 k1 k2 k3 m0 m1 m2 m3 l0 l1 l2 l3 z0 z1 z2 z3 y0 y1 y2 y3 hB
  go_wp2_with fail
  obtain ⟨⟨k0, k1, k2, k3⟩, ⟨m0, m1, m2, m3⟩, ⟨l0, l1, l2, l3⟩, ⟨z0, z1, z2, z3⟩, ⟨y0, y1, y2, y3⟩, hB⟩ := hS
  have eE2 := HE2.out
  have eE5 := HE5.out
  have eE6 := HE6.out
  have hgu := HGU.out
  go_region_held3 (fun w' => (w'.cell? ⟨w.heap.size, 0, none⟩ = some (.int .u64 (p0 : Int)) ∧ w'.cell? ⟨w.heap.size, 1, none⟩ = some (.int .u64 (p1 : Int)) ∧ w'.cell? ⟨w.heap.size, 2, none⟩ = some (.int .u64 (p2 : Int)) ∧ w'.cell? ⟨w.heap.size, 3, none⟩ = some (.int .u64 (p3 : Int))) ∧ (w'.cell? ⟨w.heap.size + 1, 0, none⟩ = some (.int .u64 (q0 : Int)) ∧ w'.cell? ⟨w.heap.size + 1, 1, none⟩ = some (.int .u64 (q1 : Int)) ∧ w'.cell? ⟨w.heap.size + 1, 2, none⟩ = some (.int .u64 (q2 : Int)) ∧ w'.cell? ⟨w.heap.size + 1, 3, none⟩ = some (.int .u64 (q3 : Int))) ∧ (w'.cell? ⟨w.heap.size + 1 + 1, 0, none⟩ = some (.int .u64 (r0 : Int)) ∧ w'.cell? ⟨w.heap.size + 1 + 1, 1, none⟩ = some (.int .u64 (r1 : Int)) ∧ w'.cell? ⟨w.heap.size + 1 + 1, 2, none⟩ = some (.int .u64 (r2 : Int)) ∧ w'.cell? ⟨w.heap.size + 1 + 1, 3, none⟩ = some (.int .u64 (r3 : Int))) ∧ (w'.cell? ⟨b8, 0, none⟩ = some (.int .u64 0) ∧ w'.cell? ⟨b8, 1, none⟩ = some (.int .u64 0) ∧ w'.cell? ⟨b8, 2, none⟩ = some (.int .u64 0) ∧ w'.cell? ⟨b8, 3, none⟩ = some (.int .u64 0)) ∧ (w'.cell? ⟨b9, 0, none⟩ = some (.int .u64 (x0 : Int)) ∧ w'.cell? ⟨b9, 1, none⟩ = some (.int .u64 (x1 : Int)) ∧ w'.cell? ⟨b9, 2, none⟩ = some (.int .u64 (x2 : Int)) ∧ w'.cell? ⟨b9, 3, none⟩ = some (.int .u64 (x3 : Int))) ∧ Below w.heap.size w w')
    (first | exact ⟨⟨k0, k1, k2, k3⟩, ⟨m0, m1, m2, m3⟩, ⟨l0, l1, l2, l3⟩, ⟨z0, z1, z2, z3⟩, ⟨y0, y1, y2, y3⟩, hB.drew⟩ | assumption | exact keep5C (by assumption) (by assumption))
    (first | (go_at_call 13; (with_reducible refine (HOAZ.out _).mono ?_); rintro e w' ⟨rfl, hb'⟩) | (go_at_call 15; (with_reducible refine (HAAL.out _).mono ?_); rintro e w' ⟨rfl, hb'⟩) | (go_at_call 17; (with_reducible refine (HNA.out _).mono ?_); rintro e w' ⟨rfl, hb'⟩) | (go_at_call 15; (with_reducible refine (HANA.out _).mono ?_); rintro e w' ⟨rfl, hb'⟩) | (go_at_call 13; (with_reducible refine (HONA.out _).mono ?_); rintro e w' ⟨rfl, hb'⟩))
  rename_i hS
  clear eE2 eE5 eE6 hgu k0 k1 k2 k3 m0 m1 m2 m3 l0 l1 l2 l3 z0 z1 z2 z3 y0 y1 y2 y3 hB
  go_wp2_with fail
  obtain ⟨⟨k0, k1, k2, k3⟩, ⟨m0, m1, m2, m3⟩, ⟨l0, l1, l2, l3⟩, ⟨z0, z1, z2, z3⟩, ⟨y0, y1, y2, y3⟩, hB⟩ := hS
  have v1 := V1.out
  have hgu := HGU.out
  go_region_held3 (fun w' => (w'.cell? ⟨w.heap.size, 0, none⟩ = some (.int .u64 (p0 : Int)) ∧ w'.cell? ⟨w.heap.size, 1, none⟩ = some (.int .u64 (p1 : Int)) ∧ w'.cell? ⟨w.heap.size, 2, none⟩ = some (.int .u64 (p2 : Int)) ∧ w'.cell? ⟨w.heap.size, 3, none⟩ = some (.int .u64 (p3 : Int))) ∧ (w'.cell? ⟨w.heap.size + 1, 0, none⟩ = some (.int .u64 (q0 : Int)) ∧ w'.cell? ⟨w.heap.size + 1, 1, none⟩ = some (.int .u64 (q1 : Int)) ∧ w'.cell? ⟨w.heap.size + 1, 2, none⟩ = some (.int .u64 (q2 : Int)) ∧ w'.cell? ⟨w.heap.size + 1, 3, none⟩ = some (.int .u64 (q3 : Int))) ∧ (w'.cell? ⟨w.heap.size + 1 + 1, 0, none⟩ = some (.int .u64 (r0 : Int)) ∧ w'.cell? ⟨w.heap.size + 1 + 1, 1, none⟩ = some (.int .u64 (r1 : Int)) ∧ w'.cell? ⟨w.heap.size + 1 + 1, 2, none⟩ = some (.int .u64 (r2 : Int)) ∧ w'.cell? ⟨w.heap.size + 1 + 1, 3, none⟩ = some (.int .u64 (r3 : Int))) ∧ (w'.cell? ⟨b8, 0, none⟩ = some (.int .u64 0) ∧ w'.cell? ⟨b8, 1, none⟩ = some (.int .u64 0) ∧ w'.cell? ⟨b8, 2, none⟩ = some (.int .u64 0) ∧ w'.cell? ⟨b8, 3, none⟩ = some (.int .u64 0)) ∧ (w'.cell? ⟨b9, 0, none⟩ = some (.int .u64 (x0 : Int)) ∧ w'.cell? ⟨b9, 1, none⟩ = some (.int .u64 (x1 : Int)) ∧ w'.cell? ⟨b9, 2, none⟩ = some (.int .u64 (x2 : Int)) ∧ w'.cell? ⟨b9, 3, none⟩ = some (.int .u64 (x3 : Int))) ∧ Below w.heap.size w w')
    (first | exact ⟨⟨k0, k1, k2, k3⟩, ⟨m0, m1, m2, m3⟩, ⟨l0, l1, l2, l3⟩, ⟨z0, z1, z2, z3⟩, ⟨y0, y1, y2, y3⟩, hB.drew⟩ | assumption | exact keep5C (by assumption) (by assumption))
    (first | (go_at_call 13; (with_reducible refine (HOAB.out _).mono ?_); rintro e w' ⟨rfl, hb'⟩) | (go_at_call 19; (with_reducible refine (HSOAB.out _).mono ?_); rintro e w' ⟨rfl, hb'⟩) | (go_at_call 15; (with_reducible refine (HAAB.out _).mono ?_); rintro e w' ⟨rfl, hb'⟩) | (go_at_call 19; (with_reducible refine (HSAAB.out _).mono ?_); rintro e w' ⟨rfl, hb'⟩))
  rename_i hS
  clear v1 hgu k0 k1 k2 k3 m0 m1 m2 m3 l0 l1 l2 l3 z0 z1 z2 z3 y0 y1 y2 y3 hB
  go_wp2_with fail
  obtain ⟨⟨k0, k1, k2, k3⟩, ⟨m0, m1, m2, m3⟩, ⟨l0, l1, l2, l3⟩, ⟨z0, z1, z2, z3⟩, ⟨y0, y1, y2, y3⟩, hB⟩ := hS
  have v2 := V2.out
  have v3 := V3.out
  have v4 := V4.out
  have v5 := V5.out
  have hgu := HGU.out
  go_region_held3 (fun w' => (w'.cell? ⟨w.heap.size, 0, none⟩ = some (.int .u64 (p0 : Int)) ∧ w'.cell? ⟨w.heap.size, 1, none⟩ = some (.int .u64 (p1 : Int)) ∧ w'.cell? ⟨w.heap.size, 2, none⟩ = some (.int .u64 (p2 : Int)) ∧ w'.cell? ⟨w.heap.size, 3, none⟩ = some (.int .u64 (p3 : Int))) ∧ (w'.cell? ⟨w.heap.size + 1, 0, none⟩ = some (.int .u64 (q0 : Int)) ∧ w'.cell? ⟨w.heap.size + 1, 1, none⟩ = some (.int .u64 (q1 : Int)) ∧ w'.cell? ⟨w.heap.size + 1, 2, none⟩ = some (.int .u64 (q2 : Int)) ∧ w'.cell? ⟨w.heap.size + 1, 3, none⟩ = some (.int .u64 (q3 : Int))) ∧ (w'.cell? ⟨w.heap.size + 1 + 1, 0, none⟩ = some (.int .u64 (r0 : Int)) ∧ w'.cell? ⟨w.heap.size + 1 + 1, 1, none⟩ = some (.int .u64 (r1 : Int)) ∧ w'.cell? ⟨w.heap.size + 1 + 1, 2, none⟩ = some (.int .u64 (r2 : Int)) ∧ w'.cell? ⟨w.heap.size + 1 + 1, 3, none⟩ = some (.int .u64 (r3 : Int))) ∧ (w'.cell? ⟨b8, 0, none⟩ = some (.int .u64 0) ∧ w'.cell? ⟨b8, 1, none⟩ = some (.int .u64 0) ∧ w'.cell? ⟨b8, 2, none⟩ = some (.int .u64 0) ∧ w'.cell? ⟨b8, 3, none⟩ = some (.int .u64 0)) ∧ (w'.cell? ⟨b9, 0, none⟩ = some (.int .u64 (x0 : Int)) ∧ w'.cell? ⟨b9, 1, none⟩ = some (.int .u64 (x1 : Int)) ∧ w'.cell? ⟨b9, 2, none⟩ = some (.int .u64 (x2 : Int)) ∧ w'.cell? ⟨b9, 3, none⟩ = some (.int .u64 (x3 : Int))) ∧ Below w.heap.size w w')
    (first | exact ⟨⟨k0, k1, k2, k3⟩, ⟨m0, m1, m2, m3⟩, ⟨l0, l1, l2, l3⟩, ⟨z0, z1, z2, z3⟩, ⟨y0, y1, y2, y3⟩, hB.drew⟩ | assumption | exact keep5C (by assumption) (by assumption))
    (first | (go_at_call 19; (with_reducible refine (HSA.out _).mono ?_); rintro e w' ⟨rfl, hb'⟩) | (go_at_call 19; (with_reducible refine (HSB.out _).mono ?_); rintro e w' ⟨rfl, hb'⟩) | (go_at_call 17; (with_reducible refine (HNA.out _).mono ?_); rintro e w' ⟨rfl, hb'⟩) | (go_at_call 19; (with_reducible refine (HSNA.out _).mono ?_); rintro e w' ⟨rfl, hb'⟩))
  rename_i hS
  clear v2 v3 v4 v5 hgu k0 k1 k2 k3 m0 m1 m2 m3 l0 l1 l2 l3 z0 z1 z2 z3 y0 y1 y2 y3 hB
  have hfin := hS.2.2.2.2.2
  clear hS
  go_wp2_with fail
  go_ret
  exact ⟨rfl, hfin⟩
end Go.Proofs.Ytcdoliinemafaaa

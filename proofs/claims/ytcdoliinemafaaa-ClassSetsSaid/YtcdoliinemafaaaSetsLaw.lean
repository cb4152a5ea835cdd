/-
  galleylaw01.ClassSets: its walk.
-/
import Derived.Test.YtcdoliinemafaaaWorks
import Derived.Test.YtcdoliinemafaaaCls2
namespace Go.Proofs.Ytcdoliinemafaaa
open Go.RowKit

theorem keep2C {w w1 w2 : World} {b3 b4 : Nat} {p0 p1 p2 p3 q0 q1 q2 q3 : Nat} (h : (w1.cell? ⟨b3, 0, none⟩ = some (.int .u64 (p0 : Int)) ∧ w1.cell? ⟨b3, 1, none⟩ = some (.int .u64 (p1 : Int)) ∧ w1.cell? ⟨b3, 2, none⟩ = some (.int .u64 (p2 : Int)) ∧ w1.cell? ⟨b3, 3, none⟩ = some (.int .u64 (p3 : Int))) ∧ (w1.cell? ⟨b4, 0, none⟩ = some (.int .u64 (q0 : Int)) ∧ w1.cell? ⟨b4, 1, none⟩ = some (.int .u64 (q1 : Int)) ∧ w1.cell? ⟨b4, 2, none⟩ = some (.int .u64 (q2 : Int)) ∧ w1.cell? ⟨b4, 3, none⟩ = some (.int .u64 (q3 : Int))) ∧ Below w.heap.size w w1) (hb : Below w1.heap.size w1 w2) :
    (w2.cell? ⟨b3, 0, none⟩ = some (.int .u64 (p0 : Int)) ∧ w2.cell? ⟨b3, 1, none⟩ = some (.int .u64 (p1 : Int)) ∧ w2.cell? ⟨b3, 2, none⟩ = some (.int .u64 (p2 : Int)) ∧ w2.cell? ⟨b3, 3, none⟩ = some (.int .u64 (p3 : Int))) ∧ (w2.cell? ⟨b4, 0, none⟩ = some (.int .u64 (q0 : Int)) ∧ w2.cell? ⟨b4, 1, none⟩ = some (.int .u64 (q1 : Int)) ∧ w2.cell? ⟨b4, 2, none⟩ = some (.int .u64 (q2 : Int)) ∧ w2.cell? ⟨b4, 3, none⟩ = some (.int .u64 (q3 : Int))) ∧ Below w.heap.size w w2 := by
  have k : ∀ {a v}, w1.cell? a = some v → w2.cell? a = some v := fun {a v} ha => by rw [hb.cell (World.block_lt_of_cell? w1 _ ha)]; exact ha
  obtain ⟨⟨x0, x1, x2, x3⟩, ⟨y0, y1, y2, y3⟩, hB⟩ := h
  exact ⟨⟨k x0, k x1, k x2, k x3⟩, ⟨k y0, k y1, k y2, k y3⟩, hB.trans (hb.mono hB.size)⟩
theorem start2C (w : World) (p0 p1 p2 p3 q0 q1 q2 q3 : Nat) :
    (fun w' : World => (w'.cell? ⟨w.heap.size, 0, none⟩ = some (.int .u64 (p0 : Int)) ∧ w'.cell? ⟨w.heap.size, 1, none⟩ = some (.int .u64 (p1 : Int)) ∧ w'.cell? ⟨w.heap.size, 2, none⟩ = some (.int .u64 (p2 : Int)) ∧ w'.cell? ⟨w.heap.size, 3, none⟩ = some (.int .u64 (p3 : Int))) ∧ (w'.cell? ⟨w.heap.size + 1, 0, none⟩ = some (.int .u64 (q0 : Int)) ∧ w'.cell? ⟨w.heap.size + 1, 1, none⟩ = some (.int .u64 (q1 : Int)) ∧ w'.cell? ⟨w.heap.size + 1, 2, none⟩ = some (.int .u64 (q2 : Int)) ∧ w'.cell? ⟨w.heap.size + 1, 3, none⟩ = some (.int .u64 (q3 : Int))) ∧ Below w.heap.size w w') ((w.alloc (.cells #[.int .u64 (p0 : Int), .int .u64 (p1 : Int), .int .u64 (p2 : Int), .int .u64 (p3 : Int)] 24)).alloc (.cells #[.int .u64 (q0 : Int), .int .u64 (q1 : Int), .int .u64 (q2 : Int), .int .u64 (q3 : Int)] 24)) := by
  obtain ⟨h1, h2, h3, -⟩ := cmpS_start w p0 p1 p2 p3 q0 q1 q2 q3 _ _ rfl rfl
  exact ⟨h1, h2, h3⟩

set_option maxHeartbeats 8000000 in
set_option maxRecDepth 100000 in
theorem sets_walk (w : World) (c d : List Nat) (hc : IsC c) (hd : IsC d) (b : Int) (hb0 : 0 ≤ b) (hb1 : b < 256) :
    Calls Try.prog 3 #[.agg (row64 c), .agg (row64 d), .int .u8 b] w fun e w' => e = .returned (.bool true) ∧ Below w.heap.size w w' := by
  obtain ⟨x, rfl⟩ : ∃ x : Nat, b = x := ⟨b.toNat, by omega⟩
  have hx : x < 256 := by omega
  have hhas := fun W => has_any W c hc x hx
  have hrhas := fun W => refHas_any W c hc x hx
  have hor := fun W => or_any W c d hc hd
  have hror := fun W => refOr_any W c d hc hd
  have hand := fun W => and_any W c d hc hd
  have hrand := fun W => refAnd_any W c d hc hd
  have hnot := fun W => not_any W c hc
  have hrnot := fun W => refNot_any W c hc
  have hsz := fun W => size_any W c hc
  have hrsz := fun W => refSize_any W c hc
  have q1' := fun W => run_eql_rowC W (orL c d) (orL c d) (isC_or _ _ hc hd).1 (isC_or _ _ hc hd).1
  have q2' := fun W => run_eql_rowC W (andL c d) (andL c d) (isC_and _ _ hc hd).1 (isC_and _ _ hc hd).1
  have q3' := fun W => run_eql_rowC W (notL c) (notL c) (isC_not _ hc).1 (isC_not _ hc).1
  rw [decide_eq_true rfl] at q1' q2' q3'
  generalize row64 (orL c d) = ro at hor hror q1'
  generalize row64 (andL c d) = ra at hand hrand q2'
  generalize row64 (notL c) = rn at hnot hrnot q3'
  have hcl := cnt_le c 256
  generalize cntL c 256 = sz at hsz hrsz hcl
  generalize hasL c x = hs at hhas hrhas
  obtain ⟨p0, p1, p2, p3, rfl⟩ := isC_words c hc
  obtain ⟨q0, q1, q2, q3, rfl⟩ := isC_words d hd
  have hrp : row64 [p0, p1, p2, p3] = #[.int .u64 (p0 : Int), .int .u64 (p1 : Int), .int .u64 (p2 : Int), .int .u64 (p3 : Int)] := rfl
  have hrq : row64 [q0, q1, q2, q3] = #[.int .u64 (q0 : Int), .int .u64 (q1 : Int), .int .u64 (q2 : Int), .int .u64 (q3 : Int)] := rfl
  rw [hrp] at hhas hrhas hor hror hand hrand hnot hrnot hsz hrsz ⊢
  rw [hrq] at hor hror hand hrand ⊢
  have HHAS := Lib.hid hhas
  have HRHAS := Lib.hid hrhas
  have HOR := Lib.hid hor
  have HROR := Lib.hid hror
  have HAND := Lib.hid hand
  have HRAND := Lib.hid hrand
  have HNOT := Lib.hid hnot
  have HRNOT := Lib.hid hrnot
  have HSZ := Lib.hid hsz
  have HRSZ := Lib.hid hrsz
  have HQ1 := Lib.hid q1'
  have HQ2 := Lib.hid q2'
  have HQ3 := Lib.hid q3'
  have hgu := fun w op x y xs ys => run_guardTC w op x y xs ys
  have HGU := Lib.hid hgu
  have HST := Lib.hid (start2C w p0 p1 p2 p3 q0 q1 q2 q3)
  clear hrp hrq hhas hrhas hor hror hand hrand hnot hrnot hsz hrsz q1' q2' q3' hgu
  go_enter Try.func3, Try.ntmps3
  go_wp2_with fail
  refine (works_any _).mono ?_
  rintro e w1 ⟨rfl, hbw⟩
  have hS := keep2C HST.out hbw
  clear HST hbw
  go_wp2_with fail
  obtain ⟨⟨k0, k1, k2, k3⟩, ⟨m0, m1, m2, m3⟩, hB⟩ := hS
  have q1' := HQ1.out
  have q2' := HQ2.out
  have q3' := HQ3.out
  have hgu := HGU.out
  go_region_held3 (fun w' => (w'.cell? ⟨w.heap.size, 0, none⟩ = some (.int .u64 (p0 : Int)) ∧ w'.cell? ⟨w.heap.size, 1, none⟩ = some (.int .u64 (p1 : Int)) ∧ w'.cell? ⟨w.heap.size, 2, none⟩ = some (.int .u64 (p2 : Int)) ∧ w'.cell? ⟨w.heap.size, 3, none⟩ = some (.int .u64 (p3 : Int))) ∧ (w'.cell? ⟨w.heap.size + 1, 0, none⟩ = some (.int .u64 (q0 : Int)) ∧ w'.cell? ⟨w.heap.size + 1, 1, none⟩ = some (.int .u64 (q1 : Int)) ∧ w'.cell? ⟨w.heap.size + 1, 2, none⟩ = some (.int .u64 (q2 : Int)) ∧ w'.cell? ⟨w.heap.size + 1, 3, none⟩ = some (.int .u64 (q3 : Int))) ∧ Below w.heap.size w w')
    (first | exact ⟨⟨k0, k1, k2, k3⟩, ⟨m0, m1, m2, m3⟩, hB.drew⟩ | assumption | exact keep2C (by assumption) (by assumption))
    (first | (go_at_call 11; (with_reducible refine (HHAS.out _).mono ?_); rintro e w' ⟨rfl, hb'⟩) | (go_at_call 12; (with_reducible refine (HRHAS.out _).mono ?_); rintro e w' ⟨rfl, hb'⟩) | (go_at_call 13; (with_reducible refine (HOR.out _).mono ?_); rintro e w' ⟨rfl, hb'⟩) | (go_at_call 14; (with_reducible refine (HROR.out _).mono ?_); rintro e w' ⟨rfl, hb'⟩) | (go_at_call 15; (with_reducible refine (HAND.out _).mono ?_); rintro e w' ⟨rfl, hb'⟩) | (go_at_call 16; (with_reducible refine (HRAND.out _).mono ?_); rintro e w' ⟨rfl, hb'⟩) | (go_at_call 17; (with_reducible refine (HNOT.out _).mono ?_); rintro e w' ⟨rfl, hb'⟩) | (go_at_call 18; (with_reducible refine (HRNOT.out _).mono ?_); rintro e w' ⟨rfl, hb'⟩) | (go_at_call 19; (with_reducible refine (HSZ.out _).mono ?_); rintro e w' ⟨rfl, hb'⟩) | (go_at_call 20; (with_reducible refine (HRSZ.out _).mono ?_); rintro e w' ⟨rfl, hb'⟩))
  rename_i hS
  clear q1' q2' q3' hgu k0 k1 k2 k3 m0 m1 m2 m3 hB
  go_wp2_with fail
  obtain ⟨⟨k0, k1, k2, k3⟩, ⟨m0, m1, m2, m3⟩, hB⟩ := hS
  have q1' := HQ1.out
  have q2' := HQ2.out
  have q3' := HQ3.out
  have hgu := HGU.out
  go_region_held3 (fun w' => (w'.cell? ⟨w.heap.size, 0, none⟩ = some (.int .u64 (p0 : Int)) ∧ w'.cell? ⟨w.heap.size, 1, none⟩ = some (.int .u64 (p1 : Int)) ∧ w'.cell? ⟨w.heap.size, 2, none⟩ = some (.int .u64 (p2 : Int)) ∧ w'.cell? ⟨w.heap.size, 3, none⟩ = some (.int .u64 (p3 : Int))) ∧ (w'.cell? ⟨w.heap.size + 1, 0, none⟩ = some (.int .u64 (q0 : Int)) ∧ w'.cell? ⟨w.heap.size + 1, 1, none⟩ = some (.int .u64 (q1 : Int)) ∧ w'.cell? ⟨w.heap.size + 1, 2, none⟩ = some (.int .u64 (q2 : Int)) ∧ w'.cell? ⟨w.heap.size + 1, 3, none⟩ = some (.int .u64 (q3 : Int))) ∧ Below w.heap.size w w')
    (first | exact ⟨⟨k0, k1, k2, k3⟩, ⟨m0, m1, m2, m3⟩, hB.drew⟩ | assumption | exact keep2C (by assumption) (by assumption))
    (first | (go_at_call 11; (with_reducible refine (HHAS.out _).mono ?_); rintro e w' ⟨rfl, hb'⟩) | (go_at_call 12; (with_reducible refine (HRHAS.out _).mono ?_); rintro e w' ⟨rfl, hb'⟩) | (go_at_call 13; (with_reducible refine (HOR.out _).mono ?_); rintro e w' ⟨rfl, hb'⟩) | (go_at_call 14; (with_reducible refine (HROR.out _).mono ?_); rintro e w' ⟨rfl, hb'⟩) | (go_at_call 15; (with_reducible refine (HAND.out _).mono ?_); rintro e w' ⟨rfl, hb'⟩) | (go_at_call 16; (with_reducible refine (HRAND.out _).mono ?_); rintro e w' ⟨rfl, hb'⟩) | (go_at_call 17; (with_reducible refine (HNOT.out _).mono ?_); rintro e w' ⟨rfl, hb'⟩) | (go_at_call 18; (with_reducible refine (HRNOT.out _).mono ?_); rintro e w' ⟨rfl, hb'⟩) | (go_at_call 19; (with_reducible refine (HSZ.out _).mono ?_); rintro e w' ⟨rfl, hb'⟩) | (go_at_call 20; (with_reducible refine (HRSZ.out _).mono ?_); rintro e w' ⟨rfl, hb'⟩))
  rename_i hS
  clear q1' q2' q3' hgu k0 k1 k2 k3 m0 m1 m2 m3 hB
  go_wp2_with fail
  obtain ⟨⟨k0, k1, k2, k3⟩, ⟨m0, m1, m2, m3⟩, hB⟩ := hS
  have q1' := HQ1.out
  have q2' := HQ2.out
  have q3' := HQ3.out
  have hgu := HGU.out
  go_region_held3 (fun w' => (w'.cell? ⟨w.heap.size, 0, none⟩ = some (.int .u64 (p0 : Int)) ∧ w'.cell? ⟨w.heap.size, 1, none⟩ = some (.int .u64 (p1 : Int)) ∧ w'.cell? ⟨w.heap.size, 2, none⟩ = some (.int .u64 (p2 : Int)) ∧ w'.cell? ⟨w.heap.size, 3, none⟩ = some (.int .u64 (p3 : Int))) ∧ (w'.cell? ⟨w.heap.size + 1, 0, none⟩ = some (.int .u64 (q0 : Int)) ∧ w'.cell? ⟨w.heap.size + 1, 1, none⟩ = some (.int .u64 (q1 : Int)) ∧ w'.cell? ⟨w.heap.size + 1, 2, none⟩ = some (.int .u64 (q2 : Int)) ∧ w'.cell? ⟨w.heap.size + 1, 3, none⟩ = some (.int .u64 (q3 : Int))) ∧ Below w.heap.size w w')
    (first | exact ⟨⟨k0, k1, k2, k3⟩, ⟨m0, m1, m2, m3⟩, hB.drew⟩ | assumption | exact keep2C (by assumption) (by assumption))
    (first | (go_at_call 11; (with_reducible refine (HHAS.out _).mono ?_); rintro e w' ⟨rfl, hb'⟩) | (go_at_call 12; (with_reducible refine (HRHAS.out _).mono ?_); rintro e w' ⟨rfl, hb'⟩) | (go_at_call 13; (with_reducible refine (HOR.out _).mono ?_); rintro e w' ⟨rfl, hb'⟩) | (go_at_call 14; (with_reducible refine (HROR.out _).mono ?_); rintro e w' ⟨rfl, hb'⟩) | (go_at_call 15; (with_reducible refine (HAND.out _).mono ?_); rintro e w' ⟨rfl, hb'⟩) | (go_at_call 16; (with_reducible refine (HRAND.out _).mono ?_); rintro e w' ⟨rfl, hb'⟩) | (go_at_call 17; (with_reducible refine (HNOT.out _).mono ?_); rintro e w' ⟨rfl, hb'⟩) | (go_at_call 18; (with_reducible refine (HRNOT.out _).mono ?_); rintro e w' ⟨rfl, hb'⟩) | (go_at_call 19; (with_reducible refine (HSZ.out _).mono ?_); rintro e w' ⟨rfl, hb'⟩) | (go_at_call 20; (with_reducible refine (HRSZ.out _).mono ?_); rintro e w' ⟨rfl, hb'⟩))
  rename_i hS
  clear q1' q2' q3' hgu k0 k1 k2 k3 m0 m1 m2 m3 hB
  have hfin := hS.2.2
  clear hS
  go_wp2_with fail
  go_ret
  exact ⟨rfl, hfin⟩
end Go.Proofs.Ytcdoliinemafaaa

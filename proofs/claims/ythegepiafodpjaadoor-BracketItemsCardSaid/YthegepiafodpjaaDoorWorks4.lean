/-
  galleylaw04.works: a bracket is read, and one is written.
-/
import Derived.Test.YthegepiafodpjaaDoorBrX
import Derived.Test.YthegepiafodpjaaDoorSigns4
import Derived.Test.YthegepiafodpjaaDoorEqMarks
import Derived.Test.YthegepiafodpjaaDoorEqC
namespace Go.Proofs.YthegepiafodpjaaDoor
open Go.RowKit

def wmk4 : List Mk := [(120, false), (91, false), (94, false), (98, false), (45, false), (122, false), (93, false), (121, false)]
theorem parse_w4 : parseB wmk4 1 = ([18446744073709551615, 17870283338585997311, 18446744073709551615, 18446744073709551615], 7, 0) := by decide +kernel
theorem print_w4 : printI [0, 8589934592, 0, 0] = [91, 97, 93] := by decide +kernel
theorem isM_sg (l : List Int) (h : l.all (fun x => decide (0 ≤ x ∧ x ≤ 255)) = true) : IsM (sg l) := by
  intro i
  unfold sg
  rw [List.getElem?_map]
  by_cases hi : i < l.length
  · rw [List.all_eq_true] at h
    have := h l[i] (List.getElem_mem hi)
    rw [List.getElem?_eq_getElem hi]
    simpa using this
  · rw [List.getElem?_eq_none (by omega)]
    exact ⟨by decide, by decide⟩
/-- The tables of layer 4. -/
structure W4 (w : World) : Prop where
  br : BrW w
  od : OddW w
theorem W4.below {w w' : World} (h : W4 w) (hb : Below w.heap.size w w') : W4 w' := ⟨h.br.below hb, h.od.below hb⟩

set_option maxHeartbeats 2000000 in
set_option maxRecDepth 100000 in
theorem works4_any (w : World) (hw : W4 w) : Calls Tryd.prog 8 #[] w fun e w' => e = .returned (.bool true) ∧ Below w.heap.size w w' := by
  have HW := Lib.hid hw
  clear hw
  go_enter Tryd.func8, Tryd.ntmps8
  go_wp2_with fail
  refine (signs_any w ⟨#[120, 91, 94, 98, 45, 122, 93, 121]⟩ (by decide)).mono ?_
  rintro e w1 ⟨v1, rfl, o1, b1⟩
  have o1 : OwnM w1 w.heap.size v1 wmk4 := o1
  have s1 := o1.sm (show IsM wmk4 from fun i => by
    match i with
    | 0 | 1 | 2 | 3 | 4 | 5 | 6 | 7 => simp [wmk4]
    | i + 8 => simp [wmk4]) (by decide)
  obtain ⟨a1, c1, rfl, -⟩ := o1.shape
  have S1 := Lib.hid s1
  have B1 := Lib.hid b1
  clear o1 s1 b1
  rw [show wmk4.length = 8 from rfl] at S1 ⊢
  go_wp2_with fail
  refine (parse_any w1 (HW.out.br.below B1.out) a1 8 c1 1 wmk4 S1.out).mono ?_
  rintro e w2 ⟨he, b2⟩
  rw [parse_w4] at he
  have he : e = .returned (.tuple #[.agg #[.int .u64 18446744073709551615, .int .u64 17870283338585997311, .int .u64 18446744073709551615, .int .u64 18446744073709551615], .int .i64 7, .int .i64 0]) := he
  subst he
  have B2 := Lib.hid (B1.out.trans (b2.mono B1.out.size))
  clear b2 B1 S1
  go_upto_region 3 with fail
  have n3 := heap_alloc_new w2 (.cells #[.int .u64 18446744073709551615, .int .u64 17870283338585997311, .int .u64 18446744073709551615, .int .u64 18446744073709551615] 28)
  have b3 := B2.out.trans ((box1 w2 (.cells #[.int .u64 18446744073709551615, .int .u64 17870283338585997311, .int .u64 18446744073709551615, .int .u64 18446744073709551615] 28)).mono B2.out.size)
  generalize w2.heap.size = g at n3 ⊢
  generalize w2.alloc (.cells #[.int .u64 18446744073709551615, .int .u64 17870283338585997311, .int .u64 18446744073709551615, .int .u64 18446744073709551615] 28) = w3 at n3 b3 ⊢
  clear B2
  refine (print_any w3 (HW.out.below b3).od [0, 8589934592, 0, 0] (by refine ⟨rfl, fun i => ?_⟩; match i with | 0 | 1 | 2 | 3 => simp | i + 4 => simp)).mono ?_
  rintro e w4 ⟨v4, rfl, o4, b4⟩
  rw [print_w4] at o4
  have n4 := heap_b b4 n3
  have B4 := Lib.hid (b3.trans (b4.mono b3.size))
  have O4 := Lib.hid o4
  obtain ⟨a4, c4, rfl, -⟩ := o4.shape
  have e0 : w4.cell? ⟨g, 0, none⟩ = some (.int .u64 18446744073709551615) := by rw [cell_of_row _ _ _ _ _ (0, 0) n4]; rfl
  have e1 : w4.cell? ⟨g, 1, none⟩ = some (.int .u64 17870283338585997311) := by rw [cell_of_row _ _ _ _ _ (0, 0) n4]; rfl
  have e2 : w4.cell? ⟨g, 2, none⟩ = some (.int .u64 18446744073709551615) := by rw [cell_of_row _ _ _ _ _ (0, 0) n4]; rfl
  have e3 : w4.cell? ⟨g, 3, none⟩ = some (.int .u64 18446744073709551615) := by rw [cell_of_row _ _ _ _ _ (0, 0) n4]; rfl
  clear o4 b4 b3 n3 n4
  rw [show (sg [91, 97, 93]).length = 3 from rfl] at O4 ⊢
  have hE : ∀ w, Sem.run Tryd.prog (Op.equalIn 10000 28 (.agg #[.int .u64 18446744073709551615, .int .u64 17870283338585997311, .int .u64 18446744073709551615, .int .u64 18446744073709551615]) (.agg #[.int .u64 18446744073709551615, .int .u64 17870283338585997311, .int .u64 18446744073709551615, .int .u64 18446744073709551615])) w = .ok true w := fun w => by kernel_rfl
  go_wp2_with fail
  refine (signs_any w4 ⟨#[91, 97, 93]⟩ (by decide)).mono ?_
  rintro e w5 ⟨v5, rfl, o5, b5⟩
  have o5 : OwnM w5 w4.heap.size v5 (sg [91, 97, 93]) := o5
  have s5 := o5.sm (isM_sg _ (by decide)) (by decide)
  have s4 := (O4.out.below b5).sm (isM_sg _ (by decide)) (by decide)
  have B5 := Lib.hid (B4.out.trans (b5.mono B4.out.size))
  have S4 := Lib.hid s4
  have S5 := Lib.hid s5
  clear e0 e1 e2 e3 hE o5 s5 s4 b5 O4 B4
  go_wp2_with fail
  refine (eqMarks_any w5 _ _ _ _ S4.out S5.out).mono ?_
  rintro e w6 ⟨rfl, n, rfl⟩
  rw [show decide (sg [91, 97, 93] = sg [91, 97, 93]) = true from decide_eq_true rfl]
  go_wp2_with fail
  go_ret
  exact ⟨rfl, below_drewN B5.out n⟩
end Go.Proofs.YthegepiafodpjaaDoor

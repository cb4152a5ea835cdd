/-
  galleyref02.Word; QuoteWords: the walk.
-/
import Derived.Test.YtboikhalfffioaaDoorUl
namespace Go.Proofs.YtboikhalfffioaaDoor
open Go.RowKit

theorem words_keys (e : Int) (h : e ≠ 0 ∧ e ≠ 1 ∧ e ≠ 2 ∧ e ≠ 20 ∧ e ≠ 21 ∧ e ≠ 22 ∧ e ≠ 23 ∧ e ≠ 24 ∧ e ≠ 30 ∧ e ≠ 31 ∧ e ≠ 32 ∧ e ≠ 40 ∧ e ≠ 41 ∧ e ≠ 42 ∧ e ≠ 43 ∧ e ≠ 44 ∧ e ≠ 45 ∧ e ≠ 46 ∧ e ≠ 47 ∧ e ≠ 48 ∧ e ≠ 49 ∧ e ≠ 50 ∧ e ≠ 51 ∧ e ≠ 52 ∧ e ≠ 60 ∧ e ≠ 61 ∧ e ≠ 62 ∧ e ≠ 70 ∧ e ≠ 71 ∧ e ≠ 72 ∧ e ≠ 73 ∧ e ≠ 74 ∧ e ≠ 75 ∧ e ≠ 76 ∧ e ≠ 77 ∧ e ≠ 78 ∧ e ≠ 80 ∧ e ≠ 81 ∧ e ≠ 90 ∧ e ≠ 91 ∧ e ≠ 100) : wordB e = ⟨#[101, 114, 114, 111, 114, 32]⟩ ++ ⟨(Lib.itoa e).toArray⟩ := by
  unfold wordB
  rw [find_none wordsL e (fun j p hp => ?_)]
  intro he
  have hm := List.mem_of_getElem? hp
  simp only [wordsL, List.mem_cons, List.not_mem_nil, or_false] at hm
  rcases hm with rfl | rfl | rfl | rfl | rfl | rfl | rfl | rfl | rfl | rfl | rfl | rfl | rfl | rfl | rfl | rfl | rfl | rfl | rfl | rfl | rfl | rfl | rfl | rfl | rfl | rfl | rfl | rfl | rfl | rfl | rfl | rfl | rfl | rfl | rfl | rfl | rfl | rfl | rfl | rfl | rfl <;> simp at he <;> omega
set_option maxRecDepth 100000 in
theorem refw_0 (w : World) : Calls Tryd.prog 17 #[.int .i64 0] w (fun e' w' => e' = .returned (.string (wordB 0)) ∧ Below w.heap.size w w') := by
  go_enter Tryd.func17, Tryd.ntmps17
  go_wp2
  go_ret
  exact ⟨by rw [show wordB 0 = ⟨#[110, 111, 32, 101, 114, 114, 111, 114]⟩ by decide +kernel]; rfl, Below.refl _ _⟩
set_option maxRecDepth 100000 in
theorem refw_1 (w : World) : Calls Tryd.prog 17 #[.int .i64 1] w (fun e' w' => e' = .returned (.string (wordB 1)) ∧ Below w.heap.size w w') := by
  go_enter Tryd.func17, Tryd.ntmps17
  go_wp2
  go_ret
  exact ⟨by rw [show wordB 1 = ⟨#[98, 97, 100, 32, 97, 114, 103, 117, 109, 101, 110, 116]⟩ by decide +kernel]; rfl, Below.refl _ _⟩
set_option maxRecDepth 100000 in
theorem refw_2 (w : World) : Calls Tryd.prog 17 #[.int .i64 2] w (fun e' w' => e' = .returned (.string (wordB 2)) ∧ Below w.heap.size w w') := by
  go_enter Tryd.func17, Tryd.ntmps17
  go_wp2
  go_ret
  exact ⟨by rw [show wordB 2 = ⟨#[116, 111, 111, 32, 108, 111, 110, 103]⟩ by decide +kernel]; rfl, Below.refl _ _⟩
set_option maxRecDepth 100000 in
theorem refw_20 (w : World) : Calls Tryd.prog 17 #[.int .i64 20] w (fun e' w' => e' = .returned (.string (wordB 20)) ∧ Below w.heap.size w w') := by
  go_enter Tryd.func17, Tryd.ntmps17
  go_wp2
  go_ret
  exact ⟨by rw [show wordB 20 = ⟨#[98, 97, 100, 32, 110, 97, 109, 101]⟩ by decide +kernel]; rfl, Below.refl _ _⟩
set_option maxRecDepth 100000 in
theorem refw_21 (w : World) : Calls Tryd.prog 17 #[.int .i64 21] w (fun e' w' => e' = .returned (.string (wordB 21)) ∧ Below w.heap.size w w') := by
  go_enter Tryd.func17, Tryd.ntmps17
  go_wp2
  go_ret
  exact ⟨by rw [show wordB 21 = ⟨#[110, 111, 32, 115, 117, 99, 104, 32, 102, 105, 108, 101]⟩ by decide +kernel]; rfl, Below.refl _ _⟩
set_option maxRecDepth 100000 in
theorem refw_22 (w : World) : Calls Tryd.prog 17 #[.int .i64 22] w (fun e' w' => e' = .returned (.string (wordB 22)) ∧ Below w.heap.size w w') := by
  go_enter Tryd.func17, Tryd.ntmps17
  go_wp2
  go_ret
  exact ⟨by rw [show wordB 22 = ⟨#[110, 111, 32, 114, 111, 111, 109]⟩ by decide +kernel]; rfl, Below.refl _ _⟩
set_option maxRecDepth 100000 in
theorem refw_23 (w : World) : Calls Tryd.prog 17 #[.int .i64 23] w (fun e' w' => e' = .returned (.string (wordB 23)) ∧ Below w.heap.size w w') := by
  go_enter Tryd.func17, Tryd.ntmps17
  go_wp2
  go_ret
  exact ⟨by rw [show wordB 23 = ⟨#[105, 110, 112, 117, 116, 32, 111, 114, 32, 111, 117, 116, 112, 117, 116, 32, 102, 97, 105, 108, 101, 100]⟩ by decide +kernel]; rfl, Below.refl _ _⟩
set_option maxRecDepth 100000 in
theorem refw_24 (w : World) : Calls Tryd.prog 17 #[.int .i64 24] w (fun e' w' => e' = .returned (.string (wordB 24)) ∧ Below w.heap.size w w') := by
  go_enter Tryd.func17, Tryd.ntmps17
  go_wp2
  go_ret
  exact ⟨by rw [show wordB 24 = ⟨#[116, 104, 101, 32, 112, 111, 119, 101, 114, 32, 105, 115, 32, 103, 111, 110, 101]⟩ by decide +kernel]; rfl, Below.refl _ _⟩
set_option maxRecDepth 100000 in
theorem refw_30 (w : World) : Calls Tryd.prog 17 #[.int .i64 30] w (fun e' w' => e' = .returned (.string (wordB 30)) ∧ Below w.heap.size w w') := by
  go_enter Tryd.func17, Tryd.ntmps17
  go_wp2
  go_ret
  exact ⟨by rw [show wordB 30 = ⟨#[98, 97, 100, 32, 114, 97, 110, 103, 101]⟩ by decide +kernel]; rfl, Below.refl _ _⟩
set_option maxRecDepth 100000 in
theorem refw_31 (w : World) : Calls Tryd.prog 17 #[.int .i64 31] w (fun e' w' => e' = .returned (.string (wordB 31)) ∧ Below w.heap.size w w') := by
  go_enter Tryd.func17, Tryd.ntmps17
  go_wp2
  go_ret
  exact ⟨by rw [show wordB 31 = ⟨#[110, 111, 32, 115, 117, 99, 104, 32, 99, 108, 97, 115, 115]⟩ by decide +kernel]; rfl, Below.refl _ _⟩
set_option maxRecDepth 100000 in
theorem refw_32 (w : World) : Calls Tryd.prog 17 #[.int .i64 32] w (fun e' w' => e' = .returned (.string (wordB 32)) ∧ Below w.heap.size w w') := by
  go_enter Tryd.func17, Tryd.ntmps17
  go_wp2
  go_ret
  exact ⟨by rw [show wordB 32 = ⟨#[98, 114, 97, 99, 107, 101, 116, 32, 110, 111, 116, 32, 99, 108, 111, 115, 101, 100]⟩ by decide +kernel]; rfl, Below.refl _ _⟩
set_option maxRecDepth 100000 in
theorem refw_40 (w : World) : Calls Tryd.prog 17 #[.int .i64 40] w (fun e' w' => e' = .returned (.string (wordB 40)) ∧ Below w.heap.size w w') := by
  go_enter Tryd.func17, Tryd.ntmps17
  go_wp2
  go_ret
  exact ⟨by rw [show wordB 40 = ⟨#[98, 97, 100, 32, 101, 115, 99, 97, 112, 101]⟩ by decide +kernel]; rfl, Below.refl _ _⟩
set_option maxRecDepth 100000 in
theorem refw_41 (w : World) : Calls Tryd.prog 17 #[.int .i64 41] w (fun e' w' => e' = .returned (.string (wordB 41)) ∧ Below w.heap.size w w') := by
  go_enter Tryd.func17, Tryd.ntmps17
  go_wp2
  go_ret
  exact ⟨by rw [show wordB 41 = ⟨#[117, 110, 112, 97, 105, 114, 101, 100, 32, 112, 97, 114, 101, 110, 116, 104, 101, 115, 105, 115]⟩ by decide +kernel]; rfl, Below.refl _ _⟩
set_option maxRecDepth 100000 in
theorem refw_42 (w : World) : Calls Tryd.prog 17 #[.int .i64 42] w (fun e' w' => e' = .returned (.string (wordB 42)) ∧ Below w.heap.size w w') := by
  go_enter Tryd.func17, Tryd.ntmps17
  go_wp2
  go_ret
  exact ⟨by rw [show wordB 42 = ⟨#[110, 111, 116, 104, 105, 110, 103, 32, 116, 111, 32, 114, 101, 112, 101, 97, 116]⟩ by decide +kernel]; rfl, Below.refl _ _⟩
set_option maxRecDepth 100000 in
theorem refw_43 (w : World) : Calls Tryd.prog 17 #[.int .i64 43] w (fun e' w' => e' = .returned (.string (wordB 43)) ∧ Below w.heap.size w w') := by
  go_enter Tryd.func17, Tryd.ntmps17
  go_wp2
  go_ret
  exact ⟨by rw [show wordB 43 = ⟨#[98, 97, 100, 32, 99, 111, 117, 110, 116]⟩ by decide +kernel]; rfl, Below.refl _ _⟩
set_option maxRecDepth 100000 in
theorem refw_44 (w : World) : Calls Tryd.prog 17 #[.int .i64 44] w (fun e' w' => e' = .returned (.string (wordB 44)) ∧ Below w.heap.size w w') := by
  go_enter Tryd.func17, Tryd.ntmps17
  go_wp2
  go_ret
  exact ⟨by rw [show wordB 44 = ⟨#[110, 111, 32, 115, 117, 99, 104, 32, 103, 114, 111, 117, 112]⟩ by decide +kernel]; rfl, Below.refl _ _⟩
set_option maxRecDepth 100000 in
theorem refw_45 (w : World) : Calls Tryd.prog 17 #[.int .i64 45] w (fun e' w' => e' = .returned (.string (wordB 45)) ∧ Below w.heap.size w w') := by
  go_enter Tryd.func17, Tryd.ntmps17
  go_wp2
  go_ret
  exact ⟨by rw [show wordB 45 = ⟨#[101, 109, 112, 116, 121, 32, 114, 101, 103, 101, 120]⟩ by decide +kernel]; rfl, Below.refl _ _⟩
set_option maxRecDepth 100000 in
theorem refw_46 (w : World) : Calls Tryd.prog 17 #[.int .i64 46] w (fun e' w' => e' = .returned (.string (wordB 46)) ∧ Below w.heap.size w w') := by
  go_enter Tryd.func17, Tryd.ntmps17
  go_wp2
  go_ret
  exact ⟨by rw [show wordB 46 = ⟨#[110, 101, 115, 116, 101, 100, 32, 116, 111, 111, 32, 100, 101, 101, 112]⟩ by decide +kernel]; rfl, Below.refl _ _⟩
set_option maxRecDepth 100000 in
theorem refw_47 (w : World) : Calls Tryd.prog 17 #[.int .i64 47] w (fun e' w' => e' = .returned (.string (wordB 47)) ∧ Below w.heap.size w w') := by
  go_enter Tryd.func17, Tryd.ntmps17
  go_wp2
  go_ret
  exact ⟨by rw [show wordB 47 = ⟨#[116, 111, 111, 32, 109, 97, 110, 121, 32, 103, 114, 111, 117, 112, 115]⟩ by decide +kernel]; rfl, Below.refl _ _⟩
set_option maxRecDepth 100000 in
theorem refw_48 (w : World) : Calls Tryd.prog 17 #[.int .i64 48] w (fun e' w' => e' = .returned (.string (wordB 48)) ∧ Below w.heap.size w w') := by
  go_enter Tryd.func17, Tryd.ntmps17
  go_wp2
  go_ret
  exact ⟨by rw [show wordB 48 = ⟨#[116, 111, 111, 32, 104, 101, 97, 118, 121]⟩ by decide +kernel]; rfl, Below.refl _ _⟩
set_option maxRecDepth 100000 in
theorem refw_49 (w : World) : Calls Tryd.prog 17 #[.int .i64 49] w (fun e' w' => e' = .returned (.string (wordB 49)) ∧ Below w.heap.size w w') := by
  go_enter Tryd.func17, Tryd.ntmps17
  go_wp2
  go_ret
  exact ⟨by rw [show wordB 49 = ⟨#[110, 111, 32, 114, 101, 103, 101, 120]⟩ by decide +kernel]; rfl, Below.refl _ _⟩
set_option maxRecDepth 100000 in
theorem refw_50 (w : World) : Calls Tryd.prog 17 #[.int .i64 50] w (fun e' w' => e' = .returned (.string (wordB 50)) ∧ Below w.heap.size w w') := by
  go_enter Tryd.func17, Tryd.ntmps17
  go_wp2
  go_ret
  exact ⟨by rw [show wordB 50 = ⟨#[99, 97, 110, 110, 111, 116, 32, 98, 101, 32, 115, 112, 101, 108, 108, 101, 100]⟩ by decide +kernel]; rfl, Below.refl _ _⟩
set_option maxRecDepth 100000 in
theorem refw_51 (w : World) : Calls Tryd.prog 17 #[.int .i64 51] w (fun e' w' => e' = .returned (.string (wordB 51)) ∧ Below w.heap.size w w') := by
  go_enter Tryd.func17, Tryd.ntmps17
  go_wp2
  go_ret
  exact ⟨by rw [show wordB 51 = ⟨#[116, 111, 111, 32, 109, 97, 110, 121, 32, 115, 116, 97, 116, 101, 115]⟩ by decide +kernel]; rfl, Below.refl _ _⟩
set_option maxRecDepth 100000 in
theorem refw_52 (w : World) : Calls Tryd.prog 17 #[.int .i64 52] w (fun e' w' => e' = .returned (.string (wordB 52)) ∧ Below w.heap.size w w') := by
  go_enter Tryd.func17, Tryd.ntmps17
  go_wp2
  go_ret
  exact ⟨by rw [show wordB 52 = ⟨#[102, 117, 101, 108, 32, 105, 115, 32, 103, 111, 110, 101]⟩ by decide +kernel]; rfl, Below.refl _ _⟩
set_option maxRecDepth 100000 in
theorem refw_60 (w : World) : Calls Tryd.prog 17 #[.int .i64 60] w (fun e' w' => e' = .returned (.string (wordB 60)) ∧ Below w.heap.size w w') := by
  go_enter Tryd.func17, Tryd.ntmps17
  go_wp2
  go_ret
  exact ⟨by rw [show wordB 60 = ⟨#[98, 97, 100, 32, 116, 97, 98, 108, 101]⟩ by decide +kernel]; rfl, Below.refl _ _⟩
set_option maxRecDepth 100000 in
theorem refw_61 (w : World) : Calls Tryd.prog 17 #[.int .i64 61] w (fun e' w' => e' = .returned (.string (wordB 61)) ∧ Below w.heap.size w w') := by
  go_enter Tryd.func17, Tryd.ntmps17
  go_wp2
  go_ret
  exact ⟨by rw [show wordB 61 = ⟨#[98, 97, 100, 32, 114, 101, 112, 108, 97, 99, 101, 109, 101, 110, 116]⟩ by decide +kernel]; rfl, Below.refl _ _⟩
set_option maxRecDepth 100000 in
theorem refw_62 (w : World) : Calls Tryd.prog 17 #[.int .i64 62] w (fun e' w' => e' = .returned (.string (wordB 62)) ∧ Below w.heap.size w w') := by
  go_enter Tryd.func17, Tryd.ntmps17
  go_wp2
  go_ret
  exact ⟨by rw [show wordB 62 = ⟨#[115, 112, 97, 99, 101, 32, 105, 115, 32, 102, 117, 108, 108]⟩ by decide +kernel]; rfl, Below.refl _ _⟩
set_option maxRecDepth 100000 in
theorem refw_70 (w : World) : Calls Tryd.prog 17 #[.int .i64 70] w (fun e' w' => e' = .returned (.string (wordB 70)) ∧ Below w.heap.size w w') := by
  go_enter Tryd.func17, Tryd.ntmps17
  go_wp2
  go_ret
  exact ⟨by rw [show wordB 70 = ⟨#[110, 111, 116, 32, 99, 108, 111, 115, 101, 100]⟩ by decide +kernel]; rfl, Below.refl _ _⟩
set_option maxRecDepth 100000 in
theorem refw_71 (w : World) : Calls Tryd.prog 17 #[.int .i64 71] w (fun e' w' => e' = .returned (.string (wordB 71)) ∧ Below w.heap.size w w') := by
  go_enter Tryd.func17, Tryd.ntmps17
  go_wp2
  go_ret
  exact ⟨by rw [show wordB 71 = ⟨#[98, 97, 100, 32, 97, 100, 100, 114, 101, 115, 115]⟩ by decide +kernel]; rfl, Below.refl _ _⟩
set_option maxRecDepth 100000 in
theorem refw_72 (w : World) : Calls Tryd.prog 17 #[.int .i64 72] w (fun e' w' => e' = .returned (.string (wordB 72)) ∧ Below w.heap.size w w') := by
  go_enter Tryd.func17, Tryd.ntmps17
  go_wp2
  go_ret
  exact ⟨by rw [show wordB 72 = ⟨#[98, 97, 100, 32, 99, 111, 109, 109, 97, 110, 100]⟩ by decide +kernel]; rfl, Below.refl _ _⟩
set_option maxRecDepth 100000 in
theorem refw_73 (w : World) : Calls Tryd.prog 17 #[.int .i64 73] w (fun e' w' => e' = .returned (.string (wordB 73)) ∧ Below w.heap.size w w') := by
  go_enter Tryd.func17, Tryd.ntmps17
  go_wp2
  go_ret
  exact ⟨by rw [show wordB 73 = ⟨#[110, 111, 32, 116, 101, 120, 116]⟩ by decide +kernel]; rfl, Below.refl _ _⟩
set_option maxRecDepth 100000 in
theorem refw_74 (w : World) : Calls Tryd.prog 17 #[.int .i64 74] w (fun e' w' => e' = .returned (.string (wordB 74)) ∧ Below w.heap.size w w') := by
  go_enter Tryd.func17, Tryd.ntmps17
  go_wp2
  go_ret
  exact ⟨by rw [show wordB 74 = ⟨#[98, 97, 100, 32, 102, 108, 97, 103]⟩ by decide +kernel]; rfl, Below.refl _ _⟩
set_option maxRecDepth 100000 in
theorem refw_75 (w : World) : Calls Tryd.prog 17 #[.int .i64 75] w (fun e' w' => e' = .returned (.string (wordB 75)) ∧ Below w.heap.size w w') := by
  go_enter Tryd.func17, Tryd.ntmps17
  go_wp2
  go_ret
  exact ⟨by rw [show wordB 75 = ⟨#[98, 97, 100, 32, 108, 97, 98, 101, 108]⟩ by decide +kernel]; rfl, Below.refl _ _⟩
set_option maxRecDepth 100000 in
theorem refw_76 (w : World) : Calls Tryd.prog 17 #[.int .i64 76] w (fun e' w' => e' = .returned (.string (wordB 76)) ∧ Below w.heap.size w w') := by
  go_enter Tryd.func17, Tryd.ntmps17
  go_wp2
  go_ret
  exact ⟨by rw [show wordB 76 = ⟨#[117, 110, 112, 97, 105, 114, 101, 100, 32, 98, 114, 97, 99, 101]⟩ by decide +kernel]; rfl, Below.refl _ _⟩
set_option maxRecDepth 100000 in
theorem refw_77 (w : World) : Calls Tryd.prog 17 #[.int .i64 77] w (fun e' w' => e' = .returned (.string (wordB 77)) ∧ Below w.heap.size w w') := by
  go_enter Tryd.func17, Tryd.ntmps17
  go_wp2
  go_ret
  exact ⟨by rw [show wordB 77 = ⟨#[98, 97, 100, 32, 102, 105, 108, 101]⟩ by decide +kernel]; rfl, Below.refl _ _⟩
set_option maxRecDepth 100000 in
theorem refw_78 (w : World) : Calls Tryd.prog 17 #[.int .i64 78] w (fun e' w' => e' = .returned (.string (wordB 78)) ∧ Below w.heap.size w w') := by
  go_enter Tryd.func17, Tryd.ntmps17
  go_wp2
  go_ret
  exact ⟨by rw [show wordB 78 = ⟨#[109, 111, 114, 101, 32, 116, 104, 97, 110, 32, 97, 32, 99, 111, 109, 109, 97, 110, 100]⟩ by decide +kernel]; rfl, Below.refl _ _⟩
set_option maxRecDepth 100000 in
theorem refw_80 (w : World) : Calls Tryd.prog 17 #[.int .i64 80] w (fun e' w' => e' = .returned (.string (wordB 80)) ∧ Below w.heap.size w w') := by
  go_enter Tryd.func17, Tryd.ntmps17
  go_wp2
  go_ret
  exact ⟨by rw [show wordB 80 = ⟨#[115, 116, 101, 112, 115, 32, 97, 114, 101, 32, 103, 111, 110, 101]⟩ by decide +kernel]; rfl, Below.refl _ _⟩
set_option maxRecDepth 100000 in
theorem refw_81 (w : World) : Calls Tryd.prog 17 #[.int .i64 81] w (fun e' w' => e' = .returned (.string (wordB 81)) ∧ Below w.heap.size w w') := by
  go_enter Tryd.func17, Tryd.ntmps17
  go_wp2
  go_ret
  exact ⟨by rw [show wordB 81 = ⟨#[99, 97, 110, 110, 111, 116, 32, 119, 114, 105, 116, 101]⟩ by decide +kernel]; rfl, Below.refl _ _⟩
set_option maxRecDepth 100000 in
theorem refw_90 (w : World) : Calls Tryd.prog 17 #[.int .i64 90] w (fun e' w' => e' = .returned (.string (wordB 90)) ∧ Below w.heap.size w w') := by
  go_enter Tryd.func17, Tryd.ntmps17
  go_wp2
  go_ret
  exact ⟨by rw [show wordB 90 = ⟨#[98, 97, 100, 32, 111, 112, 116, 105, 111, 110]⟩ by decide +kernel]; rfl, Below.refl _ _⟩
set_option maxRecDepth 100000 in
theorem refw_91 (w : World) : Calls Tryd.prog 17 #[.int .i64 91] w (fun e' w' => e' = .returned (.string (wordB 91)) ∧ Below w.heap.size w w') := by
  go_enter Tryd.func17, Tryd.ntmps17
  go_wp2
  go_ret
  exact ⟨by rw [show wordB 91 = ⟨#[98, 97, 100, 32, 117, 115, 101]⟩ by decide +kernel]; rfl, Below.refl _ _⟩
set_option maxRecDepth 100000 in
theorem refw_100 (w : World) : Calls Tryd.prog 17 #[.int .i64 100] w (fun e' w' => e' = .returned (.string (wordB 100)) ∧ Below w.heap.size w w') := by
  go_enter Tryd.func17, Tryd.ntmps17
  go_wp2
  go_ret
  exact ⟨by rw [show wordB 100 = ⟨#[98, 97, 100, 32, 108, 105, 110, 101]⟩ by decide +kernel]; rfl, Below.refl _ _⟩
set_option maxHeartbeats 1000000 in
set_option maxRecDepth 100000 in
theorem refw_else (w : World) (hw : WdW w) (e : Int) (h0 : -9223372036854775808 ≤ e) (h1 : e ≤ 9223372036854775807) (h : e ≠ 0 ∧ e ≠ 1 ∧ e ≠ 2 ∧ e ≠ 20 ∧ e ≠ 21 ∧ e ≠ 22 ∧ e ≠ 23 ∧ e ≠ 24 ∧ e ≠ 30 ∧ e ≠ 31 ∧ e ≠ 32 ∧ e ≠ 40 ∧ e ≠ 41 ∧ e ≠ 42 ∧ e ≠ 43 ∧ e ≠ 44 ∧ e ≠ 45 ∧ e ≠ 46 ∧ e ≠ 47 ∧ e ≠ 48 ∧ e ≠ 49 ∧ e ≠ 50 ∧ e ≠ 51 ∧ e ≠ 52 ∧ e ≠ 60 ∧ e ≠ 61 ∧ e ≠ 62 ∧ e ≠ 70 ∧ e ≠ 71 ∧ e ≠ 72 ∧ e ≠ 73 ∧ e ≠ 74 ∧ e ≠ 75 ∧ e ≠ 76 ∧ e ≠ 77 ∧ e ≠ 78 ∧ e ≠ 80 ∧ e ≠ 81 ∧ e ≠ 90 ∧ e ≠ 91 ∧ e ≠ 100) : Calls Tryd.prog 17 #[.int .i64 e] w (fun e' w' => e' = .returned (.string (wordB e)) ∧ Below w.heap.size w w') := by
  have HEQ := Lib.hid (words_keys e h)
  have HIT := Lib.hid (itoa_any w hw e h0 h1)
  have hts := itoa_size e h0 h1
  obtain ⟨t, ht⟩ : ∃ t : ByteArray, ⟨(Lib.itoa e).toArray⟩ = t := ⟨_, rfl⟩
  rw [ht] at HEQ HIT hts
  have hs1 : ¬ 9223372036854775807 < 6 + t.size := by omega
  have k0 : (e == 0) = false := beq_eq_false_iff_ne.2 (by omega)
  have k1 : (e == 1) = false := beq_eq_false_iff_ne.2 (by omega)
  have k2 : (e == 2) = false := beq_eq_false_iff_ne.2 (by omega)
  have k20 : (e == 20) = false := beq_eq_false_iff_ne.2 (by omega)
  have k21 : (e == 21) = false := beq_eq_false_iff_ne.2 (by omega)
  have k22 : (e == 22) = false := beq_eq_false_iff_ne.2 (by omega)
  have k23 : (e == 23) = false := beq_eq_false_iff_ne.2 (by omega)
  have k24 : (e == 24) = false := beq_eq_false_iff_ne.2 (by omega)
  have k30 : (e == 30) = false := beq_eq_false_iff_ne.2 (by omega)
  have k31 : (e == 31) = false := beq_eq_false_iff_ne.2 (by omega)
  have k32 : (e == 32) = false := beq_eq_false_iff_ne.2 (by omega)
  have k40 : (e == 40) = false := beq_eq_false_iff_ne.2 (by omega)
  have k41 : (e == 41) = false := beq_eq_false_iff_ne.2 (by omega)
  have k42 : (e == 42) = false := beq_eq_false_iff_ne.2 (by omega)
  have k43 : (e == 43) = false := beq_eq_false_iff_ne.2 (by omega)
  have k44 : (e == 44) = false := beq_eq_false_iff_ne.2 (by omega)
  have k45 : (e == 45) = false := beq_eq_false_iff_ne.2 (by omega)
  have k46 : (e == 46) = false := beq_eq_false_iff_ne.2 (by omega)
  have k47 : (e == 47) = false := beq_eq_false_iff_ne.2 (by omega)
  have k48 : (e == 48) = false := beq_eq_false_iff_ne.2 (by omega)
  have k49 : (e == 49) = false := beq_eq_false_iff_ne.2 (by omega)
  have k50 : (e == 50) = false := beq_eq_false_iff_ne.2 (by omega)
  have k51 : (e == 51) = false := beq_eq_false_iff_ne.2 (by omega)
  have k52 : (e == 52) = false := beq_eq_false_iff_ne.2 (by omega)
  have k60 : (e == 60) = false := beq_eq_false_iff_ne.2 (by omega)
  have k61 : (e == 61) = false := beq_eq_false_iff_ne.2 (by omega)
  have k62 : (e == 62) = false := beq_eq_false_iff_ne.2 (by omega)
  have k70 : (e == 70) = false := beq_eq_false_iff_ne.2 (by omega)
  have k71 : (e == 71) = false := beq_eq_false_iff_ne.2 (by omega)
  have k72 : (e == 72) = false := beq_eq_false_iff_ne.2 (by omega)
  have k73 : (e == 73) = false := beq_eq_false_iff_ne.2 (by omega)
  have k74 : (e == 74) = false := beq_eq_false_iff_ne.2 (by omega)
  have k75 : (e == 75) = false := beq_eq_false_iff_ne.2 (by omega)
  have k76 : (e == 76) = false := beq_eq_false_iff_ne.2 (by omega)
  have k77 : (e == 77) = false := beq_eq_false_iff_ne.2 (by omega)
  have k78 : (e == 78) = false := beq_eq_false_iff_ne.2 (by omega)
  have k80 : (e == 80) = false := beq_eq_false_iff_ne.2 (by omega)
  have k81 : (e == 81) = false := beq_eq_false_iff_ne.2 (by omega)
  have k90 : (e == 90) = false := beq_eq_false_iff_ne.2 (by omega)
  have k91 : (e == 91) = false := beq_eq_false_iff_ne.2 (by omega)
  have k100 : (e == 100) = false := beq_eq_false_iff_ne.2 (by omega)
  clear h ht h0 h1 hw
  go_enter Tryd.func17, Tryd.ntmps17
  go_wp2_with (go_at_call 47; refine HIT.out.mono ?_)
  rintro r w1 ⟨rfl, b1⟩
  have HB1 := Lib.hid b1
  clear b1
  go_wp2_with fail
  go_ret
  exact ⟨by rw [HEQ.out]; rfl, HB1.out⟩
theorem refWord_any (w : World) (hw : WdW w) (e : Int) (h0 : -9223372036854775808 ≤ e) (h1 : e ≤ 9223372036854775807) : Calls Tryd.prog 17 #[.int .i64 e] w (fun e' w' => e' = .returned (.string (wordB e)) ∧ Below w.heap.size w w') := by
  by_cases k0 : e = 0
  · subst k0; exact refw_0 w
  by_cases k1 : e = 1
  · subst k1; exact refw_1 w
  by_cases k2 : e = 2
  · subst k2; exact refw_2 w
  by_cases k20 : e = 20
  · subst k20; exact refw_20 w
  by_cases k21 : e = 21
  · subst k21; exact refw_21 w
  by_cases k22 : e = 22
  · subst k22; exact refw_22 w
  by_cases k23 : e = 23
  · subst k23; exact refw_23 w
  by_cases k24 : e = 24
  · subst k24; exact refw_24 w
  by_cases k30 : e = 30
  · subst k30; exact refw_30 w
  by_cases k31 : e = 31
  · subst k31; exact refw_31 w
  by_cases k32 : e = 32
  · subst k32; exact refw_32 w
  by_cases k40 : e = 40
  · subst k40; exact refw_40 w
  by_cases k41 : e = 41
  · subst k41; exact refw_41 w
  by_cases k42 : e = 42
  · subst k42; exact refw_42 w
  by_cases k43 : e = 43
  · subst k43; exact refw_43 w
  by_cases k44 : e = 44
  · subst k44; exact refw_44 w
  by_cases k45 : e = 45
  · subst k45; exact refw_45 w
  by_cases k46 : e = 46
  · subst k46; exact refw_46 w
  by_cases k47 : e = 47
  · subst k47; exact refw_47 w
  by_cases k48 : e = 48
  · subst k48; exact refw_48 w
  by_cases k49 : e = 49
  · subst k49; exact refw_49 w
  by_cases k50 : e = 50
  · subst k50; exact refw_50 w
  by_cases k51 : e = 51
  · subst k51; exact refw_51 w
  by_cases k52 : e = 52
  · subst k52; exact refw_52 w
  by_cases k60 : e = 60
  · subst k60; exact refw_60 w
  by_cases k61 : e = 61
  · subst k61; exact refw_61 w
  by_cases k62 : e = 62
  · subst k62; exact refw_62 w
  by_cases k70 : e = 70
  · subst k70; exact refw_70 w
  by_cases k71 : e = 71
  · subst k71; exact refw_71 w
  by_cases k72 : e = 72
  · subst k72; exact refw_72 w
  by_cases k73 : e = 73
  · subst k73; exact refw_73 w
  by_cases k74 : e = 74
  · subst k74; exact refw_74 w
  by_cases k75 : e = 75
  · subst k75; exact refw_75 w
  by_cases k76 : e = 76
  · subst k76; exact refw_76 w
  by_cases k77 : e = 77
  · subst k77; exact refw_77 w
  by_cases k78 : e = 78
  · subst k78; exact refw_78 w
  by_cases k80 : e = 80
  · subst k80; exact refw_80 w
  by_cases k81 : e = 81
  · subst k81; exact refw_81 w
  by_cases k90 : e = 90
  · subst k90; exact refw_90 w
  by_cases k91 : e = 91
  · subst k91; exact refw_91 w
  by_cases k100 : e = 100
  · subst k100; exact refw_100 w
  exact refw_else w hw e h0 h1 ⟨k0, k1, k2, k20, k21, k22, k23, k24, k30, k31, k32, k40, k41, k42, k43, k44, k45, k46, k47, k48, k49, k50, k51, k52, k60, k61, k62, k70, k71, k72, k73, k74, k75, k76, k77, k78, k80, k81, k90, k91, k100⟩

set_option maxHeartbeats 1000000 in
set_option maxRecDepth 100000 in
theorem words_any (w : World) (hw : W2 w) (e : Int) : Calls Tryd.prog 4 #[.int .i64 e] w fun r w' => r = .returned (.bool true) ∧ Below w.heap.size w w' := by
  have HW := Lib.hid hw
  clear hw
  go_enter Tryd.func4, Tryd.ntmps4
  go_wp2_with fail
  go_loopw [3] (fun v wr => ∃ k : Int, -1 ≤ k ∧ k ≤ 2 ∧ v = .int .i64 k ∧ Below w.heap.size w wr) (fun v _ => (2 - intOf v).toNat)
  case atStart => exact ⟨-1, by omega, by omega, rfl, Below.refl _ _⟩
  case round =>
    obtain ⟨k, hk0, hk2, rfl, hb⟩ := hrel
    have HB := Lib.hid hb
    clear hb
    by_cases hk : k ≤ 1
    · have hd : decide (k ≤ 1) = true := decide_eq_true hk
      go_upto_region 5 with fail
      have hwb : -9223372036854775808 ≤ wrap64 (e + k) ∧ wrap64 (e + k) ≤ 9223372036854775807 := by unfold wrap64; omega
      generalize wrap64 (e + k) = n at hwb ⊢
      have HA := Lib.hid (word_any wr (HW.out.below HB.out).wd n hwb.1 hwb.2)
      have HR := Lib.hid (fun w1 (h : WdW w1) => refWord_any w1 h n hwb.1 hwb.2)
      clear hwb
      obtain ⟨x, hx⟩ : ∃ x, wordB n = x := ⟨_, rfl⟩
      rw [hx] at HA HR
      clear hx
      have e1 : (x.toList == x.toList) = true := beq_self_eq_true _
      go_wp2_with (go_at_call 16; refine HA.out.mono ?_)
      rintro r w1 ⟨rfl, b1⟩
      have HB1 := Lib.hid (HB.out.trans (b1.mono HB.out.size))
      clear b1 HA
      have HR := Lib.hid (HR.out w1 (HW.out.below HB1.out).wd)
      go_wp2_with (go_at_call 17; refine HR.out.mono ?_)
      rintro r w2 ⟨rfl, b2⟩
      have HB2 := Lib.hid (HB1.out.trans (b2.mono HB1.out.size))
      clear b2 HR
      go_wp2_with fail
      go_roundw
      case rel => exact ⟨k + 1, by omega, by omega, by go_num, HB2.out⟩
      case measure => simp [intOf]; omega
    · have hd : decide (k ≤ 1) = false := decide_eq_false hk
      have HWK := Lib.hid (works_any wr (HW.out.below HB.out))
      go_wp2_with (go_at_call 15; refine HWK.out.mono ?_)
      rintro r w3 rfl b3
      have HB3 := Lib.hid (HB.out.trans (b3.mono HB.out.size))
      clear b3
      go_wp2_with fail
      go_ret
      exact ⟨rfl, HB3.out⟩
end Go.Proofs.YtboikhalfffioaaDoor

/-
  What stands ahead and behind counts for nothing where no instruction asks for it, for all machines and texts.
-/
import Derived.Test.YtfmcjmkdlldlhaaOpen
import Derived.Test.YtfmcjmkdlldlhaaLgShL
import Derived.Test.YtfmcjmkdlldlhaaFields
namespace Go.Proofs.Ytfmcjmkdlldlhaa.longestShifts
open Go.ChangeShapes Go.WideShapes Go.ChangeAt Go.RowKit

set_option maxRecDepth 100000 in
theorem lifted (os : Os) (started : os.Started) (H : Type) (enc : TypeId × Value → H) :
    ReturnsInHanded {} Try.checked os 5 .any (Rows.longestShiftsSpec.pre6 enc Try.prog Try.f5 Rows.longestShiftsRow.domain false) (Rows.longestShiftsSpec.post enc Try.prog Try.f5 false true false false) := by
  refine returnsInHanded_of_change_sized (C := Try.checked) own started (by kernel_rfl) Try.func5
    (ChangeSpec.witness6 (enc := enc) (C := Try.checked) false ⟨#[], #[.agg #[.slice none 0 0, .slice none 0 0, .slice none 0 0, .slice none 0 0]], []⟩ 8 (by kernel_rfl) (by kernel_rfl) (by kernel_rfl) (by kernel_rfl)) ?_
  intro W base args ds gs before hval0 hW hcnd hsz0 _
  have hval : ∀ (j : Nat) t v, Try.f5.params[j]? = some t → args[j]? = some v → Value.okWide Try.prog W .any base t v := hval0
  have hsz : (DataW.weightsEach Try.prog (Try.f5.params.toList ++ Rows.longestShiftsSpec.plain.varTypes Try.prog) (ds ++ gs)).all (· ≤ reachBytes) = true := hsz0
  have hW' := hW
  obtain ⟨p, q, hA0, hV, rfl, hfz, hnd⟩ := hW
  have hA : DataW.TrodAll enc Try.prog W 0 (fun _ => true) true Try.f5.params.toList args.toList ds p := hA0
  rw [Try.params5] at hA hval hsz
  obtain ⟨v0, vs0, d0, ds0, p0, q0, hargs, rfl, rfl, h0, r0⟩ := trodAll_cons hA
  obtain ⟨rfl, rfl, rfl⟩ := trodAll_nil r0
  obtain rfl : args = #[v0] := by cases args; simp_all
  obtain ⟨rfl, rfl⟩ := trodVars_none hV
  have lt0 : ∀ x ∈ p0, x.block < W.heap.size := by obtain ⟨m, hm⟩ := h0; exact DataW.trod_lt m _ _ _ hm
  obtain ⟨cs0, ys0, rfl, hcl0, hyl0, hdd0, hf0⟩ := open_fields Try.underlying54 (by kernel_rfl) (by kernel_rfl) (hval 0 54 v0 rfl rfl) h0
  obtain ⟨k0_0, k0_1, k0_2, k0_3, rfl⟩ := len4 cs0 hcl0
  obtain ⟨y0_0, y0_1, y0_2, y0_3, rfl⟩ := len4 ys0 hyl0
  obtain ⟨_, t0_0⟩ := hf0 0 _ _ _ rfl rfl rfl
  obtain ⟨a0_0, len0_0, cap0_0, e0_0⟩ := slice_shapeI t0_0
  subst e0_0
  obtain ⟨M0_0, hM0_0, hR0_0, hn0_0⟩ := open_ins (K := 2513169434916) ⟨_, t0_0⟩ (fun elems sp e => by
    have := sized_field hsz (j := 0) (t := 54) rfl rfl Try.underlying54 (i := 0) (ft := 22) rfl hdd0 (y := y0_0.1) rfl e Try.underlying22
    rw [bytesI] at this
    simp only [reachBytes] at this
    omega)
  obtain ⟨_, t0_1⟩ := hf0 1 _ _ _ rfl rfl rfl
  obtain ⟨a0_1, len0_1, cap0_1, e0_1⟩ := slice_shape Try.underlying23 Try.underlying5 (by kernel_rfl) t0_1
  subst e0_1
  obtain ⟨l0_1, hl0_1, hB0_1, hN0_1⟩ := open_sb Try.underlying23 Try.underlying5 (by kernel_rfl) ⟨_, t0_1⟩ (fun elems sp e => by
    have := sized_field hsz (j := 0) (t := 54) rfl rfl Try.underlying54 (i := 1) (ft := 23) rfl hdd0 (y := y0_1.1) rfl e Try.underlying23
    rw [bytesB] at this
    simp only [reachBytes] at this
    omega)
  obtain ⟨_, t0_2⟩ := hf0 2 _ _ _ rfl rfl rfl
  obtain ⟨a0_2, len0_2, cap0_2, e0_2⟩ := slice_shape Try.underlying23 Try.underlying5 (by kernel_rfl) t0_2
  subst e0_2
  obtain ⟨l0_2, hl0_2, hB0_2, hN0_2⟩ := open_sb Try.underlying23 Try.underlying5 (by kernel_rfl) ⟨_, t0_2⟩ (fun elems sp e => by
    have := sized_field hsz (j := 0) (t := 54) rfl rfl Try.underlying54 (i := 2) (ft := 23) rfl hdd0 (y := y0_2.1) rfl e Try.underlying23
    rw [bytesB] at this
    simp only [reachBytes] at this
    omega)
  obtain ⟨_, t0_3⟩ := hf0 3 _ _ _ rfl rfl rfl
  obtain ⟨a0_3, len0_3, cap0_3, e0_3⟩ := slice_shape Try.underlying23 Try.underlying5 (by kernel_rfl) t0_3
  subst e0_3
  obtain ⟨l0_3, hl0_3, hB0_3, hN0_3⟩ := open_sb Try.underlying23 Try.underlying5 (by kernel_rfl) ⟨_, t0_3⟩ (fun elems sp e => by
    have := sized_field hsz (j := 0) (t := 54) rfl rfl Try.underlying54 (i := 3) (ft := 23) rfl hdd0 (y := y0_3.1) rfl e Try.underlying23
    rw [bytesB] at this
    simp only [reachBytes] at this
    omega)
  clear hA0 hval0
  refine (longestShifts_any W _ _ _ _ _ _ _ _ _ _ _ _ M0_0 l0_1 l0_2 l0_3 hM0_0 hR0_0 hB0_1 hB0_2 hB0_3 hN0_2 hN0_3).mono fun e W' ⟨he, bel⟩ => ?_
  subst he
  exact ⟨_, rfl, _, _, _, [], _, [], hW', trodAll_mk1 (shut_bool Try.underlying4 _),
    (trodAll_cons_mk (Below.trod laidOut (by kernel_rfl) (of_decide_eq_true (by kernel_rfl)) h0 bel lt0) trodAll_mk0), rfl, bel.frame _, fun h => by cases h⟩

theorem holds : Rows.LongestShiftsSaid :=
  OpenClaim.holds_of_wide 5 Try.f5 rfl rfl rfl rfl rfl rfl rfl ⟨rfl, rfl, rfl, rfl, rfl⟩ rfl rfl rfl rfl rfl (by kernel_rfl) Try.func5 (by kernel_rfl)
    (of_decide_eq_true (by kernel_rfl)) (by unfold Func.isWrapper; first | (rw [if_pos (by decide +kernel)]; kernel_rfl) | (rw [if_neg (by decide +kernel)]; exact ⟨rfl, rfl⟩))
    (fun os started H enc _ => lifted os started H enc)
#print axioms holds
end Go.Proofs.Ytfmcjmkdlldlhaa.longestShifts

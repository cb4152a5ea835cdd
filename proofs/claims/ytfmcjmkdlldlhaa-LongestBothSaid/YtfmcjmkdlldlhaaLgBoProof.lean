/-
  The ends of a split into two machines are those of both, for all machines, texts and places.
-/
import Derived.Test.YtfmcjmkdlldlhaaOpen
import Derived.Test.YtfmcjmkdlldlhaaLgBoL
import Derived.Test.YtfmcjmkdlldlhaaFields
namespace Go.Proofs.Ytfmcjmkdlldlhaa.longestBoth
open Go.ChangeShapes Go.WideShapes Go.ChangeAt Go.RowKit

set_option maxRecDepth 100000 in
theorem lifted (os : Os) (started : os.Started) (H : Type) (enc : TypeId × Value → H) :
    ReturnsInHanded {} Try.checked os 6 .any (Rows.longestBothSpec.pre6 enc Try.prog Try.f6 Rows.longestBothRow.domain false) (Rows.longestBothSpec.post enc Try.prog Try.f6 false true false false) := by
  refine returnsInHanded_of_change_sized (C := Try.checked) own started (by kernel_rfl) Try.func6
    (ChangeSpec.witness6 (enc := enc) (C := Try.checked) false ⟨#[], #[.agg #[.slice none 0 0, .slice none 0 0, .slice none 0 0, .int .i64 0]], []⟩ 8 (by kernel_rfl) (by kernel_rfl) (by kernel_rfl) (by kernel_rfl)) ?_
  intro W base args ds gs before hval0 hW hcnd hsz0 _
  have hval : ∀ (j : Nat) t v, Try.f6.params[j]? = some t → args[j]? = some v → Value.okWide Try.prog W .any base t v := hval0
  have hsz : (DataW.weightsEach Try.prog (Try.f6.params.toList ++ Rows.longestBothSpec.plain.varTypes Try.prog) (ds ++ gs)).all (· ≤ reachBytes) = true := hsz0
  have hW' := hW
  obtain ⟨p, q, hA0, hV, rfl, hfz, hnd⟩ := hW
  have hA : DataW.TrodAll enc Try.prog W 0 (fun _ => true) true Try.f6.params.toList args.toList ds p := hA0
  rw [Try.params6] at hA hval hsz
  obtain ⟨v0, vs0, d0, ds0, p0, q0, hargs, rfl, rfl, h0, r0⟩ := trodAll_cons hA
  obtain ⟨rfl, rfl, rfl⟩ := trodAll_nil r0
  obtain rfl : args = #[v0] := by cases args; simp_all
  obtain ⟨rfl, rfl⟩ := trodVars_none hV
  have lt0 : ∀ x ∈ p0, x.block < W.heap.size := by obtain ⟨m, hm⟩ := h0; exact DataW.trod_lt m _ _ _ hm
  obtain ⟨cs0, ys0, rfl, hcl0, hyl0, hdd0, hf0⟩ := open_fields Try.underlying60 (by kernel_rfl) (by kernel_rfl) (hval 0 60 v0 rfl rfl) h0
  obtain ⟨k0_0, k0_1, k0_2, k0_3, rfl⟩ := len4 cs0 hcl0
  obtain ⟨y0_0, y0_1, y0_2, y0_3, rfl⟩ := len4 ys0 hyl0
  obtain ⟨_, t0_0⟩ := hf0 0 _ _ _ rfl rfl rfl
  obtain ⟨a0_0, len0_0, cap0_0, e0_0⟩ := slice_shapeI t0_0
  subst e0_0
  obtain ⟨M0_0, hM0_0, hR0_0, hn0_0⟩ := open_ins (K := 2513169434916) ⟨_, t0_0⟩ (fun elems sp e => by
    have := sized_field hsz (j := 0) (t := 60) rfl rfl Try.underlying60 (i := 0) (ft := 22) rfl hdd0 (y := y0_0.1) rfl e Try.underlying22
    rw [bytesI] at this
    simp only [reachBytes] at this
    omega)
  obtain ⟨_, t0_1⟩ := hf0 1 _ _ _ rfl rfl rfl
  obtain ⟨a0_1, len0_1, cap0_1, e0_1⟩ := slice_shapeI t0_1
  subst e0_1
  obtain ⟨M0_1, hM0_1, hR0_1, hn0_1⟩ := open_ins (K := 2513169434916) ⟨_, t0_1⟩ (fun elems sp e => by
    have := sized_field hsz (j := 0) (t := 60) rfl rfl Try.underlying60 (i := 1) (ft := 22) rfl hdd0 (y := y0_1.1) rfl e Try.underlying22
    rw [bytesI] at this
    simp only [reachBytes] at this
    omega)
  obtain ⟨_, t0_2⟩ := hf0 2 _ _ _ rfl rfl rfl
  obtain ⟨a0_2, len0_2, cap0_2, e0_2⟩ := slice_shape Try.underlying23 Try.underlying5 (by kernel_rfl) t0_2
  subst e0_2
  obtain ⟨l0_2, hl0_2, hB0_2, hN0_2⟩ := open_sb Try.underlying23 Try.underlying5 (by kernel_rfl) ⟨_, t0_2⟩ (fun elems sp e => by
    have := sized_field hsz (j := 0) (t := 60) rfl rfl Try.underlying60 (i := 2) (ft := 23) rfl hdd0 (y := y0_2.1) rfl e Try.underlying23
    rw [bytesB] at this
    simp only [reachBytes] at this
    omega)
  obtain ⟨_, t0_3⟩ := hf0 3 _ _ _ rfl rfl rfl
  obtain ⟨x0_3, e0_3, -, wx0_3⟩ := DataW.trod_int Try.underlying3 t0_3
  simp only [List.cons.injEq, and_true] at e0_3
  subst e0_3
  clear hA0 hval0
  refine (longestBoth_any W _ _ _ _ _ _ _ _ _ M0_0 M0_1 l0_2 x0_3 hM0_0 hM0_1 hR0_0 hR0_1 hn0_0 hn0_1 hB0_2).mono fun e W' ⟨he, bel⟩ => ?_
  subst he
  exact ⟨_, rfl, _, _, _, [], _, [], hW', trodAll_mk1 (shut_bool Try.underlying4 _),
    (trodAll_cons_mk (Below.trod laidOut (by kernel_rfl) (of_decide_eq_true (by kernel_rfl)) h0 bel lt0) trodAll_mk0), rfl, bel.frame _, fun h => by cases h⟩

theorem holds : Rows.LongestBothSaid :=
  OpenClaim.holds_of_wide 6 Try.f6 rfl rfl rfl rfl rfl rfl rfl ⟨rfl, rfl, rfl, rfl, rfl⟩ rfl rfl rfl rfl rfl (by kernel_rfl) Try.func6 (by kernel_rfl)
    (of_decide_eq_true (by kernel_rfl)) (by unfold Func.isWrapper; first | (rw [if_pos (by decide +kernel)]; kernel_rfl) | (rw [if_neg (by decide +kernel)]; exact ⟨rfl, rfl⟩))
    (fun os started H enc _ => lifted os started H enc)
#print axioms holds
end Go.Proofs.Ytfmcjmkdlldlhaa.longestBoth

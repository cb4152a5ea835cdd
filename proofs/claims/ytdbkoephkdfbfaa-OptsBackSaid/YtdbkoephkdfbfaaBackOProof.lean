/-
  galleylaw28.OptsBack answers true whatever line and options it is given; no condition.
-/
import Derived.Test.YtdbkoephkdfbfaaOpen
import Derived.Test.YtdbkoephkdfbfaaBackO
import Derived.Test.YtdbkoephkdfbfaaOpenT
import Derived.Test.YtdbkoephkdfbfaaFields
namespace Go.Proofs.Ytdbkoephkdfbfaa.optsBack
open Go.ChangeShapes Go.WideShapes Go.ChangeAt Go.RowKit

set_option maxRecDepth 100000 in
theorem lifted (os : Os) (started : os.Started) (H : Type) (enc : TypeId × Value → H) :
    ReturnsInHanded {} Try.checked os 3 .any (Rows.optsBackSpec.pre6 enc Try.prog Try.f3 Rows.optsBackRow.domain false) (Rows.optsBackSpec.post enc Try.prog Try.f3 false true false false) := by
  refine returnsInHanded_of_change_sized (C := Try.checked) own started (by kernel_rfl) Try.func3
    (ChangeSpec.witness6 (enc := enc) (C := Try.checked) false ⟨#[], #[.slice none 0 0, .agg #[.bool false, .bool false, .bool false, .bool false, .slice none 0 0, .slice none 0 0]], []⟩ 8 (by kernel_rfl) (by kernel_rfl) (by kernel_rfl) (by kernel_rfl)) ?_
  intro W base args ds gs before hval0 hW hcnd hsz0 _
  have hval : ∀ (j : Nat) t v, Try.f3.params[j]? = some t → args[j]? = some v → Value.okWide Try.prog W .any base t v := hval0
  have hsz : (DataW.weightsEach Try.prog (Try.f3.params.toList ++ Rows.optsBackSpec.plain.varTypes Try.prog) (ds ++ gs)).all (· ≤ reachBytes) = true := hsz0
  have hW' := hW
  obtain ⟨p, q, hA0, hV, rfl, hfz, hnd⟩ := hW
  have hA : DataW.TrodAll enc Try.prog W 0 (fun _ => true) true Try.f3.params.toList args.toList ds p := hA0
  rw [Try.params3] at hA hval hsz
  obtain ⟨v0, vs0, d0, ds0, p0, q0, hargs, rfl, rfl, h0, r0⟩ := trodAll_cons hA
  obtain ⟨v1, vs1, d1, ds1, p1, q1, rfl, rfl, rfl, h1, r1⟩ := trodAll_cons r0
  obtain ⟨rfl, rfl, rfl⟩ := trodAll_nil r1
  obtain rfl : args = #[v0, v1] := by cases args; simp_all
  obtain ⟨rfl, rfl⟩ := trodVars_none hV
  have lt0 : ∀ x ∈ p0, x.block < W.heap.size := by obtain ⟨m, hm⟩ := h0; exact DataW.trod_lt m _ _ _ hm
  have lt1 : ∀ x ∈ p1, x.block < W.heap.size := by obtain ⟨m, hm⟩ := h1; exact DataW.trod_lt m _ _ _ hm
  obtain ⟨a0, len0, cap0, rfl⟩ := okWide_slice Try.underlying22 (hval 0 22 v0 rfl rfl)
  obtain ⟨l0, hl0, hB0, hz0⟩ := open_ts Try.underlying22 Try.underlying9 (by kernel_rfl) h0 (by kernel_rfl) (w_arg hsz (j := 0) (t := 22) rfl rfl)
  obtain ⟨cs1, ys1, rfl, hcl1, hyl1, hdd1, hf1⟩ := open_fields Try.underlying25 (by kernel_rfl) (by kernel_rfl) (hval 1 25 v1 rfl rfl) h1
  obtain ⟨k0, k1, k2, k3, k4, k5, rfl⟩ := len6 cs1 hcl1
  obtain ⟨y0, y1, y2, y3, y4, y5, rfl⟩ := len6 ys1 hyl1
  obtain ⟨_, t0⟩ := hf1 0 _ _ _ rfl rfl rfl
  obtain ⟨_, t1⟩ := hf1 1 _ _ _ rfl rfl rfl
  obtain ⟨_, t2⟩ := hf1 2 _ _ _ rfl rfl rfl
  obtain ⟨_, t3⟩ := hf1 3 _ _ _ rfl rfl rfl
  obtain ⟨_, t4⟩ := hf1 4 _ _ _ rfl rfl rfl
  obtain ⟨_, t5⟩ := hf1 5 _ _ _ rfl rfl rfl
  obtain ⟨x0, e0, -⟩ := DataW.trod_bool Try.underlying4 t0
  obtain ⟨x1, e1, -⟩ := DataW.trod_bool Try.underlying4 t1
  obtain ⟨x2, e2, -⟩ := DataW.trod_bool Try.underlying4 t2
  obtain ⟨x3, e3, -⟩ := DataW.trod_bool Try.underlying4 t3
  simp only [List.cons.injEq, and_true] at e0 e1 e2 e3
  subst e0 e1 e2 e3
  obtain ⟨a4, len4, cap4, e4⟩ := slice_shapeT Try.underlying23 t4
  subst e4
  obtain ⟨a5, len5, cap5, e5⟩ := slice_shapeT Try.underlying22 t5
  subst e5
  have w1 := w_arg hsz (j := 1) (t := 25) rfl rfl
  rw [hdd1] at w1
  obtain ⟨l4, hl4, hB4, hz4⟩ := open_pt (d := y4.1) (p := y4.2) Try.underlying23 Try.underlying38 (by kernel_rfl) (by kernel_rfl) Try.underlying4 Try.underlying9 ⟨_, t4⟩ (by kernel_rfl) (w_part Try.underlying25 w1 (i := 4) rfl rfl)
  obtain ⟨l5, hl5, hB5, hz5⟩ := open_ts (d := y5.1) (p := y5.2) Try.underlying22 Try.underlying9 (by kernel_rfl) ⟨_, t5⟩ (by kernel_rfl) (w_part Try.underlying25 w1 (i := 5) rfl rfl)
  clear hA0 hval0
  refine (optsBack_walk W a0 len0 cap0 l0 hB0 hz0 ⟨x0, x1, x2, x3, l4, l5⟩ a4 len4 cap4 hB4 hz4 a5 len5 cap5 hB5 hz5).mono fun e W' ⟨he, bel⟩ => ?_
  subst he
  exact ⟨_, rfl, _, _, _, [], _, [], hW', trodAll_mk1 (shut_bool Try.underlying4 _),
    (trodAll_cons_mk (Below.trod laidOut (by kernel_rfl) (of_decide_eq_true (by kernel_rfl)) h0 bel lt0) (trodAll_cons_mk (Below.trod laidOut (by kernel_rfl) (of_decide_eq_true (by kernel_rfl)) h1 bel lt1) trodAll_mk0)), rfl, bel.frame _, fun h => by cases h⟩

theorem holds : Rows.OptsBackSaid :=
  OpenClaim.holds_of_wide 3 Try.f3 rfl rfl rfl rfl rfl rfl rfl ⟨rfl, rfl, rfl, rfl, rfl⟩ rfl rfl rfl rfl rfl (by kernel_rfl) Try.func3 (by kernel_rfl)
    (of_decide_eq_true (by kernel_rfl)) (by unfold Func.isWrapper; first | (rw [if_pos (by decide +kernel)]; kernel_rfl) | (rw [if_neg (by decide +kernel)]; exact ⟨rfl, rfl⟩))
    (fun os started H enc _ => lifted os started H enc)
#print axioms holds
end Go.Proofs.Ytdbkoephkdfbfaa.optsBack

/-
  for every old list of bytes, every list of parts, every place of the loss of power, every Last, Dir and Keep the law answers true, and its argument reads afterwards as it read before; no condition.
-/
import Derived.Test.YtaeiijncklmfdaaOpen
import Derived.Test.YtaeiijncklmfdaaSwO
import Derived.Test.YtaeiijncklmfdaaFields
namespace Go.Proofs.Ytaeiijncklmfdaa.diskSwap
open Go.ChangeShapes Go.WideShapes Go.ChangeAt Go.RowKit

set_option maxRecDepth 100000 in
theorem lifted (os : Os) (started : os.Started) (H : Type) (enc : TypeId × Value → H) :
    ReturnsInHanded {} Try.checked os 6 .any (Rows.diskSwapSpec.pre6 enc Try.prog Try.f6 Rows.diskSwapRow.domain false) (Rows.diskSwapSpec.post enc Try.prog Try.f6 false true false false) := by
  refine returnsInHanded_of_change_sized (C := Try.checked) own started (by kernel_rfl) Try.func6
    (ChangeSpec.witness6 (enc := enc) (C := Try.checked) false ⟨#[], #[.agg #[.slice none 0 0, .slice none 0 0, .int .i64 0, .bool false, .int .i64 0, .slice none 0 0]], []⟩ 8 (by kernel_rfl) (by kernel_rfl) (by kernel_rfl) (by kernel_rfl)) ?_
  intro W base args ds gs before hval0 hW hcnd hsz0 _
  have hval : ∀ (j : Nat) t v, Try.f6.params[j]? = some t → args[j]? = some v → Value.okWide Try.prog W .any base t v := hval0
  have hsz : (DataW.weightsEach Try.prog (Try.f6.params.toList ++ Rows.diskSwapSpec.plain.varTypes Try.prog) (ds ++ gs)).all (· ≤ reachBytes) = true := hsz0
  have hW' := hW
  obtain ⟨p, q, hA0, hV, rfl, hfz, hnd⟩ := hW
  have hA : DataW.TrodAll enc Try.prog W 0 (fun _ => true) true Try.f6.params.toList args.toList ds p := hA0
  rw [Try.params6] at hA hval hsz
  obtain ⟨v0, vs0, d0, ds0, p0, q0, hargs, rfl, rfl, h0, r0⟩ := trodAll_cons hA
  obtain ⟨rfl, rfl, rfl⟩ := trodAll_nil r0
  obtain rfl : args = #[v0] := by cases args; simp_all
  obtain ⟨rfl, rfl⟩ := trodVars_none hV
  have lt0 : ∀ x ∈ p0, x.block < W.heap.size := by obtain ⟨m, hm⟩ := h0; exact DataW.trod_lt m _ _ _ hm
  obtain ⟨cs0, ys0, rfl, hcl0, hyl0, hdd0, hf0⟩ := open_fields Try.underlying57 (by kernel_rfl) (by kernel_rfl) (hval 0 57 v0 rfl rfl) h0
  obtain ⟨k0_0, k0_1, k0_2, k0_3, k0_4, k0_5, rfl⟩ := len6 cs0 hcl0
  obtain ⟨y0_0, y0_1, y0_2, y0_3, y0_4, y0_5, rfl⟩ := len6 ys0 hyl0
  obtain ⟨_, t0_0⟩ := hf0 0 _ _ _ rfl rfl rfl
  obtain ⟨a0_0, len0_0, cap0_0, e0_0, hcap0_0⟩ := slice_shapeG Try.underlying34 t0_0
  subst e0_0
  obtain ⟨l0_0, hl0_0, hB0_0, hN0_0⟩ := open_sb Try.underlying34 Try.underlying5 (by kernel_rfl) ⟨_, t0_0⟩ (fun elems sp e => by
    have := sized_field hsz (j := 0) (t := 57) rfl rfl Try.underlying57 (i := 0) (ft := 34) rfl hdd0 (y := y0_0.1) rfl e Try.underlying34
    rw [bytesB] at this
    simp only [reachBytes] at this
    omega)
  obtain ⟨_, t0_1⟩ := hf0 1 _ _ _ rfl rfl rfl
  obtain ⟨a0_1, len0_1, cap0_1, e0_1, hcap0_1⟩ := slice_shapeG Try.underlying55 t0_1
  subst e0_1
  obtain ⟨l0_1, hl0_1, hB0_1⟩ := open_rb Try.underlying55 Try.underlying34 Try.underlying5 (by kernel_rfl) (by kernel_rfl) ⟨_, t0_1⟩ (fun elems sp e => by
    refine ⟨?_, fun x hx e2 s2 he => ?_⟩
    · have := sized_field hsz (j := 0) (t := 57) rfl rfl Try.underlying57 (i := 1) (ft := 55) rfl hdd0 (y := y0_1.1) rfl e Try.underlying55
      rw [bytesS] at this
      simp only [reachBytes] at this
      omega
    · have := sized_field_rows hsz (j := 0) (t := 57) rfl rfl Try.underlying57 (i := 1) (ft := 55) (e := 34) (q := 5) rfl hdd0 (y := y0_1.1) rfl e Try.underlying55 Try.underlying34 x hx e2 s2 he
      rw [bytesB] at this
      simp only [reachBytes] at this
      omega)
  obtain ⟨_, t0_2⟩ := hf0 2 _ _ _ rfl rfl rfl
  obtain ⟨x0_2, e0_2, -, wx0_2⟩ := DataW.trod_int Try.underlying3 t0_2
  simp only [List.cons.injEq, and_true] at e0_2
  subst e0_2
  obtain ⟨_, t0_3⟩ := hf0 3 _ _ _ rfl rfl rfl
  obtain ⟨x0_3, e0_3, -⟩ := DataW.trod_bool Try.underlying4 t0_3
  simp only [List.cons.injEq, and_true] at e0_3
  subst e0_3
  obtain ⟨_, t0_4⟩ := hf0 4 _ _ _ rfl rfl rfl
  obtain ⟨x0_4, e0_4, -, wx0_4⟩ := DataW.trod_int Try.underlying3 t0_4
  simp only [List.cons.injEq, and_true] at e0_4
  subst e0_4
  obtain ⟨_, t0_5⟩ := hf0 5 _ _ _ rfl rfl rfl
  obtain ⟨a0_5, len0_5, cap0_5, e0_5, hcap0_5⟩ := slice_shapeG Try.underlying36 t0_5
  subst e0_5
  obtain ⟨l0_5, hB0_5⟩ := open_is Try.underlying36 Try.underlying3 (by kernel_rfl) ⟨_, t0_5⟩ (fun elems sp e => by
    have := sized_field hsz (j := 0) (t := 57) rfl rfl Try.underlying57 (i := 5) (ft := 36) rfl hdd0 (y := y0_5.1) rfl e Try.underlying36
    rw [bytesN] at this
    simp only [reachBytes] at this
    omega)
  clear hA0 hval0
  refine (swap_walk W a0_0 len0_0 cap0_0 l0_0 a0_1 len0_1 cap0_1 l0_1 x0_2 x0_3 x0_4 a0_5 len0_5 cap0_5 l0_5 hB0_0 hN0_0 hcap0_0 hB0_1 hB0_5).mono fun e W' ⟨he, bel⟩ => ?_
  subst he
  exact ⟨_, rfl, _, _, _, [], _, [], hW', trodAll_mk1 (shut_bool Try.underlying4 _),
    (trodAll_cons_mk (Below.trod laidOut (by kernel_rfl) (of_decide_eq_true (by kernel_rfl)) h0 bel lt0) trodAll_mk0), rfl, bel.frame _, fun h => by cases h⟩

theorem holds : Rows.DiskSwapSaid :=
  OpenClaim.holds_of_wide 6 Try.f6 rfl rfl rfl rfl rfl rfl rfl ⟨rfl, rfl, rfl, rfl, rfl⟩ rfl rfl rfl rfl rfl (by kernel_rfl) Try.func6 (by kernel_rfl)
    (of_decide_eq_true (by kernel_rfl)) (by unfold Func.isWrapper; first | (rw [if_pos (by decide +kernel)]; kernel_rfl) | (rw [if_neg (by decide +kernel)]; exact ⟨rfl, rfl⟩))
    (fun os started H enc _ => lifted os started H enc)
#print axioms holds
end Go.Proofs.Ytaeiijncklmfdaa.diskSwap

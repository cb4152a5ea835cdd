/-
  Statement SpaceNil of layer 25 is proved: for every bound and every call the law answers true (a nil space and a plain one refuse each call and hold nothing, New refuses what may not be), and its arguments read afterwards as they read before. No condition beyond the own conditions of the row.
-/
import Derived.Test.YtadjonggmbndmaaOpen
import Derived.Test.YtadjonggmbndmaaNoS
import Derived.Test.YtadjonggmbndmaaFields
namespace Go.Proofs.Ytadjonggmbndmaa.spaceNil
open Go.ChangeShapes Go.WideShapes Go.ChangeAt Go.RowKit

set_option maxRecDepth 100000 in
theorem lifted (os : Os) (started : os.Started) (H : Type) (enc : TypeId × Value → H) :
    ReturnsInHanded {} Try.checked os 9 .any (Rows.spaceNilSpec.pre6 enc Try.prog Try.f9 Rows.spaceNilRow.domain false) (Rows.spaceNilSpec.post enc Try.prog Try.f9 false true false false) := by
  refine returnsInHanded_of_change_sized (C := Try.checked) own started (by kernel_rfl) Try.func9
    (ChangeSpec.witness6 (enc := enc) (C := Try.checked) false ⟨#[], #[.int .i64 0, .agg #[.int .i64 0, .int .i64 0, .int .u8 0, .slice none 0 0]], []⟩ 8 (by kernel_rfl) (by kernel_rfl) (by kernel_rfl) (by kernel_rfl)) ?_
  intro W base args ds gs before hval0 hW hcnd hsz0 _
  have hval : ∀ (j : Nat) t v, Try.f9.params[j]? = some t → args[j]? = some v → Value.okWide Try.prog W .any base t v := hval0
  have hsz : (DataW.weightsEach Try.prog (Try.f9.params.toList ++ Rows.spaceNilSpec.plain.varTypes Try.prog) (ds ++ gs)).all (· ≤ reachBytes) = true := hsz0
  have hW' := hW
  obtain ⟨p, q, hA0, hV, rfl, hfz, hnd⟩ := hW
  have hA : DataW.TrodAll enc Try.prog W 0 (fun _ => true) true Try.f9.params.toList args.toList ds p := hA0
  rw [Try.params9] at hA hval hsz
  obtain ⟨v0, vs0, d0, ds0, p0, q0, hargs, rfl, rfl, h0, r0⟩ := trodAll_cons hA
  obtain ⟨v1, vs1, d1, ds1, p1, q1, rfl, rfl, rfl, h1, r1⟩ := trodAll_cons r0
  obtain ⟨rfl, rfl, rfl⟩ := trodAll_nil r1
  obtain rfl : args = #[v0, v1] := by cases args; simp_all
  obtain ⟨rfl, rfl⟩ := trodVars_none hV
  have lt0 : ∀ x ∈ p0, x.block < W.heap.size := by obtain ⟨m, hm⟩ := h0; exact DataW.trod_lt m _ _ _ hm
  have lt1 : ∀ x ∈ p1, x.block < W.heap.size := by obtain ⟨m, hm⟩ := h1; exact DataW.trod_lt m _ _ _ hm
  obtain ⟨x0, rfl, e0, f0, wx0⟩ := open_int Try.underlying3 (hval 0 3 v0 rfl rfl) h0
  obtain ⟨cs1, ys1, rfl, hcl1, hyl1, hdd1, hf1⟩ := open_fields Try.underlying70 (by kernel_rfl) (by kernel_rfl) (hval 1 70 v1 rfl rfl) h1
  obtain ⟨k1_0, k1_1, k1_2, k1_3, rfl⟩ := len4 cs1 hcl1
  obtain ⟨y1_0, y1_1, y1_2, y1_3, rfl⟩ := len4 ys1 hyl1
  obtain ⟨_, t1_0⟩ := hf1 0 _ _ _ rfl rfl rfl
  obtain ⟨x1_0, e1_0, -, wx1_0⟩ := DataW.trod_int Try.underlying3 t1_0
  simp only [List.cons.injEq, and_true] at e1_0
  subst e1_0
  obtain ⟨_, t1_1⟩ := hf1 1 _ _ _ rfl rfl rfl
  obtain ⟨x1_1, e1_1, -, wx1_1⟩ := DataW.trod_int Try.underlying3 t1_1
  simp only [List.cons.injEq, and_true] at e1_1
  subst e1_1
  obtain ⟨_, t1_2⟩ := hf1 2 _ _ _ rfl rfl rfl
  obtain ⟨x1_2, e1_2, -, wx1_2⟩ := DataW.trod_int Try.underlying5 t1_2
  simp only [List.cons.injEq, and_true] at e1_2
  subst e1_2
  obtain ⟨_, t1_3⟩ := hf1 3 _ _ _ rfl rfl rfl
  obtain ⟨a1_3, len1_3, cap1_3, e1_3⟩ := slice_shape Try.underlying35 Try.underlying5 (by kernel_rfl) t1_3
  subst e1_3
  obtain ⟨l1_3, hl1_3, hB1_3, hN1_3⟩ := open_sb Try.underlying35 Try.underlying5 (by kernel_rfl) ⟨_, t1_3⟩ (fun elems sp e => by
    have := sized_field hsz (j := 1) (t := 70) rfl rfl Try.underlying70 (i := 3) (ft := 35) rfl hdd1 (y := y1_3.1) rfl e Try.underlying35
    rw [bytesB] at this
    simp only [reachBytes] at this
    omega)
  clear hA0 hval0
  refine (nilS_walk W x0 x1_0 x1_1 x1_2 a1_3 len1_3 cap1_3).mono fun e W' ⟨he, bel⟩ => ?_
  subst he
  exact ⟨_, rfl, _, _, _, [], _, [], hW', trodAll_mk1 (shut_bool Try.underlying4 _),
    (trodAll_cons_mk (Below.trod laidOut (by kernel_rfl) (of_decide_eq_true (by kernel_rfl)) h0 bel lt0) (trodAll_cons_mk (Below.trod laidOut (by kernel_rfl) (of_decide_eq_true (by kernel_rfl)) h1 bel lt1) trodAll_mk0)), rfl, bel.frame _, fun h => by cases h⟩

theorem holds : Rows.SpaceNilSaid :=
  OpenClaim.holds_of_wide 9 Try.f9 rfl rfl rfl rfl rfl rfl rfl ⟨rfl, rfl, rfl, rfl, rfl⟩ rfl rfl rfl rfl rfl (by kernel_rfl) Try.func9 (by kernel_rfl)
    (of_decide_eq_true (by kernel_rfl)) (by unfold Func.isWrapper; first | (rw [if_pos (by decide +kernel)]; kernel_rfl) | (rw [if_neg (by decide +kernel)]; exact ⟨rfl, rfl⟩))
    (fun os started H enc _ => lifted os started H enc)
#print axioms holds
end Go.Proofs.Ytadjonggmbndmaa.spaceNil

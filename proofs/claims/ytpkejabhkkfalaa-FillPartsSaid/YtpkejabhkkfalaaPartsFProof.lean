/-
  galleylaw16.FillParts answers true whatever pieces, cut, text and spans it is given; no condition.
-/
import Derived.Test.YtpkejabhkkfalaaOpen
import Derived.Test.YtpkejabhkkfalaaPartsL
import Derived.Test.YtpkejabhkkfalaaPieces
import Derived.Test.YtpkejabhkkfalaaBulk
namespace Go.Proofs.Ytpkejabhkkfalaa.fillParts
open Go.ChangeShapes Go.WideShapes Go.ChangeAt Go.RowKit

set_option maxRecDepth 100000 in
theorem lifted (os : Os) (started : os.Started) (H : Type) (enc : TypeId × Value → H) :
    ReturnsInHanded {} Try.checked os 4 .any (Rows.fillPartsSpec.pre6 enc Try.prog Try.f4 Rows.fillPartsRow.domain false) (Rows.fillPartsSpec.post enc Try.prog Try.f4 false true false false) := by
  refine returnsInHanded_of_change_sized (C := Try.checked) own started (by kernel_rfl) Try.func4
    (ChangeSpec.witness6 (enc := enc) (C := Try.checked) false ⟨#[], #[.slice none 0 0, .int .i64 0, .slice none 0 0, .slice none 0 0], []⟩ 8 (by kernel_rfl) (by kernel_rfl) (by kernel_rfl) (by kernel_rfl)) ?_
  intro W base args ds gs before hval0 hW hcnd hsz0 _
  have hval : ∀ (j : Nat) t v, Try.f4.params[j]? = some t → args[j]? = some v → Value.okWide Try.prog W .any base t v := hval0
  have hsz : (DataW.weightsEach Try.prog (Try.f4.params.toList ++ Rows.fillPartsSpec.plain.varTypes Try.prog) (ds ++ gs)).all (· ≤ reachBytes) = true := hsz0
  have hW' := hW
  obtain ⟨p, q, hA0, hV, rfl, hfz, hnd⟩ := hW
  have hA : DataW.TrodAll enc Try.prog W 0 (fun _ => true) true Try.f4.params.toList args.toList ds p := hA0
  rw [Try.params4] at hA hval hsz
  obtain ⟨v0, vs0, d0, ds0, p0, q0, hargs, rfl, rfl, h0, r0⟩ := trodAll_cons hA
  obtain ⟨v1, vs1, d1, ds1, p1, q1, rfl, rfl, rfl, h1, r1⟩ := trodAll_cons r0
  obtain ⟨v2, vs2, d2, ds2, p2, q2, rfl, rfl, rfl, h2, r2⟩ := trodAll_cons r1
  obtain ⟨v3, vs3, d3, ds3, p3, q3, rfl, rfl, rfl, h3, r3⟩ := trodAll_cons r2
  obtain ⟨rfl, rfl, rfl⟩ := trodAll_nil r3
  obtain rfl : args = #[v0, v1, v2, v3] := by cases args; simp_all
  obtain ⟨rfl, rfl⟩ := trodVars_none hV
  have lt0 : ∀ x ∈ p0, x.block < W.heap.size := by obtain ⟨m, hm⟩ := h0; exact DataW.trod_lt m _ _ _ hm
  have lt1 : ∀ x ∈ p1, x.block < W.heap.size := by obtain ⟨m, hm⟩ := h1; exact DataW.trod_lt m _ _ _ hm
  have lt2 : ∀ x ∈ p2, x.block < W.heap.size := by obtain ⟨m, hm⟩ := h2; exact DataW.trod_lt m _ _ _ hm
  have lt3 : ∀ x ∈ p3, x.block < W.heap.size := by obtain ⟨m, hm⟩ := h3; exact DataW.trod_lt m _ _ _ hm
  obtain ⟨a0, len0, cap0, rfl⟩ := okWide_slice Try.underlying23 (hval 0 23 v0 rfl rfl)
  obtain ⟨l0, hl0, hB0⟩ := open_ps Try.underlying23 Try.underlying43 (by kernel_rfl) (by kernel_rfl) (by kernel_rfl) Try.underlying35 Try.underlying5 (by kernel_rfl) h0 (fun elems sp e => by
    subst e
    refine ⟨?_, fun x hx ys e2 s2 hxx hy => ?_⟩
    · have := sized_slice hsz (j := 0) (t := 23) (e := 43) rfl rfl Try.underlying23
      rw [bytesPc] at this
      simp only [reachBytes] at this
      omega
    · have := sized_part hsz (j := 0) (t := 23) (e := 43) (ft := 35) (q := 5) rfl rfl Try.underlying23 Try.underlying43 hx hxx (i := 1) rfl hy Try.underlying35
      rw [bytesB] at this
      simp only [reachBytes] at this
      omega)
  obtain ⟨x1, rfl, e1, f1, wx1⟩ := open_int Try.underlying3 (hval 1 3 v1 rfl rfl) h1
  obtain ⟨a2, len2, cap2, rfl⟩ := okWide_slice Try.underlying35 (hval 2 35 v2 rfl rfl)
  obtain ⟨l2, hl2, hB2, hN2⟩ := open_sb Try.underlying35 Try.underlying5 (by kernel_rfl) h2 (fun elems sp e => by
    subst e
    have := sized_slice hsz (j := 2) (t := 35) (e := 5) rfl rfl Try.underlying35
    rw [bytesB] at this
    simp only [reachBytes] at this
    omega)
  obtain ⟨a3, len3, cap3, rfl⟩ := okWide_slice Try.underlying36 (hval 3 36 v3 rfl rfl)
  obtain ⟨l3, hl3, hB3⟩ := open_ns Try.underlying36 Try.underlying41 (by kernel_rfl) (by kernel_rfl) (by kernel_rfl) (by kernel_rfl) h3 (fun elems sp e => by
    subst e
    have := sized_slice hsz (j := 3) (t := 36) (e := 41) rfl rfl Try.underlying36
    rw [bytesSp] at this
    simp only [reachBytes] at this
    omega)
  have hc2 := trod_cap Try.underlying35 h2
  clear hA0 hval0
  refine (fillParts_walk W a0 len0 cap0 l0 hB0 x1 (bounds_i64 wx1).1 (bounds_i64 wx1).2 a2 len2 cap2 l2 hB2 hN2 hc2 a3 len3 cap3 l3 hB3).mono fun e W' ⟨he, bel⟩ => ?_
  subst he
  exact ⟨_, rfl, _, _, _, [], _, [], hW', trodAll_mk1 (shut_bool Try.underlying4 _),
    (trodAll_cons_mk (Below.trod laidOut (by kernel_rfl) (of_decide_eq_true (by kernel_rfl)) h0 bel lt0) (trodAll_cons_mk (Below.trod laidOut (by kernel_rfl) (of_decide_eq_true (by kernel_rfl)) h1 bel lt1) (trodAll_cons_mk (Below.trod laidOut (by kernel_rfl) (of_decide_eq_true (by kernel_rfl)) h2 bel lt2) (trodAll_cons_mk (Below.trod laidOut (by kernel_rfl) (of_decide_eq_true (by kernel_rfl)) h3 bel lt3) trodAll_mk0)))), rfl, bel.frame _, fun h => by cases h⟩

theorem holds : Rows.FillPartsSaid :=
  OpenClaim.holds_of_wide 4 Try.f4 rfl rfl rfl rfl rfl rfl rfl ⟨rfl, rfl, rfl, rfl, rfl⟩ rfl rfl rfl rfl rfl (by kernel_rfl) Try.func4 (by kernel_rfl)
    (of_decide_eq_true (by kernel_rfl)) (by unfold Func.isWrapper; first | (rw [if_pos (by decide +kernel)]; kernel_rfl) | (rw [if_neg (by decide +kernel)]; exact ⟨rfl, rfl⟩))
    (fun os started H enc _ => lifted os started H enc)
#print axioms holds
end Go.Proofs.Ytpkejabhkkfalaa.fillParts

/-
  galleylaw16.FillBack answers true whatever marks and pieces it is given, where these are of bulk at most 1048576; no other condition.
-/
import Derived.Test.YtpkejabhkkfalaaOpen
import Derived.Test.YtpkejabhkkfalaaBackL
import Derived.Test.YtpkejabhkkfalaaOpenM
import Derived.Test.YtpkejabhkkfalaaPieces
import Derived.Deep.CondSized
import Derived.Test.YtpkejabhkkfalaaBulkP
namespace Go.Proofs.Ytpkejabhkkfalaa.fillBack
open Go.ChangeShapes Go.WideShapes Go.ChangeAt Go.RowKit

set_option maxRecDepth 100000 in
theorem lifted (os : Os) (started : os.Started) (H : Type) (enc : TypeId × Value → H) (F : Stop.Interp) :
    ReturnsInHanded {} Try.checked os 3 .any ((Rows.OpenSpec.upto Rows.fillBackSpec).pre6 enc Try.prog Try.f3 Rows.fillBackUptoRow.domain false) (((Rows.OpenSpec.upto Rows.fillBackSpec).at F).post enc Try.prog Try.f3 false true false false) := by
  refine returnsInHanded_of_cond_sized (C := Try.checked) (s := Rows.OpenSpec.upto Rows.fillBackSpec) (k := Rows.uptoSmall) rfl own started (by kernel_rfl) Try.func3
    (OpenSpec.witness (enc := enc) (C := Try.checked) (s := Rows.OpenSpec.upto Rows.fillBackSpec) (k := Rows.uptoSmall) rfl false ⟨#[], #[.slice none 0 0, .slice none 0 0], []⟩ 8 (by kernel_rfl) (by kernel_rfl) (by kernel_rfl)
      (x := ([.nil, .nil], [], [])) (by kernel_rfl) rfl (by kernel_rfl)) ?_
  intro W base args ds gs before hval0 hW hcnd hk hsz0 _
  show Calls Try.prog 3 args W fun e W' => ∃ v, e = .returned v ∧ Rows.fillBackSpec.post enc Try.prog Try.f3 false true false false W args v W'
  replace hW : DataW.Whole enc Try.prog Try.f3.params.toList Rows.fillBackSpec.vars false W args.toList ds gs before := hW
  have hval : ∀ (j : Nat) t v, Try.f3.params[j]? = some t → args[j]? = some v → Value.okWide Try.prog W .any base t v := hval0
  have hsz : (DataW.weightsEach Try.prog (Try.f3.params.toList ++ Rows.fillBackSpec.plain.varTypes Try.prog) (ds ++ gs)).all (· ≤ reachBytes) = true := hsz0
  have hW' := hW
  obtain ⟨p, q, hA0, hV, rfl, hfz, hnd⟩ := hW
  have hA : DataW.TrodAll enc Try.prog W 0 (fun _ => true) true Try.f3.params.toList args.toList ds p := hA0
  rw [Try.params3] at hA hval hsz
  obtain ⟨v0, vs0, d0, ds0, p0, q0, hargs, rfl, rfl, h0, r0⟩ := trodAll_cons hA
  obtain ⟨v1, vs1, d1, ds1, p1, q1, rfl, rfl, rfl, h1, r1⟩ := trodAll_cons r0
  obtain ⟨rfl, rfl, rfl⟩ := trodAll_nil r1
  obtain rfl : args = #[v0, v1] := by cases args; simp_all
  obtain ⟨rfl, rfl⟩ := trodVars_none hV
  have lt0 : ∀ x ∈ p0, x.block < W.heap.size := by obtain ⟨m, hm⟩ := h0; exact DataW.trod_lt m _ _ _ hm
  have lt1 : ∀ x ∈ p1, x.block < W.heap.size := by obtain ⟨m, hm⟩ := h1; exact DataW.trod_lt m _ _ _ hm
  obtain ⟨a0, len0, cap0, rfl⟩ := okWide_slice Try.underlying22 (hval 0 22 v0 rfl rfl)
  obtain ⟨l0, hl0, hB0⟩ := open_sm Try.underlying22 Try.underlying30 (by kernel_rfl) rfl rfl (by kernel_rfl) (by kernel_rfl) (by kernel_rfl) (by kernel_rfl) h0 (fun elems sp e => by
    subst e
    have := sized_slice hsz (j := 0) (t := 22) (e := 30) rfl rfl Try.underlying22
    rw [bytesM] at this
    simp only [reachBytes] at this
    omega)
  obtain ⟨a1, len1, cap1, rfl⟩ := okWide_slice Try.underlying23 (hval 1 23 v1 rfl rfl)
  obtain ⟨l1, hl1, hB1⟩ := open_ps Try.underlying23 Try.underlying43 (by kernel_rfl) (by kernel_rfl) (by kernel_rfl) Try.underlying35 Try.underlying5 (by kernel_rfl) h1 (fun elems sp e => by
    subst e
    refine ⟨?_, fun x hx ys e2 s2 hxx hy => ?_⟩
    · have := sized_slice hsz (j := 1) (t := 23) (e := 43) rfl rfl Try.underlying23
      rw [bytesPc] at this
      simp only [reachBytes] at this
      omega
    · have := sized_part hsz (j := 1) (t := 23) (e := 43) (ft := 35) (q := 5) rfl rfl Try.underlying23 Try.underlying43 hx hxx (i := 1) rfl hy Try.underlying35
      rw [bytesB] at this
      simp only [reachBytes] at this
      omega)
  have hbk : Rows.uptoBulkAll [d0, d1] ≤ 1048576 := by have := of_decide_eq_true hk; simpa only [List.append_nil] using this
  simp only [bulk_all_cons, bulk_all_nil] at hbk
  have bk0 := bulk_len Try.underlying22 h0
  have bk1 := bulk_ps Try.underlying23 Try.underlying43 (by kernel_rfl) (by kernel_rfl) Try.underlying35 h1 l1 hB1
  clear hA0 hval0
  refine (fillBack_walk W a0 len0 cap0 l0 hB0 a1 len1 cap1 l1 hB1 (by unfold bytesP; omega)).mono fun e W' ⟨he, bel⟩ => ?_
  subst he
  exact ⟨_, rfl, _, _, _, [], _, [], hW', trodAll_mk1 (shut_bool Try.underlying4 _),
    (trodAll_cons_mk (Below.trod laidOut (by kernel_rfl) (of_decide_eq_true (by kernel_rfl)) h0 bel lt0) (trodAll_cons_mk (Below.trod laidOut (by kernel_rfl) (of_decide_eq_true (by kernel_rfl)) h1 bel lt1) trodAll_mk0)), rfl, bel.frame _, fun h => by cases h⟩

theorem holds : Rows.FillBackUptoSaid :=
  OpenClaim.holds_of_cond 3 Try.f3 rfl rfl rfl rfl rfl rfl rfl ⟨rfl, rfl, rfl, rfl, rfl⟩ rfl rfl rfl rfl rfl (by kernel_rfl) Try.func3 (by kernel_rfl)
    (of_decide_eq_true (by kernel_rfl)) (by unfold Func.isWrapper; first | (rw [if_pos (by decide +kernel)]; kernel_rfl) | (rw [if_neg (by decide +kernel)]; exact ⟨rfl, rfl⟩))
    (fun os started H enc _ F => lifted os started H enc F)
#print axioms holds
end Go.Proofs.Ytpkejabhkkfalaa.fillBack

/-
  Statement FillAsks of layer 16 is proved as its tied card, in its Upto form: for every list of pieces, where it is of bulk at most 1048576, Most, Shaped and Print answer as the document says; the pieces stay, and the answers are memory of their own. No other condition.
-/
import Derived.Test.YtdbkoephkdfbfaaDoorOpen
import Derived.Test.YtdbkoephkdfbfaaDoorAskLaw
import Derived.Test.YtdbkoephkdfbfaaDoorDoor0
import Derived.Test.YtdbkoephkdfbfaaDoorTie
import Derived.Test.YtdbkoephkdfbfaaDoorCards
import Derived.SevenTiedAt
import Derived.ChangeMaps5
import Derived.Test.YtdbkoephkdfbfaaDoorPieces
import Derived.Deep.DeepHandedRow
import Derived.Deep.DeepWitnessRowRef
import Derived.Deep.CondSized
import Derived.Test.YtdbkoephkdfbfaaDoorBulkP
namespace Go.Proofs.YtdbkoephkdfbfaaDoor.fillAsks
open Go.ChangeShapes Go.WideShapes Go.ChangeAt Go.RowKit

theorem laid_met (os : Os) : laidMet Tryd.prog Rows.fillAsksUptoRow.laid ((World.doorLaid Tryd.prog 400 os).forCall (fun _ _ => 0) ⟨#[], #[.slice none 0 0], []⟩).memory :=
  laidMet_of_run' 8 (by kernel_rfl) (by kernel_rfl)
theorem reads (os : Os) {H : Type} (enc : TypeId × Value → H) : ∃ places, DataW.whole enc Tryd.prog ((World.doorLaid Tryd.prog 400 os).forCall (fun _ _ => 0) ⟨#[], #[.slice none 0 0], []⟩).memory Tryd.f5.params.toList Rows.fillAsksSpec.vars false (Array.toList #[.slice none 0 0]) 8 = some ([.nil], [], places) :=
  ⟨[], by kernel_rfl⟩

set_option maxRecDepth 100000 in
theorem lifted (os : Os) (started : os.Started) (H : Type) (enc : TypeId × Value → H) (F : Stop.Interp) :
    ReturnsInHanded {} Tryd.checked os 5 .any ((Rows.OpenSpec.upto Rows.fillAsksSpec).preRow enc Tryd.prog Tryd.f5 Rows.fillAsksUptoRow.domain false Rows.fillAsksUptoRow.laid) (((Rows.OpenSpec.upto Rows.fillAsksSpec).at F).post enc Tryd.prog Tryd.f5 false true false false) := by
  obtain ⟨places, hx⟩ := reads os enc
  refine returnsInHanded_of_row (C := Tryd.checked) (s := Rows.OpenSpec.upto Rows.fillAsksSpec) own started (by kernel_rfl) Tryd.func5
    (witness_row_atRef (enc := enc) (C := Tryd.checked) false (World.doorLaid Tryd.prog 400 os) #[.slice none 0 0] rfl (by kernel_rfl) (by kernel_rfl) (by kernel_rfl)
      (OpenSpec.preRow_of_cond 8 hx (by kernel_rfl) (fun k hk => by cases hk; kernel_rfl) (by kernel_rfl) (laid_met os))) ?_
  intro W base args ds gs before hval0 hW hcnd hk hsz0 hL hsh _
  replace hk := hk _ rfl
  show Calls Tryd.prog 5 args W fun e W' => ∃ v, e = .returned v ∧ Rows.fillAsksSpec.post enc Tryd.prog Tryd.f5 false true false false W args v W'
  replace hW : DataW.Whole enc Tryd.prog Tryd.f5.params.toList Rows.fillAsksSpec.vars false W args.toList ds gs before := hW
  have hval : ∀ (j : Nat) t v, Tryd.f5.params[j]? = some t → args[j]? = some v → Value.okWide Tryd.prog W .any base t v := hval0
  have hsz : (DataW.weightsEach Tryd.prog (Tryd.f5.params.toList ++ Rows.fillAsksSpec.plain.varTypes Tryd.prog) (ds ++ gs)).all (· ≤ reachBytes) = true := hsz0
  have hW' := hW
  obtain ⟨p, q, hA0, hV, rfl, hfz, hnd⟩ := hW
  have hA : DataW.TrodAll enc Tryd.prog W 0 (fun _ => true) true Tryd.f5.params.toList args.toList ds p := hA0
  rw [Tryd.params5] at hA hval hsz
  obtain ⟨v0, vs0, d0, ds0, p0, q0, hargs, rfl, rfl, h0, r0⟩ := trodAll_cons hA
  obtain ⟨rfl, rfl, rfl⟩ := trodAll_nil r0
  obtain rfl : args = #[v0] := by cases args; simp_all
  obtain ⟨rfl, rfl⟩ := trodVars_none hV
  have lt0 : ∀ x ∈ p0, x.block < W.heap.size := by obtain ⟨m, hm⟩ := h0; exact DataW.trod_lt m _ _ _ hm
  obtain ⟨a0, len0, cap0, rfl⟩ := okWide_slice Tryd.underlying75 (hval 0 75 v0 rfl rfl)
  obtain ⟨l0, hl0, hB0⟩ := open_ps Tryd.underlying75 Tryd.underlying122 (by kernel_rfl) (by kernel_rfl) (by kernel_rfl) Tryd.underlying48 Tryd.underlying5 (by kernel_rfl) h0 (fun elems sp e => by
    subst e
    refine ⟨?_, fun x hx ys e2 s2 hxx hy => ?_⟩
    · have := sized_slice hsz (j := 0) (t := 75) (e := 122) rfl rfl Tryd.underlying75
      rw [bytesPc] at this
      simp only [reachBytes] at this
      omega
    · have := sized_part hsz (j := 0) (t := 75) (e := 122) (ft := 48) (q := 5) rfl rfl Tryd.underlying75 Tryd.underlying122 hx hxx (i := 1) rfl hy Tryd.underlying48
      rw [bytesB] at this
      simp only [reachBytes] at this
      omega)
  have hbk : Rows.uptoBulkAll [d0] ≤ 1048576 := by have := of_decide_eq_true hk; simpa only [List.append_nil] using this
  simp only [bulk_all_cons, bulk_all_nil] at hbk
  have bk0 := bulk_ps Tryd.underlying75 Tryd.underlying122 (by kernel_rfl) (by kernel_rfl) Tryd.underlying48 h0 l0 hB0
  clear hA0 hval0
  refine (asks_walk W a0 len0 cap0 l0 hB0 (by unfold bytesP; omega)).mono fun e W' ⟨he, bel⟩ => ?_
  subst he
  exact ⟨_, rfl, _, _, _, [], _, [], hW', trodAll_mk1 (shut_bool Tryd.underlying4 _),
    (trodAll_cons_mk (Below.trod laidOut (by kernel_rfl) (of_decide_eq_true (by kernel_rfl)) h0 bel lt0) trodAll_mk0), rfl, bel.frame _, fun h => by cases h⟩

theorem row_holds : Rows.FillAsksUptoSaid :=
  OpenClaim.holds_of_cond 5 Tryd.f5 rfl rfl rfl rfl rfl rfl rfl ⟨rfl, rfl, rfl, rfl, rfl⟩ rfl rfl rfl rfl rfl (by kernel_rfl) Tryd.func5 (by kernel_rfl)
    (of_decide_eq_true (by kernel_rfl)) (by unfold Func.isWrapper; first | (rw [if_pos (by decide +kernel)]; kernel_rfl) | (rw [if_neg (by decide +kernel)]; exact ⟨rfl, rfl⟩))
    (fun os started H enc _ F => by rw [OpenClaim.pre_eq_preRow]; exact lifted os started H enc F)
theorem holds : Rows.FillAsksUptoCardSaid :=
  Claim7.holds_tied_plain_at .later [] [.data, .data, .data] true Rows.fillAsksUptoCard.stood.harness Rows.fillAsksUptoCard.stood.looks
    row_holds (fun _ h => by cases h) (by kernel_rfl) (fun _ h => by cases h) fillAsksUpto_row_tie rfl ⟨rfl, rfl⟩ (by kernel_rfl) rfl
    (fun f fn hf hfn => by
      obtain rfl : f = 5 := Option.some.inj ((show Tryd.prog.funcNamed "galley/galleylaw16.FillAsks" = some 5 by kernel_rfl).symm.trans hf) |>.symm
      obtain rfl : fn = Tryd.f5 := (Option.some.inj (Tryd.func5.symm.trans hfn)).symm
      exact ⟨by kernel_rfl, fun j t ht => by
        rw [Tryd.params5] at ht
        have hm : t ∈ [75] := by simpa using Array.mem_of_getElem? ht
        have hall : ([75].all fun u => !Tryd.prog.wantsStandIn u) = true := by kernel_rfl
        exact (show Tryd.prog.wantsStandIn t = false by simpa using List.all_eq_true.1 hall t hm)⟩)
    (by kernel_rfl)
#print axioms holds
end Go.Proofs.YtdbkoephkdfbfaaDoor.fillAsks

/-
  Whatever options: opts.Print answers what the document answers; they stay, and the answers are new memory.
-/
import Derived.Test.YtgepjjpcokbpjaaDoorOpen
import Derived.Test.YtgepjjpcokbpjaaDoorDoorT
import Derived.Test.YtgepjjpcokbpjaaDoorOpL
import Derived.Test.YtgepjjpcokbpjaaDoorDoor0
import Derived.Test.YtgepjjpcokbpjaaDoorTie
import Derived.Test.YtgepjjpcokbpjaaDoorCards
import Derived.SevenTiedAt
import Derived.ChangeMaps5
import Derived.Test.YtgepjjpcokbpjaaDoorOpenT
import Derived.Test.YtgepjjpcokbpjaaDoorFields
namespace Go.Proofs.YtgepjjpcokbpjaaDoor.optsPrints
open Go.ChangeShapes Go.WideShapes Go.ChangeAt Go.RowKit

theorem door_met (os : Os) (args : Array Value) : laidMetH Tryd.prog [("math/bits.deBruijn32tab", Rows.laid_math_bits_deBruijn32tab), ("math/bits.deBruijn64tab", Rows.laid_math_bits_deBruijn64tab), ("internal/strconv.uint64pow10", Rows.laid_internal_strconv_uint64pow10)] ((World.doorLaid Tryd.prog 400 os).forCall (fun _ _ => 0) ⟨#[], args, []⟩).memory :=
  laidMetH_of_parts3 (fuel := 8) (laidMet_of_run' 8 (by kernel_rfl) (by kernel_rfl)) (by kernel_rfl) (by kernel_rfl)

set_option maxRecDepth 100000 in
theorem lifted (os : Os) (started : os.Started) (H : Type) (enc : TypeId × Value → H) :
    ReturnsInHanded {} Tryd.checked os 4 .any (fun w args => (Rows.optsPrintsSpec.pre enc Tryd.prog Tryd.f4 [] false w args ∧ laidMetH Tryd.prog [("math/bits.deBruijn32tab", Rows.laid_math_bits_deBruijn32tab), ("math/bits.deBruijn64tab", Rows.laid_math_bits_deBruijn64tab), ("internal/strconv.uint64pow10", Rows.laid_internal_strconv_uint64pow10)] w) ∧ sizedMet enc Tryd.prog Tryd.f4 (OpenSpec.ofChange Rows.optsPrintsSpec) false w args)
      (Rows.optsPrintsSpec.post enc Tryd.prog Tryd.f4 false true false false) := by
  refine returns_laid3 (C := Tryd.checked) (X := fun w _ => laidMetH Tryd.prog [("math/bits.deBruijn32tab", Rows.laid_math_bits_deBruijn32tab), ("math/bits.deBruijn64tab", Rows.laid_math_bits_deBruijn64tab), ("internal/strconv.uint64pow10", Rows.laid_internal_strconv_uint64pow10)] w) (fun _ _ _ hh h => h.of_heap hh) own started (by kernel_rfl) Tryd.func4
    (ChangeSpec.witness_shaped (enc := enc) (C := Tryd.checked) (os := os) (X := fun w _ => laidMetH Tryd.prog [("math/bits.deBruijn32tab", Rows.laid_math_bits_deBruijn32tab), ("math/bits.deBruijn64tab", Rows.laid_math_bits_deBruijn64tab), ("internal/strconv.uint64pow10", Rows.laid_internal_strconv_uint64pow10)] w) false (World.doorLaid Tryd.prog 400 os) #[.agg #[.bool false, .bool false, .bool false, .bool false, .slice none 0 0, .slice none 0 0]] 8 rfl (World.shaped_of_RefB (by kernel_rfl) (by kernel_rfl)) (by kernel_rfl) (by kernel_rfl) (by kernel_rfl) (door_met os _)) ?_
  intro W args ds gs before base hval0 hW hsz0 hL hsh
  have hval : ∀ (j : Nat) t v, Tryd.f4.params[j]? = some t → args[j]? = some v → Value.okWide Tryd.prog W .any base t v := hval0
  have hsz : (DataW.weightsEach Tryd.prog (Tryd.f4.params.toList ++ Rows.optsPrintsSpec.plain.varTypes Tryd.prog) (ds ++ gs)).all (· ≤ reachBytes) = true := hsz0
  have hW' := hW
  obtain ⟨p, q, hA0, hV, rfl, hfz, hnd⟩ := hW
  have hA : DataW.TrodAll enc Tryd.prog W 0 (fun _ => true) true Tryd.f4.params.toList args.toList ds p := hA0
  rw [Tryd.params4] at hA hval hsz
  obtain ⟨v0, vs0, d0, ds0, p0, q0, hargs, rfl, rfl, h0, r0⟩ := trodAll_cons hA
  obtain ⟨rfl, rfl, rfl⟩ := trodAll_nil r0
  obtain rfl : args = #[v0] := by cases args; simp_all
  obtain ⟨rfl, rfl⟩ := trodVars_none hV
  have lt0 : ∀ x ∈ p0, x.block < W.heap.size := by obtain ⟨m, hm⟩ := h0; exact DataW.trod_lt m _ _ _ hm
  obtain ⟨cs0, ys0, rfl, hcl0, hyl0, hdd0, hf0⟩ := open_fields Tryd.underlying28 (by kernel_rfl) (by kernel_rfl) (hval 0 28 v0 rfl rfl) h0
  obtain ⟨k0_0, k0_1, k0_2, k0_3, k0_4, k0_5, rfl⟩ := len6 cs0 hcl0
  obtain ⟨y0_0, y0_1, y0_2, y0_3, y0_4, y0_5, rfl⟩ := len6 ys0 hyl0
  obtain ⟨_, t0_0⟩ := hf0 0 _ _ _ rfl rfl rfl
  obtain ⟨_, t0_1⟩ := hf0 1 _ _ _ rfl rfl rfl
  obtain ⟨_, t0_2⟩ := hf0 2 _ _ _ rfl rfl rfl
  obtain ⟨_, t0_3⟩ := hf0 3 _ _ _ rfl rfl rfl
  obtain ⟨_, t0_4⟩ := hf0 4 _ _ _ rfl rfl rfl
  obtain ⟨_, t0_5⟩ := hf0 5 _ _ _ rfl rfl rfl
  obtain ⟨x0_0, e0_0, -⟩ := DataW.trod_bool Tryd.underlying4 t0_0
  obtain ⟨x0_1, e0_1, -⟩ := DataW.trod_bool Tryd.underlying4 t0_1
  obtain ⟨x0_2, e0_2, -⟩ := DataW.trod_bool Tryd.underlying4 t0_2
  obtain ⟨x0_3, e0_3, -⟩ := DataW.trod_bool Tryd.underlying4 t0_3
  simp only [List.cons.injEq, and_true] at e0_0 e0_1 e0_2 e0_3
  subst e0_0 e0_1 e0_2 e0_3
  obtain ⟨a0_4, len0_4, cap0_4, e0_4⟩ := slice_shapeT Tryd.underlying26 t0_4
  subst e0_4
  obtain ⟨a0_5, len0_5, cap0_5, e0_5⟩ := slice_shapeT Tryd.underlying22 t0_5
  subst e0_5
  have w0 := w_arg hsz (j := 0) (t := 28) rfl rfl
  rw [hdd0] at w0
  obtain ⟨l0_4, hl0_4, hB0_4, hz0_4⟩ := open_pt (d := y0_4.1) (p := y0_4.2) Tryd.underlying26 Tryd.underlying66 (by kernel_rfl) (by kernel_rfl) Tryd.underlying4 Tryd.underlying9 ⟨_, t0_4⟩ (by kernel_rfl) (w_part Tryd.underlying28 w0 (i := 4) rfl rfl)
  obtain ⟨l0_5, hl0_5, hB0_5, hz0_5⟩ := open_ts (d := y0_5.1) (p := y0_5.2) Tryd.underlying22 Tryd.underlying9 (by kernel_rfl) ⟨_, t0_5⟩ (by kernel_rfl) (w_part Tryd.underlying28 w0 (i := 5) rfl rfl)
  clear hA0 hval0
  refine (printsLaw_any W (tabw_of_laid hL) ⟨x0_0, x0_1, x0_2, x0_3, l0_4, l0_5⟩ a0_4 len0_4 cap0_4 hB0_4 a0_5 len0_5 cap0_5 hB0_5).mono fun e W' ⟨he, bel⟩ => ?_
  subst he
  exact ⟨_, rfl, _, _, _, [], _, [], hW', trodAll_mk1 (shut_bool Tryd.underlying4 _),
    (trodAll_cons_mk (Below.trod laidOut (by kernel_rfl) (of_decide_eq_true (by kernel_rfl)) h0 bel lt0) trodAll_mk0), rfl, bel.frame _, fun h => by cases h⟩

theorem row_holds : Rows.OptsPrintsSaid :=
  OpenClaim.holds_of_wide 4 Tryd.f4 rfl rfl rfl rfl rfl rfl rfl ⟨rfl, rfl, rfl, rfl, rfl⟩ rfl rfl rfl rfl rfl (by kernel_rfl) Tryd.func4 (by kernel_rfl)
    (of_decide_eq_true (by kernel_rfl)) (by unfold Func.isWrapper; first | (rw [if_pos (by decide +kernel)]; kernel_rfl) | (rw [if_neg (by decide +kernel)]; exact ⟨rfl, rfl⟩))
    (fun os started H enc _ => lifted os started H enc)
theorem holds : Rows.OptsPrintsCardSaid :=
  Claim7.holds_tied_plain_at .later [] [.data, .data, .data] true Rows.optsPrintsCard.stood.harness Rows.optsPrintsCard.stood.looks
    row_holds (fun _ h => by cases h) (by kernel_rfl) (fun _ h => by cases h) optsPrints_row_tie rfl ⟨rfl, rfl⟩ (by kernel_rfl) rfl
    (fun f fn hf hfn => by
      obtain rfl : f = 4 := Option.some.inj ((show Tryd.prog.funcNamed "galley/galleylaw28.OptsPrints" = some 4 by kernel_rfl).symm.trans hf) |>.symm
      obtain rfl : fn = Tryd.f4 := (Option.some.inj (Tryd.func4.symm.trans hfn)).symm
      exact ⟨by kernel_rfl, fun j t ht => by
        rw [Tryd.params4] at ht
        have hm : t ∈ [28] := by simpa using Array.mem_of_getElem? ht
        have hall : ([28].all fun u => !Tryd.prog.wantsStandIn u) = true := by kernel_rfl
        exact (show Tryd.prog.wantsStandIn t = false by simpa using List.all_eq_true.1 hall t hm)⟩)
    (by kernel_rfl)
#print axioms holds
end Go.Proofs.YtgepjjpcokbpjaaDoor.optsPrints

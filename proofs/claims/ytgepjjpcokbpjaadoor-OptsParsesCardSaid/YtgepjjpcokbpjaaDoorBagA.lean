/-
  galleyref00.Bag: Apart, where bytes alone were gathered.
-/
import Derived.Test.YtgepjjpcokbpjaaDoorBagW
namespace Go.Proofs.YtgepjjpcokbpjaaDoor
open Go.RowKit

/-- The heads of the other lists: none was gathered. -/
def noneB : List Value := List.replicate 18 (.slice none 0 0)
theorem noneB_at (i : Nat) (h : i < 18) : noneB[i]? = some (.slice none 0 0) := by unfold noneB; rw [List.getElem?_replicate, if_pos h]

set_option maxRecDepth 100000 in
set_option maxHeartbeats 1000000 in
theorem apart_T (T : Nat → Prop) (w : World) (base bg m : Nat) (bv : Value) (vs : Nat → Value) (len : Nat → Nat) (C : Nat → List Value) (hbag : BagAt w bg (bv :: noneB)) (hbv : w.ownsRow base 61 1 bv m (firstN vs m)) (hm : m ≤ 400) (hB : Bags w base 5 1 m vs len C)
    (hlen : ∀ k, k < m → len k ≤ 140737488351232) (hbase : base ≤ w.heap.size) (hT : ∀ k, T k → k < w.heap.size) (hTV : ∀ j, j < m → FarT T (vs j)) :
    Calls Tryd.prog 16 #[.pointer (some ⟨bg, 0, none⟩)] w fun e w' => e = .returned (.bool true) ∧ FrT w w' base bg T := by
  have HA := Lib.hid (apartBytes_T T w base bg m bv noneB vs len C hbag hbv hm hB hlen hbase hT hTV)
  have HBAG := Lib.hid hbag
  clear hbag hbv hB hlen
  go_enter Tryd.func16, Tryd.ntmps16
  go_wp2_with fail
  refine HA.out.mono ?_
  rintro e w1 ⟨rfl, hF⟩
  have HF := Lib.hid hF
  have HN : ∀ i : Nat, i < 18 → w1.cell? ⟨bg, i + 1, none⟩ = some (.slice none 0 0) := fun i hi => ((hF.at_ HBAG.out).cell (i + 1)).trans (noneB_at i hi)
  have HN := Lib.hid HN
  clear hF HA
  go_wp2_with fail
  refine (apartInts_nil w1 bg (HN.out 0 (by omega))).mono ?_
  rintro e w' ⟨rfl, rfl⟩
  go_wp2_with fail
  refine (apartBools_nil w1 bg (HN.out 1 (by omega))).mono ?_
  rintro e w' ⟨rfl, rfl⟩
  go_wp2_with fail
  refine (apartTexts_nil w1 bg (HN.out 2 (by omega))).mono ?_
  rintro e w' ⟨rfl, rfl⟩
  go_wp2_with fail
  refine (apartMarks_nil w1 bg (HN.out 3 (by omega))).mono ?_
  rintro e w' ⟨rfl, rfl⟩
  go_wp2_with fail
  refine (apartSpans_nil w1 bg (HN.out 4 (by omega))).mono ?_
  rintro e w' ⟨rfl, rfl⟩
  go_wp2_with fail
  refine (apartRuns_nil w1 bg (HN.out 5 (by omega))).mono ?_
  rintro e w' ⟨rfl, rfl⟩
  go_wp2_with fail
  refine (apartClasses_nil w1 bg (HN.out 6 (by omega))).mono ?_
  rintro e w' ⟨rfl, rfl⟩
  go_wp2_with fail
  refine (apartNodes_nil w1 bg (HN.out 7 (by omega))).mono ?_
  rintro e w' ⟨rfl, rfl⟩
  go_wp2_with fail
  refine (apartInstrs_nil w1 bg (HN.out 8 (by omega))).mono ?_
  rintro e w' ⟨rfl, rfl⟩
  go_wp2_with fail
  refine (apartFaults_nil w1 bg (HN.out 9 (by omega))).mono ?_
  rintro e w' ⟨rfl, rfl⟩
  go_wp2_with fail
  refine (apartNotes_nil w1 bg (HN.out 10 (by omega))).mono ?_
  rintro e w' ⟨rfl, rfl⟩
  go_wp2_with fail
  refine (apartParts_nil w1 bg (HN.out 11 (by omega))).mono ?_
  rintro e w' ⟨rfl, rfl⟩
  go_wp2_with fail
  refine (apartRows_nil w1 bg (HN.out 12 (by omega))).mono ?_
  rintro e w' ⟨rfl, rfl⟩
  go_wp2_with fail
  refine (apartIntss_nil w1 bg (HN.out 13 (by omega))).mono ?_
  rintro e w' ⟨rfl, rfl⟩
  go_wp2_with fail
  refine (apartSpanss_nil w1 bg (HN.out 14 (by omega))).mono ?_
  rintro e w' ⟨rfl, rfl⟩
  go_wp2_with fail
  refine (apartPieces_nil w1 bg (HN.out 15 (by omega))).mono ?_
  rintro e w' ⟨rfl, rfl⟩
  go_wp2_with fail
  refine (apartFiles_nil w1 bg (HN.out 16 (by omega))).mono ?_
  rintro e w' ⟨rfl, rfl⟩
  go_wp2_with fail
  refine (apartCmds_nil w1 bg (HN.out 17 (by omega))).mono ?_
  rintro e w' ⟨rfl, rfl⟩
  go_wp2_with fail
  go_ret
  exact ⟨rfl, HF.out⟩
theorem apart_any (w : World) (base bg m : Nat) (bv : Value) (vs : Nat → Value) (len : Nat → Nat) (C : Nat → List Value) (hbag : BagAt w bg (bv :: noneB)) (hbv : w.ownsRow base 61 1 bv m (firstN vs m)) (hm : m ≤ 400) (hB : Bags w base 5 1 m vs len C)
    (hlen : ∀ k, k < m → len k ≤ 140737488351232) (hbase : base ≤ w.heap.size) :
    Calls Tryd.prog 16 #[.pointer (some ⟨bg, 0, none⟩)] w fun e w' => e = .returned (.bool true) ∧ Fr w w' base bg :=
  (apart_T (fun _ => False) w base bg m bv vs len C hbag hbv hm hB hlen hbase (fun _ h => h.elim) (fun _ _ _ h => h.elim)).mono fun _ _ ⟨e, h⟩ => ⟨e, h.fr⟩
end Go.Proofs.YtgepjjpcokbpjaaDoor

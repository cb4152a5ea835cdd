/-
  galleyref00.Bag: AddTexts; Apart, where texts alone were gathered.
-/
import Derived.Test.YtgepjjpcokbpjaaDoorBagK
import Derived.Test.YtgepjjpcokbpjaaDoorBagTx
namespace Go.Proofs.YtgepjjpcokbpjaaDoor
open Go.RowKit

set_option maxRecDepth 100000 in
theorem addTexts_any (w : World) (base bg n : Nat) (fs : List Value) (bv : Value) (us : List Value) (ua : Option Addr) (un uc : Nat) (hbag : BagAt w bg fs) (hd : fs[3]? = some bv) (hown : w.ownsRow base 22 1 bv n us) (hm : n < 400) (hb : base ≤ w.heap.size) :
    Calls Tryd.prog 21 #[.pointer (some ⟨bg, 0, none⟩), .slice ua un uc] w (AddedKPost 3 22 w base bg n fs bv us (.slice ua un uc)) := by
  obtain ⟨b, c, rfl⟩ := own_shape hown
  have hc : w.cell? ⟨bg, 3, none⟩ = some (.slice b n c) := (hbag.cell 3).trans hd
  have HB := Lib.hid hbag
  have HD := Lib.hid hd
  have HO := Lib.hid hown
  have hm' : decide ((n : Int) < 400) = true := by simp; omega
  clear hbag hd
  go_enter Tryd.func21, Tryd.ntmps21
  go_wp2_with (at_builtin; refine append_lg rfl (.tmp 14) (.tmp 16) 38 22 rfl Tryd.underlying38 infoLT base _ n us _ rfl hown rfl rfl (by omega) hb ?_)
  intro v' w1 hov hold hp
  have hB1 := HB.out.keepT (KeepT.of_app hown hp neLTG)
  obtain ⟨b', c', rfl⟩ := own_shape hov
  have hc1 : w1.cell? ⟨bg, 3, none⟩ = some (.slice b n c) := (hB1.cell 3).trans HD.out
  have hf1 := hB1.frozen 3
  have HA : Hid (AddedK 3 22 w (w1.setCell ⟨bg, 3, none⟩ (.slice b' (n + 1) c')) base bg n fs (.slice b n c) (.slice b' (n + 1) c') us (.slice ua un uc)) := Lib.hid
    (AddedK.of_app HB.out neLTG hown hov hp)
  clear hov hold hp hB1 hc hown HB HD HO
  go_wp2_with fail
  go_end0
  exact ⟨rfl, _, HA.out⟩

set_option maxRecDepth 100000 in
set_option maxHeartbeats 1000000 in
theorem apart_texts (T : Nat → Prop) (w : World) (base bg m : Nat) (fs : List Value) (bv : Value) (vs : Nat → Value) (len : Nat → Nat) (C : Nat → List Value) (hbag : BagAt w bg fs) (hz : ∀ i, i < 19 → i ≠ 3 → fs[i]? = some (.slice none 0 0)) (hK : Kd w base 3 22 9 1 8796093021952 m fs bv vs len C) (hm : m ≤ 400)
    (hbase : base ≤ w.heap.size) (hTab : ∀ w', Below base w w' → TabW w') (hT : ∀ k, T k → k < w.heap.size) (hTV : ∀ j, j < m → FarT T (vs j)) :
    Calls Tryd.prog 16 #[.pointer (some ⟨bg, 0, none⟩)] w fun e w' => e = .returned (.bool true) ∧ FrT w w' base bg T := by
  have HA := Lib.hid (apartTexts_T T w base bg m bv fs vs len C hbag hK.hd hK.own hm hK.b hK.lim hbase hTab hT hTV)
  have HBAG := Lib.hid hbag
  have HN0 : ∀ i : Nat, i < 19 → i ≠ 3 → w.cell? ⟨bg, i, none⟩ = some (.slice none 0 0) := fun i hi hne => (hbag.cell i).trans (hz i hi hne)
  have HN0 := Lib.hid HN0
  have HZ := Lib.hid hz
  clear hbag hK hz
  go_enter Tryd.func16, Tryd.ntmps16
  go_wp2_with fail
  refine (apartBytes_nil w bg (HN0.out 0 (by omega) (by omega))).mono ?_
  rintro e w' ⟨rfl, rfl⟩
  go_wp2_with fail
  refine (apartInts_nil w bg (HN0.out 1 (by omega) (by omega))).mono ?_
  rintro e w' ⟨rfl, rfl⟩
  go_wp2_with fail
  refine (apartBools_nil w bg (HN0.out 2 (by omega) (by omega))).mono ?_
  rintro e w' ⟨rfl, rfl⟩
  go_wp2_with fail
  refine HA.out.mono ?_
  rintro e w1 ⟨rfl, hF⟩
  have HF := Lib.hid hF
  have HN : ∀ i : Nat, i < 19 → i ≠ 3 → w1.cell? ⟨bg, i, none⟩ = some (.slice none 0 0) := fun i hi hne => ((hF.at_ HBAG.out).cell i).trans (HZ.out i hi hne)
  have HN := Lib.hid HN
  clear hF HA HN0
  go_wp2_with fail
  refine (apartMarks_nil w1 bg (HN.out 4 (by omega) (by omega))).mono ?_
  rintro e w' ⟨rfl, rfl⟩
  go_wp2_with fail
  refine (apartSpans_nil w1 bg (HN.out 5 (by omega) (by omega))).mono ?_
  rintro e w' ⟨rfl, rfl⟩
  go_wp2_with fail
  refine (apartRuns_nil w1 bg (HN.out 6 (by omega) (by omega))).mono ?_
  rintro e w' ⟨rfl, rfl⟩
  go_wp2_with fail
  refine (apartClasses_nil w1 bg (HN.out 7 (by omega) (by omega))).mono ?_
  rintro e w' ⟨rfl, rfl⟩
  go_wp2_with fail
  refine (apartNodes_nil w1 bg (HN.out 8 (by omega) (by omega))).mono ?_
  rintro e w' ⟨rfl, rfl⟩
  go_wp2_with fail
  refine (apartInstrs_nil w1 bg (HN.out 9 (by omega) (by omega))).mono ?_
  rintro e w' ⟨rfl, rfl⟩
  go_wp2_with fail
  refine (apartFaults_nil w1 bg (HN.out 10 (by omega) (by omega))).mono ?_
  rintro e w' ⟨rfl, rfl⟩
  go_wp2_with fail
  refine (apartNotes_nil w1 bg (HN.out 11 (by omega) (by omega))).mono ?_
  rintro e w' ⟨rfl, rfl⟩
  go_wp2_with fail
  refine (apartParts_nil w1 bg (HN.out 12 (by omega) (by omega))).mono ?_
  rintro e w' ⟨rfl, rfl⟩
  go_wp2_with fail
  refine (apartRows_nil w1 bg (HN.out 13 (by omega) (by omega))).mono ?_
  rintro e w' ⟨rfl, rfl⟩
  go_wp2_with fail
  refine (apartIntss_nil w1 bg (HN.out 14 (by omega) (by omega))).mono ?_
  rintro e w' ⟨rfl, rfl⟩
  go_wp2_with fail
  refine (apartSpanss_nil w1 bg (HN.out 15 (by omega) (by omega))).mono ?_
  rintro e w' ⟨rfl, rfl⟩
  go_wp2_with fail
  refine (apartPieces_nil w1 bg (HN.out 16 (by omega) (by omega))).mono ?_
  rintro e w' ⟨rfl, rfl⟩
  go_wp2_with fail
  refine (apartFiles_nil w1 bg (HN.out 17 (by omega) (by omega))).mono ?_
  rintro e w' ⟨rfl, rfl⟩
  go_wp2_with fail
  refine (apartCmds_nil w1 bg (HN.out 18 (by omega) (by omega))).mono ?_
  rintro e w' ⟨rfl, rfl⟩
  go_wp2_with fail
  go_ret
  exact ⟨rfl, HF.out⟩
end Go.Proofs.YtgepjjpcokbpjaaDoor

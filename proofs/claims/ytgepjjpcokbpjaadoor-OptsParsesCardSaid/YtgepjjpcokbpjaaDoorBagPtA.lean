/-
  galleyref00.Bag: AddParts, AddOptions; Apart, where texts and parts were gathered.
-/
import Derived.Test.YtgepjjpcokbpjaaDoorBagTxG
import Derived.Test.YtgepjjpcokbpjaaDoorBagPt
import Derived.Test.YtgepjjpcokbpjaaDoorPrintO
namespace Go.Proofs.YtgepjjpcokbpjaaDoor
open Go.RowKit

set_option maxRecDepth 100000 in
theorem addParts_any (w : World) (base bg n : Nat) (fs : List Value) (bv : Value) (us : List Value) (ua : Option Addr) (un uc : Nat) (hbag : BagAt w bg fs) (hd : fs[12]? = some bv) (hown : w.ownsRow base 26 1 bv n us) (hm : n < 400) (hb : base ≤ w.heap.size) :
    Calls Tryd.prog 33 #[.pointer (some ⟨bg, 0, none⟩), .slice ua un uc] w (AddedKPost 12 26 w base bg n fs bv us (.slice ua un uc)) := by
  obtain ⟨b, c, rfl⟩ := own_shape hown
  have hc : w.cell? ⟨bg, 12, none⟩ = some (.slice b n c) := (hbag.cell 12).trans hd
  have HB := Lib.hid hbag
  have HD := Lib.hid hd
  have HO := Lib.hid hown
  have hm' : decide ((n : Int) < 400) = true := by simp; omega
  clear hbag hd
  go_enter Tryd.func33, Tryd.ntmps33
  go_wp2_with (at_builtin; refine append_lg rfl (.tmp 14) (.tmp 16) 47 26 rfl Tryd.underlying47 infoLPt base _ n us _ rfl hown rfl rfl (by omega) hb ?_)
  intro v' w1 hov hold hp
  have hB1 := HB.out.keepT (KeepT.of_app hown hp neLPG)
  obtain ⟨b', c', rfl⟩ := own_shape hov
  have hc1 : w1.cell? ⟨bg, 12, none⟩ = some (.slice b n c) := (hB1.cell 12).trans HD.out
  have hf1 := hB1.frozen 12
  have HA : Hid (AddedK 12 26 w (w1.setCell ⟨bg, 12, none⟩ (.slice b' (n + 1) c')) base bg n fs (.slice b n c) (.slice b' (n + 1) c') us (.slice ua un uc)) := Lib.hid
    (AddedK.of_app HB.out neLPG hown hov hp)
  clear hov hold hp hB1 hc hown HB HD HO
  go_wp2_with fail
  go_end0
  exact ⟨rfl, _, HA.out⟩
theorem own_keptG {w w' : World} {base s n : Nat} {e : TypeId} {v : Value} {xs : List Value} (h : w.ownsRow base e s v n xs) (hk : ∀ k, v.ownBlock = some k → w'.heap[k]? = w.heap[k]?) : w'.ownsRow base e s v n xs := by
  refine ⟨h.1, h.2.imp_right fun ⟨g, cap, cur, e, hg, hc, r⟩ => ⟨g, cap, cur, e, hg, ?_, r⟩⟩
  subst e
  rw [hk g rfl]
  exact hc
/-- A bag of texts and of parts. -/
structure GTP (W w : World) (bg mt mp : Nat) (fs : List Value) (bt bp : Value) (vt vp : Nat → Value) (lt lp : Nat → Nat) (Ct Cp : Nat → List Value) : Prop where
  bag : BagAt w bg fs
  flen : fs.length = 19
  z : ∀ i, i < 19 → i ≠ 3 → i ≠ 12 → fs[i]? = some (.slice none 0 0)
  kt : Kd w W.heap.size 3 22 9 1 8796093021952 mt fs bt vt lt Ct
  kp : Kd w W.heap.size 12 26 66 2 5864062014634 mp fs bp vp lp Cp
  lo : W.heap.size ≤ bg
  bel : Below W.heap.size W w
theorem neTP : (9 : TypeId) ≠ 66 := by decide
theorem neTLP : (9 : TypeId) ≠ 26 := by decide
theorem nePLT : (66 : TypeId) ≠ 22 := by decide
theorem neLTLP : (22 : TypeId) ≠ 26 := by decide
section
variable {W w w' : World} {bg mt mp : Nat} {fs : List Value} {bt bp : Value} {vt vp : Nat → Value} {lt lp : Nat → Nat} {Ct Cp : Nat → List Value}
theorem GTP.start (hB : Below W.heap.size W w) : GTP W (w.alloc bagZero) w.heap.size 0 0 heads0 (.slice none 0 0) (.slice none 0 0) (fun _ => undef) (fun _ => undef) (fun _ => 0) (fun _ => 0) (fun _ => []) (fun _ => []) :=
  ⟨BagAt.new0 w, heads0_len, fun i hi _ _ => heads0_at i hi, Kd.none _ _ _ _ _ _ _ _ (heads0_at 3 (by omega)) _ _ _, Kd.none _ _ _ _ _ _ _ _ (heads0_at 12 (by omega)) _ _ _, hB.size, hB.alloc hB.size _⟩
theorem GTP.addT (h : GTP W w bg mt mp fs bt bp vt vp lt lp Ct Cp) (hm : mt < 400) {ua : Option Addr} {un uc : Nat} {l : List Str} (hv : OwnT w W.heap.size (.slice ua un uc) l) (hn : l.length ≤ 8796093021952) (hap : ∀ j, j < mt → Apart (vt j) (.slice ua un uc)) :
    Calls Tryd.prog 21 #[.pointer (some ⟨bg, 0, none⟩), .slice ua un uc] w fun e w' => e = .returned undef ∧ KeepT 9 w w' ∧ KeepT 66 w w' ∧ KeepT 28 w w' ∧ ∃ fs' bt', GTP W w' bg (mt + 1) mp fs' bt' bp (snoc vt mt (.slice ua un uc)) vp (snoc lt mt l.length) lp (snoc Ct mt (l.map Value.string)) Cp := by
  refine (addTexts_any w W.heap.size bg mt fs bt (firstN vt mt) ua un uc h.bag h.kt.hd h.kt.own hm h.bel.size).mono ?_
  rintro e w' ⟨rfl, bv', hA⟩
  refine ⟨rfl, hA.keep _ neTL neTG, hA.keep _ nePLT nePG, hA.keep _ (by decide) (by decide), _, bv', hA.bag, by rw [List.length_set, h.flen], fun i hi hne hne2 => ?_, h.kt.add hA (by rw [h.flen]; omega) neTL neTG hv hn hap, h.kp.other hA (by omega) neLTLP.symm neLPG nePLT nePG, h.lo, hA.bel _ _ h.bel (Nat.le_refl _) h.lo⟩
  rw [List.getElem?_set_ne (fun e => hne e.symm)]
  exact h.z i hi hne hne2
theorem GTP.addP (h : GTP W w bg mt mp fs bt bp vt vp lt lp Ct Cp) (hm : mp < 400) {ua : Option Addr} {un uc : Nat} {l : List Prt} (hv : OwnPt w W.heap.size (.slice ua un uc) l) (hn : l.length ≤ 5864062014634) (hap : ∀ j, j < mp → Apart (vp j) (.slice ua un uc)) :
    Calls Tryd.prog 33 #[.pointer (some ⟨bg, 0, none⟩), .slice ua un uc] w fun e w' => e = .returned undef ∧ KeepT 9 w w' ∧ KeepT 66 w w' ∧ KeepT 28 w w' ∧ ∃ fs' bp', GTP W w' bg mt (mp + 1) fs' bt bp' vt (snoc vp mp (.slice ua un uc)) lt (snoc lp mp l.length) Ct (snoc Cp mp (ptCells l)) := by
  refine (addParts_any w W.heap.size bg mp fs bp (firstN vp mp) ua un uc h.bag h.kp.hd h.kp.own hm h.bel.size).mono ?_
  rintro e w' ⟨rfl, bv', hA⟩
  refine ⟨rfl, hA.keep _ neTLP neTG, hA.keep _ nePL nePG, hA.keep _ (by decide) (by decide), _, bv', hA.bag, by rw [List.length_set, h.flen], fun i hi hne hne2 => ?_, h.kt.other hA (by omega) neLTLP neLTG neTLP neTG, h.kp.add hA (by rw [h.flen]; omega) nePL nePG hv hn hap, h.lo, hA.bel _ _ h.bel (Nat.le_refl _) h.lo⟩
  rw [List.getElem?_set_ne (fun e => hne2 e.symm)]
  exact h.z i hi hne hne2
end
set_option maxRecDepth 100000 in
set_option maxHeartbeats 1000000 in
theorem GTP.apart {W w : World} {bg mt mp : Nat} {fs : List Value} {bt bp : Value} {vt vp : Nat → Value} {lt lp : Nat → Nat} {Ct Cp : Nat → List Value} (h : GTP W w bg mt mp fs bt bp vt vp lt lp Ct Cp) (hmt : mt ≤ 400) (hmp : mp ≤ 400) (hT : TabW W) :
    Calls Tryd.prog 16 #[.pointer (some ⟨bg, 0, none⟩)] w fun e w' => e = .returned (.bool true) ∧ Below W.heap.size W w' := by
  have HT1 : Hid (∀ w', Below W.heap.size w w' → TabW w') := Lib.hid fun _ hb => hT.below (h.bel.trans hb)
  have HA := Lib.hid (apartTexts_T (fun k => bp.ownBlock = some k ∨ ∃ j, j < mp ∧ (vp j).ownBlock = some k) w W.heap.size bg mt bt fs vt lt Ct h.bag h.kt.hd h.kt.own hmt h.kt.b h.kt.lim h.bel.size HT1.out
    (fun k hk => by
      rcases hk with hk | ⟨j, hj, hk⟩
      · exact (World.ownsRow.lt h.kp.own k hk).2
      · exact (World.ownsRow.lt (h.kp.b.own j hj) k hk).2)
    (fun j hj k hk e => by
      rcases hk with hk | ⟨i, hi, hk⟩
      · exact apart_types (h.kt.b.own j hj) h.kp.own neTLP k e hk
      · exact apart_types (h.kt.b.own j hj) (h.kp.b.own i hi) neTP k e hk))
  have HH := Lib.hid h
  have HN0 : Hid (∀ i : Nat, i < 19 → i ≠ 3 → i ≠ 12 → w.cell? ⟨bg, i, none⟩ = some (.slice none 0 0)) := Lib.hid fun i hi h1 h2 => (h.bag.cell i).trans (h.z i hi h1 h2)
  clear h hT
  go_enter Tryd.func16, Tryd.ntmps16
  go_wp2_with fail
  refine (apartBytes_nil w bg (HN0.out 0 (by omega) (by omega) (by omega))).mono ?_
  rintro e w' ⟨rfl, rfl⟩
  go_wp2_with fail
  refine (apartInts_nil w bg (HN0.out 1 (by omega) (by omega) (by omega))).mono ?_
  rintro e w' ⟨rfl, rfl⟩
  go_wp2_with fail
  refine (apartBools_nil w bg (HN0.out 2 (by omega) (by omega) (by omega))).mono ?_
  rintro e w' ⟨rfl, rfl⟩
  go_wp2_with fail
  refine HA.out.mono ?_
  rintro e w1 ⟨rfl, hF⟩
  have HB1 : Hid (Below W.heap.size w w1) := Lib.hid (hF.bel _ _ (Below.refl _ _) (Nat.le_refl _))
  have HN1 : Hid (∀ i : Nat, i < 19 → i ≠ 3 → i ≠ 12 → w1.cell? ⟨bg, i, none⟩ = some (.slice none 0 0)) := Lib.hid fun i hi h1 h2 => ((hF.at_ HH.out.bag).cell i).trans (HH.out.z i hi h1 h2)
  have hown1 := own_keptG HH.out.kp.own (fun k hk => hF.kept k (.inl hk))
  have hb1 : Bags w1 W.heap.size 66 2 mp vp lp Cp := ⟨fun j hj => own_keptG (HH.out.kp.b.own j hj) (fun k hk => hF.kept k (.inr ⟨j, hj, hk⟩)), HH.out.kp.b.ap⟩
  have HP := Lib.hid (apartParts_T (fun _ => False) w1 W.heap.size bg mp bp fs vp lp Cp (hF.at_ HH.out.bag) HH.out.kp.hd hown1 hmp hb1 HH.out.kp.lim (Nat.le_trans HH.out.bel.size hF.size) (fun w' hb => HT1.out w' (HB1.out.trans hb)) (fun _ h => h.elim) (fun _ _ _ h => h.elim))
  have HBG1 := Lib.hid (hF.at_ HH.out.bag)
  clear hF HA HN0 hown1 hb1 HT1
  go_wp2_with fail
  refine (apartMarks_nil w1 bg (HN1.out 4 (by omega) (by omega) (by omega))).mono ?_
  rintro e w' ⟨rfl, rfl⟩
  go_wp2_with fail
  refine (apartSpans_nil w1 bg (HN1.out 5 (by omega) (by omega) (by omega))).mono ?_
  rintro e w' ⟨rfl, rfl⟩
  go_wp2_with fail
  refine (apartRuns_nil w1 bg (HN1.out 6 (by omega) (by omega) (by omega))).mono ?_
  rintro e w' ⟨rfl, rfl⟩
  go_wp2_with fail
  refine (apartClasses_nil w1 bg (HN1.out 7 (by omega) (by omega) (by omega))).mono ?_
  rintro e w' ⟨rfl, rfl⟩
  go_wp2_with fail
  refine (apartNodes_nil w1 bg (HN1.out 8 (by omega) (by omega) (by omega))).mono ?_
  rintro e w' ⟨rfl, rfl⟩
  go_wp2_with fail
  refine (apartInstrs_nil w1 bg (HN1.out 9 (by omega) (by omega) (by omega))).mono ?_
  rintro e w' ⟨rfl, rfl⟩
  go_wp2_with fail
  refine (apartFaults_nil w1 bg (HN1.out 10 (by omega) (by omega) (by omega))).mono ?_
  rintro e w' ⟨rfl, rfl⟩
  go_wp2_with fail
  refine (apartNotes_nil w1 bg (HN1.out 11 (by omega) (by omega) (by omega))).mono ?_
  rintro e w' ⟨rfl, rfl⟩
  go_wp2_with fail
  refine HP.out.mono ?_
  rintro e w2 ⟨rfl, hF⟩
  have HB2 : Hid (Below W.heap.size W w2) := Lib.hid (hF.bel _ _ (HH.out.bel.trans HB1.out) (Nat.le_refl _))
  have HN2 : Hid (∀ i : Nat, i < 19 → i ≠ 3 → i ≠ 12 → w2.cell? ⟨bg, i, none⟩ = some (.slice none 0 0)) := Lib.hid fun i hi h1 h2 => ((hF.at_ HBG1.out).cell i).trans (HH.out.z i hi h1 h2)
  clear hF HP HN1 HB1 HBG1
  go_wp2_with fail
  refine (apartRows_nil w2 bg (HN2.out 13 (by omega) (by omega) (by omega))).mono ?_
  rintro e w' ⟨rfl, rfl⟩
  go_wp2_with fail
  refine (apartIntss_nil w2 bg (HN2.out 14 (by omega) (by omega) (by omega))).mono ?_
  rintro e w' ⟨rfl, rfl⟩
  go_wp2_with fail
  refine (apartSpanss_nil w2 bg (HN2.out 15 (by omega) (by omega) (by omega))).mono ?_
  rintro e w' ⟨rfl, rfl⟩
  go_wp2_with fail
  refine (apartPieces_nil w2 bg (HN2.out 16 (by omega) (by omega) (by omega))).mono ?_
  rintro e w' ⟨rfl, rfl⟩
  go_wp2_with fail
  refine (apartFiles_nil w2 bg (HN2.out 17 (by omega) (by omega) (by omega))).mono ?_
  rintro e w' ⟨rfl, rfl⟩
  go_wp2_with fail
  refine (apartCmds_nil w2 bg (HN2.out 18 (by omega) (by omega) (by omega))).mono ?_
  rintro e w' ⟨rfl, rfl⟩
  go_wp2_with fail
  go_ret
  exact ⟨rfl, HB2.out⟩
end Go.Proofs.YtgepjjpcokbpjaaDoor

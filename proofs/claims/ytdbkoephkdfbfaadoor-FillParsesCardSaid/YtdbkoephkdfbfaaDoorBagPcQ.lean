/-
  galleyref00.Bag: Apart, where pieces and their texts were gathered.
-/
import Derived.Test.YtdbkoephkdfbfaaDoorBagPcA
import Derived.Test.YtdbkoephkdfbfaaDoorBagI
namespace Go.Proofs.YtdbkoephkdfbfaaDoor
open Go.RowKit

set_option maxRecDepth 100000 in
set_option maxHeartbeats 1000000 in
theorem GQs.apart {W w : World} {bg mp B : Nat} (hg : GQs W w bg mp B) (hmp : mp ≤ 400) :
    Calls Tryd.prog 26 #[.pointer (some ⟨bg, 0, none⟩)] w fun e w' => e = .returned (.bool true) ∧ Below W.heap.size W w' := by
  obtain ⟨mb, fs, bb, pb, vb, lb, Cb, vp, lp, Cp, h, -⟩ := hg
  have HG := Lib.hid h
  obtain ⟨rest, hfs⟩ : ∃ rest, fs = bb :: rest := by
    have hd := h.kb.hd
    cases fs with
    | nil => simp at hd
    | cons x rest => simp only [List.getElem?_cons_zero, Option.some.injEq] at hd; exact ⟨rest, by rw [hd]⟩
  have hbag := h.bag
  rw [hfs] at hbag
  have HT : Hid (∀ k, (pb.ownBlock = some k ∨ ∃ j, j < mp ∧ (vp j).ownBlock = some k) → k < w.heap.size) := Lib.hid fun k hk => by
    rcases hk with e | ⟨j, hj, e⟩
    · exact (World.ownsRow.lt h.kp.own k e).2
    · exact (World.ownsRow.lt (h.kp.b.own j hj) k e).2
  have HA := Lib.hid (apartBytes_T (fun k => pb.ownBlock = some k ∨ ∃ j, j < mp ∧ (vp j).ownBlock = some k) w W.heap.size bg mb bb rest vb lb Cb hbag h.kb.own h.mb_le h.kb.b h.kb.lim h.bel.size HT.out (fun j hj k hk e => by
    rcases hk with e1 | ⟨i, hi, e1⟩
    · exact apart_types (h.kb.b.own j hj) h.kp.own neUP k e e1
    · exact apart_types (h.kb.b.own j hj) (h.kp.b.own i hi) nePU2.symm k e e1))
  clear hbag h hfs
  go_enter Tryd.func26, Tryd.ntmps26
  go_wp2_with fail
  refine HA.out.mono ?_
  rintro e w1 ⟨rfl, hF⟩
  have hbag1 := hF.bag.trans HG.out.bag
  have HBAG1 : Hid (BagAt w1 bg fs) := Lib.hid hbag1
  have HK1 : Hid (Kd w1 W.heap.size 16 75 122 2 4398046510976 mp fs pb vp lp Cp) := Lib.hid
    ⟨HG.out.kp.hd, own_blk HG.out.kp.own fun k e => hF.kept k (.inl e), ⟨fun j hj => own_blk (HG.out.kp.b.own j hj) fun k e => hF.kept k (.inr ⟨j, hj, e⟩), HG.out.kp.b.ap⟩, HG.out.kp.lim⟩
  have HB1 := Lib.hid (hF.bel _ _ HG.out.bel (Nat.le_refl _))
  have HN : ∀ i : Nat, i < 19 → i ≠ 0 → i ≠ 16 → w1.cell? ⟨bg, i, none⟩ = some (.slice none 0 0) := fun i hi h0 h16 => (HBAG1.out.cell i).trans (HG.out.z i hi h0 h16)
  have HN := Lib.hid HN
  clear hF HA hbag1
  go_wp2_with fail
  refine (apartInts_nil w1 bg (HN.out 1 (by omega) (by omega) (by omega))).mono ?_
  rintro e w' ⟨rfl, rfl⟩
  go_wp2_with fail
  refine (apartBools_nil w1 bg (HN.out 2 (by omega) (by omega) (by omega))).mono ?_
  rintro e w' ⟨rfl, rfl⟩
  go_wp2_with fail
  refine (apartTexts_nil w1 bg (HN.out 3 (by omega) (by omega) (by omega))).mono ?_
  rintro e w' ⟨rfl, rfl⟩
  go_wp2_with fail
  refine (apartMarks_nil w1 bg (HN.out 4 (by omega) (by omega) (by omega))).mono ?_
  rintro e w' ⟨rfl, rfl⟩
  go_wp2_with fail
  refine (apartSpans_nil w1 bg (HN.out 5 (by omega) (by omega) (by omega))).mono ?_
  rintro e w' ⟨rfl, rfl⟩
  go_wp2_with fail
  refine (apartRuns_nil w1 bg (HN.out 6 (by omega) (by omega) (by omega))).mono ?_
  rintro e w' ⟨rfl, rfl⟩
  go_wp2_with fail
  refine (apartClasses_nil w1 bg (HN.out 7 (by omega) (by omega) (by omega))).mono ?_
  rintro e w' ⟨rfl, rfl⟩
  go_wp2_with fail
  refine (apartNodes_nil w1 bg (HN.out 8 (by omega) (by omega) (by omega))).mono ?_
  rintro e w' ⟨rfl, rfl⟩
  go_wp2_with fail
  refine (apartInstrs_nil w1 bg (HN.out 9 (by omega) (by omega) (by omega))).mono ?_
  rintro e w' ⟨rfl, rfl⟩
  go_wp2_with fail
  refine (apartFaults_nil w1 bg (HN.out 10 (by omega) (by omega) (by omega))).mono ?_
  rintro e w' ⟨rfl, rfl⟩
  go_wp2_with fail
  refine (apartNotes_nil w1 bg (HN.out 11 (by omega) (by omega) (by omega))).mono ?_
  rintro e w' ⟨rfl, rfl⟩
  go_wp2_with fail
  refine (apartParts_nil w1 bg (HN.out 12 (by omega) (by omega) (by omega))).mono ?_
  rintro e w' ⟨rfl, rfl⟩
  go_wp2_with fail
  refine (apartRows_nil w1 bg (HN.out 13 (by omega) (by omega) (by omega))).mono ?_
  rintro e w' ⟨rfl, rfl⟩
  go_wp2_with fail
  refine (apartIntss_nil w1 bg (HN.out 14 (by omega) (by omega) (by omega))).mono ?_
  rintro e w' ⟨rfl, rfl⟩
  go_wp2_with fail
  refine (apartSpanss_nil w1 bg (HN.out 15 (by omega) (by omega) (by omega))).mono ?_
  rintro e w' ⟨rfl, rfl⟩
  have HA := Lib.hid (apartPieces_T (fun _ => False) w1 W.heap.size bg mp pb fs vp lp Cp HBAG1.out HK1.out.hd HK1.out.own hmp HK1.out.b HK1.out.lim HB1.out.size (fun _ h => h.elim) (fun _ _ _ h => h.elim))
  go_wp2_with fail
  refine HA.out.mono ?_
  rintro e w2 ⟨rfl, hF⟩
  have HB2 := Lib.hid (hF.bel _ _ HB1.out (Nat.le_refl _))
  have HN : ∀ i : Nat, i < 19 → i ≠ 0 → i ≠ 16 → w2.cell? ⟨bg, i, none⟩ = some (.slice none 0 0) := fun i hi h0 h16 => ((hF.at_ HBAG1.out).cell i).trans (HG.out.z i hi h0 h16)
  have HN := Lib.hid HN
  clear hF HA
  go_wp2_with fail
  refine (apartFiles_nil w2 bg (HN.out 17 (by omega) (by omega) (by omega))).mono ?_
  rintro e w' ⟨rfl, rfl⟩
  go_wp2_with fail
  refine (apartCmds_nil w2 bg (HN.out 18 (by omega) (by omega) (by omega))).mono ?_
  rintro e w' ⟨rfl, rfl⟩
  go_wp2_with fail
  go_ret
  exact ⟨rfl, HB2.out⟩
end Go.Proofs.YtdbkoephkdfbfaaDoor

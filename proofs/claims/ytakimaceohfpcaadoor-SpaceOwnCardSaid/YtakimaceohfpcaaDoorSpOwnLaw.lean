/-
  SpaceOwn: what Pattern, Hold and First answer is new memory.
-/
import Derived.Test.YtakimaceohfpcaaDoorSpOwn
namespace Go.Proofs.YtakimaceohfpcaaDoor
open Go.RowKit

abbrev OL (W : World) (g g2 bg i : Nat) (wr : World) : Prop := ∃ a b c d p h bv vs len C, OI W wr 4096 g g2 bg (4 * i) a b c d p h bv vs len C []
set_option maxHeartbeats 4000000 in
set_option maxRecDepth 100000 in
theorem spOwn_walk (W : World) (a : Option Addr) (n c : Nat) (r : List El) (hS : SS W ks25 (.slice a n c) r) : Calls Tryd.prog 8 #[.slice a n c] W fun e w' => e = .returned (.bool true) ∧ Below W.heap.size W w' := by
  obtain ⟨hl, hn, -⟩ := hS.len
  subst hl
  have HS := Lib.hid hS
  clear hS
  go_enter Tryd.func8, Tryd.ntmps8
  go_wp2_with fail
  refine (spWorks_any W).mono ?_
  rintro e w1 ⟨rfl, hb1⟩
  have HB1 := Lib.hid hb1
  have HBy := Lib.hid (beyond_any w1 _ _ _ _ (HS.out.below hb1))
  clear hb1
  go_wp2_with fail
  refine HBy.out.mono ?_
  rintro e w' ⟨bl, rfl, rfl, htot⟩
  have Htot := Lib.hid htot
  clear htot HBy
  cases bl with
  | true =>
    go_wp2_with fail
    go_ret
    exact ⟨rfl, HB1.out⟩
  | false =>
    have HTL := Lib.hid (Htot.out rfl)
    clear Htot
    have HN := Lib.hid (new_yes w1 4096 (by omega) (by omega))
    go_wp2_with fail
    refine HN.out.mono ?_
    rintro e w4 ⟨g, rfl, hs4, hb4⟩
    have HR := Lib.hid (rnew_yes w4 4096 (by omega) (by omega))
    have H4 := Lib.hid (And.intro hs4 hb4)
    clear hs4 hb4 HN
    go_wp2_with fail
    refine HR.out.mono ?_
    rintro e w5 ⟨g2, rfl, hs5, hb5⟩
    have hnw := two_new (HB1.out.size) H4.out.1 H4.out.2 hs5 hb5
    have h0 := OI.start (HB1.out.trans ((H4.out.2.trans (hb5.mono H4.out.2.size)).mono HB1.out.size)) hnw.1
    have HT := Lib.hid h0
    obtain ⟨bg, hbg⟩ : ∃ bg, w5.heap.size = bg := ⟨_, rfl⟩
    rw [hbg] at HT
    clear hnw hs5 hb5 HR H4 h0
    go_upto_region 9 with fail
    change Code.wp _ _ _ _ (w5.alloc bagZ)
    generalize w5.alloc bagZ = w6 at HT ⊢
    clear hbg
    go_wp2_with fail
    go_loopw [9] (fun x wr => ∃ i : Nat, i ≤ r.length ∧ i ≤ 40 ∧ x = .int .i64 i ∧ OL W g g2 bg i wr) (fun x _ => 40 - (intOf x).toNat)
    case atStart => exact ⟨0, Nat.zero_le _, by omega, rfl, _, _, _, _, _, _, _, _, _, _, HT.out⟩
    case round =>
      clear HT
      obtain ⟨i, hi, hi4, rfl, A, B, C, D, p, h, bv, vs, len, Cn, hT⟩ := hrel
      have HT := Lib.hid hT
      clear hT
      by_cases hlt : i < r.length ∧ i < 40
      · obtain ⟨hlt, hlt4⟩ := hlt
        have hd : decide ((i : Int) < (r.length : Int)) = true := by simp; omega
        have hd4 : decide ((i : Int) < 40) = true := by simp; omega
        obtain ⟨b, ob, rfl, hc⟩ := (HS.out.below HT.out.bel).read i hlt
        obtain ⟨e0, e1, e2, a3, n3, c3, e3, s3, hn3, hN3⟩ := El25 (hc i hlt)
        have e0 : wr.cell? ⟨b, ob + i * 4, none⟩ = some (.int .i64 ((r[i]?.getD El.zero).i 0)) := e0
        have e1 : wr.cell? ⟨b, ob + i * 4 + 1, none⟩ = some (.int .i64 ((r[i]?.getD El.zero).i 1)) := e1
        have e2 : wr.cell? ⟨b, ob + i * 4 + 2, none⟩ = some (.int .u8 ((r[i]?.getD El.zero).i 2)) := e2
        have e3 : wr.cell? ⟨b, ob + i * 4 + 3, none⟩ = some (.slice a3 n3 c3) := e3
        have h1 := tot25_one r i hlt
        have hl3 := s3.len
        have HB3 : Hid (n3 ≤ 67108863) := Lib.hid (by have := HTL.out; omega)
        have s3w : SB W (.slice a3 n3 c3) ((r[i]?.getD El.zero).l 3) := by
          obtain ⟨b', ob', hb', hc'⟩ := HS.out.read i hlt
          obtain ⟨rfl, rfl⟩ : b = b' ∧ ob = ob' := by simpa using hb'
          obtain ⟨-, -, -, a4, n4, c4, e4, s4, -⟩ := El25 (hc' i hlt)
          have : some (Value.slice a3 n3 c3) = some (.slice a4 n4 c4) := by
            rw [← e3]; exact ((HT.out.bel.cell (World.block_lt_of_cell? W _ e4)).trans e4)
          simp only [Option.some.injEq] at this
          rw [this]; exact s4
        obtain ⟨kd, hkd⟩ : ∃ kd, (r[i]?.getD El.zero).i 0 = kd := ⟨_, rfl⟩
        obtain ⟨on, hon⟩ : ∃ kd, (r[i]?.getD El.zero).i 1 = kd := ⟨_, rfl⟩
        obtain ⟨nm, hnm⟩ : ∃ nm, (r[i]?.getD El.zero).i 2 = nm := ⟨_, rfl⟩
        rw [hkd] at e0
        rw [hon] at e1
        rw [hnm] at e2
        have HD := Lib.hid (HT.out.doesC kd on nm a3 n3 c3 _ s3w hN3 (by have := HB3.out; omega))
        clear hkd hon hnm hc s3 h1 hl3 s3w hN3 hn3
        go_wp2_with fail
        refine HD.out.mono ?_
        intro e w7 hP
        obtain ⟨rfl, A, B, C, D, p, h, h7⟩ := HT.out.does hP
        have HT := Lib.hid h7
        clear hP h7 HD e0 e1 e2 e3 HB3
        have HC := Lib.hid HT.out.patC
        go_wp2_with fail
        refine HC.out.mono ?_
        rintro e w8 ⟨v1, rfl, ho, hb⟩
        have HT := Lib.hid (HT.out.twin ho hb HT.out.rp.len2P)
        obtain ⟨a1, c1, rfl⟩ := ho.shape
        clear ho hb HC
        have HC := Lib.hid HT.out.holdC
        go_wp2_with fail
        refine HC.out.mono ?_
        rintro e w9 ⟨v2, rfl, ho, hb⟩
        have HT := Lib.hid (HT.out.twin ho hb HT.out.rp.len2H)
        obtain ⟨a2, c2, rfl⟩ := ho.shape
        clear ho hb HC
        have HC := Lib.hid HT.out.firstC
        have HOK := Lib.hid HT.out.okF
        go_wp2_with fail
        refine HC.out.mono ?_
        rintro e w10 ⟨v3, rfl, ho, hb⟩
        have HT := Lib.hid (HT.out.twin ho hb HOK.out.2)
        obtain ⟨a3, c3, rfl⟩ := ho.shape
        clear ho hb HC
        have HC := Lib.hid HT.out.rfirstC
        obtain ⟨fl, hfl⟩ : ∃ x, firstL p = x := ⟨_, rfl⟩
        rw [hfl] at HT HOK
        have HFL := Lib.hid hfl
        rw [hfl]
        clear hfl
        go_wp2_with fail
        refine HC.out.mono ?_
        rintro e w11 ⟨v4, rfl, ho, hb⟩
        rw [HFL.out] at ho
        have HT := Lib.hid (HT.out.below hb)
        have HS4 := Lib.hid (ho.sb HOK.out.1 HOK.out.2)
        obtain ⟨a4, c4, rfl⟩ := ho.shape
        clear ho hb HC
        obtain ⟨aC, cC, rfl⟩ := HT.out.rp.op.shape
        obtain ⟨aD, cD, rfl⟩ := HT.out.rp.oh.shape
        obtain ⟨-, k1, k2, -⟩ := HT.out.rp.cells
        have HE1 := Lib.hid (eqBytes_self w11 _ _ p ((HT.out.own (.slice a1 p.length c1, p) (by simp)).1.sb HT.out.rp.bp HT.out.rp.len2P) HT.out.rp.sbP)
        go_wp2_with fail
        refine HE1.out.mono ?_
        rintro e w12 ⟨rfl, n1, rfl⟩
        have hb := below_drewN (Below.refl w11.heap.size w11) n1
        have HT := Lib.hid (HT.out.below hb)
        have HS4 := Lib.hid (HS4.out.below hb)
        generalize w11.drewN n1 = w12 at HT HS4 ⊢
        clear k1 k2 HE1 hb
        obtain ⟨-, k1, k2, -⟩ := HT.out.rp.cells
        have HE1 := Lib.hid (eqBytes_self w12 _ _ h ((HT.out.own (.slice a2 h.length c2, h) (by simp)).1.sb HT.out.rp.bh HT.out.rp.len2H) HT.out.rp.sbH)
        go_wp2_with fail
        refine HE1.out.mono ?_
        rintro e w13 ⟨rfl, n2, rfl⟩
        have hb := below_drewN (Below.refl w12.heap.size w12) n2
        have HT := Lib.hid (HT.out.below hb)
        have HS4 := Lib.hid (HS4.out.below hb)
        generalize w12.drewN n2 = w13 at HT HS4 ⊢
        clear k1 k2 HE1 hb
        have HE1 := Lib.hid (eqBytes_self w13 _ _ fl ((HT.out.own (.slice a3 fl.length c3, fl) (by simp)).1.sb HOK.out.1 HOK.out.2) HS4.out)
        go_wp2_with fail
        refine HE1.out.mono ?_
        rintro e w14 ⟨rfl, n3, rfl⟩
        have hb := below_drewN (Below.refl w13.heap.size w13) n3
        have HT := Lib.hid (HT.out.below hb)
        generalize w13.drewN n3 = w14 at HT ⊢
        clear HE1 hb HS4
        have HA := Lib.hid (HT.out.addC (by omega))
        go_wp2_with fail
        refine HA.out.mono ?_
        intro e w15 hP
        obtain ⟨rfl, bv, vs, len, Cn, h15⟩ := HT.out.add hP
        have HT := Lib.hid h15
        clear hP h15 HA
        have HA := Lib.hid (HT.out.addC (by omega))
        go_wp2_with fail
        refine HA.out.mono ?_
        intro e w16 hP
        obtain ⟨rfl, bv, vs, len, Cn, h15⟩ := HT.out.add hP
        have HT := Lib.hid h15
        clear hP h15 HA
        have HA := Lib.hid (HT.out.addC (by omega))
        go_wp2_with fail
        refine HA.out.mono ?_
        intro e w17 hP
        obtain ⟨rfl, bv, vs, len, Cn, h15⟩ := HT.out.add hP
        have HT := Lib.hid h15
        clear hP h15 HA
        have HC := Lib.hid HT.out.patC
        go_wp2_with fail
        refine HC.out.mono ?_
        rintro e w18 ⟨v5, rfl, ho, hb⟩
        have HT := Lib.hid (HT.out.twin ho hb HT.out.rp.len2P)
        obtain ⟨a5, c5, rfl⟩ := ho.shape
        clear ho hb HC
        have HA := Lib.hid (HT.out.addC (by omega))
        go_wp2_with fail
        refine HA.out.mono ?_
        intro e w19 hP
        obtain ⟨rfl, bv, vs, len, Cn, h15⟩ := HT.out.add hP
        have HT := Lib.hid h15
        clear hP h15 HA
        go_wp2_with fail
        go_roundw
        case rel => exact ⟨i + 1, by omega, by omega, by go_num, _, _, _, _, _, _, _, _, _, _, HT.out⟩
        case measure => simp [intOf]; omega
      · have HA := Lib.hid (HT.out.apart (by omega))
        by_cases h2 : i < r.length
        · have hd : decide ((i : Int) < (r.length : Int)) = true := by simp; omega
          have hd4 : decide ((i : Int) < 40) = false := by simp; omega
          clear hlt
          go_wp2_with fail
          refine HA.out.mono ?_
          rintro e w20 ⟨rfl, ht, hbel⟩
          have hI : TB W w20 4096 g g2 A B C D p h := ⟨ht, hbel⟩
          have hId := hI.below (Below.refl _ _).drew
          have R := hI.rp
          obtain ⟨aC, cC, rfl⟩ := R.op.shape
          obtain ⟨aD, cD, rfl⟩ := R.oh.shape
          have hS8 : ∀ w', TB W w' 4096 g g2 A B (.slice aC p.length cC) (.slice aD h.length cD) p h → w'.cell? ⟨g2, 1, none⟩ = some (.slice aC p.length cC) := fun _ t => (Rp.cells t.rp).2.1
          have hS9 : ∀ w', TB W w' 4096 g g2 A B (.slice aC p.length cC) (.slice aD h.length cD) p h → w'.cell? ⟨g2, 2, none⟩ = some (.slice aD h.length cD) := fun _ t => (Rp.cells t.rp).2.2.1
          have HOK := Lib.hid (And.intro (And.intro R.bp R.len2P) (And.intro R.bh R.len2H))
          clear ht hbel R HT HA
          go_upto_region 25 with fail
          go_region_held3 (fun w' => TB W w' 4096 g g2 A B (.slice aC p.length cC) (.slice aD h.length cD) p h)
            (first | exact hI | exact hId)
            (first | (go_at_call 69; (with_reducible refine (TB.patC (by first | exact hI | exact hId)).mono ?_); rintro e w5 ⟨v1, rfl, ho5, hb5⟩; have hI := (by first | exact hI.below hb5 | exact hId.below hb5); have hs1 := ho5.sb HOK.out.1.1 HOK.out.1.2; (try have hs2 := hs2.below hb5)) | (go_at_call 70; (with_reducible refine (TB.holdC (by first | exact hI | exact hId)).mono ?_); rintro e w5 ⟨v3, rfl, ho5, hb5⟩; have hI := (by first | exact hI.below hb5 | exact hId.below hb5); have hs2 := ho5.sb HOK.out.2.1 HOK.out.2.2; (try have hs1 := hs1.below hb5)) | (go_at_call 35; (with_reducible refine (eqBytes_self _ _ _ p hs1 hI.rp.sbP).mono ?_); rintro e w7 ⟨rfl, n7, rfl⟩; have hI := hI.below (below_drewN (Below.refl _ _) n7); (try have hs2 := hs2.below (below_drewN (Below.refl _ _) n7))) | (go_at_call 35; (with_reducible refine (eqBytes_self _ _ _ h hs2 hI.rp.sbH).mono ?_); rintro e w7 ⟨rfl, n7, rfl⟩; have hI := hI.below (below_drewN (Below.refl _ _) n7); (try have hs1 := hs1.below (below_drewN (Below.refl _ _) n7))))
          all_goals
            have HF := Lib.hid hI.bel
            clear hI hS8 hS9
            go_wp2_with fail
            go_ret
            exact ⟨rfl, HF.out⟩
        · have hd : decide ((i : Int) < (r.length : Int)) = false := by simp; omega
          clear hlt
          go_wp2_with fail
          refine HA.out.mono ?_
          rintro e w20 ⟨rfl, ht, hbel⟩
          have hI : TB W w20 4096 g g2 A B C D p h := ⟨ht, hbel⟩
          have hId := hI.below (Below.refl _ _).drew
          have R := hI.rp
          obtain ⟨aC, cC, rfl⟩ := R.op.shape
          obtain ⟨aD, cD, rfl⟩ := R.oh.shape
          have hS8 : ∀ w', TB W w' 4096 g g2 A B (.slice aC p.length cC) (.slice aD h.length cD) p h → w'.cell? ⟨g2, 1, none⟩ = some (.slice aC p.length cC) := fun _ t => (Rp.cells t.rp).2.1
          have hS9 : ∀ w', TB W w' 4096 g g2 A B (.slice aC p.length cC) (.slice aD h.length cD) p h → w'.cell? ⟨g2, 2, none⟩ = some (.slice aD h.length cD) := fun _ t => (Rp.cells t.rp).2.2.1
          have HOK := Lib.hid (And.intro (And.intro R.bp R.len2P) (And.intro R.bh R.len2H))
          clear ht hbel R HT HA
          go_upto_region 25 with fail
          go_region_held3 (fun w' => TB W w' 4096 g g2 A B (.slice aC p.length cC) (.slice aD h.length cD) p h)
            (first | exact hI | exact hId)
            (first | (go_at_call 69; (with_reducible refine (TB.patC (by first | exact hI | exact hId)).mono ?_); rintro e w5 ⟨v1, rfl, ho5, hb5⟩; have hI := (by first | exact hI.below hb5 | exact hId.below hb5); have hs1 := ho5.sb HOK.out.1.1 HOK.out.1.2; (try have hs2 := hs2.below hb5)) | (go_at_call 70; (with_reducible refine (TB.holdC (by first | exact hI | exact hId)).mono ?_); rintro e w5 ⟨v3, rfl, ho5, hb5⟩; have hI := (by first | exact hI.below hb5 | exact hId.below hb5); have hs2 := ho5.sb HOK.out.2.1 HOK.out.2.2; (try have hs1 := hs1.below hb5)) | (go_at_call 35; (with_reducible refine (eqBytes_self _ _ _ p hs1 hI.rp.sbP).mono ?_); rintro e w7 ⟨rfl, n7, rfl⟩; have hI := hI.below (below_drewN (Below.refl _ _) n7); (try have hs2 := hs2.below (below_drewN (Below.refl _ _) n7))) | (go_at_call 35; (with_reducible refine (eqBytes_self _ _ _ h hs2 hI.rp.sbH).mono ?_); rintro e w7 ⟨rfl, n7, rfl⟩; have hI := hI.below (below_drewN (Below.refl _ _) n7); (try have hs1 := hs1.below (below_drewN (Below.refl _ _) n7))))
          all_goals
            have HF := Lib.hid hI.bel
            clear hI hS8 hS9
            go_wp2_with fail
            go_ret
            exact ⟨rfl, HF.out⟩
end Go.Proofs.YtakimaceohfpcaaDoor

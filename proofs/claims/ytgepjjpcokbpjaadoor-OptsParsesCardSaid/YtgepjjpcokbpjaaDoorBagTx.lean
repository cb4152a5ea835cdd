/-
  galleyref00.Bag: apartTexts walks.
-/
import Derived.Test.YtgepjjpcokbpjaaDoorBag1
import Derived.Test.YtgepjjpcokbpjaaDoorTextI
import Derived.Deep.DeepCutAuto
namespace Go.Proofs.YtgepjjpcokbpjaaDoor
open Go.RowKit

def mkTs (n i : Nat) : List Value := [.string (txt n i)]
theorem mkTs_len (n i : Nat) : (mkTs n i).length = 1 := rfl
theorem mkTs_at (n q i : Nat) (h : i < q) : (marks mkTs n q)[i]? = some (.string (txt n i)) := by
  have := marks_at mkTs mkTs_len n q i 0 h Nat.one_pos
  simpa [mkTs] using this
theorem infoLT : (Tryd.prog.info? 22).map (fun i => (i.zero, i.size, i.bytes)) = some (some (.slice none 0 0), 1, 24) := by kernel_rfl
theorem neTL : (9 : TypeId) ≠ 22 := by decide
theorem neLT : (22 : TypeId) ≠ 9 := by decide
theorem neTG : (9 : TypeId) ≠ 55 := by decide
theorem neLTG : (22 : TypeId) ≠ 55 := by decide
/-- What phase three reads. -/
structure PX (w wr : World) (base bg m : Nat) (T : Nat → Prop) (bv v5 v6 : Value) (vs : Nat → Value) (len : Nat → Nat) (ones mores : Nat → Value) : Prop where
  g : Grown wr base 9 1 m mkTs vs len m ones mores
  l : LstG 22 wr base bv v5 v6 m m m vs ones mores
  f : FrT w wr base bg T
theorem PX.below1 {w wr w' : World} {base bg m : Nat} {T : Nat → Prop} {bv v5 v6 : Value} {vs : Nat → Value} {len : Nat → Nat} {ones mores : Nat → Value} {fs : List Value} (h : PX w wr base bg m T bv v5 v6 vs len ones mores) (hbag : BagAt w bg fs) (hbase : base ≤ w.heap.size) (hb : Below wr.heap.size wr w') : PX w w' base bg m T bv v5 v6 vs len ones mores :=
  ⟨h.g.keepT (KeepT.of_below hb), h.l.keepT (KeepT.of_below hb), h.f.below1 hbag hb (Nat.le_trans hbase h.f.size)⟩
set_option maxRecDepth 100000 in
set_option maxHeartbeats 2000000 in
theorem apartTexts_T (T : Nat → Prop) (w : World) (base bg m : Nat) (bv : Value) (fs : List Value) (vs : Nat → Value) (len : Nat → Nat) (C : Nat → List Value) (hbag : BagAt w bg fs) (hf4 : fs[3]? = some bv) (hbv : w.ownsRow base 22 1 bv m (firstN vs m)) (hm : m ≤ 400) (hB : Bags w base 9 1 m vs len C)
    (hlen : ∀ k, k < m → len k ≤ 8796093021952) (hbase : base ≤ w.heap.size) (hTab : ∀ w', Below base w w' → TabW w') (hT : ∀ k, T k → k < w.heap.size) (hTV : ∀ j, j < m → FarT T (vs j)) :
    Calls Tryd.prog 37 #[.pointer (some ⟨bg, 0, none⟩)] w fun e w' => e = .returned (.bool true) ∧ FrT w w' base bg T := by
  obtain ⟨bb, bc, rfl⟩ := own_shape hbv
  have HBAG := Lib.hid hbag
  have HF4 := Lib.hid hf4
  have HBV := Lib.hid hbv
  have HLEN := Lib.hid hlen
  have HTV := Lib.hid hTV
  have hCl : ∀ k, k < m → (C k).length = len k := fun k hk => by have := (hB.own k hk).1; omega
  have HCL := Lib.hid hCl
  have hB0 : Bags w base 9 1 m vs len (half1 mkTs 0 0 len C) := by rw [half1_zero]; exact hB
  have HTAB := Lib.hid hTab
  clear hbag hf4 hbv hlen hCl hB hTV hTab
  go_enter Tryd.func37, Tryd.ntmps37
  go_wp2
  go_loopw [3] (fun v3 wr => ∃ n : Nat, n ≤ m ∧ v3 = .int .i64 n ∧ Bags wr base 9 1 m vs len (half1 mkTs n 0 len C) ∧ wr.ownsRow base 22 1 (.slice bb m bc) m (firstN vs m) ∧ FrT w wr base bg T) (fun v3 _ => m - (intOf v3).toNat)
  case atStart => exact ⟨0, Nat.zero_le _, rfl, hB0, HBV.out, FrT.refl _ _ _ _ hT⟩
  case round =>
    obtain ⟨n, hn, rfl, hBn, hbv, hF⟩ := hrel
    have hc0 : wr.cell? ⟨bg, 3, none⟩ = some (.slice bb m bc) := ((hF.at_ HBAG.out).cell 3).trans HF4.out
    by_cases hlt : n < m
    · have hd1 : decide ((n : Int) < (m : Int)) = true := by simp; omega
      obtain ⟨gb, cb, he, hmc⟩ := own_some hbv (by omega)
      simp only [Value.slice.injEq] at he
      obtain ⟨rfl, -, rfl⟩ := he
      have hgbb := hF.at_ HBAG.out
      have hcn : wr.cell? ⟨gb, n, none⟩ = some (vs n) := (row_cell hbv n hlt).trans (firstN_at vs m n hlt)
      obtain ⟨an, cn, hvn⟩ := own_shape (hBn.own n hlt)
      rw [hvn] at hcn
      have hln := HLEN.out n hlt
      have HVN := Lib.hid hvn
      have HB1 := Lib.hid hBn
      have HBV1 := Lib.hid hbv
      have HF1 := Lib.hid hF
      obtain ⟨ln, hlnn⟩ : ∃ q, len n = q := ⟨_, rfl⟩
      have HLN := Lib.hid hlnn
      rw [hlnn] at hln hcn
      clear hBn hbv hF hB0 hvn hlnn hgbb
      go_wp2_with fail
      rename World => w1
      go_loopw [4] (fun v4 wr => ∃ i : Nat, i ≤ ln ∧ v4 = .int .i64 i ∧ Bags wr base 9 1 m vs len (half1 mkTs n i len C) ∧ wr.ownsRow base 22 1 (.slice (some ⟨gb, 0, none⟩) m bc) m (firstN vs m) ∧ FrT w wr base bg T) (fun v4 _ => ln - (intOf v4).toNat)
      case atStart => exact ⟨0, Nat.zero_le _, rfl, HB1.out, HBV1.out, HF1.out⟩
      case round =>
        obtain ⟨i, hi, rfl, hBn, hbv, hF⟩ := hrel
        clear hc0 hcn
        have hc0 : wr.cell? ⟨bg, 3, none⟩ = some (.slice (some ⟨gb, 0, none⟩) m bc) := ((hF.at_ HBAG.out).cell 3).trans HF4.out
        have hcn : wr.cell? ⟨gb, n, none⟩ = some (.slice an ln cn) := by
          rw [← HLN.out, ← HVN.out]
          exact (row_cell hbv n hlt).trans (firstN_at vs m n hlt)
        by_cases hil : i < ln
        · have hown := hBn.own n hlt
          rw [HVN.out, HLN.out] at hown
          obtain ⟨gn, cn', he, hnc⟩ := own_some1 hown (by omega)
          simp only [Value.slice.injEq] at he
          obtain ⟨rfl, -, rfl⟩ := he
          have hcni : (i : Int) < (ln : Int) := by omega
          have HB2 := Lib.hid hBn
          have HBV2 := Lib.hid hbv
          have HF2 := Lib.hid hF
          have hbs : base ≤ wr.heap.size := Nat.le_trans hbase hF.size
          have HTB : Hid (∀ w', Below wr.heap.size wr w' → Below base w w') := Lib.hid fun w' hb => (HF2.out.bel base w (Below.refl _ _) (Nat.le_refl _)).trans (hb.mono hbs)
          have HTX : Hid (∀ w', Below wr.heap.size wr w' → Calls Tryd.prog 26 #[.int .i64 n, .int .i64 i] w' fun e w2 => e = .returned (.string (txt n i)) ∧ Below w'.heap.size w' w2) := Lib.hid fun w' hb => text_any w' (HTAB.out w' (HTB.out w' hb)) n i (by omega) (by omega)
          have HSS : Hid (∀ w', Below wr.heap.size wr w' → w'.cell? ⟨bg, 3, none⟩ = some (.slice (some ⟨gb, 0, none⟩) m bc) ∧ w'.cell? ⟨gb, n, none⟩ = some (.slice (some ⟨gn, 0, none⟩) ln cn)) := Lib.hid fun w' hb => ⟨by rw [hb.cell (World.block_lt_of_cell? wr _ hc0)]; exact hc0, by rw [hb.cell (World.block_lt_of_cell? wr _ hcn)]; exact hcn⟩
          have HFR : Hid (∀ w', Below wr.heap.size wr w' → (∃ x, w'.cell? ⟨gn, i, none⟩ = some x) ∧ w'.frozen? ⟨gn, i, none⟩ = false) := Lib.hid fun w' hb => by
            have hB' := HB2.out.keepT (KeepT.of_below hb)
            have ho := hB'.own n hlt
            rw [HVN.out, HLN.out] at ho
            exact ⟨⟨_, (World.ownsRow.cellAt ho i (by omega)).trans (List.getElem?_eq_getElem (by rw [ho.1]; omega))⟩, World.ownsRow.frozenAt ho i⟩
          have HR : Hid (∀ w', Below wr.heap.size wr w' → (Bags (w'.setCell ⟨gn, i, none⟩ (.string (txt n i))) base 9 1 m vs len (half1 mkTs n (i + 1) len C) ∧ (w'.setCell ⟨gn, i, none⟩ (.string (txt n i))).ownsRow base 22 1 (.slice (some ⟨gb, 0, none⟩) m bc) m (firstN vs m) ∧ FrT w (w'.setCell ⟨gn, i, none⟩ (.string (txt n i))) base bg T) ∧ ((w'.setCell ⟨gn, i, none⟩ (.string (txt n i))).cell? ⟨bg, 3, none⟩ = some (.slice (some ⟨gb, 0, none⟩) m bc) ∧ (w'.setCell ⟨gn, i, none⟩ (.string (txt n i))).cell? ⟨gb, n, none⟩ = some (.slice (some ⟨gn, 0, none⟩) ln cn))) := Lib.hid fun w' hb => by
            have hB' := HB2.out.keepT (KeepT.of_below hb)
            have hV' := (KeepT.of_below (e := 22) hb).own HBV2.out
            have hF' := HF2.out.below1 HBAG.out hb hbs
            obtain ⟨hput, k2, k1, k3⟩ := hB'.put1 (u := .string (txt n i)) mkTs_len hlt (by rw [HVN.out, HLN.out]) (by rw [HLN.out]; exact hil) (HCL.out n hlt) rfl
            have hgbg : gn ≠ bg := k3 bg _ _ (hF'.at_ HBAG.out) neTG.symm
            have hTn : ¬ T gn := fun e => HTV.out n hlt gn e (by rw [HVN.out]; rfl)
            refine ⟨⟨hput, (k1 _ neLT).own hV', hF'.cell k2 hgbg _ hTn⟩, ?_, ?_⟩
            · have h1 := ((hF'.cell (i := i) k2 hgbg (.string (txt n i)) hTn).at_ HBAG.out).cell 3
              exact h1.trans HF4.out
            · have h1 := row_cell ((k1 _ neLT).own hV') n hlt
              rw [← HLN.out, ← HVN.out]
              exact h1.trans (firstN_at vs m n hlt)
          have hst : wr.drew.cell? ⟨bg, 3, none⟩ = some (.slice (some ⟨gb, 0, none⟩) m bc) ∧ wr.drew.cell? ⟨gb, n, none⟩ = some (.slice (some ⟨gn, 0, none⟩) ln cn) := HSS.out _ (below_drewN (Below.refl _ wr) 1)
          have HBD : Hid (Below wr.heap.size wr wr.drew) := Lib.hid (below_drewN (Below.refl _ wr) 1)
          clear hown hBn hbv hF
          go_upto_region 7 with fail
          clear hc0 hcn
          refine wp_region_held_drew (S := fun w' => w'.cell? ⟨bg, 3, none⟩ = some (.slice (some ⟨gb, 0, none⟩) m bc) ∧ w'.cell? ⟨gb, n, none⟩ = some (.slice (some ⟨gn, 0, none⟩) ln cn)) (by kernel_rfl) hst (fun hHeld => ?_)
          refine wpAnyH_take (i := 0) (v := .pointer (some ⟨bg, 0, none⟩)) rfl (by kernel_rfl) (by kernel_rfl) (by kernel_rfl) (fun _ _ _ h => h) (Or.inl ⟨by rfl, by intro w hSw; obtain ⟨d0, d1⟩ := hSw; go_simp⟩) (by assumption) ?_
          simp only [Act.put, List.getElem_toArray, List.getElem_cons_zero, List.setIfInBounds_toArray, List.set_cons_zero, List.set_cons_succ]
          refine wpAnyH_take (i := 1) (v := .pointer (some ⟨bg, 0, none⟩)) rfl (by kernel_rfl) (by kernel_rfl) (by kernel_rfl) (fun _ _ _ h => h) (Or.inl ⟨by rfl, by intro w hSw; obtain ⟨d0, d1⟩ := hSw; go_simp⟩) (by assumption) ?_
          simp only [Act.put, List.getElem_toArray, List.getElem_cons_zero, List.getElem_cons_succ, List.setIfInBounds_toArray, List.set_cons_zero, List.set_cons_succ]
          refine wpAnyH_take (i := 2) (v := .pointer (some ⟨bg, 3, none⟩)) rfl (by kernel_rfl) (by kernel_rfl) (by kernel_rfl) (fun _ _ _ h => h) (Or.inl ⟨by rfl, by intro w hSw; obtain ⟨d0, d1⟩ := hSw; go_simp⟩) (by assumption) ?_
          simp only [Act.put, List.getElem_toArray, List.getElem_cons_zero, List.getElem_cons_succ, List.setIfInBounds_toArray, List.set_cons_zero, List.set_cons_succ]
          refine wpAnyH_take (i := 3) (v := .slice (some ⟨gb, 0, none⟩) m bc) rfl (by kernel_rfl) (by kernel_rfl) (by kernel_rfl) (fun _ _ _ h => h) (Or.inl ⟨by rfl, by intro w hSw; obtain ⟨d0, d1⟩ := hSw; go_simp⟩) (by assumption) ?_
          simp only [Act.put, List.getElem_toArray, List.getElem_cons_zero, List.getElem_cons_succ, List.setIfInBounds_toArray, List.set_cons_zero, List.set_cons_succ]
          refine wpAnyH_take (i := 4) (v := .int .i64 (n : Int)) rfl (by kernel_rfl) (by kernel_rfl) (by kernel_rfl) (fun _ _ _ h => h) (Or.inl ⟨by rfl, by intro w hSw; obtain ⟨d0, d1⟩ := hSw; go_simp⟩) (by assumption) ?_
          simp only [Act.put, List.getElem_toArray, List.getElem_cons_zero, List.getElem_cons_succ, List.setIfInBounds_toArray, List.set_cons_zero, List.set_cons_succ]
          refine wpAnyH_take (i := 5) (v := .pointer (some ⟨gb, n, none⟩)) rfl (by kernel_rfl) (by kernel_rfl) (by kernel_rfl) (fun _ _ _ h => h) (Or.inl ⟨by rfl, by intro w hSw; obtain ⟨d0, d1⟩ := hSw; go_simp⟩) (by assumption) ?_
          simp only [Act.put, List.getElem_toArray, List.getElem_cons_zero, List.getElem_cons_succ, List.setIfInBounds_toArray, List.set_cons_zero, List.set_cons_succ]
          refine wpAnyH_take (i := 6) (v := .slice (some ⟨gn, 0, none⟩) ln cn) rfl (by kernel_rfl) (by kernel_rfl) (by kernel_rfl) (fun _ _ _ h => h) (Or.inl ⟨by rfl, by intro w hSw; obtain ⟨d0, d1⟩ := hSw; go_simp⟩) (by assumption) ?_
          simp only [Act.put, List.getElem_toArray, List.getElem_cons_zero, List.getElem_cons_succ, List.setIfInBounds_toArray, List.set_cons_zero, List.set_cons_succ]
          refine wpAnyH_take (i := 7) (v := .int .i64 (i : Int)) rfl (by kernel_rfl) (by kernel_rfl) (by kernel_rfl) (fun _ _ _ h => h) (Or.inl ⟨by rfl, by intro w hSw; obtain ⟨d0, d1⟩ := hSw; go_simp⟩) (by assumption) ?_
          simp only [Act.put, List.getElem_toArray, List.getElem_cons_zero, List.getElem_cons_succ, List.setIfInBounds_toArray, List.set_cons_zero, List.set_cons_succ]
          refine wpAnyH_take (i := 8) (v := .int .i64 (n : Int)) rfl (by kernel_rfl) (by kernel_rfl) (by kernel_rfl) (fun _ _ _ h => h) (Or.inl ⟨by rfl, by intro w hSw; obtain ⟨d0, d1⟩ := hSw; go_simp⟩) (by assumption) ?_
          simp only [Act.put, List.getElem_toArray, List.getElem_cons_zero, List.getElem_cons_succ, List.setIfInBounds_toArray, List.set_cons_zero, List.set_cons_succ]
          refine wpAnyH_take (i := 9) (v := .int .i64 (i : Int)) rfl (by kernel_rfl) (by kernel_rfl) (by kernel_rfl) (fun _ _ _ h => h) (Or.inl ⟨by rfl, by intro w hSw; obtain ⟨d0, d1⟩ := hSw; go_simp⟩) (by assumption) ?_
          simp only [Act.put, List.getElem_toArray, List.getElem_cons_zero, List.getElem_cons_succ, List.setIfInBounds_toArray, List.set_cons_zero, List.set_cons_succ]
          refine wpAnyH_ready (rs := [10]) (by kernel_rfl) (by simp) ?_
          refine AllReadyH.cons rfl (fun K hK => ?_) AllReadyH.nil
          go_simp
          refine (HTX.out _ HBD.out).mono ?_
          rintro r wn ⟨rfl, hbn⟩
          have hHb : Below wr.heap.size wr wn := HBD.out.trans (hbn.mono HBD.out.size)
          replace hHeld := HSS.out wn hHb
          refine hK.out _ _ hHeld (fun hHeld => ?_)
          clear hK K hbn
          have HRN := Lib.hid (HR.out wn hHb)
          have HFZ := HFR.out wn hHb
          obtain ⟨hce, hfr⟩ := HFZ
          obtain ⟨z0, hce⟩ := hce
          generalize txt n i = tx at HRN ⊢
          refine wpAnyH_take (i := 11) (v := .pointer (some ⟨gn, i, none⟩)) rfl (by kernel_rfl) (by kernel_rfl) (by kernel_rfl) (fun _ _ _ h => h) (Or.inl ⟨by rfl, by intro w hSw; obtain ⟨d0, d1⟩ := hSw; go_simp⟩) (by assumption) ?_
          simp only [Act.put, List.getElem_toArray, List.getElem_cons_zero, List.getElem_cons_succ, List.setIfInBounds_toArray, List.set_cons_zero, List.set_cons_succ]
          refine wpAnyH_ready (rs := [12]) (by kernel_rfl) (by simp) ?_
          refine AllReadyH.cons rfl (fun K hK => ?_) AllReadyH.nil
          go_simp
          refine hK.out _ _ HRN.out.2 (fun hHeld => ?_)
          clear hK K
          refine wpAnyH_done (by kernel_rfl) ?_ _
          clear hce hfr
          go_wp2_with fail
          go_roundw
          case rel => exact ⟨i + 1, by omega, by go_num, HRN.out.1⟩
          case measure => simp [intOf]; omega
        · obtain rfl : i = ln := by omega
          have HR : Hid (Bags wr base 9 1 m vs len (half1 mkTs (n + 1) 0 len C)) := Lib.hid (by
            rw [← half1_next mkTs n len C (HCL.out n hlt), HLN.out]; exact hBn)
          have HBV2 := Lib.hid hbv
          have HF2 := Lib.hid hF
          clear hBn hbv hF
          go_wp2_with fail
          go_roundw
          case rel => exact ⟨n + 1, by omega, by go_num, HR.out, HBV2.out, HF2.out⟩
          case measure => simp [intOf]; omega
    · obtain rfl : n = m := by omega
      have hG0 : Grown wr base 9 1 n mkTs vs len 0 (fun _ => undef) (fun _ => undef) :=
        ⟨⟨fun k hk => by have := hBn.own k hk; rw [half1_all mkTs n len C k hk] at this; exact this, hBn.ap⟩, fun k hk => absurd hk (Nat.not_lt_zero _), fun k hk => absurd hk (Nat.not_lt_zero _), fun k _ hk => absurd hk (Nat.not_lt_zero _)⟩
      have hL0 : LstG 22 wr base (.slice bb n bc) (.slice none 0 0) (.slice none 0 0) n 0 0 vs (fun _ => undef) (fun _ => undef) :=
        ⟨hbv, World.ownsRow_nil _ _ _ _, World.ownsRow_nil _ _ _ _, fun k h _ => by simp [Value.ownBlock] at h, fun k h _ => by simp [Value.ownBlock] at h, fun k h _ => by simp [Value.ownBlock] at h⟩
      have HG0 := Lib.hid hG0
      have HL0 := Lib.hid hL0
      have HF0 := Lib.hid hF
      clear hG0 hL0 hF hBn hbv hB0 hlt hn
      rename Nat => m
      go_wp2_with fail
      rename World => w1
      go_loopw [5, 6, 7] (fun v5 v6 v7 wr => ∃ (n : Nat) (ones mores : Nat → Value), n ≤ m ∧ v7 = .int .i64 n ∧ Grown wr base 9 1 m mkTs vs len n ones mores ∧ LstG 22 wr base (.slice bb m bc) v5 v6 m n n vs ones mores ∧ FrT w wr base bg T ∧ FarT T v5 ∧ FarT T v6) (fun _ _ v7 _ => m - (intOf v7).toNat)
      case atStart => exact ⟨0, _, _, Nat.zero_le _, rfl, HG0.out, HL0.out, HF0.out, FarT.nil T, FarT.nil T⟩
      case round =>
        obtain ⟨n, ones, mores, hn, rfl, hG, hL, hF, hT5, hT6⟩ := hrel
        clear hc0
        have hc0 : wr.cell? ⟨bg, 3, none⟩ = some (.slice bb m bc) := ((hF.at_ HBAG.out).cell 3).trans HF4.out
        obtain ⟨a5, c5, rfl⟩ := own_shape hL.o
        obtain ⟨a6, c6, rfl⟩ := own_shape hL.m
        by_cases hlt : n < m
        · have hd1 : decide ((n : Int) < (m : Int)) = true := by simp; omega
          obtain ⟨gb, cb, he, hmc⟩ := own_some hL.b (by omega)
          simp only [Value.slice.injEq] at he
          obtain ⟨rfl, -, rfl⟩ := he
          have hcn : wr.cell? ⟨gb, n, none⟩ = some (vs n) := (row_cell hL.b n hlt).trans (firstN_at vs m n hlt)
          obtain ⟨an, cn, hvn⟩ := own_shape (hG.b.own n hlt)
          rw [hvn] at hcn
          have hln := HLEN.out n hlt
          have HVN := Lib.hid hvn
          have HG := Lib.hid hG
          have HL := Lib.hid hL
          have HF := Lib.hid hF
          obtain ⟨ln, hlnn⟩ : ∃ q, len n = q := ⟨_, rfl⟩
          have HLN := Lib.hid hlnn
          rw [hlnn] at hln hcn
          have HT56 := Lib.hid (And.intro hT5 hT6)
          have HT8 := Lib.hid (show FarT T (.slice an ln cn) from by rw [← hlnn, ← hvn]; exact HTV.out n hlt)
          have hst := hG.start (o1 := undef) hlt
          rw [hvn, hlnn] at hst
          have HST := Lib.hid hst
          clear hG hL hF hvn hlnn hst hT5 hT6
          go_wp2_with fail
          rename World => w2
          go_loopw [5, 8, 9] (fun v5 v8 v9 wr => ∃ (i : Nat) (o1 : Value), ln ≤ i ∧ i ≤ ln + 70 ∧ v9 = .int .i64 i ∧ Grows wr base 9 1 m mkTs vs len n ones mores i v8 o1 ∧ LstG 22 wr base (.slice (some ⟨gb, 0, none⟩) m bc) v5 (.slice a6 n c6) m (if ln < i then n + 1 else n) n vs (fun k => if k = n then o1 else ones k) mores ∧ FrT w wr base bg T ∧ FarT T v5 ∧ FarT T v8) (fun _ _ v9 _ => ln + 70 - (intOf v9).toNat)
          case atStart => exact ⟨ln, undef, Nat.le_refl _, by omega, rfl, HST.out, by rw [if_neg (Nat.lt_irrefl _)]; exact HL.out.congr (fun k hk => by rw [if_neg (by omega)]), HF.out, HT56.out.1, HT8.out⟩
          case round =>
            obtain ⟨i, o1, hi0, hi1, rfl, hG, hL, hF, hT5, hT8⟩ := hrel
            have HT58 := Lib.hid (And.intro hT5 hT8)
            clear hT5 hT8
            clear hc0 hcn
            have hc0 : wr.cell? ⟨bg, 3, none⟩ = some (.slice (some ⟨gb, 0, none⟩) m bc) := ((hF.at_ HBAG.out).cell 3).trans HF4.out
            have hcn : wr.cell? ⟨gb, n, none⟩ = some (.slice an ln cn) := by
              rw [← HLN.out, ← HVN.out]
              exact (row_cell hL.b n hlt).trans (firstN_at vs m n hlt)
            obtain ⟨a8, c8, rfl⟩ := own_shape hG.own
            have hbs : base ≤ wr.heap.size := Nat.le_trans hbase hF.size
            by_cases hil : i < ln + 70
            · have hd2 : decide ((i : Int) < (ln : Int) + 70) = true := by simp; omega
              have HTX := Lib.hid (text_any wr (HTAB.out wr (hF.bel base w (Below.refl _ _) (Nat.le_refl _))) n i (by omega) (by omega))
              go_wp2_with (go_at_call 26; refine HTX.out.mono ?_)
              rintro e wx ⟨rfl, bx⟩
              clear hc0 hcn
              replace hG := hG.keepT (KeepT.of_below bx)
              replace hL := hL.keepT (KeepT.of_below bx)
              replace hF := hF.below1 HBAG.out bx hbs
              replace hbs : base ≤ wx.heap.size := Nat.le_trans hbs bx.size
              clear HTX bx
              have hc0 : wx.cell? ⟨bg, 3, none⟩ = some (.slice (some ⟨gb, 0, none⟩) m bc) := ((hF.at_ HBAG.out).cell 3).trans HF4.out
              have hcn : wx.cell? ⟨gb, n, none⟩ = some (.slice an ln cn) := by
                rw [← HLN.out, ← HVN.out]
                exact (row_cell hL.b n hlt).trans (firstN_at vs m n hlt)
              have hown := hG.own
              have HG := Lib.hid hG
              have HF := Lib.hid hF
              clear hG hF
              by_cases h0 : i = ln
              · have ht : ((i : Int) == (ln : Int)) = true := by simp; omega
                have hlen0 : i = len n := by rw [HLN.out]; exact h0
                rw [if_neg (by omega)] at hL
                obtain ⟨a5', c5', rfl⟩ := own_shape hL.o
                have HL := Lib.hid hL
                have HLE := Lib.hid hlen0
                clear hL hlen0 h0
                go_wp2_with (at_builtin; refine append_1g rfl (.tmp 78) (.tmp 82) 22 9 _ 16 rfl Tryd.underlying22 infoT rfl base _ i _ (.string (txt n i)) rfl hown rfl rfl (by omega) (by omega) hbs ?_)
                intro v' w3 hown' hold hp
                have hG' := HG.out.step (by omega) hlt (Nat.le_of_eq HLE.out.symm) hown' hold hp
                rw [if_pos HLE.out] at hG'
                have hL' := HL.out.keepT (KeepT.of_app hown hp neTL)
                have hF' := HF.out.app HBAG.out hown neTG hp HT58.out.2
                have HT8' := Lib.hid (HT58.out.2.app HF.out hp)
                obtain ⟨a8', c8', rfl⟩ := own_shape hown'
                have hc0 : w3.cell? ⟨bg, 3, none⟩ = some (.slice (some ⟨gb, 0, none⟩) m bc) := ((hF'.at_ HBAG.out).cell 3).trans HF4.out
                have hcn : w3.cell? ⟨gb, n, none⟩ = some (.slice an ln cn) := by
                  rw [← HLN.out, ← HVN.out]
                  exact (row_cell hL'.b n hlt).trans (firstN_at vs m n hlt)
                have hbs' : base ≤ w3.heap.size := Nat.le_trans hbs hp.size
                have ho5 := hL'.o
                have HG' := Lib.hid hG'
                have HL' := Lib.hid hL'
                have HF' := Lib.hid hF'
                clear hG' hL' hF' hown hown' hold hp hbs
                go_wp2_with (at_builtin; refine append_lg rfl (.tmp 94) (.tmp 96) 38 22 rfl Tryd.underlying38 infoLT base _ n _ _ rfl ho5 rfl rfl (by omega) hbs' ?_)
                intro v5' w4 ho5' hold5 hp5
                have hL2 := HL'.out.one ho5' hp5
                have HL2 := Lib.hid (hL2.congr (ones' := fun k => if k = n then .slice a8' (i + 1) c8' else ones k) (fun k hk => by
                  by_cases e : k = n
                  · rw [if_pos e, if_pos e]
                  · rw [if_neg e, if_neg e, if_neg e]))
                have HG2 := Lib.hid (HG'.out.keepT (KeepT.of_app ho5 hp5 neLT))
                have HF2 := Lib.hid (HF'.out.app HBAG.out ho5 neLTG hp5 HT58.out.1)
                have HT5' := Lib.hid (HT58.out.1.app HF'.out hp5)
                obtain ⟨a5'', c5'', rfl⟩ := own_shape ho5'
                clear hL2 ho5 ho5' hold5 hp5 hc0 hcn
                go_wp2_with fail
                go_roundw
                case rel => exact ⟨i + 1, _, by omega, by omega, by go_num, HG2.out, by rw [if_pos (by have := HLE.out; have := HLN.out; omega)]; exact HL2.out, HF2.out, HT5'.out, HT8'.out⟩
                case measure => simp [intOf]; omega
              · have ht : ((i : Int) == (ln : Int)) = false := by simp; omega
                have hlen0 : i ≠ len n := by rw [HLN.out]; exact h0
                have hlen1 : len n ≤ i := by rw [HLN.out]; exact hi0
                rw [if_pos (by omega)] at hL
                obtain ⟨a5', c5', rfl⟩ := own_shape hL.o
                have HL := Lib.hid hL
                have HLE := Lib.hid hlen0
                clear hL hlen0
                go_wp2_with (at_builtin; refine append_1g rfl (.tmp 78) (.tmp 82) 22 9 _ 16 rfl Tryd.underlying22 infoT rfl base _ i _ (.string (txt n i)) rfl hown rfl rfl (by omega) (by omega) hbs ?_)
                intro v' w3 hown' hold hp
                have hG' := HG.out.step (by omega) hlt hlen1 hown' hold hp
                rw [if_neg HLE.out] at hG'
                have hL' := HL.out.keepT (KeepT.of_app hown hp neTL)
                have hF' := HF.out.app HBAG.out hown neTG hp HT58.out.2
                have HT8' := Lib.hid (HT58.out.2.app HF.out hp)
                obtain ⟨a8', c8', rfl⟩ := own_shape hown'
                have hc0 : w3.cell? ⟨bg, 3, none⟩ = some (.slice (some ⟨gb, 0, none⟩) m bc) := ((hF'.at_ HBAG.out).cell 3).trans HF4.out
                have hcn : w3.cell? ⟨gb, n, none⟩ = some (.slice an ln cn) := by
                  rw [← HLN.out, ← HVN.out]
                  exact (row_cell hL'.b n hlt).trans (firstN_at vs m n hlt)
                have HG' := Lib.hid hG'
                have HL' := Lib.hid hL'
                have HF' := Lib.hid hF'
                clear hG' hL' hF' hown hown' hold hp hbs hlen1
                go_wp2_with fail
                go_roundw
                case rel => exact ⟨i + 1, _, by omega, by omega, by go_num, HG'.out, by rw [if_pos (by omega)]; exact HL'.out, HF'.out, HT58.out.1, HT8'.out⟩
                case measure => simp [intOf]; omega
            · obtain rfl : i = ln + 70 := by omega
              rw [if_pos (by omega)] at hL
              obtain ⟨a5', c5', rfl⟩ := own_shape hL.o
              have hd2 : decide (((ln + 70 : Nat) : Int) < (ln : Int) + 70) = false := by simp
              have hGd := (show Grows wr base 9 1 m mkTs vs len n ones mores (len n + 70) (.slice a8 (ln + 70) c8) o1 by rw [HLN.out]; exact hG).done hlt
              have hm6 := hL.m
              have HG := Lib.hid hGd
              have HL := Lib.hid hL
              have HF := Lib.hid hF
              clear hGd hG hL hF hil hi1
              go_wp2_with (at_builtin; refine append_lg rfl (.tmp 98) (.tmp 100) 38 22 rfl Tryd.underlying38 infoLT base _ n _ _ rfl hm6 rfl rfl (by omega) hbs ?_)
              intro v6' w3 ho6' hold6 hp6
              have HL2 := Lib.hid (HL.out.more ho6' hp6)
              have HG2 := Lib.hid (HG.out.keepT (KeepT.of_app hm6 hp6 neLT))
              have HF2 := Lib.hid (HF.out.app HBAG.out hm6 neLTG hp6 HT56.out.2)
              have HT6' := Lib.hid (HT56.out.2.app HF.out hp6)
              obtain ⟨a6', c6', rfl⟩ := own_shape ho6'
              clear ho6' hold6 hp6 hm6 hc0 hcn
              go_wp2_with fail
              go_roundw
              case rel => exact ⟨n + 1, _, _, by omega, by go_num, HG2.out, HL2.out, HF2.out, HT58.out.1, HT6'.out⟩
              case measure => simp [intOf]; omega
        · obtain rfl : n = m := by omega
          have HG := Lib.hid hG
          have HL := Lib.hid hL
          have HF := Lib.hid hF
          clear hG hL hF hlt hn
          go_wp2_with fail
          have HP := Lib.hid (PX.mk HG.out HL.out HF.out)
          clear HG HL HF
          rename World => w9
          go_loopw [10] (fun v wr => ∃ k : Nat, k ≤ n ∧ v = .int .i64 k ∧ PX w wr base bg n T (.slice bb n bc) (.slice a5 n c5) (.slice a6 n c6) vs len ones mores) (fun v _ => n - (intOf v).toNat)
          case atStart => exact ⟨0, Nat.zero_le _, rfl, HP.out⟩
          case round =>
            clear HP
            obtain ⟨k, hk, rfl, hP⟩ := hrel
            have HP := Lib.hid hP
            by_cases hlt : k < n
            · have hd1 : decide ((k : Int) < (n : Int)) = true := by simp; omega
              obtain ⟨g6, cb, he, h6c⟩ := own_some hP.l.m (by omega)
              simp only [Value.slice.injEq] at he
              obtain ⟨rfl, -, rfl⟩ := he
              obtain ⟨gb, cb, he, hbc⟩ := own_some hP.l.b (by omega)
              simp only [Value.slice.injEq] at he
              obtain ⟨rfl, -, rfl⟩ := he
              obtain ⟨g5, cb, he, h5c⟩ := own_some hP.l.o (by omega)
              simp only [Value.slice.injEq] at he
              obtain ⟨rfl, -, rfl⟩ := he
              have hc6 : wr.cell? ⟨g6, k, none⟩ = some (mores k) := (row_cell hP.l.m k hlt).trans (firstN_at mores n k hlt)
              obtain ⟨gm, cm, hmm, hmc⟩ := own_some1 (hP.g.more k hlt) (by omega)
              obtain ⟨go1, co, ho, hoc⟩ := own_some1 (hP.g.one k hlt) (by omega)
              obtain ⟨av, cv, hv⟩ := own_shape (hP.g.b.own k hlt)
              rw [hmm] at hc6
              have hln := HLEN.out k hlt
              have HMM := Lib.hid hmm
              have HOO := Lib.hid ho
              have HAV := Lib.hid hv
              have HLT := Lib.hid hlt
              obtain ⟨lk, hlk⟩ : ∃ lk, len k = lk := ⟨_, rfl⟩
              have HLK := Lib.hid hlk
              rw [hlk] at hc6 hln
              have HRD : Hid (∀ w' i, i < lk + 70 → PX w w' base bg n T (.slice (some ⟨gb, 0, none⟩) n bc) (.slice (some ⟨g5, 0, none⟩) n c5) (.slice (some ⟨g6, 0, none⟩) n c6) vs len ones mores → w'.cell? ⟨bg, 3, none⟩ = some (.slice (some ⟨gb, 0, none⟩) n bc) ∧ w'.cell? ⟨gb, k, none⟩ = some (.slice av lk cv) ∧ w'.cell? ⟨g6, k, none⟩ = some (.slice (some ⟨gm, 0, none⟩) (lk + 70) cm) ∧ w'.cell? ⟨gm, i, none⟩ = some (.string (txt k i)) ∧ w'.cell? ⟨g5, k, none⟩ = some (.slice (some ⟨go1, 0, none⟩) (lk + 1) co)) := Lib.hid fun w' i hi hP => by
                have hom := hP.g.more k HLT.out
                rw [HMM.out, HLK.out] at hom
                refine ⟨((hP.f.at_ HBAG.out).cell 3).trans HF4.out, ?_, ?_, (World.ownsRow.cellAt hom i (by omega)).trans (mkTs_at k (lk + 70) i hi), ?_⟩
                · rw [← HLK.out, ← HAV.out]
                  exact (row_cell hP.l.b k HLT.out).trans (firstN_at vs n k HLT.out)
                · rw [← HLK.out, ← HMM.out]
                  exact (row_cell hP.l.m k HLT.out).trans (firstN_at mores n k HLT.out)
                · rw [← HLK.out, ← HOO.out]
                  exact (row_cell hP.l.o k HLT.out).trans (firstN_at ones n k HLT.out)
              clear hP hmm hlk hmc ho hv hoc
              go_wp2_with fail
              go_loopw [11] (fun v wr => ∃ i : Nat, i ≤ lk + 70 ∧ v = .int .i64 i ∧ PX w wr base bg n T (.slice (some ⟨gb, 0, none⟩) n bc) (.slice (some ⟨g5, 0, none⟩) n c5) (.slice (some ⟨g6, 0, none⟩) n c6) vs len ones mores) (fun v _ => lk + 70 - (intOf v).toNat)
              case atStart => exact ⟨0, Nat.zero_le _, rfl, HP.out⟩
              case round =>
                clear HP hc6
                obtain ⟨i, hi, rfl, hP⟩ := hrel
                have HP := Lib.hid hP
                have hc6 : wr.cell? ⟨g6, k, none⟩ = some (.slice (some ⟨gm, 0, none⟩) (lk + 70) cm) := by
                  rw [← HLK.out, ← HMM.out]
                  exact (row_cell hP.l.m k hlt).trans (firstN_at mores n k hlt)
                by_cases hil : i < lk + 70
                · have hd2 : decide ((i : Int) < (lk : Int) + 70) = true := by simp; omega
                  have HI := Lib.hid hil
                  have HTY : Hid (∀ wz, Below base w wz → Calls Tryd.prog 26 #[.int .i64 k, .int .i64 i] wz fun e w2 => e = .returned (.string (txt k i)) ∧ Below wz.heap.size wz w2) := Lib.hid fun wz hb => text_any wz (HTAB.out wz hb) k i (by omega) (by omega)
                  obtain ⟨r0, r1, -, r3, r4⟩ := HRD.out wr i hil hP
                  have HX : Hid (i < lk → ∃ gv, av = some ⟨gv, 0, none⟩ ∧ wr.cell? ⟨gv, i, none⟩ = some (.string (txt k i))) := Lib.hid fun h1 => by
                    have hov := hP.g.b.own k hlt
                    rw [HAV.out, HLK.out] at hov
                    obtain ⟨gv, cb, he, hvc⟩ := own_some1 hov (by omega)
                    simp only [Value.slice.injEq] at he
                    obtain ⟨rfl, -, rfl⟩ := he
                    exact ⟨gv, rfl, (World.ownsRow.cellAt hov i (by omega)).trans (mkTs_at k lk i h1)⟩
                  have HY : Hid (i = lk → wr.cell? ⟨go1, i, none⟩ = some (.string (txt k i))) := Lib.hid fun h1 => by
                    have hoo := hP.g.one k hlt
                    rw [HOO.out, HLK.out] at hoo
                    exact (World.ownsRow.cellAt hoo i (by omega)).trans (mkTs_at k (lk + 1) i (by omega))
                  have HBW : Hid (Below base w wr) := Lib.hid (hP.f.bel base w (Below.refl _ _) (Nat.le_refl _))
                  have HBS : Hid (base ≤ wr.heap.size) := Lib.hid (Nat.le_trans hbase hP.f.size)
                  have htt : ((txt k i).toList == (txt k i).toList) = true := beq_self_eq_true _
                  clear hP
                  have HRR := Lib.hid (HRD.out wr i hil HP.out)
                  by_cases h1 : i < lk
                  · have hd3 : decide ((i : Int) < (lk : Int)) = true := by simp; omega
                    have hd4 : ((i : Int) == (lk : Int)) = false := by simp; omega
                    obtain ⟨gv, rfl, y0⟩ := HX.out h1
                    go_wp2_with (go_at_call 26; refine (HTY.out wr HBW.out).mono ?_)
                    rintro e wy ⟨rfl, by1⟩
                    have HPY := Lib.hid (HP.out.below1 HBAG.out hbase by1)
                    have HBWY : Hid (Below base w wy) := Lib.hid (HBW.out.trans (by1.mono HBS.out))
                    have HBSY : Hid (base ≤ wy.heap.size) := Lib.hid (Nat.le_trans HBS.out by1.size)
                    clear r0 r1 r3 r4 hc6 by1
                    try clear y0
                    obtain ⟨r0, r1, r2, r3, r4⟩ := HRD.out wy i HI.out HPY.out
                    go_wp2_with (go_at_call 26; refine (HTY.out wy HBWY.out).mono ?_)
                    rintro e wz ⟨rfl, bz1⟩
                    have HPZ := Lib.hid (HPY.out.below1 HBAG.out hbase bz1)
                    clear r0 r1 r2 r3 r4 bz1
                    go_wp2_with fail
                    go_roundw
                    case rel => exact ⟨i + 1, by have := HI.out; omega, by go_num, HPZ.out⟩
                    case measure => simp [intOf]; omega
                  · have hd3 : decide ((i : Int) < (lk : Int)) = false := by simp; omega
                    by_cases h2 : i = lk
                    · have hd4 : ((i : Int) == (lk : Int)) = true := by simp; omega
                      have y0 := HY.out h2
                      have h2' : i ≤ lk := by omega
                      have h2i : (i : Int) < ((lk + 1 : Nat) : Int) := by omega
                      clear h2
                      go_wp2_with (go_at_call 26; refine (HTY.out wr HBW.out).mono ?_)
                      rintro e wy ⟨rfl, by1⟩
                      have HPY := Lib.hid (HP.out.below1 HBAG.out hbase by1)
                      have HBWY : Hid (Below base w wy) := Lib.hid (HBW.out.trans (by1.mono HBS.out))
                      have HBSY : Hid (base ≤ wy.heap.size) := Lib.hid (Nat.le_trans HBS.out by1.size)
                      clear r0 r1 r3 r4 hc6 by1
                      try clear y0
                      obtain ⟨r0, r1, r2, r3, r4⟩ := HRD.out wy i HI.out HPY.out
                      go_wp2_with (go_at_call 26; refine (HTY.out wy HBWY.out).mono ?_)
                      rintro e wz ⟨rfl, bz1⟩
                      have HPZ := Lib.hid (HPY.out.below1 HBAG.out hbase bz1)
                      clear r0 r1 r2 r3 r4 bz1
                      go_wp2_with fail
                      go_roundw
                      case rel => exact ⟨i + 1, by have := HI.out; omega, by go_num, HPZ.out⟩
                      case measure => simp [intOf]; omega
                    · have hd4 : ((i : Int) == (lk : Int)) = false := by simp; omega
                      go_wp2_with (go_at_call 26; refine (HTY.out wr HBW.out).mono ?_)
                      rintro e wy ⟨rfl, by1⟩
                      have HPY := Lib.hid (HP.out.below1 HBAG.out hbase by1)
                      have HBWY : Hid (Below base w wy) := Lib.hid (HBW.out.trans (by1.mono HBS.out))
                      have HBSY : Hid (base ≤ wy.heap.size) := Lib.hid (Nat.le_trans HBS.out by1.size)
                      clear r0 r1 r3 r4 hc6 by1
                      try clear y0
                      obtain ⟨r0, r1, r2, r3, r4⟩ := HRD.out wy i HI.out HPY.out
                      go_wp2_with (go_at_call 26; refine (HTY.out wy HBWY.out).mono ?_)
                      rintro e wz ⟨rfl, bz1⟩
                      have HPZ := Lib.hid (HPY.out.below1 HBAG.out hbase bz1)
                      clear r0 r1 r2 r3 r4 bz1
                      go_wp2_with fail
                      go_roundw
                      case rel => exact ⟨i + 1, by have := HI.out; omega, by go_num, HPZ.out⟩
                      case measure => simp [intOf]; omega
                · obtain rfl : i = lk + 70 := by omega
                  clear hP
                  go_wp2_with fail
                  go_roundw
                  case rel => exact ⟨k + 1, by have := HLT.out; omega, by go_num, HP.out⟩
                  case measure => simp [intOf]; omega
            · obtain rfl : k = n := by omega
              have HF := Lib.hid hP.f
              clear hP
              go_wp2_with fail
              go_ret
              exact ⟨rfl, HF.out⟩
end Go.Proofs.YtgepjjpcokbpjaaDoor

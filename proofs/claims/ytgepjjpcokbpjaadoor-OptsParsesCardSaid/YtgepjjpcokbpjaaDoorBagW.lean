/-
  galleyref00.Bag: AddBytes and apartBytes walk.
-/
import Derived.Test.YtgepjjpcokbpjaaDoorBagB
import Derived.Deep.DeepCutAuto
namespace Go.Proofs.YtgepjjpcokbpjaaDoor
open Go.RowKit

/-- What AddBytes leaves. -/
structure Added (w w' : World) (base bg : Nat) (bv bv' : Value) (us : List Value) (rest : List Value) (u : Value) : Prop where
  bag : BagAt w' bg (bv' :: rest)
  own : w'.ownsRow base 61 1 bv' (us.length + 1) (us ++ [u])
  keep : KeepT 5 w w'
  blk : ∀ k, k < w.heap.size → k ≠ bg → bv.ownBlock ≠ some k → w'.heap[k]? = w.heap[k]?
  new : ∀ k, bv'.ownBlock = some k → bv.ownBlock = some k ∨ w.heap.size ≤ k
  bel : ∀ B w0, Below B w0 w → B ≤ base → B ≤ bg → Below B w0 w'
  size : w.heap.size ≤ w'.heap.size
def AddedPost (w : World) (base bg : Nat) (bv : Value) (us rest : List Value) (u : Value) (e : Ending) (w' : World) : Prop := e = .returned undef ∧ ∃ bv', Added w w' base bg bv bv' us rest u

set_option maxRecDepth 100000 in
theorem addBytes_any (w : World) (base bg : Nat) (bv : Value) (us rest : List Value) (ua : Option Addr) (un uc : Nat) (hbag : BagAt w bg (bv :: rest)) (hown : w.ownsRow base 61 1 bv us.length us) (hm : us.length < 400) (hb : base ≤ w.heap.size) :
    Calls Tryd.prog 25 #[.pointer (some ⟨bg, 0, none⟩), .slice ua un uc] w (AddedPost w base bg bv us rest (.slice ua un uc)) := by
  obtain ⟨b, c, rfl⟩ := own_shape hown
  obtain ⟨n, hn⟩ : ∃ n, us.length = n := ⟨_, rfl⟩
  rw [hn] at hown hm hbag ⊢
  have hc : w.cell? ⟨bg, 0, none⟩ = some (.slice b n c) := hbag.cell 0
  have HB := Lib.hid hbag
  have HN := Lib.hid hn
  have hm' : decide ((n : Int) < 400) = true := by simp; omega
  clear hbag hn
  go_enter Tryd.func25, Tryd.ntmps25
  go_wp2_with (at_builtin; refine append_l1 rfl (.tmp 14) (.tmp 16) rfl base _ n us _ rfl hown rfl rfl (by omega) hb ?_)
  intro v' w1 hov hold hp
  have hB1 := HB.out.keepT (KeepT.of_app hown hp neLG)
  obtain ⟨b', c', rfl⟩ := own_shape hov
  have hc1 : w1.cell? ⟨bg, 0, none⟩ = some (.slice b n c) := hB1.cell 0
  have hf1 := hB1.frozen 0
  have HA : Hid (Added w (w1.setCell ⟨bg, 0, none⟩ (.slice b' (n + 1) c')) base bg (.slice b n c) (.slice b' (n + 1) c') us rest (.slice ua un uc)) := Lib.hid
    ⟨hB1.set 0 _, by rw [HN.out]; exact (keepT_bag hB1 neLG _).own hov, (KeepT.of_app hown hp neUL.symm).trans (keepT_bag hB1 neUG _), fun k h1 h2 h3 => (heap_setCell_other w1 ⟨bg, 0, none⟩ k _ h2).trans (hp.block k h1 h3), hp.new, fun B w0 h0 h1 h2 => (hp.bel B w0 h0 h1).setCell (by show B ≤ bg; exact h2) _, by have := hp.size; simpa using this⟩
  clear hov hold hp hB1 hc hown HB
  go_wp2_with fail
  go_end0
  exact ⟨rfl, _, HA.out⟩

set_option maxRecDepth 100000 in
set_option maxHeartbeats 2000000 in
theorem apartBytes_T (T : Nat → Prop) (w : World) (base bg m : Nat) (bv : Value) (rest : List Value) (vs : Nat → Value) (len : Nat → Nat) (C : Nat → List Value) (hbag : BagAt w bg (bv :: rest)) (hbv : w.ownsRow base 61 1 bv m (firstN vs m)) (hm : m ≤ 400) (hB : Bags w base 5 1 m vs len C)
    (hlen : ∀ k, k < m → len k ≤ 140737488351232) (hbase : base ≤ w.heap.size) (hT : ∀ k, T k → k < w.heap.size) (hTV : ∀ j, j < m → FarT T (vs j)) :
    Calls Tryd.prog 34 #[.pointer (some ⟨bg, 0, none⟩)] w fun e w' => e = .returned (.bool true) ∧ FrT w w' base bg T := by
  obtain ⟨bb, bc, rfl⟩ := own_shape hbv
  have HBAG := Lib.hid hbag
  have HBV := Lib.hid hbv
  have HLEN := Lib.hid hlen
  have HTV := Lib.hid hTV
  have hCl : ∀ k, k < m → (C k).length = len k := fun k hk => by have := (hB.own k hk).1; omega
  have HCL := Lib.hid hCl
  have hB0 : Bags w base 5 1 m vs len (half 0 0 len C) := by rw [half_zero]; exact hB
  clear hbag hbv hlen hCl hB hTV
  go_enter Tryd.func34, Tryd.ntmps34
  go_wp2
  go_loopw [3] (fun v3 wr => ∃ n : Nat, n ≤ m ∧ v3 = .int .i64 n ∧ Bags wr base 5 1 m vs len (half n 0 len C) ∧ wr.ownsRow base 61 1 (.slice bb m bc) m (firstN vs m) ∧ FrT w wr base bg T) (fun v3 _ => m - (intOf v3).toNat)
  case atStart => exact ⟨0, Nat.zero_le _, rfl, hB0, HBV.out, FrT.refl _ _ _ _ hT⟩
  case round =>
    obtain ⟨n, hn, rfl, hBn, hbv, hF⟩ := hrel
    have hc0 : wr.cell? ⟨bg, 0, none⟩ = some (.slice bb m bc) := (hF.at_ HBAG.out).cell 0
    by_cases hlt : n < m
    · have hd1 : decide ((n : Int) < (m : Int)) = true := by simp; omega
      obtain ⟨gb, cb, he, hmc⟩ := own_some hbv (by omega)
      simp only [Value.slice.injEq] at he
      obtain ⟨rfl, -, rfl⟩ := he
      have hgbb := hF.at_ HBAG.out
      have hcn : wr.cell? ⟨gb, n, none⟩ = some (vs n) := (row_cell hbv n hlt).trans (firstN_at vs m n hlt)
      obtain ⟨an, cn, hvn⟩ := own_shape (hBn.own n hlt)
      rw [hvn] at hcn
      have hln := HLEN.out n hlt
      have HVN := Lib.hid hvn
      have HB1 := Lib.hid hBn
      have HBV1 := Lib.hid hbv
      have HF1 := Lib.hid hF
      obtain ⟨ln, hlnn⟩ : ∃ q, len n = q := ⟨_, rfl⟩
      have HLN := Lib.hid hlnn
      rw [hlnn] at hln hcn
      clear hBn hbv hF hB0 hvn hlnn hgbb
      go_wp2_with fail
      rename World => w1
      go_loopw [4] (fun v4 wr => ∃ i : Nat, i ≤ ln ∧ v4 = .int .i64 i ∧ Bags wr base 5 1 m vs len (half n i len C) ∧ wr.ownsRow base 61 1 (.slice (some ⟨gb, 0, none⟩) m bc) m (firstN vs m) ∧ FrT w wr base bg T) (fun v4 _ => ln - (intOf v4).toNat)
      case atStart => exact ⟨0, Nat.zero_le _, rfl, HB1.out, HBV1.out, HF1.out⟩
      case round =>
        obtain ⟨i, hi, rfl, hBn, hbv, hF⟩ := hrel
        clear hc0 hcn
        have hc0 : wr.cell? ⟨bg, 0, none⟩ = some (.slice (some ⟨gb, 0, none⟩) m bc) := (hF.at_ HBAG.out).cell 0
        have hcn : wr.cell? ⟨gb, n, none⟩ = some (.slice an ln cn) := by
          rw [← HLN.out, ← HVN.out]
          exact (row_cell hbv n hlt).trans (firstN_at vs m n hlt)
        by_cases hil : i < ln
        · have hown := hBn.own n hlt
          rw [HVN.out, HLN.out] at hown
          obtain ⟨gn, cn', he, hnc⟩ := own_some hown (by omega)
          simp only [Value.slice.injEq] at he
          obtain ⟨rfl, -, rfl⟩ := he
          have hCn : i < (C n).length := by rw [HCL.out n hlt, HLN.out]; exact hil
          have hput := hBn.put hlt (by rw [HVN.out]) hCn
          obtain ⟨k1, k2, k3⟩ := hBn.keep_lists (i := i) hlt (by rw [HVN.out]) (.int .u8 (mkB n i))
          have hce : ∃ x, wr.cell? ⟨gn, i, none⟩ = some x := ⟨_, (World.ownsRow.cellAt hown i (by omega)).trans (List.getElem?_eq_getElem (by rw [hown.1]; omega))⟩
          obtain ⟨x, hce⟩ := hce
          have hfr := World.ownsRow.frozenAt hown i
          have HR : Hid (Bags (wr.setCell ⟨gn, i, none⟩ (.int .u8 (mkB n i))) base 5 1 m vs len (half n (i + 1) len C) ∧ (wr.setCell ⟨gn, i, none⟩ (.int .u8 (mkB n i))).ownsRow base 61 1 (.slice (some ⟨gb, 0, none⟩) m bc) m (firstN vs m) ∧ FrT w (wr.setCell ⟨gn, i, none⟩ (.int .u8 (mkB n i))) base bg T) :=
            Lib.hid ⟨hput, k1.own hbv, hF.cell k2 (k3 _ _ (hF.at_ HBAG.out)) _ (fun e => HTV.out n hlt gn e (by rw [HVN.out]; rfl))⟩
          have hmk : IntKind.u8.wrap (31 * (n : Int) + 7 * (i : Int) + 3) = mkB n i := rfl
          clear hput k1 k2 k3 hown hBn hbv hF hCn
          go_wp2_with fail
          go_roundw
          case rel => exact ⟨i + 1, by omega, by go_num, HR.out⟩
          case measure => simp [intOf]; omega
        · obtain rfl : i = ln := by omega
          have HR : Hid (Bags wr base 5 1 m vs len (half (n + 1) 0 len C)) := Lib.hid (by
            rw [← half_next n len C (HCL.out n hlt), HLN.out]; exact hBn)
          have HBV2 := Lib.hid hbv
          have HF2 := Lib.hid hF
          clear hBn hbv hF
          go_wp2_with fail
          go_roundw
          case rel => exact ⟨n + 1, by omega, by go_num, HR.out, HBV2.out, HF2.out⟩
          case measure => simp [intOf]; omega
    · obtain rfl : n = m := by omega
      have hG0 : Grown wr base 5 1 n mkBs vs len 0 (fun _ => undef) (fun _ => undef) :=
        ⟨⟨fun k hk => by have := hBn.own k hk; rw [half_all n len C k hk] at this; exact this, hBn.ap⟩, fun k hk => absurd hk (Nat.not_lt_zero _), fun k hk => absurd hk (Nat.not_lt_zero _), fun k _ hk => absurd hk (Nat.not_lt_zero _)⟩
      have hL0 : Lst wr base (.slice bb n bc) (.slice none 0 0) (.slice none 0 0) n 0 0 vs (fun _ => undef) (fun _ => undef) :=
        ⟨hbv, World.ownsRow_nil _ _ _ _, World.ownsRow_nil _ _ _ _, fun k h _ => by simp [Value.ownBlock] at h, fun k h _ => by simp [Value.ownBlock] at h, fun k h _ => by simp [Value.ownBlock] at h⟩
      have HG0 := Lib.hid hG0
      have HL0 := Lib.hid hL0
      have HF0 := Lib.hid hF
      clear hG0 hL0 hF hBn hbv hB0 hlt hn
      rename Nat => m
      go_wp2_with fail
      rename World => w1
      go_loopw [5, 6, 7] (fun v5 v6 v7 wr => ∃ (n : Nat) (ones mores : Nat → Value), n ≤ m ∧ v7 = .int .i64 n ∧ Grown wr base 5 1 m mkBs vs len n ones mores ∧ Lst wr base (.slice bb m bc) v5 v6 m n n vs ones mores ∧ FrT w wr base bg T ∧ FarT T v5 ∧ FarT T v6) (fun _ _ v7 _ => m - (intOf v7).toNat)
      case atStart => exact ⟨0, _, _, Nat.zero_le _, rfl, HG0.out, HL0.out, HF0.out, FarT.nil T, FarT.nil T⟩
      case round =>
        obtain ⟨n, ones, mores, hn, rfl, hG, hL, hF, hT5, hT6⟩ := hrel
        clear hc0
        have hc0 : wr.cell? ⟨bg, 0, none⟩ = some (.slice bb m bc) := (hF.at_ HBAG.out).cell 0
        obtain ⟨a5, c5, rfl⟩ := own_shape hL.o
        obtain ⟨a6, c6, rfl⟩ := own_shape hL.m
        by_cases hlt : n < m
        · have hd1 : decide ((n : Int) < (m : Int)) = true := by simp; omega
          obtain ⟨gb, cb, he, hmc⟩ := own_some hL.b (by omega)
          simp only [Value.slice.injEq] at he
          obtain ⟨rfl, -, rfl⟩ := he
          have hcn : wr.cell? ⟨gb, n, none⟩ = some (vs n) := (row_cell hL.b n hlt).trans (firstN_at vs m n hlt)
          obtain ⟨an, cn, hvn⟩ := own_shape (hG.b.own n hlt)
          rw [hvn] at hcn
          have hln := HLEN.out n hlt
          have HVN := Lib.hid hvn
          have HG := Lib.hid hG
          have HL := Lib.hid hL
          have HF := Lib.hid hF
          obtain ⟨ln, hlnn⟩ : ∃ q, len n = q := ⟨_, rfl⟩
          have HLN := Lib.hid hlnn
          rw [hlnn] at hln hcn
          have HT56 := Lib.hid (And.intro hT5 hT6)
          have HT8 := Lib.hid (show FarT T (.slice an ln cn) from by rw [← hlnn, ← hvn]; exact HTV.out n hlt)
          have hst := hG.start (o1 := undef) hlt
          rw [hvn, hlnn] at hst
          have HST := Lib.hid hst
          clear hG hL hF hvn hlnn hst hT5 hT6
          go_wp2_with fail
          rename World => w2
          go_loopw [5, 8, 9] (fun v5 v8 v9 wr => ∃ (i : Nat) (o1 : Value), ln ≤ i ∧ i ≤ ln + 70 ∧ v9 = .int .i64 i ∧ Grows wr base 5 1 m mkBs vs len n ones mores i v8 o1 ∧ Lst wr base (.slice (some ⟨gb, 0, none⟩) m bc) v5 (.slice a6 n c6) m (if ln < i then n + 1 else n) n vs (fun k => if k = n then o1 else ones k) mores ∧ FrT w wr base bg T ∧ FarT T v5 ∧ FarT T v8) (fun _ _ v9 _ => ln + 70 - (intOf v9).toNat)
          case atStart => exact ⟨ln, undef, Nat.le_refl _, by omega, rfl, HST.out, by rw [if_neg (Nat.lt_irrefl _)]; exact HL.out.congr (fun k hk => by rw [if_neg (by omega)]), HF.out, HT56.out.1, HT8.out⟩
          case round =>
            obtain ⟨i, o1, hi0, hi1, rfl, hG, hL, hF, hT5, hT8⟩ := hrel
            have HT58 := Lib.hid (And.intro hT5 hT8)
            clear hT5 hT8
            clear hc0 hcn
            have hc0 : wr.cell? ⟨bg, 0, none⟩ = some (.slice (some ⟨gb, 0, none⟩) m bc) := (hF.at_ HBAG.out).cell 0
            have hcn : wr.cell? ⟨gb, n, none⟩ = some (.slice an ln cn) := by
              rw [← HLN.out, ← HVN.out]
              exact (row_cell hL.b n hlt).trans (firstN_at vs m n hlt)
            obtain ⟨a8, c8, rfl⟩ := own_shape hG.own
            have hmk : IntKind.u8.wrap (31 * (n : Int) + 7 * (i : Int) + 3) = mkB n i := rfl
            have hbs : base ≤ wr.heap.size := Nat.le_trans hbase hF.size
            by_cases hil : i < ln + 70
            · have hd2 : decide ((i : Int) < (ln : Int) + 70) = true := by simp; omega
              have hown := hG.own
              have HG := Lib.hid hG
              have HF := Lib.hid hF
              clear hG hF
              by_cases h0 : i = ln
              · have ht : ((i : Int) == (ln : Int)) = true := by simp; omega
                have hlen0 : i = len n := by rw [HLN.out]; exact h0
                rw [if_neg (by omega)] at hL
                obtain ⟨a5', c5', rfl⟩ := own_shape hL.o
                have HL := Lib.hid hL
                have HLE := Lib.hid hlen0
                clear hL hlen0 h0
                go_wp2_with (at_builtin; refine append_u1 rfl (.tmp 82) (.tmp 90) rfl base _ i _ (mkB n i) rfl hown rfl (by omega) hbs ?_)
                intro v' w3 hown' hold hp
                have hG' := HG.out.step Nat.one_pos hlt (Nat.le_of_eq HLE.out.symm) hown' hold hp
                rw [if_pos HLE.out] at hG'
                have hL' := HL.out.keepT (KeepT.of_app hown hp neUL)
                have hF' := HF.out.app HBAG.out hown neUG hp HT58.out.2
                have HT8' := Lib.hid (HT58.out.2.app HF.out hp)
                obtain ⟨a8', c8', rfl⟩ := own_shape hown'
                have hc0 : w3.cell? ⟨bg, 0, none⟩ = some (.slice (some ⟨gb, 0, none⟩) m bc) := (hF'.at_ HBAG.out).cell 0
                have hcn : w3.cell? ⟨gb, n, none⟩ = some (.slice an ln cn) := by
                  rw [← HLN.out, ← HVN.out]
                  exact (row_cell hL'.b n hlt).trans (firstN_at vs m n hlt)
                have hbs' : base ≤ w3.heap.size := Nat.le_trans hbs hp.size
                have ho5 := hL'.o
                have HG' := Lib.hid hG'
                have HL' := Lib.hid hL'
                have HF' := Lib.hid hF'
                clear hG' hL' hF' hown hown' hold hp hbs
                go_wp2_with (at_builtin; refine append_l1 rfl (.tmp 102) (.tmp 104) rfl base _ n _ _ rfl ho5 rfl rfl (by omega) hbs' ?_)
                intro v5' w4 ho5' hold5 hp5
                have hL2 := HL'.out.one ho5' hp5
                have HL2 := Lib.hid (hL2.congr (ones' := fun k => if k = n then .slice a8' (i + 1) c8' else ones k) (fun k hk => by
                  by_cases e : k = n
                  · rw [if_pos e, if_pos e]
                  · rw [if_neg e, if_neg e, if_neg e]))
                have HG2 := Lib.hid (HG'.out.keepT (KeepT.of_app ho5 hp5 neUL.symm))
                have HF2 := Lib.hid (HF'.out.app HBAG.out ho5 neLG hp5 HT58.out.1)
                have HT5' := Lib.hid (HT58.out.1.app HF'.out hp5)
                obtain ⟨a5'', c5'', rfl⟩ := own_shape ho5'
                clear hL2 ho5 ho5' hold5 hp5 hc0 hcn
                go_wp2_with fail
                go_roundw
                case rel => exact ⟨i + 1, _, by omega, by omega, by go_num, HG2.out, by rw [if_pos (by have := HLE.out; have := HLN.out; omega)]; exact HL2.out, HF2.out, HT5'.out, HT8'.out⟩
                case measure => simp [intOf]; omega
              · have ht : ((i : Int) == (ln : Int)) = false := by simp; omega
                have hlen0 : i ≠ len n := by rw [HLN.out]; exact h0
                have hlen1 : len n ≤ i := by rw [HLN.out]; exact hi0
                rw [if_pos (by omega)] at hL
                obtain ⟨a5', c5', rfl⟩ := own_shape hL.o
                have HL := Lib.hid hL
                have HLE := Lib.hid hlen0
                clear hL hlen0
                go_wp2_with (at_builtin; refine append_u1 rfl (.tmp 82) (.tmp 90) rfl base _ i _ (mkB n i) rfl hown rfl (by omega) hbs ?_)
                intro v' w3 hown' hold hp
                have hG' := HG.out.step Nat.one_pos hlt hlen1 hown' hold hp
                rw [if_neg HLE.out] at hG'
                have hL' := HL.out.keepT (KeepT.of_app hown hp neUL)
                have hF' := HF.out.app HBAG.out hown neUG hp HT58.out.2
                have HT8' := Lib.hid (HT58.out.2.app HF.out hp)
                obtain ⟨a8', c8', rfl⟩ := own_shape hown'
                have hc0 : w3.cell? ⟨bg, 0, none⟩ = some (.slice (some ⟨gb, 0, none⟩) m bc) := (hF'.at_ HBAG.out).cell 0
                have hcn : w3.cell? ⟨gb, n, none⟩ = some (.slice an ln cn) := by
                  rw [← HLN.out, ← HVN.out]
                  exact (row_cell hL'.b n hlt).trans (firstN_at vs m n hlt)
                have HG' := Lib.hid hG'
                have HL' := Lib.hid hL'
                have HF' := Lib.hid hF'
                clear hG' hL' hF' hown hown' hold hp hbs hlen1
                go_wp2_with fail
                go_roundw
                case rel => exact ⟨i + 1, _, by omega, by omega, by go_num, HG'.out, by rw [if_pos (by omega)]; exact HL'.out, HF'.out, HT58.out.1, HT8'.out⟩
                case measure => simp [intOf]; omega
            · obtain rfl : i = ln + 70 := by omega
              rw [if_pos (by omega)] at hL
              obtain ⟨a5', c5', rfl⟩ := own_shape hL.o
              have hd2 : decide (((ln + 70 : Nat) : Int) < (ln : Int) + 70) = false := by simp
              have hGd := (show Grows wr base 5 1 m mkBs vs len n ones mores (len n + 70) (.slice a8 (ln + 70) c8) o1 by rw [HLN.out]; exact hG).done hlt
              have hm6 := hL.m
              have HG := Lib.hid hGd
              have HL := Lib.hid hL
              have HF := Lib.hid hF
              clear hGd hG hL hF hil hi1
              go_wp2_with (at_builtin; refine append_l1 rfl (.tmp 106) (.tmp 108) rfl base _ n _ _ rfl hm6 rfl rfl (by omega) hbs ?_)
              intro v6' w3 ho6' hold6 hp6
              have HL2 := Lib.hid (HL.out.more ho6' hp6)
              have HG2 := Lib.hid (HG.out.keepT (KeepT.of_app hm6 hp6 neUL.symm))
              have HF2 := Lib.hid (HF.out.app HBAG.out hm6 neLG hp6 HT56.out.2)
              have HT6' := Lib.hid (HT56.out.2.app HF.out hp6)
              obtain ⟨a6', c6', rfl⟩ := own_shape ho6'
              clear ho6' hold6 hp6 hm6 hc0 hcn
              go_wp2_with fail
              go_roundw
              case rel => exact ⟨n + 1, _, _, by omega, by go_num, HG2.out, HL2.out, HF2.out, HT58.out.1, HT6'.out⟩
              case measure => simp [intOf]; omega
        · obtain rfl : n = m := by omega
          have HG := Lib.hid hG
          have HL := Lib.hid hL
          have HF := Lib.hid hF
          clear hG hL hF hlt hn
          go_wp2_with fail
          go_loop [10] (fun v => ∃ k : Nat, k ≤ n ∧ v = .int .i64 k) (fun v => n - (intOf v).toNat)
          case atStart => exact ⟨0, Nat.zero_le _, rfl⟩
          case round =>
            obtain ⟨k, hk, rfl⟩ := hrel
            by_cases hlt : k < n
            · have hd1 : decide ((k : Int) < (n : Int)) = true := by simp; omega
              obtain ⟨gb, cb, he, hbc⟩ := own_some HL.out.b (by omega)
              simp only [Value.slice.injEq] at he
              obtain ⟨rfl, -, rfl⟩ := he
              obtain ⟨g5, cb, he, h5c⟩ := own_some HL.out.o (by omega)
              simp only [Value.slice.injEq] at he
              obtain ⟨rfl, -, rfl⟩ := he
              obtain ⟨g6, cb, he, h6c⟩ := own_some HL.out.m (by omega)
              simp only [Value.slice.injEq] at he
              obtain ⟨rfl, -, rfl⟩ := he
              have hcb : wr.cell? ⟨gb, k, none⟩ = some (vs k) := (row_cell HL.out.b k hlt).trans (firstN_at vs n k hlt)
              have hc5 : wr.cell? ⟨g5, k, none⟩ = some (ones k) := (row_cell HL.out.o k hlt).trans (firstN_at ones n k hlt)
              have hc6 : wr.cell? ⟨g6, k, none⟩ = some (mores k) := (row_cell HL.out.m k hlt).trans (firstN_at mores n k hlt)
              have hov := HG.out.b.own k hlt
              have hoo := HG.out.one k hlt
              have hom := HG.out.more k hlt
              obtain ⟨av, cv, hv⟩ := own_shape hov
              obtain ⟨go1, co, ho, hoc⟩ := own_some hoo (by omega)
              obtain ⟨gm, cm, hmm, hmc⟩ := own_some hom (by omega)
              rw [hv] at hcb hov
              rw [ho] at hc5 hoo
              rw [hmm] at hc6 hom
              have hln := HLEN.out k hlt
              generalize len k = lk at hcb hov hc5 hoo hc6 hom hln hoc hmc
              have HOV := Lib.hid hov
              have HOO := Lib.hid hoo
              have HOM := Lib.hid hom
              clear hov hoo hom hv ho hmm
              go_wp2_with fail
              go_loop [11] (fun v => ∃ i : Nat, i ≤ lk + 70 ∧ v = .int .i64 i) (fun v => lk + 70 - (intOf v).toNat)
              case atStart => exact ⟨0, Nat.zero_le _, rfl⟩
              case round =>
                obtain ⟨i, hi, rfl⟩ := hrel
                have hmk : IntKind.u8.wrap (31 * (k : Int) + 7 * (i : Int) + 3) = mkB k i := rfl
                by_cases hil : i < lk + 70
                · have hxm : wr.cell? ⟨gm, i, none⟩ = some (.int .u8 (mkB k i)) := (row_cell HOM.out i hil).trans (mkB_at k _ i hil)
                  have hd2 : decide ((i : Int) < ((lk + 70 : Nat) : Int)) = true := by simp; omega
                  by_cases h1 : i < lk
                  · obtain ⟨gv, cb, he, hvc⟩ := own_some HOV.out (by omega)
                    simp only [Value.slice.injEq] at he
                    obtain ⟨rfl, -, rfl⟩ := he
                    have hxv : wr.cell? ⟨gv, i, none⟩ = some (.int .u8 (mkB k i)) := (row_cell HOV.out i h1).trans (mkB_at k _ i h1)
                    have hd3 : decide ((i : Int) < (lk : Int)) = true := by simp; omega
                    have hd4 : ((i : Int) == (lk : Int)) = false := by simp; omega
                    go_wp2_with fail
                    go_round
                    case rel => exact ⟨i + 1, by omega, by go_num⟩
                    case measure => simp [intOf]; omega
                  · have hd3 : decide ((i : Int) < (lk : Int)) = false := by simp; omega
                    by_cases h2 : i = lk
                    · have hxo : wr.cell? ⟨go1, i, none⟩ = some (.int .u8 (mkB k i)) := (row_cell HOO.out i (by omega)).trans (mkB_at k _ i (by omega))
                      have hd4 : ((i : Int) == (lk : Int)) = true := by simp; omega
                      have h2' : i ≤ lk := by omega
                      clear h2
                      go_wp2_with fail
                      go_round
                      case rel => exact ⟨i + 1, by omega, by go_num⟩
                      case measure => simp [intOf]; omega
                    · have hd4 : ((i : Int) == (lk : Int)) = false := by simp; omega
                      go_wp2_with fail
                      go_round
                      case rel => exact ⟨i + 1, by omega, by go_num⟩
                      case measure => simp [intOf]; omega
                · obtain rfl : i = lk + 70 := by omega
                  have hd2 : decide (((lk + 70 : Nat) : Int) < ((lk + 70 : Nat) : Int)) = false := by simp
                  go_wp2_with fail
                  go_round
                  case rel => exact ⟨k + 1, by omega, by go_num⟩
                  case measure => simp [intOf]; omega
            · obtain rfl : k = n := by omega
              go_wp2_with fail
              go_ret
              exact ⟨rfl, HF.out⟩
theorem apartBytes_any (w : World) (base bg m : Nat) (bv : Value) (rest : List Value) (vs : Nat → Value) (len : Nat → Nat) (C : Nat → List Value) (hbag : BagAt w bg (bv :: rest)) (hbv : w.ownsRow base 61 1 bv m (firstN vs m)) (hm : m ≤ 400) (hB : Bags w base 5 1 m vs len C)
    (hlen : ∀ k, k < m → len k ≤ 140737488351232) (hbase : base ≤ w.heap.size) :
    Calls Tryd.prog 34 #[.pointer (some ⟨bg, 0, none⟩)] w fun e w' => e = .returned (.bool true) ∧ Fr w w' base bg :=
  (apartBytes_T (fun _ => False) w base bg m bv rest vs len C hbag hbv hm hB hlen hbase (fun _ h => h.elim) (fun _ _ _ h => h.elim)).mono fun _ _ ⟨e, h⟩ => ⟨e, h.fr⟩
end Go.Proofs.YtgepjjpcokbpjaaDoor

/-
  galleylaw15.TableBack: a table is made again of its own rows; exchanged they undo it.
-/
import Derived.Test.YtmmnebejmfmeeaaBackMath
import Derived.Test.YtmmnebejmfmeeaaLives
import Derived.Test.YtmmnebejmfmeeaaEqRow
import Derived.Test.YtmmnebejmfmeeaaHeld
import Derived.Deep.Cut
import Derived.Deep.DeepCutAuto
namespace Go.Proofs.Ytmmnebejmfmeeaa
open Go.RowKit

/-- galleyref00.Long: beyond the bound of the document? -/
theorem long_any (w : World) (n : Nat) (hn : n ≤ 140737488351232) : Calls Try.prog 8 #[.int .i64 n] w fun e w' => e = .returned (.bool (decide (2147483647 < n))) ∧ w = w' := by
  by_cases h : 2147483647 < n
  · have h1 : (2147483647 : Int) < (n : Int) := by omega
    have hd := Lib.hid (decide_eq_true h)
    clear h
    go_enter Try.func8, Try.ntmps8
    go_wp2
    go_ret
    exact ⟨ret_bool hd.out.symm, rfl⟩
  · have h1 : ¬ (2147483647 : Int) < (n : Int) := by omega
    have hd := Lib.hid (decide_eq_false h)
    clear h
    go_enter Try.func8, Try.ntmps8
    go_wp2
    go_ret
    exact ⟨ret_bool hd.out.symm, rfl⟩

set_option maxHeartbeats 2000000 in
set_option maxRecDepth 100000 in
theorem back_walk (w : World) (t : List Int) (a : Option Addr) (n cap : Nat) (b : List Int) (htl : t.length = 256) (hT : IsB t) (hb : SB w (.slice a n cap) b) (hbn : b.length = n) :
    Calls Try.prog 6 #[.agg (row t), .slice a n cap] w fun e w' => e = .returned (.bool true) ∧ Below w.heap.size w w' := by
  have hnb : n ≤ 140737488351232 := by obtain ⟨_, _, _, _, h, _⟩ := hb; omega
  have hz := zeroT
  have hz2 := zeroS
  have HTL := Lib.hid htl
  have HT := Lib.hid hT
  have HBN := Lib.hid hbn
  have a0 : Arr (w.alloc (.cells (row t) 27)) w.heap.size 27 t := Arr.new _ _ _
  have ab : Below w.heap.size w (w.alloc (.cells (row t) 27)) := (Below.refl _ w).alloc (Nat.le_refl _) _
  have hb := hb.below ab
  clear htl hT hbn
  by_cases hlong : 2147483647 < n
  · go_enter Try.func6, Try.ntmps6
    go_wp2_with fail
    refine (long_any _ n hnb).mono ?_
    rw [decide_eq_true hlong]
    rintro e w1 ⟨rfl, rfl⟩
    go_wp2_with fail
    go_ret
    exact ⟨rfl, ab⟩
  go_enter Try.func6, Try.ntmps6
  go_wp2_with fail
  refine (long_any _ n hnb).mono ?_
  rw [decide_eq_false hlong]
  rintro e w1 ⟨rfl, rfl⟩
  clear hlong
  generalize w.alloc (.cells (row t) 27) = W1 at a0 ab hb ⊢
  go_wp2_with fail
  refine (lives_any _).mono ?_
  rintro e w2 ⟨rfl, hb2⟩
  have a0 := a0.below hb2 a0.lt
  have hb := hb.below hb2
  have ab := ab.trans (hb2.mono ab.size)
  clear hb2
  go_wp2_with fail
  refine (print_any _ w.heap.size _ t a0 HTL.out HT.out).mono ?_
  rintro e w3 ⟨va, vb, rfl, sa, sb, hb3⟩
  have a0 := a0.below hb3 a0.lt
  have hb := hb.below hb3
  have ab := ab.trans (hb3.mono ab.size)
  clear hb3
  obtain ⟨_, aa, ca, rfl, _, _⟩ := id sa
  obtain ⟨_, ab', cb', rfl, _, _⟩ := id sb
  have hN1 := pfTo_len t 256
  rw [ptTo_len] at sb ⊢
  generalize hN : (pfTo t 256).length = N at sa sb hN1 ⊢
  have HN := Lib.hid hN
  clear hN
  go_wp2_with fail
  refine (new_any _ _ _ _ _ sa sb).mono ?_
  rw [newOut_print t HTL.out]
  rintro e w4 ⟨rfl, hb4⟩
  have a0 := a0.below hb4 a0.lt
  have hb := hb.below hb4
  have ab := ab.trans (hb4.mono ab.size)
  have sa := sa.below hb4
  have sb := sb.below hb4
  have n4 : Arr (w4.alloc (.cells (row zrow) 27)) w4.heap.size 27 zrow := Arr.new _ _ _
  clear hb4
  go_upto_region 6 with (refine wpList_store_row rfl 27 _ _ rfl rfl w4.heap.size 27 _ _ rfl rfl n4 (by rw [row_size, row_size, HTL.out]; rfl) (by rw [row_size, HTL.out]; exact infoT) (row_one _) ?_)
  obtain ⟨hb5, a5, hs5⟩ := box_row w4 27 zrow t
  have a0 := a0.below hb5 a0.lt
  have hb := hb.below hb5
  have ab := ab.trans (hb5.mono ab.size)
  have sa := sa.below hb5
  have sb := sb.below hb5
  clear n4 hb5 hs5
  generalize (w4.alloc (.cells (row zrow) 27)).setRow w4.heap.size (row t) = W5 at a0 a5 hb ab sa sb ⊢
  generalize w4.heap.size = g5 at a5 ⊢
  go_cut [47] (fun v wc => v = .bool false ∧ wc = W5)
  case first =>
    have hgu := fun w op x y xs ys => run_guardT w op x y xs ys
    have hnq : ∀ w, (binOp .neq 27 (.agg (row t)) (.agg (row t))).run Try.prog w = .ok (.bool false) w := fun w => by
      rw [run_neq_row w _ _ HTL.out HTL.out, decide_eq_true rfl]; rfl
    have hit : (Try.prog.info? 27).map (·.size) = some (row t).size := by rw [row_size, HTL.out]; exact infoT
    have Hit := Lib.hid hit
    clear hit
    go_wp2_with fail
    refine wp_load_row 27 _ rfl g5 rfl 27 _ (0, 0) _ a5 Try.underlying27 rfl Hit.out ?_
    go_wp2_with fail
    refine wp_load_row 27 _ rfl w.heap.size rfl 27 _ (0, 0) _ a0 Try.underlying27 rfl Hit.out ?_
    go_wp2_with fail
    go_meet
    case rel => exact ⟨rfl, rfl⟩
  case rest =>
    obtain ⟨rfl, rfl⟩ := hcut
    go_wp2_with fail
    go_loopw [10] (fun i wr => ∃ k q : Nat, k ≤ N ∧ i = .int .i64 k ∧ wr = wc.drewN q) (fun i _ => N - (intOf i).toNat)
    case atStart => exact ⟨0, 0, Nat.zero_le _, rfl, rfl⟩
    case round =>
      obtain ⟨k, q, hk, rfl, rfl⟩ := hrel
      by_cases hlt : k < N
      · obtain ⟨ba, oa, rfl, hca⟩ := sa.read k hlt
        obtain ⟨bb, ob, rfl, hcb⟩ := sb.read k hlt
        have hd := (pf_rises t 256).1 k (by rw [HN.out]; exact hlt)
        have hu := (pf_rises t 256).2 k
        rw [HN.out] at hu
        have h1 := hca k hlt
        have h2 := hcb k hlt
        have h3 := hca (k - 1)
        clear hca hcb
        by_cases h0 : k = 0
        · subst h0
          generalize (pfTo t 256)[0]?.getD 0 = x at h1 hd
          generalize (ptTo t 256)[0]?.getD 0 = y at h2 hd
          have hne : (x == y) = false := beq_eq_false_iff_ne.2 hd
          rw [Nat.add_zero] at h1 h2
          clear hu h3 hd
          go_wp2
          go_quiet (fail)
          go_wp2
          go_roundw
          case rel => exact ⟨1, _, by omega, by go_num, rfl⟩
          case measure => simp [intOf]; omega
        · have hu' := hu (by omega) hlt
          have h3' := h3 (by omega)
          generalize (pfTo t 256)[k]?.getD 0 = x at h1 hd hu'
          generalize (ptTo t 256)[k]?.getD 0 = y at h2 hd
          generalize (pfTo t 256)[k - 1]?.getD 0 = z at h3' hu'
          have hne : (x == y) = false := beq_eq_false_iff_ne.2 hd
          have hk0 : 0 < k := by omega
          have hk1 : decide (0 < k) = true := decide_eq_true hk0
          have hi1 : (0 : Int) ≤ (k : Int) - 1 := by omega
          have hi2 : (k : Int) - 1 < (N : Int) := by omega
          have hi3 : (k : Int) < (N : Int) := by omega
          have hw : IntKind.i64.wrap ((k : Int) - 1) = (k : Int) - 1 := IntWalk.i64_in _ (by omega)
          have hn1 : ((k : Int) - 1).toNat = k - 1 := by omega
          clear hu h3 hd
          go_wp2
          go_quiet (fail)
          clear hw hn1
          go_wp2
          go_roundw
          case rel => exact ⟨k + 1, _, by omega, by go_num, rfl⟩
          case measure => simp [intOf]; omega
      · go_wp2
        have a0 := a0.drewN q
        have ab := below_drewN ab q
        have hb := hb.drewN q
        have sa := sa.drewN q
        have sb := sb.drewN q
        have gs := Arrb.new (wc.drewN q) 44 brow
        have gB := (Below.refl (wc.drewN q).heap.size (wc.drewN q)).alloc (Nat.le_refl _) (.cells (rowb brow) 44)
        have hwq : wc.heap.size = (wc.drewN q).heap.size := rfl
        rw [hwq]
        clear hwq hlt
        generalize wc.drewN q = V at a0 ab hb sa sb gs gB ⊢
        go_loopw [12, 13] (fun o i wr => ∃ (k : Nat) (sn : List Bool) (one : Bool), k ≤ 256 ∧ i = .int .i64 k ∧ o = .bool one ∧ (one = true ↔ (t.take k).Nodup) ∧ sn.length = 256 ∧ (∀ x : Nat, x < 256 → (sn[x]?.getD false = true ↔ (x : Int) ∈ t.take k)) ∧
          Arrb wr V.heap.size 44 sn ∧ Below V.heap.size V wr) (fun _ i _ => 256 - (intOf i).toNat)
        case atStart => exact ⟨0, brow, true, Nat.zero_le _, rfl, rfl, by simp, brow_len, fun x hx => by rw [brow_get]; simp, gs, gB⟩
        case round =>
          obtain ⟨k, sn, one, hk, rfl, rfl, hone, hsl, hsn, rs, rb⟩ := hrel
          have HO := Lib.hid hone
          have HSL := Lib.hid hsl
          have HSN := Lib.hid hsn
          clear hone hsl hsn gs gB
          by_cases hlt : k < 256
          · have hlt' : (k : Int) < 256 := by omega
            have htc := (a0.below rb a0.lt).cell k (by rw [HTL.out]; exact hlt)
            obtain ⟨hx0, hx1⟩ := HT.out k
            have hsc := rs.cell (t[k]?.getD 0).toNat (by rw [HSL.out]; omega)
            have hsf := rs.frozen (t[k]?.getD 0).toNat
            have hmem := HSN.out (t[k]?.getD 0).toNat (by omega)
            rw [Int.toNat_of_nonneg hx0] at hmem
            have hts := take_snoc t k (by rw [HTL.out]; exact hlt)
            generalize t[k]?.getD 0 = x at htc hx0 hx1 hsc hsf hmem hts
            generalize hs : sn[x.toNat]?.getD false = s at hsc hmem
            have HS := Lib.hid hs
            have HM := Lib.hid hmem
            have HTS := Lib.hid hts
            have hnx : ((one && !s) = true ↔ (t.take (k + 1)).Nodup) := by
              rw [hts, List.nodup_append, Bool.and_eq_true, HO.out, Bool.not_eq_true']
              constructor
              · rintro ⟨h1, h2⟩
                exact ⟨h1, by simp, fun a ha b hb => by simp at hb; subst hb; intro e; subst e; have := hmem.2 ha; rw [h2] at this; cases this⟩
              · rintro ⟨h1, _, h3⟩
                refine ⟨h1, ?_⟩
                cases hs' : s
                · rfl
                · exact absurd rfl (h3 x (hmem.1 hs') x (by simp))
            have HNX := Lib.hid hnx
            clear hs hmem hts hnx
            cases one
            · go_wp2
              go_roundw
              case rel => exact ⟨k + 1, sn.set x.toNat true, false, by omega, by go_num, rfl, by have := HNX.out; simpa using this, by rw [List.length_set, HSL.out], by rw [HTS.out]; exact seen_step sn _ x hx0 hx1 HSL.out HSN.out, rs.set _ _, rb.setCell (by simp) _⟩
              case measure => simp [intOf]; omega
            · cases s
              · go_wp2
                go_roundw
                case rel => exact ⟨k + 1, sn.set x.toNat true, true, by omega, by go_num, rfl, by have := HNX.out; simpa using this, by rw [List.length_set, HSL.out], by rw [HTS.out]; exact seen_step sn _ x hx0 hx1 HSL.out HSN.out, rs.set _ _, rb.setCell (by simp) _⟩
                case measure => simp [intOf]; omega
              · go_wp2
                go_roundw
                case rel => exact ⟨k + 1, sn.set x.toNat true, false, by omega, by go_num, rfl, by have := HNX.out; simpa using this, by rw [List.length_set, HSL.out], by rw [HTS.out]; exact seen_step sn _ x hx0 hx1 HSL.out HSN.out, rs.set _ _, rb.setCell (by simp) _⟩
                case measure => simp [intOf]; omega
          · have hk' : k = 256 := by omega
            subst hk'
            have hnd := HO.out
            rw [List.take_of_length_le (by rw [HTL.out]; omega)] at hnd
            have HND := Lib.hid hnd
            have a0 := a0.below rb a0.lt
            have ab := ab.trans (rb.mono ab.size)
            have hb := hb.below rb
            have sa := sa.below rb
            have sb := sb.below rb
            clear hnd hlt rs rb
            cases one
            · obtain ⟨l, f, he, hl, hf⟩ := newOut_any (ptTo t 256) (pfTo t 256)
              have HL := Lib.hid hl
              clear hl
              go_wp2_with fail
              refine (new_any _ _ _ _ _ sb sa).mono ?_
              rw [he]
              rintro e w6 ⟨rfl, hb6⟩
              have ab := ab.trans (hb6.mono ab.size)
              have n6 : Arr (w6.alloc (.cells (row zrow) 27)) w6.heap.size 27 zrow := Arr.new _ _ _
              have hs6 := ab.size
              clear he hb6
              rcases hf with rfl | rfl
              · go_wp2_with (refine wpList_store_row rfl 27 _ _ rfl rfl w6.heap.size 27 _ _ rfl rfl n6 (by rw [row_size, row_size, HL.out]; rfl) (by rw [row_size, HL.out]; exact infoT) (row_one _) ?_)
                go_ret
                exact ⟨rfl, below_setRow (ab.alloc hs6 _) hs6 _⟩
              · go_wp2_with (refine wpList_store_row rfl 27 _ _ rfl rfl w6.heap.size 27 _ _ rfl rfl n6 (by rw [row_size, row_size, HL.out]; rfl) (by rw [row_size, HL.out]; exact infoT) (row_one _) ?_)
                go_ret
                exact ⟨rfl, below_setRow (ab.alloc hs6 _) hs6 _⟩
            · have HN' := Lib.hid (HND.out.1 rfl)
              go_wp2_with fail
              refine (new_any _ _ _ _ _ sb sa).mono ?_
              rw [newOut_undo t HTL.out HN'.out]
              rintro e w6 ⟨rfl, hb6⟩
              have a0 := a0.below hb6 a0.lt
              have hb := hb.below hb6
              have ab := ab.trans (hb6.mono ab.size)
              have n6 : Arr (w6.alloc (.cells (row zrow) 27)) w6.heap.size 27 zrow := Arr.new _ _ _
              clear hb6 sa sb
              go_wp2_with (refine wpList_store_row rfl 27 _ _ rfl rfl w6.heap.size 27 _ _ rfl rfl n6 (by rw [row_size, row_size, undo_len]; rfl) (by rw [row_size, undo_len]; exact infoT) (row_one _) ?_)
              obtain ⟨hb7, a7, _⟩ := box_row w6 27 zrow (undo t)
              have a0 := a0.below hb7 a0.lt
              have hb := hb.below hb7
              have ab := ab.trans (hb7.mono ab.size)
              clear n6 hb7
              generalize (w6.alloc (.cells (row zrow) 27)).setRow w6.heap.size (row (undo t)) = W7 at a0 a7 hb ab ⊢
              generalize w6.heap.size = g7 at a7 ⊢
              refine (apply_n _ w.heap.size _ t b _ n a0 HTL.out (app_isB _ _ HT.out) hb HBN.out).mono ?_
              rintro e w8 ⟨rfl, s8, hb8⟩
              have a7 := a7.below hb8 a7.lt
              have hb := hb.below hb8
              have ab := ab.trans (hb8.mono ab.size)
              have hB := hb.1
              clear hb8 a0
              go_wp2_with fail
              refine (apply_n _ g7 _ (undo t) (app t b) _ n a7 (undo_len t) (by rw [app_undo t b HTL.out HT.out HN'.out hB]; exact hB) s8 (by rw [app_len]; exact HBN.out)).mono ?_
              rintro e w9 ⟨rfl, s9, hb9⟩
              have hb := hb.below hb9
              have ab := ab.trans (hb9.mono ab.size)
              rw [app_undo t b HTL.out HT.out HN'.out hB] at s9
              clear hb9 a7 s8
              go_wp2_with fail
              refine (eqBytes_any _ _ _ _ _ s9 hb).mono ?_
              rw [decide_eq_true rfl]
              rintro e w10 ⟨rfl, nq, rfl⟩
              go_wp2_with fail
              go_ret
              exact ⟨rfl, below_drewN ab nq⟩
end Go.Proofs.Ytmmnebejmfmeeaa

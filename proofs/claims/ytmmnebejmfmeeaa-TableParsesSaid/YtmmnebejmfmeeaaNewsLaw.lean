/-
  galleylaw15.TableNews: every New.
-/
import Derived.Test.YtmmnebejmfmeeaaRefNew
import Derived.Test.YtmmnebejmfmeeaaWide
import Derived.Test.YtmmnebejmfmeeaaLives
import Derived.Test.YtmmnebejmfmeeaaEqRow
import Derived.Test.YtmmnebejmfmeeaaBackLaw
import Derived.OpenShut
import Derived.Deep.Cut
import Derived.Deep.DeepCutAuto
namespace Go.Proofs.Ytmmnebejmfmeeaa
open Go.RowKit

/-- A row of bytes read up to a place. -/
theorem Arr.take_sb {w : World} {g n : Nat} {T : TypeId} {m : List Int} (h : Arr w g T m) (hB : IsB m) (hn : n ≤ m.length) (hl : n ≤ 140737488351232) (cap : Nat) : SB w (.slice (some ⟨g, 0, none⟩) n cap) (m.take n) := by
  have hlen : (m.take n).length = n := by simp; omega
  refine ⟨fun i => ?_, some ⟨g, 0, none⟩, cap, by rw [hlen], by omega, .inr ⟨g, 0, rfl, fun i hi => ?_⟩⟩
  · by_cases hi : i < n
    · rw [List.getElem?_take_of_lt hi]; exact hB i
    · rw [List.getElem?_eq_none (by omega)]; simp
  · rw [hlen] at hi
    rw [Nat.zero_add, h.cell i (by omega), List.getElem?_take_of_lt hi]
theorem wide_take (l : List Int) : (wide l).take l.length = l := by unfold wide; exact List.take_left
theorem wide_isB (l : List Int) (h : IsB l) : IsB (wide l) := by
  intro i
  by_cases hi : i < l.length
  · rw [wide_lo l i hi]; exact h i
  · by_cases h2 : i < l.length + 64
    · rw [wide_hi l i (by omega) h2]; exact markAt_b i
    · rw [List.getElem?_eq_none (by rw [wide_len]; omega)]; simp

theorem isB_set (m : List Int) (k : Nat) (y : Int) (h : IsB m) (h0 : 0 ≤ y) (h1 : y ≤ 255) : IsB (m.set k y) := by
  intro i
  rw [List.getElem?_set]
  split
  · split
    · exact ⟨h0, h1⟩
    · simp
  · exact h i
theorem wrap_u8_b (x : Int) : 0 ≤ IntKind.u8.wrap x ∧ IntKind.u8.wrap x ≤ 255 := by
  simp [IntKind.wrap, IntKind.bits, IntKind.signed]
  omega

set_option maxHeartbeats 2000000 in
set_option maxRecDepth 100000 in
theorem news_walk (w : World) (aa ab' : Option Addr) (n1 n2 ca cb : Nat) (a b : List Int) (sa : SB w (.slice aa n1 ca) a) (sb : SB w (.slice ab' n2 cb) b) (hn1 : a.length = n1) (hn2 : b.length = n2) :
    Calls Try.prog 3 #[.slice aa n1 ca, .slice ab' n2 cb] w fun e w' => e = .returned (.bool true) ∧ Below w.heap.size w w' := by
  have hb1 : n1 ≤ 140737488351232 := by obtain ⟨_, _, _, _, h, _⟩ := sa; omega
  have hb2 : n2 ≤ 140737488351232 := by obtain ⟨_, _, _, _, h, _⟩ := sb; omega
  by_cases hl1 : 2147483647 < n1
  · clear hn1 hn2 sa sb
    go_enter Try.func3, Try.ntmps3
    go_wp2_with fail
    refine (long_any _ n1 hb1).mono ?_
    rw [decide_eq_true hl1]
    rintro e w1 ⟨rfl, rfl⟩
    go_wp2_with fail
    go_ret
    exact ⟨rfl, Below.refl _ _⟩
  by_cases hl2 : 2147483647 < n2
  · clear hn1 hn2 sa sb
    go_enter Try.func3, Try.ntmps3
    go_wp2_with fail
    refine (long_any _ n1 hb1).mono ?_
    rw [decide_eq_false hl1]
    rintro e w1 ⟨rfl, rfl⟩
    go_wp2_with fail
    refine (long_any _ n2 hb2).mono ?_
    rw [decide_eq_true hl2]
    rintro e w1 ⟨rfl, rfl⟩
    go_wp2_with fail
    go_ret
    exact ⟨rfl, Below.refl _ _⟩
  have hz := zeroT
  have ab := Below.refl w.heap.size w
  have hs1 : n1 ≤ 2147483647 := by omega
  have hs2 : n2 ≤ 2147483647 := by omega
  have HN1 := Lib.hid hn1
  have HN2 := Lib.hid hn2
  obtain ⟨l, f, he, hl, hf⟩ := newOut_any a b
  have HL := Lib.hid hl
  have HE := Lib.hid he
  have HF := Lib.hid hf
  have HA := Lib.hid sa.1
  have HB := Lib.hid sb.1
  clear hl he hf hn1 hn2
  go_enter Try.func3, Try.ntmps3
  go_wp2_with fail
  refine (long_any _ n1 hb1).mono ?_
  rw [decide_eq_false hl1]
  rintro e w1 ⟨rfl, rfl⟩
  go_wp2_with fail
  refine (long_any _ n2 hb2).mono ?_
  rw [decide_eq_false hl2]
  rintro e w1 ⟨rfl, rfl⟩
  clear hl1 hl2 hb1 hb2
  go_wp2_with fail
  refine (lives_any _).mono ?_
  rintro e w2 ⟨rfl, hb2⟩
  have sa := sa.below hb2
  have sb := sb.below hb2
  have ab := ab.trans (hb2.mono ab.size)
  clear hb2
  have hg3 := ab.size
  go_wp2_with fail
  refine (wide_any _ _ a sa (by rw [HN1.out]; exact hs1)).mono ?_
  rw [HN1.out]
  rintro e w3 ⟨rfl, x3, hb3⟩
  have sa := sa.below hb3
  have sb := sb.below hb3
  have ab := ab.trans (hb3.mono ab.size)
  have hg3' := x3.lt
  clear hb3
  generalize w2.heap.size = gx at x3 hg3 hg3' ⊢
  go_wp2_with fail
  refine (wide_any _ _ b sb (by rw [HN2.out]; exact hs2)).mono ?_
  rw [HN2.out]
  rintro e w4 ⟨rfl, y4, hb4⟩
  have sa := sa.below hb4
  have sb := sb.below hb4
  have ab := ab.trans (hb4.mono ab.size)
  have x3 := x3.below hb4 x3.lt
  clear hb4
  generalize hgy : w3.heap.size = gy at y4 hg3' ⊢
  have HG := Lib.hid hgy
  clear hgy
  have tx := x3.take_sb (wide_isB a HA.out) (show n1 ≤ (wide a).length by rw [wide_len, HN1.out]; omega) (by omega) (n1 + 64)
  have ty := y4.take_sb (wide_isB b HB.out) (show n2 ≤ (wide b).length by rw [wide_len, HN2.out]; omega) (by omega) (n2 + 64)
  rw [show (wide a).take n1 = a by rw [← HN1.out]; exact wide_take a] at tx
  rw [show (wide b).take n2 = b by rw [← HN2.out]; exact wide_take b] at ty
  go_wp2_with fail
  refine (new_any _ _ _ _ _ tx ty).mono ?_
  rw [HE.out]
  rintro e w5 ⟨rfl, hb5⟩
  have sa := sa.below hb5
  have sb := sb.below hb5
  have ab := ab.trans (hb5.mono ab.size)
  have x3 := x3.below hb5 x3.lt
  have y4 := y4.below hb5 y4.lt
  have hgt : gy < w5.heap.size := y4.lt
  have n5 : Arr (w5.alloc (.cells (row zrow) 27)) w5.heap.size 27 zrow := Arr.new _ _ _
  clear hb5 tx ty
  go_wp2_with (refine wpList_store_row rfl 27 _ _ rfl rfl w5.heap.size 27 _ _ rfl rfl n5 (by rw [row_size, row_size, HL.out]; rfl) (by rw [row_size, HL.out]; exact infoT) (row_one _) ?_)
  obtain ⟨hb6, t6, _⟩ := box_row w5 27 zrow l
  have sa := sa.below hb6
  have sb := sb.below hb6
  have ab := ab.trans (hb6.mono ab.size)
  have x3 := x3.below hb6 x3.lt
  have y4 := y4.below hb6 y4.lt
  clear n5 hb6
  generalize (w5.alloc (.cells (row zrow) 27)).setRow w5.heap.size (row l) = W6 at sa sb ab x3 y4 t6 ⊢
  generalize w5.heap.size = gt at t6 hgt ⊢
  refine (refNew_any _ _ _ _ _ sa sb).mono ?_
  rw [HE.out]
  rintro e w7 ⟨rfl, hb7⟩
  have sa := sa.below hb7
  have sb := sb.below hb7
  have ab := ab.trans (hb7.mono ab.size)
  have x3 := x3.below hb7 x3.lt
  have y4 := y4.below hb7 y4.lt
  have t6 := t6.below hb7 t6.lt
  have hgu : gt < w7.heap.size := t6.lt
  have n7 : Arr (w7.alloc (.cells (row zrow) 27)) w7.heap.size 27 zrow := Arr.new _ _ _
  clear hb7
  go_upto_region 8 with (refine wpList_store_row rfl 27 _ _ rfl rfl w7.heap.size 27 _ _ rfl rfl n7 (by rw [row_size, row_size, HL.out]; rfl) (by rw [row_size, HL.out]; exact infoT) (row_one _) ?_)
  obtain ⟨hb8, v8, _⟩ := box_row w7 27 zrow l
  have sa := sa.below hb8
  have sb := sb.below hb8
  have ab := ab.trans (hb8.mono ab.size)
  have x3 := x3.below hb8 x3.lt
  have y4 := y4.below hb8 y4.lt
  have t6 := t6.below hb8 t6.lt
  clear n7 hb8
  generalize (w7.alloc (.cells (row zrow) 27)).setRow w7.heap.size (row l) = W8 at sa sb ab x3 y4 t6 v8 ⊢
  generalize w7.heap.size = gu at v8 hgu ⊢
  go_cut [72] (fun v wc => v = .bool false ∧ ∃ q, wc = W8.drewN q)
  case first =>
    have hgd := fun w op x y xs ys => run_guardT w op x y xs ys
    have hnq : ∀ w, (binOp .neq 27 (.agg (row l)) (.agg (row l))).run Try.prog w = .ok (.bool false) w := fun w => by
      rw [run_neq_row w _ _ HL.out HL.out, decide_eq_true rfl]; rfl
    have hit : (Try.prog.info? 27).map (·.size) = some (row l).size := by rw [row_size, HL.out]; exact infoT
    have Hit := Lib.hid hit
    clear hit hz
    have tx := x3.take_sb (wide_isB a HA.out) (show n1 ≤ (wide a).length by rw [wide_len, HN1.out]; omega) (by omega) (n1 + 64)
    have ty := y4.take_sb (wide_isB b HB.out) (show n2 ≤ (wide b).length by rw [wide_len, HN2.out]; omega) (by omega) (n2 + 64)
    rw [show (wide a).take n1 = a by rw [← HN1.out]; exact wide_take a] at tx
    rw [show (wide b).take n2 = b by rw [← HN2.out]; exact wide_take b] at ty
    go_wp2_with fail
    refine wp_load_row 27 _ rfl gt rfl 27 _ (0, 0) _ t6 Try.underlying27 rfl Hit.out ?_
    go_wp2_with fail
    refine wp_load_row 27 _ rfl gu rfl 27 _ (0, 0) _ v8 Try.underlying27 rfl Hit.out ?_
    go_wp2_with fail
    refine (eqBytes_any _ _ _ _ _ tx sa).mono ?_
    rw [decide_eq_true rfl]
    rintro e w9 ⟨rfl, q1, rfl⟩
    go_wp2_with fail
    refine (eqBytes_any _ _ _ _ _ (ty.drewN q1) (sb.drewN q1)).mono ?_
    rw [decide_eq_true rfl]
    rintro e w10 ⟨rfl, q2, rfl⟩
    go_wp2_with fail
    refine (spare_any _ gx n1 _ hs1 (wide a) (by rw [wide_len, HN1.out]) (fun j h1 h2 => by rw [← HN1.out] at h1 h2; exact wide_hi a j h1 h2) (x3.drewN _)).mono ?_
    rintro e w11 ⟨rfl, q3, rfl⟩
    go_wp2_with fail
    refine (spare_any _ gy n2 _ hs2 (wide b) (by rw [wide_len, HN2.out]) (fun j h1 h2 => by rw [← HN2.out] at h1 h2; exact wide_hi b j h1 h2) (y4.drewN _)).mono ?_
    rintro e w12 ⟨rfl, q4, rfl⟩
    go_wp2_with fail
    go_meet
    case rel => exact ⟨rfl, _, rfl⟩
  case rest =>
    obtain ⟨rfl, q, rfl⟩ := hcut
    clear hz
    have hgxy : gx < gy := by have := HG.out; omega
    have sa := sa.drewN q
    have sb := sb.drewN q
    have ab := below_drewN ab q
    have x3 := x3.drewN q
    have y4 := y4.drewN q
    have t6 := t6.drewN q
    have v8 := v8.drewN q
    generalize W8.drewN q = W9 at sa sb ab x3 y4 t6 v8 ⊢
    go_wp2_with fail
    go_loopw [12] (fun i wr => ∃ (k : Nat) (m : List Int), k ≤ n1 ∧ i = .int .i64 k ∧ m.length = n1 + 64 ∧ Hid (IsB m) ∧ Arr wr gx 5 m ∧
      Arr wr gy 5 (wide b) ∧ Arr wr gt 27 l ∧ Arr wr gu 27 l ∧ Below w.heap.size w wr) (fun i _ => n1 - (intOf i).toNat)
    case atStart => exact ⟨0, wide a, Nat.zero_le _, rfl, by rw [wide_len, HN1.out], Lib.hid (wide_isB a HA.out), x3, y4, t6, v8, ab⟩
    case round =>
      obtain ⟨k, m, hk, rfl, hml, hmb, x3, y4, t6, v8, ab⟩ := hrel
      have HML := Lib.hid hml
      clear hml
      by_cases hlt : k < n1
      · have hc := x3.cell k (by rw [HML.out]; omega)
        have hf := x3.frozen k
        generalize m[k]?.getD 0 = x at hc
        have hx := wrap_u8_b (x + 1)
        generalize hy : IntKind.u8.wrap (x + 1) = y at hx
        have hm2 := Lib.hid (isB_set m k y hmb.out hx.1 hx.2)
        clear hx
        go_wp2
        go_roundw
        case rel => exact ⟨k + 1, m.set k y, by omega, by go_num, by rw [List.length_set, HML.out], hm2, x3.set _ _, y4.other _ (by show gy ≠ gx; omega) _, t6.other _ (by show gt ≠ gx; omega) _, v8.other _ (by show gu ≠ gx; omega) _, ab.setCell (by show w.heap.size ≤ gx; omega) _⟩
        case measure => simp [intOf]; omega
      · go_wp2
        go_loopw [13] (fun i wr => ∃ (k : Nat) (m2 : List Int), k ≤ n2 ∧ i = .int .i64 k ∧ m2.length = n2 + 64 ∧ Hid (IsB m2) ∧ Arr wr gy 5 m2 ∧
          Arr wr gx 5 m ∧ Arr wr gt 27 l ∧ Arr wr gu 27 l ∧ Below w.heap.size w wr) (fun i _ => n2 - (intOf i).toNat)
        case atStart => exact ⟨0, wide b, Nat.zero_le _, rfl, by rw [wide_len, HN2.out], Lib.hid (wide_isB b HB.out), y4, x3, t6, v8, ab⟩
        case round =>
          obtain ⟨k2, m2, hk2, rfl, hml2, hmb2, y4, x3, t6, v8, ab⟩ := hrel
          have HML2 := Lib.hid hml2
          clear hml2
          by_cases hlt : k2 < n2
          · have hc := y4.cell k2 (by rw [HML2.out]; omega)
            have hf := y4.frozen k2
            generalize m2[k2]?.getD 0 = x at hc
            go_wp2
            have hx := bounds_u8 (wf_bits .xor .u8 x 9)
            generalize hy : bits BinOp.xor IntKind.u8 x 9 = y at hx ⊢
            have hm3 := Lib.hid (isB_set m2 k2 y hmb2.out hx.1 hx.2)
            clear hx
            go_roundw
            case rel => exact ⟨k2 + 1, m2.set k2 y, by omega, by go_num, by rw [List.length_set, HML2.out], hm3, y4.set _ _, x3.other _ (by show gx ≠ gy; omega) _, t6.other _ (by show gt ≠ gy; omega) _, v8.other _ (by show gu ≠ gy; omega) _, ab.setCell (by show w.heap.size ≤ gy; omega) _⟩
            case measure => simp [intOf]; omega
          · obtain ⟨l2, f2, he2, hl2, hf2⟩ := newOut_any (m.take n1) (m2.take n2)
            have HL2 := Lib.hid hl2
            have HE2 := Lib.hid he2
            clear he2 hl2 hf2
            have stx := x3.take_sb hmb.out (show n1 ≤ m.length by rw [HML.out]; omega) (by omega) (n1 + 64)
            have sty := y4.take_sb hmb2.out (show n2 ≤ m2.length by rw [HML2.out]; omega) (by omega) (n2 + 64)
            go_wp2_with fail
            refine (copy_any _ _ _ stx).mono ?_
            rintro e w10 ⟨cx, rfl, ocx, hb10⟩
            have sty := sty.below hb10
            have ab := ab.trans (hb10.mono ab.size)
            have t6 := t6.below hb10 t6.lt
            have v8 := v8.below hb10 v8.lt
            have x3 := x3.below hb10 x3.lt
            have y4 := y4.below hb10 y4.lt
            have scx := ocx.sb stx.1 (by simp; omega)
            clear hb10 ocx stx
            go_wp2_with fail
            refine (copy_any _ _ _ sty).mono ?_
            rintro e w11 ⟨cy, rfl, ocy, hb11⟩
            have ab := ab.trans (hb11.mono ab.size)
            have t6 := t6.below hb11 t6.lt
            have v8 := v8.below hb11 v8.lt
            have scx := scx.below hb11
            have x3 := x3.below hb11 x3.lt
            have y4 := y4.below hb11 y4.lt
            have scy := ocy.sb sty.1 (by simp; omega)
            clear hb11 ocy sty
            go_wp2_with fail
            refine (refNew_any _ _ _ _ _ scx scy).mono ?_
            rw [HE2.out]
            rintro e w12 ⟨rfl, hb12⟩
            have ab := ab.trans (hb12.mono ab.size)
            have t6 := t6.below hb12 t6.lt
            have v8 := v8.below hb12 v8.lt
            have x3 := x3.below hb12 x3.lt
            have y4 := y4.below hb12 y4.lt
            clear hb12 scx scy
            go_wp2_with (refine wpList_store_row rfl 27 _ _ rfl rfl gu 27 _ _ rfl rfl v8 (by rw [row_size, row_size, HL2.out, HL.out]) (by rw [row_size, HL2.out]; exact infoT) (row_one _) ?_)
            have ab := below_setRow ab (show w.heap.size ≤ gu by omega) (row l2)
            have x3 := x3.setRow_other (row l2) (show gx ≠ gu by omega)
            have y4 := y4.setRow_other (row l2) (show gy ≠ gu by omega)
            have t6 := t6.setRow_other (row l2) (show gt ≠ gu by omega)
            have v8 := v8.setRow (l := l2)
            generalize w12.setRow gu (row l2) = W13 at ab x3 y4 t6 v8 ⊢
            have stx := x3.take_sb hmb.out (show n1 ≤ m.length by rw [HML.out]; omega) (by omega) (n1 + 64)
            have sty := y4.take_sb hmb2.out (show n2 ≤ m2.length by rw [HML2.out]; omega) (by omega) (n2 + 64)
            refine (new_any _ _ _ _ _ stx sty).mono ?_
            rw [HE2.out]
            rintro e w14 ⟨rfl, hb14⟩
            have ab := ab.trans (hb14.mono ab.size)
            have t6 := t6.below hb14 t6.lt
            have v8 := v8.below hb14 v8.lt
            clear hb14 stx sty x3 y4
            go_upto_region 20 with (refine wpList_store_row rfl 27 _ _ rfl rfl gt 27 _ _ rfl rfl t6 (by rw [row_size, row_size, HL2.out, HL.out]) (by rw [row_size, HL2.out]; exact infoT) (row_one _) ?_)
            have ab := below_setRow ab (show w.heap.size ≤ gt by omega) (row l2)
            have v8 := v8.setRow_other (row l2) (show gu ≠ gt by omega)
            have t6 := t6.setRow (l := l2)
            generalize w14.setRow gt (row l2) = W15 at ab t6 v8 ⊢
            have hgd := fun w op x y xs ys => run_guardT w op x y xs ys
            have heq : ∀ w, (binOp .eql 27 (.agg (row l2)) (.agg (row l2))).run Try.prog w = .ok (.bool true) w := fun w => by
              rw [run_eql_row w _ _ HL2.out HL2.out, decide_eq_true rfl]
            have hit : (Try.prog.info? 27).map (·.size) = some (row l2).size := by rw [row_size, HL2.out]; exact infoT
            have Hit := Lib.hid hit
            clear hit
            go_wp2_with fail
            refine wp_load_row 27 _ rfl gt rfl 27 _ (0, 0) _ t6 Try.underlying27 rfl Hit.out ?_
            go_wp2_with fail
            refine wp_load_row 27 _ rfl gu rfl 27 _ (0, 0) _ v8 Try.underlying27 rfl Hit.out ?_
            go_wp2_with fail
            go_ret
            exact ⟨rfl, ab⟩
end Go.Proofs.Ytmmnebejmfmeeaa

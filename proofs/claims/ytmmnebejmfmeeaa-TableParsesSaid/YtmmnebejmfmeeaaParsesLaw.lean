/-
  galleylaw15.TableParses: every Parse.
-/
import Derived.Test.YtmmnebejmfmeeaaParse
import Derived.Test.YtmmnebejmfmeeaaNewsLaw
namespace Go.Proofs.Ytmmnebejmfmeeaa
open Go.RowKit

set_option maxHeartbeats 2000000 in
set_option maxRecDepth 100000 in
theorem parses_walk (w : World) (aa ab' : Option Addr) (n1 n2 ca cb : Nat) (a b : List Mk) (sa : SM w (.slice aa n1 ca) a) (sb : SM w (.slice ab' n2 cb) b) (hn1 : a.length = n1) (hn2 : b.length = n2) :
    Calls Try.prog 4 #[.slice aa n1 ca, .slice ab' n2 cb] w fun e w' => e = .returned (.bool true) ∧ Below w.heap.size w w' := by
  have hb1 : n1 ≤ 140737488351232 := by have := sa.len; omega
  have hb2 : n2 ≤ 140737488351232 := by have := sb.len; omega
  by_cases hl1 : 2147483647 < n1
  · clear hn1 hn2 sa sb
    go_enter Try.func4, Try.ntmps4
    go_wp2_with fail
    refine (long_any _ n1 hb1).mono ?_
    rw [decide_eq_true hl1]
    rintro e w1 ⟨rfl, rfl⟩
    go_wp2_with fail
    go_ret
    exact ⟨rfl, Below.refl _ _⟩
  by_cases hl2 : 2147483647 < n2
  · clear hn1 hn2 sa sb
    go_enter Try.func4, Try.ntmps4
    go_wp2_with fail
    refine (long_any _ n1 hb1).mono ?_
    rw [decide_eq_false hl1]
    rintro e w1 ⟨rfl, rfl⟩
    go_wp2_with fail
    refine (long_any _ n2 hb2).mono ?_
    rw [decide_eq_true hl2]
    rintro e w1 ⟨rfl, rfl⟩
    go_wp2_with fail
    go_ret
    exact ⟨rfl, Below.refl _ _⟩
  have hz := zeroT
  have ab := Below.refl w.heap.size w
  have hs1 : n1 ≤ 2147483647 := by omega
  have hs2 : n2 ≤ 2147483647 := by omega
  have HN1 := Lib.hid hn1
  have HN2 := Lib.hid hn2
  obtain ⟨l, f, he, hl⟩ := parseOut_any a b
  have HL := Lib.hid hl
  have HE := Lib.hid he
  have HA := Lib.hid sa.1
  have HB := Lib.hid sb.1
  clear hl he hn1 hn2
  go_enter Try.func4, Try.ntmps4
  go_wp2_with fail
  refine (long_any _ n1 hb1).mono ?_
  rw [decide_eq_false hl1]
  rintro e w1 ⟨rfl, rfl⟩
  go_wp2_with fail
  refine (long_any _ n2 hb2).mono ?_
  rw [decide_eq_false hl2]
  rintro e w1 ⟨rfl, rfl⟩
  clear hl1 hl2 hb1 hb2
  go_wp2_with fail
  refine (lives_any _).mono ?_
  rintro e w2 ⟨rfl, hb2⟩
  have sa := sa.below hb2
  have sb := sb.below hb2
  have ab := ab.trans (hb2.mono ab.size)
  clear hb2
  have hg3 := ab.size
  go_wp2_with fail
  refine (widem_any _ _ a sa (by rw [HN1.out]; exact hs1)).mono ?_
  rw [HN1.out]
  rintro e w3 ⟨rfl, x3, hb3⟩
  have sa := sa.below hb3
  have sb := sb.below hb3
  have ab := ab.trans (hb3.mono ab.size)
  have hg3' := x3.lt
  clear hb3
  generalize w2.heap.size = gx at x3 hg3 hg3' ⊢
  go_wp2_with fail
  refine (widem_any _ _ b sb (by rw [HN2.out]; exact hs2)).mono ?_
  rw [HN2.out]
  rintro e w4 ⟨rfl, y4, hb4⟩
  have sa := sa.below hb4
  have sb := sb.below hb4
  have ab := ab.trans (hb4.mono ab.size)
  have x3 := x3.below hb4 x3.lt
  clear hb4
  generalize w3.heap.size = gy at y4 hg3' ⊢
  have tx := x3.take_sm (widem_isM a HA.out) (show n1 ≤ (widem a).length by rw [widem_len, HN1.out]; omega) (by omega) (n1 + 64)
  have ty := y4.take_sm (widem_isM b HB.out) (show n2 ≤ (widem b).length by rw [widem_len, HN2.out]; omega) (by omega) (n2 + 64)
  rw [show (widem a).take n1 = a by rw [← HN1.out]; exact widem_take a] at tx
  rw [show (widem b).take n2 = b by rw [← HN2.out]; exact widem_take b] at ty
  go_wp2_with fail
  refine (parse_any _ _ _ _ _ tx ty).mono ?_
  rw [HE.out]
  rintro e w5 ⟨rfl, hb5⟩
  have sa := sa.below hb5
  have sb := sb.below hb5
  have ab := ab.trans (hb5.mono ab.size)
  have x3 := x3.below hb5 x3.lt
  have y4 := y4.below hb5 y4.lt
  have hgt : gy < w5.heap.size := y4.lt
  have n5 : Arr (w5.alloc (.cells (row zrow) 27)) w5.heap.size 27 zrow := Arr.new _ _ _
  clear hb5 tx ty
  go_wp2_with (refine wpList_store_row rfl 27 _ _ rfl rfl w5.heap.size 27 _ _ rfl rfl n5 (by rw [row_size, row_size, HL.out]; rfl) (by rw [row_size, HL.out]; exact infoT) (row_one _) ?_)
  obtain ⟨hb6, t6, _⟩ := box_row w5 27 zrow l
  have sa := sa.below hb6
  have sb := sb.below hb6
  have ab := ab.trans (hb6.mono ab.size)
  have x3 := x3.below hb6 x3.lt
  have y4 := y4.below hb6 y4.lt
  clear n5 hb6
  generalize (w5.alloc (.cells (row zrow) 27)).setRow w5.heap.size (row l) = W6 at sa sb ab x3 y4 t6 ⊢
  generalize w5.heap.size = gt at t6 hgt ⊢
  refine (refParse_any _ _ _ _ _ sa sb).mono ?_
  rw [HE.out]
  rintro e w7 ⟨rfl, hb7⟩
  have sa := sa.below hb7
  have sb := sb.below hb7
  have ab := ab.trans (hb7.mono ab.size)
  have x3 := x3.below hb7 x3.lt
  have y4 := y4.below hb7 y4.lt
  have t6 := t6.below hb7 t6.lt
  have hgu : gt < w7.heap.size := t6.lt
  have n7 : Arr (w7.alloc (.cells (row zrow) 27)) w7.heap.size 27 zrow := Arr.new _ _ _
  clear hb7
  go_upto_region 8 with (refine wpList_store_row rfl 27 _ _ rfl rfl w7.heap.size 27 _ _ rfl rfl n7 (by rw [row_size, row_size, HL.out]; rfl) (by rw [row_size, HL.out]; exact infoT) (row_one _) ?_)
  obtain ⟨hb8, v8, _⟩ := box_row w7 27 zrow l
  have sa := sa.below hb8
  have sb := sb.below hb8
  have ab := ab.trans (hb8.mono ab.size)
  have x3 := x3.below hb8 x3.lt
  have y4 := y4.below hb8 y4.lt
  have t6 := t6.below hb8 t6.lt
  clear n7 hb8
  generalize (w7.alloc (.cells (row zrow) 27)).setRow w7.heap.size (row l) = W8 at sa sb ab x3 y4 t6 v8 ⊢
  generalize w7.heap.size = gu at v8 hgu ⊢
  have tx := x3.take_sm (widem_isM a HA.out) (show n1 ≤ (widem a).length by rw [widem_len, HN1.out]; omega) (by omega) (n1 + 64)
  have ty := y4.take_sm (widem_isM b HB.out) (show n2 ≤ (widem b).length by rw [widem_len, HN2.out]; omega) (by omega) (n2 + 64)
  rw [show (widem a).take n1 = a by rw [← HN1.out]; exact widem_take a] at tx
  rw [show (widem b).take n2 = b by rw [← HN2.out]; exact widem_take b] at ty
  have hgd := fun w op x y xs ys => run_guardT w op x y xs ys
  have heq : ∀ w, (binOp .eql 27 (.agg (row l)) (.agg (row l))).run Try.prog w = .ok (.bool true) w := fun w => by
    rw [run_eql_row w _ _ HL.out HL.out, decide_eq_true rfl]
  have hit : (Try.prog.info? 27).map (·.size) = some (row l).size := by rw [row_size, HL.out]; exact infoT
  have Hit := Lib.hid hit
  clear hit hz
  go_wp2_with fail
  refine (eqMarks_any _ _ _ _ _ tx sa).mono ?_
  rw [decide_eq_true rfl]
  rintro e w9 ⟨rfl, q1, rfl⟩
  go_wp2_with fail
  refine (eqMarks_any _ _ _ _ _ (ty.drewN q1) (sb.drewN q1)).mono ?_
  rw [decide_eq_true rfl]
  rintro e w10 ⟨rfl, q2, rfl⟩
  go_wp2_with fail
  refine (sparem_any _ gx n1 _ hs1 (widem a) (by rw [widem_len, HN1.out]) (fun j h1 h2 => by rw [← HN1.out] at h1 h2; exact widem_hi a j h1 h2) (x3.drewN _)).mono ?_
  rintro e w11 ⟨rfl, q3, rfl⟩
  go_wp2_with fail
  refine (sparem_any _ gy n2 _ hs2 (widem b) (by rw [widem_len, HN2.out]) (fun j h1 h2 => by rw [← HN2.out] at h1 h2; exact widem_hi b j h1 h2) (y4.drewN _)).mono ?_
  rintro e w12 ⟨rfl, q4, rfl⟩
  clear x3 y4 sa sb tx ty
  go_wp2_with fail
  refine wp_load_row 27 _ rfl gt rfl 27 _ (0, 0) _ (t6.drewN _) Try.underlying27 rfl Hit.out ?_
  go_wp2_with fail
  refine wp_load_row 27 _ rfl gu rfl 27 _ (0, 0) _ (v8.drewN _) Try.underlying27 rfl Hit.out ?_
  go_wp2_with fail
  go_ret
  exact ⟨rfl, below_drewN ab _⟩
end Go.Proofs.Ytmmnebejmfmeeaa

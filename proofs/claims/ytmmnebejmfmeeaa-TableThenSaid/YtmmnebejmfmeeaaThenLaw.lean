/-
  galleylaw15.TableThen: one table behind another is the two together.
-/
import Derived.Test.YtmmnebejmfmeeaaThen
import Derived.Test.YtmmnebejmfmeeaaLives
import Derived.Test.YtmmnebejmfmeeaaEqRow
namespace Go.Proofs.Ytmmnebejmfmeeaa
open Go.RowKit

set_option maxHeartbeats 1000000 in
set_option maxRecDepth 100000 in
theorem then_walk (w : World) (t u v : List Int) (htl : t.length = 256) (hul : u.length = 256) (hvl : v.length = 256) (hT : IsB t) (hU : IsB u) (hV : IsB v) :
    Calls Try.prog 5 #[.agg (row t), .agg (row u), .agg (row v)] w fun e w' => e = .returned (.bool true) ∧ Below w.heap.size w w' := by
  obtain ⟨i0, hi, hz0, hz1, hz2⟩ := info_parts infoB
  have hz := zeroT
  have HTL := Lib.hid htl
  have HUL := Lib.hid hul
  have HVL := Lib.hid hvl
  have HT := Lib.hid hT
  have HU := Lib.hid hU
  have HV := Lib.hid hV
  clear htl hul hvl hT hU hV
  have a0 : Arr (((w.alloc (.cells (row t) 27)).alloc (.cells (row u) 27)).alloc (.cells (row v) 27)) w.heap.size 27 t := ((Arr.new _ _ _).alloc _).alloc _
  have a1 : Arr (((w.alloc (.cells (row t) 27)).alloc (.cells (row u) 27)).alloc (.cells (row v) 27)) (w.heap.size + 1) 27 u := by
    have := (Arr.new (w.alloc (.cells (row t) 27)) 27 u).alloc (.cells (row v) 27)
    rwa [World.size_alloc] at this
  have a2 : Arr (((w.alloc (.cells (row t) 27)).alloc (.cells (row u) 27)).alloc (.cells (row v) 27)) (w.heap.size + 1 + 1) 27 v := by
    have := Arr.new ((w.alloc (.cells (row t) 27)).alloc (.cells (row u) 27)) 27 v
    rwa [World.size_alloc, World.size_alloc] at this
  have ab : Below w.heap.size w (((w.alloc (.cells (row t) 27)).alloc (.cells (row u) 27)).alloc (.cells (row v) 27)) := (((Below.refl _ w).alloc (Nat.le_refl _) _).alloc (by simp) _).alloc (by simp; omega) _
  go_enter Try.func5, Try.ntmps5
  go_wp2_with fail
  refine (lives_any _).mono ?_
  rintro e w1 ⟨rfl, hb1⟩
  have a0 := a0.below hb1 a0.lt
  have a1 := a1.below hb1 a1.lt
  have a2 := a2.below hb1 a2.lt
  have ab := ab.trans (hb1.mono ab.size)
  clear hb1
  generalize hB1 : w.heap.size + 1 = B1 at a1 a2 ⊢
  generalize hB2 : B1 + 1 = B2 at a2 ⊢
  have HB1 := Lib.hid hB1
  have HB2 := Lib.hid hB2
  clear hB1 hB2
  go_wp2
  go_loopw [8, 9] (fun va i wr => ∃ k : Nat, k ≤ 256 ∧ i = .int .i64 k ∧ OwnB wr (B2 + 1) va (bytesTo k) ∧
    Arr wr w.heap.size 27 t ∧ Arr wr B1 27 u ∧ Arr wr B2 27 v ∧ Below w.heap.size w wr) (fun _ i _ => 256 - (intOf i).toNat)
  case atStart => exact ⟨0, Nat.zero_le _, rfl, OwnB.nil _ _, a0, a1, a2, ab⟩
  case round =>
    obtain ⟨k, hk, rfl, hown, a0, a1, a2, ab⟩ := hrel
    by_cases hlt : k < 256
    · have hlt' : (k : Int) < 256 := by omega
      have hb2 := a2.lt
      have hlen := bytesTo_len k
      have HLEN := Lib.hid hlen
      clear hlen
      go_wp2_with (at_builtin; refine wpList_append_own _ rfl _ _ 22 rfl (B2 + 1) 5 i0 (.int .u8 0) 1 1 Try.underlying22 hi hz0 hz1 hz2 rfl (by decide) _ _ _ rfl (hown.alloc _) ⟨wr.heap.size, 0, none⟩ 1 1 [.int .u8 k] rfl rfl (one_cell _ _) (one_one _) ?c3 ?c4 ?c5 ?_)
      case c3 => rw [HLEN.out]; unfold maxLen; omega
      case c4 => rw [HLEN.out]; omega
      case c5 => rw [World.size_alloc]; omega
      intro v' w2 hown' hgrow _
      have hown2 := own_step hown'
      rw [← bytesTo_succ] at hown2
      have f0 := hown.far (g := w.heap.size) (by have := HB1.out; have := HB2.out; omega)
      have f1 := hown.far (g := B1) (by have := HB2.out; omega)
      have f2 := hown.far (g := B2) (by omega)
      have f3 := hown.from (B := w.heap.size) (by have := HB1.out; have := HB2.out; omega)
      have a0 := (a0.alloc (.cells #[.int .u8 k] 5)).grown hgrow f0
      have a1 := (a1.alloc (.cells #[.int .u8 k] 5)).grown hgrow f1
      have a2 := (a2.alloc (.cells #[.int .u8 k] 5)).grown hgrow f2
      have ab := (ab.alloc ab.size (.cells #[.int .u8 k] 5)).grown hgrow (by rw [World.size_alloc]; have := ab.size; omega) f3
      clear hown' hgrow hown f0 f1 f2 f3
      go_wp2
      go_roundw
      case rel => exact ⟨k + 1, by omega, by go_num, hown2, a0, a1, a2, ab⟩
      case measure => simp [intOf]; omega
    · have hk' : k = 256 := by omega
      subst hk'
      have hall := hown.sb (by rw [bytesTo_all]; exact iden_isB) (by rw [bytesTo_len]; omega)
      rw [bytesTo_all] at hall
      clear hown hlt
      go_wp2_with fail
      refine (then_any _ w.heap.size B1 _ _ t u a0 a1 HTL.out HUL.out HT.out).mono ?_
      rintro e w2 ⟨rfl, hb2⟩
      have a0 := a0.below hb2 a0.lt
      have a1 := a1.below hb2 a1.lt
      have a2 := a2.below hb2 a2.lt
      have hall := hall.below hb2
      have ab := ab.trans (hb2.mono ab.size)
      have Htu := Lib.hid (app_len u t)
      have n2 : Arr (w2.alloc (.cells (row zrow) 27)) w2.heap.size 27 zrow := Arr.new _ _ _
      go_wp2_with (refine wpList_store_row rfl 27 _ _ rfl rfl w2.heap.size 27 _ _ rfl rfl n2 (by rw [row_size, row_size, app_len, HTL.out]; rfl) (by rw [row_size, app_len, HTL.out]; exact infoT) (row_one _) ?_)
      obtain ⟨hb3, a3, hs3⟩ := box_row w2 27 zrow (app u t)
      have a0 := a0.below hb3 a0.lt
      have a1 := a1.below hb3 a1.lt
      have a2 := a2.below hb3 a2.lt
      have hall := hall.below hb3
      have ab := ab.trans (hb3.mono ab.size)
      clear n2 hb2 hb3 hs3
      generalize (w2.alloc (.cells (row zrow) 27)).setRow w2.heap.size (row (app u t)) = W3 at a0 a1 a2 a3 hall ab ⊢
      generalize w2.heap.size = g3 at a3 ⊢
      refine (then_any _ B1 B2 _ _ u v a1 a2 HUL.out HVL.out HU.out).mono ?_
      rintro e w4 ⟨rfl, hb4⟩
      have a0 := a0.below hb4 a0.lt
      have a1 := a1.below hb4 a1.lt
      have a2 := a2.below hb4 a2.lt
      have a3 := a3.below hb4 a3.lt
      have hall := hall.below hb4
      have ab := ab.trans (hb4.mono ab.size)
      have n4 : Arr (w4.alloc (.cells (row zrow) 27)) w4.heap.size 27 zrow := Arr.new _ _ _
      go_wp2_with (refine wpList_store_row rfl 27 _ _ rfl rfl w4.heap.size 27 _ _ rfl rfl n4 (by rw [row_size, row_size, app_len, HUL.out]; rfl) (by rw [row_size, app_len, HUL.out]; exact infoT) (row_one _) ?_)
      obtain ⟨hb5, a4, hs5⟩ := box_row w4 27 zrow (app v u)
      have a0 := a0.below hb5 a0.lt
      have a1 := a1.below hb5 a1.lt
      have a2 := a2.below hb5 a2.lt
      have a3 := a3.below hb5 a3.lt
      have hall := hall.below hb5
      have ab := ab.trans (hb5.mono ab.size)
      clear n4 hb4 hb5 hs5
      generalize (w4.alloc (.cells (row zrow) 27)).setRow w4.heap.size (row (app v u)) = W5 at a0 a1 a2 a3 a4 hall ab ⊢
      generalize w4.heap.size = g4 at a4 ⊢
      have hUT : IsB (app u t) := app_isB u t HU.out
      have HUT := Lib.hid hUT
      have HTUL := Lib.hid (show (app u t).length = 256 by rw [app_len, HTL.out])
      clear hUT
      refine (apply_n _ g3 _ (app u t) iden _ 256 a3 HTUL.out (app_isB _ _ HUT.out) hall iden_len).mono ?_
      rintro e w6 ⟨rfl, s6, hb6⟩
      have a0 := a0.below hb6 a0.lt
      have a1 := a1.below hb6 a1.lt
      have a2 := a2.below hb6 a2.lt
      have a3 := a3.below hb6 a3.lt
      have a4 := a4.below hb6 a4.lt
      have hall := hall.below hb6
      have ab := ab.trans (hb6.mono ab.size)
      clear hb6
      go_wp2_with fail
      refine (apply_n _ w.heap.size _ t iden _ 256 a0 HTL.out (app_isB _ _ HT.out) hall iden_len).mono ?_
      rintro e w7 ⟨rfl, s7, hb7⟩
      have a0 := a0.below hb7 a0.lt
      have a1 := a1.below hb7 a1.lt
      have a2 := a2.below hb7 a2.lt
      have a3 := a3.below hb7 a3.lt
      have a4 := a4.below hb7 a4.lt
      have hall := hall.below hb7
      have ab := ab.trans (hb7.mono ab.size)
      have s6 := s6.below hb7
      clear hb7
      go_wp2_with fail
      refine (apply_n _ B1 _ u (app t iden) _ 256 a1 HUL.out (app_isB _ _ HU.out) s7 (by rw [app_len, iden_len])).mono ?_
      rintro e w8 ⟨rfl, s8, hb8⟩
      have a0 := a0.below hb8 a0.lt
      have a1 := a1.below hb8 a1.lt
      have a2 := a2.below hb8 a2.lt
      have a3 := a3.below hb8 a3.lt
      have a4 := a4.below hb8 a4.lt
      have hall := hall.below hb8
      have ab := ab.trans (hb8.mono ab.size)
      have s6 := s6.below hb8
      clear hb8 s7
      go_wp2_with fail
      refine (eqBytes_any _ _ _ _ _ s6 s8).mono ?_
      rw [app_app u t iden HTL.out iden_isB, decide_eq_true rfl]
      rintro e w9 ⟨rfl, nq, rfl⟩
      have hall := hall.drewN nq
      have ab := below_drewN ab nq
      have a0 := a0.drewN nq
      have a1 := a1.drewN nq
      have a2 := a2.drewN nq
      have a3 := a3.drewN nq
      have a4 := a4.drewN nq
      clear s6 s8
      generalize w8.drewN nq = W9 at hall ab a0 a1 a2 a3 a4 ⊢
      go_wp2_with fail
      refine (apply_n _ g3 _ (app u t) iden _ 256 a3 HTUL.out (app_isB _ _ HUT.out) hall iden_len).mono ?_
      rintro e w10 ⟨rfl, s10, hb10⟩
      have a0 := a0.below hb10 a0.lt
      have a1 := a1.below hb10 a1.lt
      have a2 := a2.below hb10 a2.lt
      have a3 := a3.below hb10 a3.lt
      have a4 := a4.below hb10 a4.lt
      have ab := ab.trans (hb10.mono ab.size)
      rw [app_iden _ HTUL.out] at s10
      generalize W9.heap.size = g10 at s10 ⊢
      have Hc := Lib.hid s10.cells.2
      have Hd := Lib.hid (fun i hi => a3.cell i (by rw [HTUL.out]; exact hi) : ∀ i : Nat, i < 256 → _)
      clear hb10 s10 hall
      go_wp2
      go_loopw [13] (fun i wr => ∃ k q : Nat, k ≤ 256 ∧ i = .int .i64 k ∧ wr = w10.drewN q) (fun i _ => 256 - (intOf i).toNat)
      case atStart => exact ⟨0, 0, Nat.zero_le _, rfl, rfl⟩
      case round =>
        obtain ⟨k, q, hk, rfl, rfl⟩ := hrel
        by_cases hlt : k < 256
        · have hlt' : (k : Int) < 256 := by omega
          have h1 := Hc.out k hlt
          have h2 := Hd.out k hlt
          rw [Nat.zero_add] at h1
          generalize (app u t)[k]?.getD 0 = x at h1 h2
          go_wp2
          go_quiet (fail)
          go_wp2
          go_roundw
          case rel => exact ⟨k + 1, _, by omega, by go_num, rfl⟩
          case measure => simp [intOf]; omega
        · have hk' : k = 256 := by omega
          subst hk'
          have a0 := a0.drewN q
          have a2 := a2.drewN q
          have a3 := a3.drewN q
          have a4 := a4.drewN q
          have ab := below_drewN ab q
          have hgu := fun w op x y xs ys => run_guardT w op x y xs ys
          have heq : ∀ w, (binOp .eql 27 (.agg (row (app v (app u t)))) (.agg (row (app (app v u) t)))).run Try.prog w = .ok (.bool true) w := fun w => by
            rw [run_eql_row w _ _ (by rw [app_len, HTUL.out]) (by rw [app_len, HTL.out]), app_app v u t HUL.out HT.out, decide_eq_true rfl]
          clear hlt
          go_wp2_with fail
          refine (then_any _ g3 B2 _ _ (app u t) v a3 a2 HTUL.out HVL.out HUT.out).mono ?_
          rintro e w11 ⟨rfl, hb11⟩
          have a0 := a0.below hb11 a0.lt
          have a4 := a4.below hb11 a4.lt
          have ab := ab.trans (hb11.mono ab.size)
          go_wp2_with fail
          refine (then_any _ w.heap.size g4 _ _ t (app v u) a0 a4 HTL.out (by rw [app_len, HUL.out]) HT.out).mono ?_
          rintro e w12 ⟨rfl, hb12⟩
          have ab := ab.trans (hb12.mono ab.size)
          go_wp2_with fail
          go_ret
          exact ⟨rfl, ab⟩
end Go.Proofs.Ytmmnebejmfmeeaa

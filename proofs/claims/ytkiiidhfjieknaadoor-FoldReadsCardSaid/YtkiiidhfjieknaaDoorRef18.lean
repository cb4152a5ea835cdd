/-
  galleyref18: Piece, Row, by definition.
-/
import Derived.Test.YtkiiidhfjieknaaDoorRow
namespace Go.Proofs.YtkiiidhfjieknaaDoor
open Go.RowKit

set_option maxHeartbeats 1000000 in
theorem refPiece_any (w : World) (b : Int) (h0 : 0 ≤ b) (h1 : b ≤ 255) : Calls Tryd.prog 20 #[.int .u8 b] w (TwinPost w (pieceL b)) := by
  by_cases hl : isLet b = true
  · rcases let_vals hl with rfl | rfl | rfl | rfl | rfl | rfl | rfl | rfl
    · go_enter Tryd.func20, Tryd.ntmps20
      go_wp2_with fail
      go_ret
      exact twin_ret (l := [92, 92]) (by decide) (own_lit w w [92, 92] 2 rfl (by omega) (Nat.le_refl _)) ((Below.refl _ w).alloc (Nat.le_refl _) _)
    · go_enter Tryd.func20, Tryd.ntmps20
      go_wp2_with fail
      go_ret
      exact twin_ret (l := [92, 97]) (by decide) (own_lit w w [92, 97] 2 rfl (by omega) (Nat.le_refl _)) ((Below.refl _ w).alloc (Nat.le_refl _) _)
    · go_enter Tryd.func20, Tryd.ntmps20
      go_wp2_with fail
      go_ret
      exact twin_ret (l := [92, 98]) (by decide) (own_lit w w [92, 98] 2 rfl (by omega) (Nat.le_refl _)) ((Below.refl _ w).alloc (Nat.le_refl _) _)
    · go_enter Tryd.func20, Tryd.ntmps20
      go_wp2_with fail
      go_ret
      exact twin_ret (l := [92, 116]) (by decide) (own_lit w w [92, 116] 2 rfl (by omega) (Nat.le_refl _)) ((Below.refl _ w).alloc (Nat.le_refl _) _)
    · go_enter Tryd.func20, Tryd.ntmps20
      go_wp2_with fail
      go_ret
      exact twin_ret (l := [92, 110]) (by decide) (own_lit w w [92, 110] 2 rfl (by omega) (Nat.le_refl _)) ((Below.refl _ w).alloc (Nat.le_refl _) _)
    · go_enter Tryd.func20, Tryd.ntmps20
      go_wp2_with fail
      go_ret
      exact twin_ret (l := [92, 118]) (by decide) (own_lit w w [92, 118] 2 rfl (by omega) (Nat.le_refl _)) ((Below.refl _ w).alloc (Nat.le_refl _) _)
    · go_enter Tryd.func20, Tryd.ntmps20
      go_wp2_with fail
      go_ret
      exact twin_ret (l := [92, 102]) (by decide) (own_lit w w [92, 102] 2 rfl (by omega) (Nat.le_refl _)) ((Below.refl _ w).alloc (Nat.le_refl _) _)
    · go_enter Tryd.func20, Tryd.ntmps20
      go_wp2_with fail
      go_ret
      exact twin_ret (l := [92, 114]) (by decide) (own_lit w w [92, 114] 2 rfl (by omega) (Nat.le_refl _)) ((Below.refl _ w).alloc (Nat.le_refl _) _)
  · have hn : b ≠ 92 ∧ ¬ (7 ≤ b ∧ b ≤ 13) := by
      unfold isLet at hl; simp at hl; omega
    have g0 : (b == 92) = false := by simpa using hn.1
    by_cases hi : 32 ≤ b ∧ b ≤ 126
    · have HP := Lib.hid (show pieceL b = [b] by unfold pieceL; rw [if_neg hl, if_pos hi])
      have a1 : 7 ≤ b := by omega
      have a2 : ¬ (b ≤ 13) := by omega
      have a3 : 32 ≤ b := hi.1
      have a4 : b ≤ 126 := hi.2
      clear hl hn hi
      go_enter Tryd.func20, Tryd.ntmps20
      go_wp2_with fail
      go_ret
      exact twin_ret HP.out (own_lit w w [b] 1 rfl (by omega) (Nat.le_refl _)) ((Below.refl _ w).alloc (Nat.le_refl _) _)
    · have HP := Lib.hid (show pieceL b = [92, 48 + b / 64, 48 + b / 8 % 8, 48 + b % 8] by unfold pieceL; rw [if_neg hl, if_neg hi])
      by_cases h7 : b < 7
      · have a1 : ¬ 7 ≤ b := by omega
        have a3 : ¬ 32 ≤ b := by omega
        clear hl hn hi
        go_enter Tryd.func20, Tryd.ntmps20
        go_wp2_with fail
        go_ret
        exact twin_ret HP.out (own_lit w w [92, 48 + b / 64, 48 + b / 8 % 8, 48 + b % 8] 4 rfl (by omega) (Nat.le_refl _)) ((Below.refl _ w).alloc (Nat.le_refl _) _)
      · have a1 : 7 ≤ b := by omega
        have a2 : ¬ (b ≤ 13) := by omega
        by_cases h32 : b < 32
        · have a3 : ¬ 32 ≤ b := by omega
          clear hl hn hi
          go_enter Tryd.func20, Tryd.ntmps20
          go_wp2_with fail
          go_ret
          exact twin_ret HP.out (own_lit w w [92, 48 + b / 64, 48 + b / 8 % 8, 48 + b % 8] 4 rfl (by omega) (Nat.le_refl _)) ((Below.refl _ w).alloc (Nat.le_refl _) _)
        · have a3 : 32 ≤ b := by omega
          have a4 : ¬ b ≤ 126 := by omega
          clear hl hn hi
          go_enter Tryd.func20, Tryd.ntmps20
          go_wp2_with fail
          go_ret
          exact twin_ret HP.out (own_lit w w [92, 48 + b / 64, 48 + b / 8 % 8, 48 + b % 8] 4 rfl (by omega) (Nat.le_refl _)) ((Below.refl _ w).alloc (Nat.le_refl _) _)

set_option maxHeartbeats 2000000 in
theorem refRow_any (w : World) (v : Value) (l : List Int) (hb : SB w v l) (hl31 : l.length ≤ 2147483648) (width : Int) (hw0 : -9223372036854775808 ≤ width) (hw1 : width ≤ 9223372036854775807) :
    Calls Tryd.prog 9 #[v, .int .i64 width] w (TwinPost w (rowL (wideN width) l)) := by
  obtain ⟨hB, a, c, rfl, hl, hc⟩ := hb
  have HB := Lib.hid hB
  have HC := Lib.hid hc
  have h4 := wideN_ge width
  have hwn : max width 4 = (wideN width : Int) := by unfold wideN; split <;> omega
  have hwn2 : wideN width ≤ 9223372036854775807 := by unfold wideN; split <;> omega
  generalize wideN width = W at h4 hwn hwn2 ⊢
  clear hB hc
  go_enter Tryd.func9, Tryd.ntmps9
  go_upto_if 10 with fail
  go_cut [1] (fun v1 wx => v1 = .int .i64 (W : Nat) ∧ wx = w)
  case first =>
    by_cases hw : width < 4
    · have HW := Lib.hid (show (W : Int) = 4 by rw [← hwn]; exact Int.max_eq_right (by omega))
      have hd : decide (width < 4) = true := by simp; omega
      rw [hd]
      clear hwn hw hd
      go_wp2_with fail
      go_meet
      case rel => exact ⟨by rw [HW.out], rfl⟩
    · have HW := Lib.hid (show (W : Int) = width by rw [← hwn]; exact Int.max_eq_left (by omega))
      have hd : decide (width < 4) = false := by simp; omega
      rw [hd]
      clear hwn hw hd
      go_wp2_with fail
      go_meet
      case rel => exact ⟨by rw [HW.out], rfl⟩
  case rest =>
  obtain ⟨rfl, rfl⟩ := hcut
  clear hwn
  obtain ⟨n, hn⟩ : ∃ n, l.length = n := ⟨_, rfl⟩
  have HN := Lib.hid hn
  rw [hn] at hl hl31 ⊢
  clear hn
  go_wp2_with fail
  go_loopw [5, 6, 7] (fun v5 v6 v14 wr => ∃ k : Nat, k ≤ n ∧ v14 = .int .i64 k ∧ v6 = .int .i64 ((rowsR W (l.take k)).2.length : Nat) ∧ OwnB wr wc.heap.size v5 (render (rowsR W (l.take k))) ∧ Below wc.heap.size wc wr) (fun _ _ v14 _ => n - (intOf v14).toNat)
  case atStart => exact ⟨0, by omega, rfl, rfl, OwnB.nil _ _, Below.refl _ _⟩
  case round =>
    obtain ⟨k, hk, rfl, rfl, ho, rb⟩ := hrel
    have hbs := rb.size
    have hrl := render_len W (l.take k)
    have hcl := cur_len W (l.take k)
    rw [List.length_take] at hrl hcl
    by_cases hlt : k < n
    · have hkl : k < l.length := by rw [HN.out]; exact hlt
      obtain ⟨b, o, rfl, hc⟩ := HC.out.resolve_left (by intro e; rw [e] at hkl; exact absurd hkl (Nat.not_lt_zero _))
      have h1 := hc k hkl
      have hlb := World.block_lt_of_cell? wc _ h1
      rw [← rb.cell (p := ⟨b, o + k, none⟩) hlb] at h1
      have hx := HB.out k
      have hy := step_yes W l k hkl
      have hno := step_no W l k hkl
      generalize l[k]?.getD 0 = x at h1 hx hy hno
      have hpl := piece_len x
      have hpp := piece_pos x
      have HPC := Lib.hid (refPiece_any wr x hx.1 hx.2)
      have HPB := Lib.hid (piece_isB x hx.1 hx.2)
      have HY := Lib.hid (hy x rfl)
      have HNO := Lib.hid (hno x rfl)
      generalize render (rowsR W (l.take k)) = s0 at ho hrl HY HNO
      generalize (rowsR W (l.take k)).2.length = c0 at hcl HY HNO ⊢
      clear hc hy hno
      go_wp2_with fail
      refine HPC.out.mono ?_
      rintro e w1 ⟨pv, rfl, hop, hb1⟩
      obtain ⟨ad, cp, rfl, hle, hnc, hsp⟩ := hop.sbn HPB.out (by omega)
      have hap : Apart u5 (.slice ad (pieceL x).length cp) := fun q h2 h3 => by
        have := (World.ownsRow.lt ho q h2).2
        have := (World.ownsRow.lt hop q h3).1
        omega
      have hpb := HPB.out
      have ho := ho.below hb1
      have rb := rb.trans (hb1.mono hbs)
      have hbs := rb.size
      generalize pieceL x = p at hpl hpp HY HNO hle hsp hop hap hpb ⊢
      have HOP := Lib.hid hop
      have HPB := Lib.hid hpb
      have HAP := Lib.hid hap
      clear HPC hb1 h1 hop hap hpb
      by_cases hw : W < c0 + p.length
      · obtain ⟨HY1, HY2⟩ := HY.out hw
        have HY1 := Lib.hid HY1
        have HY2 := Lib.hid HY2
        have hwi : (W : Int) < (c0 : Int) + (p.length : Int) := by omega
        generalize hpn : p.length = pn at hpl hpp HY2 hle hwi hw hsp HAP ⊢
        have HPN := Lib.hid hpn
        clear hpn HY HNO
        go_wp2_with (at_builtin; refine append_bl rfl (.tmp 28) (.tmp 29) rfl wc.heap.size _ _ [92, 10] _ 2 rfl rfl rfl ho rfl (by omega) hbs ?_)
        intro v' w2 ho' hA
        have hb2 := hA.bel _ _ rb (Nat.le_refl _)
        have hbs2 := hb2.size
        have hop := HOP.out
        rw [HPN.out] at hop
        have hop2 : OwnB w2 wr.heap.size (.slice ad pn cp) p := (hA.other _ _ _ _ _ _ hop HAP.out).1
        have hsp2 : SB w2 (.slice ad pn cp) p := hop2.sb HPB.out (by rw [HPN.out]; omega)
        clear hop
        have hl2 : (s0 ++ [92, 10]).length ≤ 6 * k + 2 := by rw [List.length_append]; simp; omega
        have HHY := HY1
        generalize hz : s0 ++ [92, 10] = z at ho' hl2 HHY
        have HZ := Lib.hid hz
        clear ho hA hop2 hz hsp hbs rb
        go_wp2_with (at_builtin; refine append_sbp rfl (.tmp 31) (.tmp 32) rfl wc.heap.size _ _ _ ad pn cp rfl ho' rfl hnc hsp2 (by omega) hbs2 ?_)
        intro v2 w3 ho2 hA2
        have hb3 := hA2.bel _ _ hb2 (Nat.le_refl _)
        rw [← HHY.out] at ho2
        clear ho' hA2 hb2 hsp2
        go_wp2_with fail
        go_roundw
        case rel => exact ⟨k + 1, by omega, by go_num, by rw [HY2.out], ho2, hb3⟩
        case measure => simp [intOf]; omega
      · obtain ⟨HY1, HY2⟩ := HNO.out hw
        have HY1 := Lib.hid HY1
        have HY2 := Lib.hid HY2
        have hwi : ¬ ((W : Int) < (c0 : Int) + (p.length : Int)) := by omega
        generalize hpn : p.length = pn at hpl hpp HY2 hle hwi hw hsp HAP ⊢
        have HPN := Lib.hid hpn
        clear hpn HY HNO
        go_wp2_with (at_builtin; refine append_sbp rfl (.tmp 31) (.tmp 32) rfl wc.heap.size _ _ _ ad pn cp rfl ho rfl hnc hsp (by omega) hbs ?_)
        intro v2 w3 ho2 hA2
        have hb3 := hA2.bel _ _ rb (Nat.le_refl _)
        rw [← HY1.out] at ho2
        clear ho hA2 rb hsp
        go_wp2_with fail
        go_roundw
        case rel => exact ⟨k + 1, by omega, by go_num, by rw [HY2.out]; go_num, ho2, hb3⟩
        case measure => simp [intOf]; omega
    · have e : l.take k = l := List.take_of_length_le (by rw [HN.out]; omega)
      rw [e] at ho
      clear hrl hcl
      have hrl := render_len W l
      rw [HN.out] at hrl
      have HRW : Hid (rowL W l = render (rowsR W l) ++ [36, 10]) := Lib.hid rfl
      generalize render (rowsR W l) = s0 at ho hrl HRW
      generalize (rowsR W (l.take k)).2.length = c0
      clear e
      go_wp2_with (at_builtin; refine append_bl rfl (.tmp 38) (.tmp 39) rfl wc.heap.size _ _ [36, 10] _ 2 rfl rfl rfl ho rfl (by omega) hbs ?_)
      intro v2 w3 ho2 hA2
      have hb3 := hA2.bel _ _ rb (Nat.le_refl _)
      rw [← HRW.out] at ho2
      clear ho hA2 rb
      go_wp2_with fail
      go_ret
      exact ⟨_, rfl, ho2, hb3⟩
end Go.Proofs.YtkiiidhfjieknaaDoor

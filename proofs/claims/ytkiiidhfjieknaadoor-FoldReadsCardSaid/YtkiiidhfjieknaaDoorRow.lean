/-
  fold.Row: bytes in rows that are no wider than a width.
-/
import Derived.Test.YtkiiidhfjieknaaDoorKind
import Derived.Test.YtkiiidhfjieknaaDoorBytes2
import Derived.Deep.DeepCutAuto
namespace Go.Proofs.YtkiiidhfjieknaaDoor
open Go.RowKit

/-- The width that counts. -/
def wideN (width : Int) : Nat := if width ≤ 4 then 4 else width.toNat
theorem wideN_ge (width : Int) : 4 ≤ wideN width := by unfold wideN; split <;> omega
theorem cur_len (W : Nat) (l : List Int) : (rowsR W l).2.length ≤ 6 * l.length := by
  have h := render_len W l
  unfold render at h
  rw [List.length_append] at h
  omega
theorem inB_of {l : List Int} (h : IsB l) : InB l := fun c hc => by
  obtain ⟨i, hi, rfl⟩ := List.mem_iff_getElem.1 hc
  have := h i
  rw [List.getElem?_eq_getElem hi] at this
  exact this
theorem inB_isB {l : List Int} (h : InB l) : IsB l := fun i => by
  by_cases hi : i < l.length
  · rw [List.getElem?_eq_getElem hi]; exact h _ (List.getElem_mem hi)
  · rw [List.getElem?_eq_none (by omega)]; simp
theorem piece_isB (b : Int) (h0 : 0 ≤ b) (h1 : b ≤ 255) : IsB (pieceL b) := inB_isB fun c hc => by have := piece_fair b h0 h1 c hc; omega
theorem step_yes (W : Nat) (l : List Int) (k : Nat) (h : k < l.length) (x : Int) (hx : l[k]?.getD 0 = x) (hc : W < (rowsR W (l.take k)).2.length + (pieceL x).length) :
    render (rowsR W (l.take (k + 1))) = render (rowsR W (l.take k)) ++ [92, 10] ++ pieceL x ∧ (rowsR W (l.take (k + 1))).2.length = (pieceL x).length := by
  rw [take_snoc l k h, rowsR_snoc, hx]
  unfold stepR
  rw [if_pos hc]
  exact ⟨render_new _ _, rfl⟩
theorem step_no (W : Nat) (l : List Int) (k : Nat) (h : k < l.length) (x : Int) (hx : l[k]?.getD 0 = x) (hc : ¬ W < (rowsR W (l.take k)).2.length + (pieceL x).length) :
    render (rowsR W (l.take (k + 1))) = render (rowsR W (l.take k)) ++ pieceL x ∧ (rowsR W (l.take (k + 1))).2.length = (rowsR W (l.take k)).2.length + (pieceL x).length := by
  rw [take_snoc l k h, rowsR_snoc, hx]
  unfold stepR
  rw [if_neg hc]
  exact ⟨render_more _ _, by show ((rowsR W (l.take k)).2 ++ pieceL x).length = _; rw [List.length_append]⟩

set_option maxHeartbeats 2000000 in
theorem row_any (w : World) (v : Value) (l : List Int) (hb : SB w v l) (hl31 : l.length ≤ 2147483648) (width : Int) (hw0 : -9223372036854775808 ≤ width) (hw1 : width ≤ 9223372036854775807) (hL : LetW w) :
    Calls Tryd.prog 10 #[v, .int .i64 width] w (TwinPost w (rowL (wideN width) l)) := by
  obtain ⟨hB, a, c, rfl, hl, hc⟩ := hb
  have HB := Lib.hid hB
  have HC := Lib.hid hc
  have HL := Lib.hid hL
  have h4 := wideN_ge width
  have hwn : max width 4 = (wideN width : Int) := by unfold wideN; split <;> omega
  have hwn2 : wideN width ≤ 9223372036854775807 := by unfold wideN; split <;> omega
  generalize wideN width = W at h4 hwn hwn2 ⊢
  clear hB hc hL
  go_enter Tryd.func10, Tryd.ntmps10
  go_upto_region 1 with fail
  go_cut [1] (fun v1 wx => v1 = .int .i64 (W : Nat) ∧ wx = w)
  case first =>
    by_cases hw : width ≤ 4
    · have HW := Lib.hid (show (W : Int) = 4 by rw [← hwn]; omega)
      have HW2 := Lib.hid hw
      clear hwn
      go_wp2_with fail
      all_goals
        go_meet
        case rel => exact ⟨by rw [HW.out] <;> (congr 1; omega), rfl⟩
    · have HW := Lib.hid (show (W : Int) = width by rw [← hwn]; omega)
      have hw2 : 4 < width := by omega
      clear hwn hw
      go_wp2_with fail
      all_goals
        go_meet
        case rel => exact ⟨by rw [HW.out], rfl⟩
  case rest =>
  obtain ⟨rfl, rfl⟩ := hcut
  clear hwn
  obtain ⟨n, hn⟩ : ∃ n, l.length = n := ⟨_, rfl⟩
  have HN := Lib.hid hn
  rw [hn] at hl hl31 ⊢
  clear hn
  go_wp2_with fail
  go_loopw [5, 6, 14] (fun v5 v6 v14 wr => ∃ k : Nat, k ≤ n ∧ v14 = .int .i64 k ∧ v6 = .int .i64 ((rowsR W (l.take k)).2.length : Nat) ∧ OwnB wr wc.heap.size v5 (render (rowsR W (l.take k))) ∧ Below wc.heap.size wc wr) (fun _ _ v14 _ => n - (intOf v14).toNat)
  case atStart => exact ⟨0, by omega, rfl, rfl, OwnB.nil _ _, Below.refl _ _⟩
  case round =>
    obtain ⟨k, hk, rfl, rfl, ho, rb⟩ := hrel
    have hbs := rb.size
    have hrl := render_len W (l.take k)
    have hcl := cur_len W (l.take k)
    rw [List.length_take] at hrl hcl
    by_cases hlt : k < n
    · have hkl : k < l.length := by rw [HN.out]; exact hlt
      obtain ⟨b, o, rfl, hc⟩ := HC.out.resolve_left (by intro e; rw [e] at hkl; exact absurd hkl (Nat.not_lt_zero _))
      have h1 := hc k hkl
      have hlb := World.block_lt_of_cell? wc _ h1
      rw [← rb.cell (p := ⟨b, o + k, none⟩) hlb] at h1
      have hx := HB.out k
      have hy := step_yes W l k hkl
      have hno := step_no W l k hkl
      generalize l[k]?.getD 0 = x at h1 hx hy hno
      have hpl := piece_len x
      have hpp := piece_pos x
      have HPC := Lib.hid (piece_any wr x hx.1 hx.2 (HL.out.below rb (Nat.le_refl _)))
      have HPB := Lib.hid (piece_isB x hx.1 hx.2)
      have HY := Lib.hid (hy x rfl)
      have HNO := Lib.hid (hno x rfl)
      generalize render (rowsR W (l.take k)) = s0 at ho hrl HY HNO
      generalize (rowsR W (l.take k)).2.length = c0 at hcl HY HNO ⊢
      clear hc hy hno
      go_wp2_with fail
      refine HPC.out.mono ?_
      rintro e w1 ⟨pv, rfl, hop, hb1⟩
      obtain ⟨ad, cp, rfl, hle, hnc, hsp⟩ := hop.sbn HPB.out (by omega)
      have hap : Apart u5 (.slice ad (pieceL x).length cp) := fun q h2 h3 => by
        have := (World.ownsRow.lt ho q h2).2
        have := (World.ownsRow.lt hop q h3).1
        omega
      have hpb := HPB.out
      have ho := ho.below hb1
      have rb := rb.trans (hb1.mono hbs)
      have hbs := rb.size
      generalize pieceL x = p at hpl hpp HY HNO hle hsp hop hap hpb ⊢
      have HOP := Lib.hid hop
      have HPB := Lib.hid hpb
      have HAP := Lib.hid hap
      clear HPC hb1 h1 hop hap hpb
      by_cases hw : W < c0 + p.length
      · obtain ⟨HY1, HY2⟩ := HY.out hw
        have HY1 := Lib.hid HY1
        have HY2 := Lib.hid HY2
        have hwi : (W : Int) < (c0 : Int) + (p.length : Int) := by omega
        generalize hpn : p.length = pn at hpl hpp HY2 hle hwi hw hsp HAP ⊢
        have HPN := Lib.hid hpn
        clear hpn HY HNO
        go_wp2_with (at_builtin; refine append_bl rfl (.tmp 26) (.tmp 27) rfl wc.heap.size _ _ [92, 10] _ 2 rfl rfl rfl ho rfl (by omega) hbs ?_)
        intro v' w2 ho' hA
        have hb2 := hA.bel _ _ rb (Nat.le_refl _)
        have hbs2 := hb2.size
        have hop := HOP.out
        rw [HPN.out] at hop
        have hop2 : OwnB w2 wr.heap.size (.slice ad pn cp) p := (hA.other _ _ _ _ _ _ hop HAP.out).1
        have hsp2 : SB w2 (.slice ad pn cp) p := hop2.sb HPB.out (by rw [HPN.out]; omega)
        clear hop
        have hl2 : (s0 ++ [92, 10]).length ≤ 6 * k + 2 := by rw [List.length_append]; simp; omega
        have HHY := HY1
        generalize hz : s0 ++ [92, 10] = z at ho' hl2 HHY
        have HZ := Lib.hid hz
        clear ho hA hop2 hz hsp hbs rb
        go_wp2_with (at_builtin; refine append_sbp rfl (.tmp 29) (.tmp 30) rfl wc.heap.size _ _ _ ad pn cp rfl ho' rfl hnc hsp2 (by omega) hbs2 ?_)
        intro v2 w3 ho2 hA2
        have hb3 := hA2.bel _ _ hb2 (Nat.le_refl _)
        rw [← HHY.out] at ho2
        clear ho' hA2 hb2 hsp2
        go_wp2_with fail
        go_roundw
        case rel => exact ⟨k + 1, by omega, by go_num, by rw [HY2.out], ho2, hb3⟩
        case measure => simp [intOf]; omega
      · obtain ⟨HY1, HY2⟩ := HNO.out hw
        have HY1 := Lib.hid HY1
        have HY2 := Lib.hid HY2
        have hwi : ¬ ((W : Int) < (c0 : Int) + (p.length : Int)) := by omega
        generalize hpn : p.length = pn at hpl hpp HY2 hle hwi hw hsp HAP ⊢
        have HPN := Lib.hid hpn
        clear hpn HY HNO
        go_wp2_with (at_builtin; refine append_sbp rfl (.tmp 29) (.tmp 30) rfl wc.heap.size _ _ _ ad pn cp rfl ho rfl hnc hsp (by omega) hbs ?_)
        intro v2 w3 ho2 hA2
        have hb3 := hA2.bel _ _ rb (Nat.le_refl _)
        rw [← HY1.out] at ho2
        clear ho hA2 rb hsp
        go_wp2_with fail
        go_roundw
        case rel => exact ⟨k + 1, by omega, by go_num, by rw [HY2.out]; go_num, ho2, hb3⟩
        case measure => simp [intOf]; omega
    · have e : l.take k = l := List.take_of_length_le (by rw [HN.out]; omega)
      rw [e] at ho
      clear hrl hcl
      have hrl := render_len W l
      rw [HN.out] at hrl
      have HRW : Hid (rowL W l = render (rowsR W l) ++ [36, 10]) := Lib.hid rfl
      generalize render (rowsR W l) = s0 at ho hrl HRW
      generalize (rowsR W (l.take k)).2.length = c0
      clear e
      go_wp2_with (at_builtin; refine append_bl rfl (.tmp 37) (.tmp 38) rfl wc.heap.size _ _ [36, 10] _ 2 rfl rfl rfl ho rfl (by omega) hbs ?_)
      intro v2 w3 ho2 hA2
      have hb3 := hA2.bel _ _ rb (Nat.le_refl _)
      rw [← HRW.out] at ho2
      clear ho hA2 rb
      go_wp2_with fail
      go_ret
      exact ⟨_, rfl, ho2, hb3⟩
end Go.Proofs.YtkiiidhfjieknaaDoor

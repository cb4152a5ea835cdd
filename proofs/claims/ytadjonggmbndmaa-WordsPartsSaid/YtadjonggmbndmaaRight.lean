/-
  galleylaw19.right: can marks be written with that delimiter?
-/
import Derived.Test.YtadjonggmbndmaaWr
namespace Go.Proofs.Ytadjonggmbndmaa
open Go.RowKit

def RightInv (w : World) (l : List Mk) (d : Int) (e : Bool) (i : Value) (wr : World) : Prop := ∃ k : Nat, k ≤ l.length ∧ i = .int .i64 k ∧ rightL d e l = rightL d e (l.drop k) ∧ Below w.heap.size w wr
def RightPost (w : World) (b : Bool) (r : Ending) (w' : World) : Prop := r = .returned (.bool b) ∧ Below w.heap.size w w'

set_option maxHeartbeats 2000000 in
set_option maxRecDepth 100000 in
theorem right_any (w : World) (v : Value) (l : List Mk) (d : Int) (e : Bool) (hb : SM w v l) : Calls Try.prog 29 #[v, .int .u8 d, .bool e] w (RightPost w (rightL d e l && okD d)) := by
  obtain ⟨hM, a, c, rfl, hl, hc⟩ := hb
  have HC := Lib.hid hc
  clear hM hc
  go_enter Try.func29, Try.ntmps29
  go_wp2_with fail
  go_loopw [7] (fun i wr => RightInv w l d e i wr) (fun i _ => l.length - (intOf i).toNat)
  case atStart => exact ⟨0, Nat.zero_le _, rfl, rfl, Below.refl _ _⟩
  case round =>
    obtain ⟨k, hk, rfl, hp, rb⟩ := hrel
    have HP := Lib.hid hp
    have hbs := rb.size
    clear hp
    by_cases hlt : k < l.length
    · obtain ⟨b, o, rfl, hc⟩ := HC.out.resolve_left (by intro e; rw [e] at hlt; exact absurd hlt (Nat.not_lt_zero _))
      have hdr := dropm_at l k hlt
      have hcell : ∀ j : Nat, j < l.length → wr.cell? ⟨b, o + j * 2, none⟩ = some (.int .u8 (l[j]?.getD (0, false)).1) ∧ wr.cell? ⟨b, o + j * 2 + 1, none⟩ = some (.bool (l[j]?.getD (0, false)).2) := fun j hj => by
        obtain ⟨h1, h2⟩ := hc j hj
        have hlb := World.block_lt_of_cell? w _ h1
        rw [rb.cell (p := ⟨b, o + j * 2, none⟩) hlb, rb.cell (p := ⟨b, o + j * 2 + 1, none⟩) hlb]
        exact ⟨h1, h2⟩
      have HCC := Lib.hid hcell
      obtain ⟨h1, h2⟩ := hcell k hlt
      clear hc hcell
      generalize l[k]?.getD (0, false) = m at h1 h2 hdr
      obtain ⟨x, p⟩ := m
      dsimp only at h1 h2
      have rb2 : Below w.heap.size w (wr.alloc (.cells #[.int .u8 x, .bool p] 30)) := rb.alloc hbs _
      have RB2 := Lib.hid rb2
      clear rb2
      cases p
      · have hbad : (x = d ∨ x = 10) → Hid (rightL d e l = false) := fun h => by
          have := HP.out
          rw [hdr, rightL_bad d e x _ h] at this
          exact this
        by_cases hxd : x = d
        · have HF := hbad (.inl hxd)
          subst hxd
          clear hbad hdr
          go_wp2_with fail
          go_ret
          exact ⟨by rw [HF.out]; rfl, RB2.out⟩
        · have hq1 : (x == d) = false := beq_eq_false_iff_ne.2 hxd
          by_cases hx10 : x = 10
          · have HF := hbad (.inr hx10)
            subst hx10
            clear hbad hdr hxd
            go_wp2_with fail
            go_ret
            exact ⟨by rw [HF.out]; rfl, RB2.out⟩
          · have hq2 : (x == 10) = false := beq_eq_false_iff_ne.2 hx10
            by_cases hx92 : x = 92
            · subst hx92
              have hd92 : ¬ (92 : Int) = d := hxd
              by_cases hk1 : k + 1 < l.length
              · have hdr2 := dropm_at l (k + 1) hk1
                obtain ⟨g1, g2⟩ := HCC.out (k + 1) hk1
                have hblt := World.block_lt_of_cell? wr _ g1
                have g1' := ((Below.refl wr.heap.size wr).alloc (Nat.le_refl _) (.cells #[.int .u8 92, .bool false] 30)).cell (p := ⟨b, o + (k + 1) * 2, none⟩) hblt
                have g2' := ((Below.refl wr.heap.size wr).alloc (Nat.le_refl _) (.cells #[.int .u8 92, .bool false] 30)).cell (p := ⟨b, o + (k + 1) * 2 + 1, none⟩) hblt
                rw [g1] at g1'
                rw [g2] at g2'
                generalize l[k + 1]?.getD (0, false) = m2 at g1' g2' hdr2
                obtain ⟨y, q⟩ := m2
                dsimp only at g1' g2'
                have hsl := rightL_sl d e y q (l.drop (k + 1 + 1)) hd92
                have HSL : Hid (rightL d e l = if q = true ∨ y = d ∨ (y = 10 ∧ e = false) then false else rightL d e (l.drop (k + 2))) := by
                  have := HP.out
                  rw [hdr, hdr2, hsl] at this
                  exact this
                have hq6 : (((k : Int) + 1) == (l.length : Int)) = false := by rw [beq_eq_false_iff_ne]; omega
                clear hdr hdr2 hsl hbad g1 g2 hxd hx10 hd92
                cases q
                · by_cases hyd : y = d
                  · have HF : Hid (rightL d e l = false) := by
                      have := HSL.out
                      rw [if_pos (.inr (.inl hyd))] at this
                      exact this
                    subst hyd
                    clear HSL
                    go_wp2_with fail
                    go_ret
                    exact ⟨by rw [HF.out]; rfl, RB2.out⟩
                  · have hq3 : (y == d) = false := beq_eq_false_iff_ne.2 hyd
                    by_cases hy10 : y = 10 ∧ e = false
                    · have HF : Hid (rightL d e l = false) := by
                        have := HSL.out
                        rw [if_pos (.inr (.inr hy10))] at this
                        exact this
                      obtain ⟨rfl, rfl⟩ := hy10
                      clear HSL hyd
                      go_wp2_with fail
                      go_ret
                      exact ⟨by rw [HF.out]; rfl, RB2.out⟩
                    · have HF : Hid (rightL d e l = rightL d e (l.drop (k + 2))) := by
                        have := HSL.out
                        rw [if_neg (by simp only [not_or]; exact ⟨by simp, hyd, hy10⟩)] at this
                        exact this
                      clear HSL hyd
                      by_cases hy1 : y = 10
                      · have he : e = true := by
                          cases e
                          · exact absurd ⟨hy1, rfl⟩ hy10
                          · rfl
                        subst hy1 he
                        clear hy10
                        go_wp2_with fail
                        go_roundw
                        case rel => exact ⟨k + 2, by omega, by go_num, HF.out, RB2.out⟩
                        case measure => simp [intOf]; omega
                      · have hq4 : (y == 10) = false := beq_eq_false_iff_ne.2 hy1
                        clear hy1 hy10
                        go_wp2_with fail
                        go_roundw
                        case rel => exact ⟨k + 2, by omega, by go_num, HF.out, RB2.out⟩
                        case measure => simp [intOf]; omega
                · have HF : Hid (rightL d e l = false) := by
                    have := HSL.out
                    rw [if_pos (.inl rfl)] at this
                    exact this
                  clear HSL
                  go_wp2_with fail
                  go_ret
                  exact ⟨by rw [HF.out]; rfl, RB2.out⟩
              · have HF : Hid (rightL d e l = false) := by
                  have := HP.out
                  rw [hdr, List.drop_of_length_le (l := l) (i := k + 1) (by omega), rightL_sl0 d e] at this
                  exact this
                have hq6 : (((k : Int) + 1) == (l.length : Int)) = true := by rw [beq_iff_eq]; omega
                clear hbad hdr hxd hx10
                go_wp2_with fail
                go_ret
                exact ⟨by rw [HF.out]; rfl, RB2.out⟩
            · have hq5 : (x != 92) = true := by rw [bne_iff_ne]; exact hx92
              have HF : Hid (rightL d e l = rightL d e (l.drop (k + 1))) := by
                have := HP.out
                rw [hdr, rightL_else d e x _ hxd hx10 hx92] at this
                exact this
              clear hbad hdr hxd hx10 hx92
              go_wp2_with fail
              go_roundw
              case rel => exact ⟨k + 1, by omega, by go_num, HF.out, RB2.out⟩
              case measure => simp [intOf]; omega
      · by_cases hxd : x = d
        · have HF : Hid (rightL d e l = rightL d e (l.drop (k + 1))) := by
            have := HP.out
            rw [hdr, rightL_true, decide_eq_true hxd, Bool.true_and] at this
            exact this
          have hq1 : (x != d) = false := by rw [bne_eq_false_iff_eq]; exact hxd
          clear hdr hxd
          go_wp2_with fail
          go_roundw
          case rel => exact ⟨k + 1, by omega, by go_num, HF.out, RB2.out⟩
          case measure => simp [intOf]; omega
        · have HF : Hid (rightL d e l = false) := by
            have := HP.out
            rw [hdr, rightL_true, decide_eq_false hxd, Bool.false_and] at this
            exact this
          have hq1 : (x != d) = true := by rw [bne_iff_ne]; exact hxd
          clear hdr hxd
          go_wp2_with fail
          go_ret
          exact ⟨by rw [HF.out]; rfl, RB2.out⟩
    · have HF : Hid (rightL d e l = true) := by
        have := HP.out
        rw [List.drop_of_length_le (by omega)] at this
        exact this
      by_cases h92 : d = 92
      · subst h92
        go_wp2_with fail
        go_ret
        exact ⟨by rw [HF.out]; rfl, rb⟩
      · have hq1 : (d != 92) = true := by rw [bne_iff_ne]; exact h92
        by_cases h10 : d = 10
        · subst h10
          clear h92
          go_wp2_with fail
          go_ret
          exact ⟨by rw [HF.out]; rfl, rb⟩
        · have hq2 : (d != 10) = true := by rw [bne_iff_ne]; exact h10
          have HO : Hid (okD d = true) := by
            show okD d = true
            simp [okD, h92, h10]
          clear h92 h10
          go_wp2_with fail
          go_ret
          exact ⟨by rw [HF.out, HO.out]; rfl, rb⟩
end Go.Proofs.Ytadjonggmbndmaa

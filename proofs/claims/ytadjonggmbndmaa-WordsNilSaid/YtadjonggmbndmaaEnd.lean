/-
  words.Words.End at a semicolon behind blanks.
-/
import Derived.Test.YtadjonggmbndmaaNumber
namespace Go.Proofs.Ytadjonggmbndmaa
open Go.RowKit

set_option maxHeartbeats 1000000 in
theorem end_semi (w : World) (g : Nat) (l : List Int) (a b : Nat) (h : Wd w g l a) (hb : a + (runL blB l a).length = b) (hlt : b < l.length) (hx : l[b]?.getD 0 = 59) :
    Calls Try.prog 56 #[.pointer (some ⟨g, 0, none⟩)] w fun e w' => e = .returned (.int .i64 0) ∧ Wd w' g l (b + 1) ∧ w.grownBy w' (some g) := by
  obtain ⟨ha, hl, -, -, -⟩ := h.cells
  have hbe := behind_any blS bl_ascii w g l a h a ha
  rw [hasS_bl_fun, hb] at hbe
  have HBE := Lib.hid hbe
  have HX := Lib.hid hx
  clear hbe hb hx
  go_enter Try.func56, Try.ntmps56
  go_wp2_with fail
  refine (isWords_yes w g l a h).mono ?_
  rintro e w' ⟨rfl, rfl⟩
  obtain ⟨-, -, -, h2, -⟩ := h.cells
  go_wp2_with fail
  refine HBE.out.mono ?_
  rintro e w1 ⟨rfl, hb1⟩
  have h1 := h.below hb1
  have hG := grown_below hb1 (some g)
  clear HBE h h2 hb1
  obtain ⟨-, -, -, h2, hf, -⟩ := h1.cells
  have hS := h1.set b (by omega)
  have h1 := hS.1
  have hG := grown_trans hG hS.2
  clear hS
  go_wp2_with fail
  clear h2 hf
  have hp := peek_yes _ g l b h1 hlt
  rw [HX.out] at hp
  refine hp.mono ?_
  rintro e w2 ⟨rfl, n, rfl⟩
  clear hp
  have h1 := h1.drewN n
  have hG := grown_trans hG (grown_below (below_drewN (Below.refl _ _) n) (some g))
  obtain ⟨-, -, -, h2, hf, -⟩ := h1.cells
  have hS := h1.set (b + 1) hlt
  have h3 := hS.1
  have hG := grown_trans hG hS.2
  generalize (w1.setCell ⟨g, 2, none⟩ (.int .i64 b)).drewN n = w2 at h2 hf h3 hG ⊢
  clear hS h1
  go_wp2_with fail
  go_ret
  exact ⟨rfl, h3, hG⟩
end Go.Proofs.Ytadjonggmbndmaa

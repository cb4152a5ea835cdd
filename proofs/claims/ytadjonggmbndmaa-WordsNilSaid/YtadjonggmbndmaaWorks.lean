/-
  galleylaw19.works: an address, a part and an end are cut off.
-/
import Derived.Test.YtadjonggmbndmaaPart
import Derived.Test.YtadjonggmbndmaaEnd
namespace Go.Proofs.Ytadjonggmbndmaa
open Go.RowKit

/-- A change of one block of the call's own. -/
theorem Below.at {B : Nat} {a w w' : World} {g : Nat} (h : Below B a w) (hg : w.grownBy w' (some g)) (hB : B ≤ w.heap.size) (hr : B ≤ g) : Below B a w' :=
  h.grown hg hB fun k hk => by simp only [Option.some.injEq] at hk; omega

def wtext : List Int := [49, 50, 115, 47, 97, 92, 47, 98, 47, 32, 59]

set_option maxHeartbeats 2000000 in
set_option maxRecDepth 100000 in
theorem works_any (w : World) : Calls Try.prog 23 #[] w fun e w' => e = .returned (.bool true) ∧ Below w.heap.size w w' := by
  have hcv := fun (w : World) (C : Array Value) (n c g : Nat) (hg : g = w.heap.size) => Joins.run_convert_bytes_const_at (P := Try.prog) w 35 5 C n c g hg Try.underlying35 Try.underlying5
  go_enter Try.func23, Try.ntmps23
  go_wp2_with fail
  have b0 := (Below.refl w.heap.size w).alloc (Nat.le_refl _) (.cells (row wtext) 5 (11, 12))
  have s0 := SB.lit w 5 wtext (row wtext) (11, 12) 11 rfl rfl (by decide)
  refine (newWords_any _ _ wtext s0).mono ?_
  rintro e w1 ⟨g, rfl, hg, hW, hb⟩
  have b1 := b0.trans (hb.mono (by simp))
  have hgB : w.heap.size ≤ g := by rw [World.size_alloc] at hg; omega
  clear b0 s0 hb hg hcv
  go_wp2_with fail
  refine (number_any w1 g wtext 0 99 (by omega) (by omega) hW).mono ?_
  intro e w2 hN
  have hN : e = .returned (.tuple #[.int .i64 12, .int .i64 0]) ∧ Wd w2 g wtext 2 ∧ w1.grownBy w2 (some g) := hN
  obtain ⟨rfl, hW, hG⟩ := hN
  have b2 := Below.at b1 hG b1.size hgB
  clear b1 hG
  go_wp2_with fail
  refine (take_yes w2 g wtext 2 hW (by decide)).mono ?_
  rintro e w3 ⟨rfl, hW, hG⟩
  have b3 := Below.at b2 hG b2.size hgB
  clear b2 hG
  go_wp2_with fail
  refine (take_yes w3 g wtext 3 hW (by decide)).mono ?_
  rintro e w4 ⟨rfl, hW, hG⟩
  have b4 := Below.at b3 hG b3.size hgB
  clear b3 hG
  go_wp2_with fail
  refine (part_good w4 g wtext 4 47 false (by omega) (by omega) hW (by decide)).mono ?_
  intro e w5 hP
  have hP : ∃ v, e = .returned (.tuple #[v, .int .i64 0]) ∧ OwnM w5 w4.heap.size v [(97, false), (47, true), (98, false)] ∧ IsM [(97, false), (47, true), (98, false)] ∧ 3 ≤ 11 ∧ Wd w5 g wtext 9 ∧ w4.grownBy w5 (some g) := hP
  obtain ⟨v, rfl, ho, hM, -, hW, hG⟩ := hP
  have b5 := Below.at b4 hG b4.size hgB
  have hs := ho.sm hM (by decide)
  obtain ⟨-, ad, cap, rfl, -⟩ := id hs
  obtain ⟨b, o, rfl, hc⟩ := hs.read 1 (by decide)
  obtain ⟨-, h1⟩ := hc 1 (by decide)
  obtain ⟨-, h2⟩ := hc 2 (by decide)
  clear b4 hG hc hs ho hM
  clear hP
  go_wp2_with fail
  refine (at_any w5 g wtext 9 hW).mono ?_
  rintro e w6 ⟨rfl, rfl⟩
  go_wp2_with fail
  refine (end_semi w5 g wtext 9 10 hW rfl (by decide) rfl).mono ?_
  rintro e w6 ⟨rfl, hW, hG⟩
  have b6 := Below.at b5 hG b5.size hgB
  clear b5 hG h1 h2
  go_wp2_with fail
  refine (at_any w6 g wtext 11 hW).mono ?_
  rintro e w7 ⟨rfl, rfl⟩
  go_wp2_with fail
  go_ret
  exact ⟨rfl, b6⟩
end Go.Proofs.Ytadjonggmbndmaa

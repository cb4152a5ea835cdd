/-
  galleylaw25.SpaceSwaps at every input.
-/
import Derived.Test.YtadjonggmbndmaaSwapsLaw
namespace Go.Proofs.Ytadjonggmbndmaa
open Go.RowKit

set_option maxHeartbeats 2000000 in
set_option maxRecDepth 100000 in
theorem swaps_walk (w : World) (most : Int) (a1 : Option Addr) (n1 c1 : Nat) (p : List Int) (sp : SB w (.slice a1 n1 c1) p) (hN1 : a1 = none → c1 = 0) (a2 : Option Addr) (n2 c2 : Nat) (h : List Int) (sh : SB w (.slice a2 n2 c2) h) (hN2 : a2 = none → c2 = 0) :
    Calls Try.prog 11 #[.int .i64 most, .slice a1 n1 c1, .slice a2 n2 c2] w fun e w' => e = .returned (.bool true) ∧ Below w.heap.size w w' := by
  have hn1 := sp.len2
  have hn2 := sh.len2
  have hpl := Lib.hid sp.len.1
  have hhl := Lib.hid sh.len.1
  rw [hpl.out] at hn1
  rw [hhl.out] at hn2
  by_cases hsum : (16777216 : Int) < (n1 : Int) + (n2 : Int)
  · clear sp sh hN1 hN2 hpl hhl
    go_enter Try.func11, Try.ntmps11
    go_wp2_with fail
    refine (spWorks_any w).mono ?_
    rintro e w0 ⟨rfl, hb0⟩
    go_wp2_with fail
    go_ret
    exact ⟨rfl, hb0⟩
  · have hs2 : (n1 : Int) + (n2 : Int) ≤ 16777216 := by omega
    by_cases hm : most < 0 ∨ 1048576 < most
    · clear sp sh hN1 hN2 hpl hhl
      go_enter Try.func11, Try.ntmps11
      go_wp2_with fail
      refine (spWorks_any w).mono ?_
      rintro e w0 ⟨rfl, hb0⟩
      go_wp2_with fail
      refine (new_no w0 most hm).mono ?_
      rintro e wN ⟨rfl, rfl⟩
      go_wp2_with fail
      go_ret
      exact ⟨rfl, hb0⟩
    · have h0 : 0 ≤ most := by omega
      have h1 : most ≤ 1048576 := by omega
      by_cases hlp : (n1 : Int) ≤ most
      · by_cases hlh : (n2 : Int) ≤ most
        · exact swaps_main w most a1 n1 c1 p sp (Lib.hid hN1) a2 n2 c2 h sh (Lib.hid hN2) h0 h1 hlp hlh
        · have hlh2 : most < (n2 : Int) := by omega
          clear sp sh hN1 hN2 hpl hhl hm
          go_enter Try.func11, Try.ntmps11
          go_wp2_with fail
          refine (spWorks_any w).mono ?_
          rintro e w0 ⟨rfl, hb0⟩
          have hB0 := hb0.size
          go_wp2_with fail
          refine (new_yes w0 most h0 h1).mono ?_
          rintro e wN ⟨g, rfl, s0, hb1⟩
          have hbel := hb0.trans (hb1.mono hB0)
          clear s0
          go_wp2_with fail
          go_ret
          exact ⟨rfl, hbel⟩
      · have hlp2 : most < (n1 : Int) := by omega
        clear sp sh hN1 hN2 hpl hhl hm
        go_enter Try.func11, Try.ntmps11
        go_wp2_with fail
        refine (spWorks_any w).mono ?_
        rintro e w0 ⟨rfl, hb0⟩
        have hB0 := hb0.size
        go_wp2_with fail
        refine (new_yes w0 most h0 h1).mono ?_
        rintro e wN ⟨g, rfl, s0, hb1⟩
        have hbel := hb0.trans (hb1.mono hB0)
        clear s0
        go_wp2_with fail
        go_ret
        exact ⟨rfl, hbel⟩
end Go.Proofs.Ytadjonggmbndmaa

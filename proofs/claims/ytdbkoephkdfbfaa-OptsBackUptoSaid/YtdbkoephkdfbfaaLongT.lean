/-
  galleylaw28.long: it answers.
-/
import Derived.Test.YtdbkoephkdfbfaaOptM
namespace Go.Proofs.Ytdbkoephkdfbfaa
open Go.RowKit

set_option maxRecDepth 100000 in
theorem longT_any (w : World) (a : Option Addr) (n c : Nat) (l : List Str) (hb : TS w (.slice a n c) l) (hn : n ≤ 4294967296) (hs : ∀ s ∈ l, s.size ≤ 4294967296) :
    Calls Try.prog 6 #[.slice a n c] w fun e w' => ∃ b : Bool, e = .returned (.bool b) ∧ w = w' := by
  obtain ⟨hl, -, hnc, hN⟩ := hb.len
  have HL := Lib.hid hl
  have HB := Lib.hid hb
  have HS := Lib.hid hs
  clear hl hb hs
  go_enter Try.func6, Try.ntmps6
  go_wp2_with fail
  go_loopw [3, 4] (fun x y wr => w = wr ∧ ∃ s k : Nat, x = .int .i64 s ∧ y = .int .i64 k ∧ k ≤ n ∧ s ≤ 4362076161) (fun _ y _ => n - (intOf y).toNat)
  case atStart => exact ⟨rfl, 0, 0, rfl, rfl, Nat.zero_le _, by omega⟩
  case round =>
    obtain ⟨rfl, s, k, rfl, rfl, hk, hs1⟩ := hrel
    by_cases hkn : k = n
    · have hkd : decide (k < n) = false := by simp; omega
      go_wp2_with fail
      go_ret
      exact ⟨_, rfl, rfl⟩
    · have hkd : decide (k < n) = true := by simp; omega
      have hkl : k < n := by omega
      by_cases h26 : s ≤ 67108864
      · have hsd : decide ((s : Int) ≤ 67108864) = true := by simp; omega
        obtain ⟨b, o, rfl, hr⟩ := HB.out.read k hkl
        have hc := hr k hkl
        obtain ⟨x, hx⟩ : ∃ x, l[k]?.getD ByteArray.empty = x := ⟨_, rfl⟩
        rw [hx] at hc
        have hxs : x.size ≤ 4294967296 := HS.out x (by rw [← hx, List.getElem?_eq_getElem (by have := HL.out; omega)]; exact List.getElem_mem _)
        clear hr hx hkn
        go_wp2_with fail
        go_roundw
        case rel => exact ⟨trivial, s + 1 + x.size, k + 1, by simp, by simp, by omega, by omega⟩
        case measure => simp [intOf]; omega
      · have hsd : decide ((s : Int) ≤ 67108864) = false := by simp; omega
        go_wp2_with fail
        go_ret
        exact ⟨_, rfl, rfl⟩
end Go.Proofs.Ytdbkoephkdfbfaa

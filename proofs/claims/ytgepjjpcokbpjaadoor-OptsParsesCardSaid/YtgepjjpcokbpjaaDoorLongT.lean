/-
  galleylaw28.long: what it answers.
-/
import Derived.Test.YtgepjjpcokbpjaaDoorOptM
namespace Go.Proofs.YtgepjjpcokbpjaaDoor
open Go.RowKit

theorem mem_at (l : List Str) (x : Str) (h : x ∈ l) : ∃ i, i < l.length ∧ l[i]?.getD ByteArray.empty = x := by
  obtain ⟨i, hi, e⟩ := List.mem_iff_getElem.1 h
  exact ⟨i, hi, by rw [List.getElem?_eq_getElem hi, e]; rfl⟩
set_option maxRecDepth 100000 in
theorem longT_any (w : World) (a : Option Addr) (n c : Nat) (l : List Str) (hb : TS w (.slice a n c) l) (hs : ∀ s ∈ l, s.size ≤ 140737488351232) :
    Calls Tryd.prog 7 #[.slice a n c] w fun e w' => ∃ b : Bool, e = .returned (.bool b) ∧ w = w' ∧ (b = false → n ≤ 67108864 ∧ ∀ s ∈ l, s.size ≤ 67108864) := by
  obtain ⟨hl, hn, hnc, hN⟩ := hb.len
  have HL := Lib.hid hl
  have HB := Lib.hid hb
  have HS := Lib.hid hs
  clear hl hb hs
  go_enter Tryd.func7, Tryd.ntmps7
  go_wp2_with fail
  go_loopw [3, 4] (fun x y wr => w = wr ∧ ∃ s k : Nat, x = .int .i64 s ∧ y = .int .i64 k ∧ k ≤ n ∧ k ≤ s ∧ s ≤ 140737555460097 ∧ ∀ i, i < k → (l[i]?.getD ByteArray.empty).size ≤ s) (fun _ y _ => n - (intOf y).toNat)
  case atStart => exact ⟨rfl, 0, 0, rfl, rfl, Nat.zero_le _, Nat.le_refl _, by omega, fun i hi => absurd hi (Nat.not_lt_zero _)⟩
  case round =>
    obtain ⟨rfl, s, k, rfl, rfl, hk, hks, hs1, hall⟩ := hrel
    have HALL := Lib.hid hall
    clear hall
    by_cases hkn : k = n
    · have hkd : decide (k < n) = false := by simp; omega
      by_cases h26 : s ≤ 67108864
      · have hsd : decide ((67108864 : Int) < (s : Int)) = false := by simp; omega
        have HKN := Lib.hid hkn
        clear hkn
        go_wp2_with fail
        go_ret
        refine ⟨_, rfl, rfl, fun _ => ⟨by have := HKN.out; omega, fun x hx => ?_⟩⟩
        obtain ⟨i, hi, rfl⟩ := mem_at l x hx
        have := HALL.out i (by have := HKN.out; have := HL.out; omega)
        omega
      · have hsd : decide ((67108864 : Int) < (s : Int)) = true := by simp; omega
        clear hkn
        go_wp2_with fail
        go_ret
        exact ⟨_, rfl, rfl, fun h => by cases h⟩
    · have hkd : decide (k < n) = true := by simp; omega
      have hkl : k < n := by omega
      by_cases h26 : s ≤ 67108864
      · have hsd : decide ((s : Int) ≤ 67108864) = true := by simp; omega
        obtain ⟨b, o, rfl, hr⟩ := HB.out.read k hkl
        have hc := hr k hkl
        obtain ⟨x, hx⟩ : ∃ x, l[k]?.getD ByteArray.empty = x := ⟨_, rfl⟩
        rw [hx] at hc
        have hxs : x.size ≤ 140737488351232 := HS.out x (by rw [← hx, List.getElem?_eq_getElem (by have := HL.out; omega)]; exact List.getElem_mem _)
        have HX := Lib.hid hx
        clear hr hx hkn
        go_wp2_with fail
        go_roundw
        case rel =>
          refine ⟨trivial, s + 1 + x.size, k + 1, by simp, by simp, by omega, by omega, by omega, fun i hi => ?_⟩
          by_cases hik : i = k
          · subst hik; rw [HX.out]; omega
          · have := HALL.out i (by omega); omega
        case measure => simp [intOf]; omega
      · have hsd : decide ((s : Int) ≤ 67108864) = false := by simp; omega
        have hsd2 : decide ((67108864 : Int) < (s : Int)) = true := by simp; omega
        go_wp2_with fail
        go_ret
        exact ⟨_, rfl, rfl, fun h => by cases h⟩
end Go.Proofs.YtgepjjpcokbpjaaDoor

/-
  galleyref02.size in mathematics: it is the width of the character at the head.
-/
import Derived.Test.YtboikhalfffioaaDoorRf
namespace Go.Proofs.YtboikhalfffioaaDoor
open Go.RowKit

/-- How many bytes the character has that begins b0 b1 b2 b3, of n bytes that are there; 0: none begins. -/
def sizeN (n b0 b1 b2 b3 : Nat) : Nat :=
  if b0 < 128 then 1
  else if 192 ≤ b0 ∧ b0 < 224 then
    (if 1 < n ∧ 128 ≤ b1 ∧ b1 ≤ 191 then (if 64 * (b0 - 192) + b1 - 128 < 128 ∨ 1114111 < 64 * (b0 - 192) + b1 - 128 ∨ (55296 ≤ 64 * (b0 - 192) + b1 - 128 ∧ 64 * (b0 - 192) + b1 - 128 ≤ 57343) then 0 else 2) else 0)
  else if 224 ≤ b0 ∧ b0 < 240 then
    (if (1 < n ∧ 128 ≤ b1 ∧ b1 ≤ 191) ∧ 2 < n ∧ 128 ≤ b2 ∧ b2 ≤ 191 then (if 64 * (64 * (b0 - 224) + b1 - 128) + b2 - 128 < 2048 ∨ 1114111 < 64 * (64 * (b0 - 224) + b1 - 128) + b2 - 128 ∨ (55296 ≤ 64 * (64 * (b0 - 224) + b1 - 128) + b2 - 128 ∧ 64 * (64 * (b0 - 224) + b1 - 128) + b2 - 128 ≤ 57343) then 0 else 3) else 0)
  else if 240 ≤ b0 ∧ b0 < 248 then
    (if (1 < n ∧ 128 ≤ b1 ∧ b1 ≤ 191) ∧ (2 < n ∧ 128 ≤ b2 ∧ b2 ≤ 191) ∧ 3 < n ∧ 128 ≤ b3 ∧ b3 ≤ 191 then (if 64 * (64 * (64 * (b0 - 240) + b1 - 128) + b2 - 128) + b3 - 128 < 65536 ∨ 1114111 < 64 * (64 * (64 * (b0 - 240) + b1 - 128) + b2 - 128) + b3 - 128 ∨ (55296 ≤ 64 * (64 * (64 * (b0 - 240) + b1 - 128) + b2 - 128) + b3 - 128 ∧ 64 * (64 * (64 * (b0 - 240) + b1 - 128) + b2 - 128) + b3 - 128 ≤ 57343) then 0 else 4) else 0)
  else 0
set_option maxHeartbeats 4000000 in
set_option maxRecDepth 100000 in
theorem sizeN_eq (n b0 b1 b2 b3 : Nat) (h0 : b0 < 256) (h1 : b1 < 256) (h2 : b2 < 256) (h3 : b3 < 256) :
    sizeN n b0 b1 b2 b3 = if (Lib.decodeN n b0 b1 b2 b3).1 = 65533 ∧ (Lib.decodeN n b0 b1 b2 b3).2 = 1 then 0 else (Lib.decodeN n b0 b1 b2 b3).2 := by
  by_cases a1 : b0 < 128
  · unfold sizeN Lib.decodeN
    rw [if_pos a1, if_pos a1, if_neg (by simp; omega)]
  · by_cases a2 : 192 ≤ b0 ∧ b0 < 224
    · unfold sizeN Lib.decodeN
      rw [if_neg a1, if_pos a2, if_neg a1]
      have e1 : b0 / 32 = 6 := by omega
      have e2 : ¬ b0 / 16 = 14 := by omega
      have e3 : ¬ b0 / 8 = 30 := by omega
      simp only [e1, e2, e3, true_and, false_and, if_false]
      repeat' split
      all_goals (first | rfl | exact absurd (⟨rfl, rfl⟩ : ((65533, 1) : Nat × Nat).fst = 65533 ∧ ((65533, 1) : Nat × Nat).snd = 1) (by assumption) | (simp only [] at *; omega))
    · by_cases a3 : 224 ≤ b0 ∧ b0 < 240
      · unfold sizeN Lib.decodeN
        rw [if_neg a1, if_neg a2, if_pos a3, if_neg a1]
        have e1 : ¬ b0 / 32 = 6 := by omega
        have e2 : b0 / 16 = 14 := by omega
        have e3 : ¬ b0 / 8 = 30 := by omega
        simp only [e1, e2, e3, true_and, false_and, if_false]
        repeat' split
        all_goals (first | rfl | exact absurd (⟨rfl, rfl⟩ : ((65533, 1) : Nat × Nat).fst = 65533 ∧ ((65533, 1) : Nat × Nat).snd = 1) (by assumption) | (simp only [] at *; omega))
      · by_cases a4 : 240 ≤ b0 ∧ b0 < 248
        · unfold sizeN Lib.decodeN
          rw [if_neg a1, if_neg a2, if_neg a3, if_pos a4, if_neg a1]
          have e1 : ¬ b0 / 32 = 6 := by omega
          have e2 : ¬ b0 / 16 = 14 := by omega
          have e3 : b0 / 8 = 30 := by omega
          simp only [e1, e2, e3, true_and, false_and, if_false]
          repeat' split
          all_goals (first | rfl | exact absurd (⟨rfl, rfl⟩ : ((65533, 1) : Nat × Nat).fst = 65533 ∧ ((65533, 1) : Nat × Nat).snd = 1) (by assumption) | (simp only [] at *; omega))
        · unfold sizeN Lib.decodeN
          have e1 : ¬ b0 / 32 = 6 := by omega
          have e2 : ¬ b0 / 16 = 14 := by omega
          have e3 : ¬ b0 / 8 = 30 := by omega
          simp only [a1, a2, a3, a4, e1, e2, e3, false_and, if_false]
          simp
theorem size_wid (l : List UInt8) : sizeN l.length (l.getD 0 0).toNat (l.getD 1 0).toNat (l.getD 2 0).toNat (l.getD 3 0).toNat = wid l := by
  rw [sizeN_eq _ _ _ _ _ (l.getD 0 0).toNat_lt (l.getD 1 0).toNat_lt (l.getD 2 0).toNat_lt (l.getD 3 0).toNat_lt, wid, Lib.decodeL_N]
end Go.Proofs.YtboikhalfffioaaDoor

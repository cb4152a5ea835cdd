/-
  galleylaw01.ClassNames in plain mathematics: the twelve names, their sizes and classes.
-/
import Derived.Test.YtcdoliinemafaaaDoorNamed
import Derived.Test.YtcdoliinemafaaaDoorSize
namespace Go.Proofs.YtcdoliinemafaaaDoor
open Go.RowKit

def nmk (k : Nat) : ByteArray := match k with | 0 => ⟨#[97, 108, 110, 117, 109]⟩ | 1 => ⟨#[97, 108, 112, 104, 97]⟩ | 2 => ⟨#[98, 108, 97, 110, 107]⟩ | 3 => ⟨#[99, 110, 116, 114, 108]⟩ | 4 => ⟨#[100, 105, 103, 105, 116]⟩ | 5 => ⟨#[103, 114, 97, 112, 104]⟩ | 6 => ⟨#[108, 111, 119, 101, 114]⟩ | 7 => ⟨#[112, 114, 105, 110, 116]⟩ | 8 => ⟨#[112, 117, 110, 99, 116]⟩ | 9 => ⟨#[115, 112, 97, 99, 101]⟩ | 10 => ⟨#[117, 112, 112, 101, 114]⟩ | 11 => ⟨#[120, 100, 105, 103, 105, 116]⟩ | _ => ⟨#[]⟩
def szk (k : Nat) : Nat := match k with | 0 => 62 | 1 => 52 | 2 => 2 | 3 => 33 | 4 => 10 | 5 => 94 | 6 => 26 | 7 => 95 | 8 => 32 | 9 => 6 | 10 => 26 | 11 => 22 | _ => 0
def clK (k : Nat) : List Nat := namedL (nmk k)
theorem isC_clK (k : Nat) : IsC (clK k) := isC_named _ 23
theorem lt12 {k : Nat} (h : k < 12) : k = 0 ∨ k = 1 ∨ k = 2 ∨ k = 3 ∨ k = 4 ∨ k = 5 ∨ k = 6 ∨ k = 7 ∨ k = 8 ∨ k = 9 ∨ k = 10 ∨ k = 11 := by omega
theorem clK_or1 : orL (clK 1) (clK 4) = clK 0 := by decide +kernel
theorem clK_or2 : orL (clK 6) (clK 10) = clK 1 := by decide +kernel
theorem clK_or3 : orL (clK 0) (clK 8) = clK 5 := by decide +kernel
theorem clK_or4 : orL (clK 5) (ofL [32]) = clK 7 := by decide +kernel
theorem clK_and1 : andL (clK 0) (clK 8) = noneL := by decide +kernel
theorem clK_and2 : andL (clK 3) (clK 7) = noneL := by decide +kernel
theorem clK_and3 : andL (clK 2) (clK 9) = clK 2 := by decide +kernel
theorem clK_and4 : andL (clK 11) (clK 4) = clK 4 := by decide +kernel
theorem clK_has : hasL (clK 6) 97 = true ∧ hasL (clK 10) 90 = true ∧ hasL (clK 11) 102 = true ∧ hasL (clK 11) 103 = false ∧ hasL (clK 9) 10 = true ∧ hasL (clK 2) 9 = true := by decide +kernel
theorem clK_some (k : Nat) (h : k < 12) : (!decide (clK k = noneL)) = true := by
  have : ∀ k, k < 12 → (!decide (clK k = noneL)) = true := by decide +kernel
  exact this k h
theorem clK_cnt (k : Nat) (h : k < 12) : cntL (clK k) 256 = szk k := by
  have : ∀ k, k < 12 → cntL (clK k) 256 = szk k := by decide +kernel
  exact this k h
theorem clK_high (k x : Nat) (h : k < 12) (hx : x < 256) (h2 : 127 < x) : hasL (clK k) x = false := by
  have : ∀ k, k < 12 → ∀ x, x < 256 → 127 < x → hasL (clK k) x = false := by decide +kernel
  exact this k h x hx h2
theorem nmk_size (k : Nat) : (nmk k).size ≤ 9223372036854775807 := by unfold nmk; split <;> decide
end Go.Proofs.YtcdoliinemafaaaDoor

/-
  The low three bits of a machine integer.
-/
import Derived.Test.YtdbkoephkdfbfaaBase
namespace Go.Proofs.Ytdbkoephkdfbfaa

theorem and_seven (x : Int) : ∃ k : Nat, k < 8 ∧ bits .and .i64 x 7 = (k : Int) := by
  obtain ⟨m, hm⟩ : ∃ m, ((BitVec.ofInt 64 x &&& BitVec.ofInt 64 7).toNat : Nat) = m := ⟨_, rfl⟩
  have e : bits .and .i64 x 7 = IntKind.i64.wrap ((BitVec.ofInt 64 x &&& BitVec.ofInt 64 7).toNat : Nat) := rfl
  have hlt : m < 8 := by
    have h7 : (BitVec.ofInt 64 7).toNat = 7 := by decide
    rw [← hm, BitVec.toNat_and, h7]
    have := Nat.and_le_right (n := (BitVec.ofInt 64 x).toNat) (m := 7)
    omega
  rw [hm] at e
  refine ⟨m, hlt, ?_⟩
  rw [e]
  have : ∀ n : Fin 8, IntKind.i64.wrap ((n.1 : Nat) : Int) = (n.1 : Int) := by decide
  exact this ⟨m, hlt⟩
def kindF (x : Int) : Nat := (bits .and .i64 x 7).toNat
theorem kindF_is (x : Int) : bits .and .i64 x 7 = (kindF x : Int) ∧ kindF x < 8 := by
  obtain ⟨k, hk, e⟩ := and_seven x
  unfold kindF
  rw [e]
  exact ⟨by simp, by simpa using hk⟩
end Go.Proofs.Ytdbkoephkdfbfaa

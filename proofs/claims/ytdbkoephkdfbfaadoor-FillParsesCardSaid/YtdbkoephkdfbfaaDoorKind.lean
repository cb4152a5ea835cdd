/-
  fill.kind: what a piece is; what a type switch makes of it.
-/
import Derived.Test.YtdbkoephkdfbfaaDoorPieces
namespace Go.Proofs.YtdbkoephkdfbfaaDoor
open Go.RowKit

theorem as_ww (v : Value) (W : World) : (Instr.typeAssert (.iface 129 v) 20 129 true).run Tryd.prog W = .ok (.tuple #[v, .bool true]) W := by kernel_rfl
theorem as_dw (v : Value) (W : World) : (Instr.typeAssert (.iface 130 v) 20 129 true).run Tryd.prog W = .ok (.tuple #[.slice none 0 0, .bool false]) W := by kernel_rfl
theorem as_fw (v : Value) (W : World) : (Instr.typeAssert (.iface 191 v) 20 129 true).run Tryd.prog W = .ok (.tuple #[.slice none 0 0, .bool false]) W := by kernel_rfl
theorem as_bw (v : Value) (W : World) : (Instr.typeAssert (.iface 193 v) 20 129 true).run Tryd.prog W = .ok (.tuple #[.slice none 0 0, .bool false]) W := by kernel_rfl
theorem as_dd (v : Value) (W : World) : (Instr.typeAssert (.iface 130 v) 20 130 true).run Tryd.prog W = .ok (.tuple #[v, .bool true]) W := by kernel_rfl
theorem as_fd (v : Value) (W : World) : (Instr.typeAssert (.iface 191 v) 20 130 true).run Tryd.prog W = .ok (.tuple #[.int .i8 0, .bool false]) W := by kernel_rfl
theorem as_bd (v : Value) (W : World) : (Instr.typeAssert (.iface 193 v) 20 130 true).run Tryd.prog W = .ok (.tuple #[.int .i8 0, .bool false]) W := by kernel_rfl
theorem as_ff (v : Value) (W : World) : (Instr.typeAssert (.iface 191 v) 20 191 true).run Tryd.prog W = .ok (.tuple #[v, .bool true]) W := by kernel_rfl
theorem as_bf (v : Value) (W : World) : (Instr.typeAssert (.iface 193 v) 20 191 true).run Tryd.prog W = .ok (.tuple #[.int .i64 0, .bool false]) W := by kernel_rfl

/-- What kind answers. -/
def kindV (g : Int) (v : Value) : Value := if g = -1 then .iface 129 v else if g < -1 then .iface 193 (.agg #[]) else if g ≤ 9 then .iface 130 (.int .i8 g) else .iface 191 (.int .i64 g)

theorem kind_any (w : World) (g : Int) (hg : IsI g) (ad : Option Addr) (n c : Nat) :
    Calls Tryd.prog 97 #[.agg #[.int .i64 g, .slice ad n c]] w fun e w' => e = .returned (kindV g (.slice ad n c)) ∧ Below w.heap.size w w' := by
  unfold IsI at hg
  obtain ⟨hg0, hg1⟩ := hg
  unfold kindV
  by_cases h1 : g = -1
  · subst h1
    rw [if_pos rfl]
    go_enter Tryd.func97, Tryd.ntmps97
    go_wp2
    go_ret
    exact ⟨rfl, (Below.refl _ _).alloc (Nat.le_refl _) _⟩
  · have hq1 : (g == -1) = false := by simpa using h1
    rw [if_neg h1]
    by_cases h2 : g < -1
    · rw [if_pos h2]
      go_enter Tryd.func97, Tryd.ntmps97
      go_wp2
      go_ret
      exact ⟨rfl, (Below.refl _ _).alloc (Nat.le_refl _) _⟩
    · rw [if_neg h2]
      by_cases h3 : g ≤ 9
      · rw [if_pos h3]
        have hw : IntKind.i8.wrap g = g := by
          have : ∀ m : Nat, m ≤ 9 → IntKind.i8.wrap (m : Int) = m := by decide
          have h := this g.toNat (by omega)
          rwa [show ((g.toNat : Nat) : Int) = g by omega] at h
        go_enter Tryd.func97, Tryd.ntmps97
        go_wp2
        go_ret
        exact ⟨rfl, (Below.refl _ _).alloc (Nat.le_refl _) _⟩
      · rw [if_neg h3]
        go_enter Tryd.func97, Tryd.ntmps97
        go_wp2
        go_ret
        exact ⟨rfl, (Below.refl _ _).alloc (Nat.le_refl _) _⟩
end Go.Proofs.YtdbkoephkdfbfaaDoor

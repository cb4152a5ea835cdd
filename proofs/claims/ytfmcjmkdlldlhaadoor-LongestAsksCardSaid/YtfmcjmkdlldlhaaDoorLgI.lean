/-
  CopyInstrs, heavy.
-/
import Derived.Test.YtfmcjmkdlldlhaaDoorLgK
namespace Go.Proofs.YtfmcjmkdlldlhaaDoor
open Go.RowKit
attribute [local go_sem] Oper.semAt_some

def heavyB (m n : Int) : Bool := decide (400 < n) || decide (1048576 / ((n + 1) * (n + 1)) < m)
theorem heavyB_no {m n : Int} (hn : 0 ≤ n) (h : heavyB m n = false) : n ≤ 400 ∧ m ≤ 1048576 := by
  simp only [heavyB, Bool.or_eq_false_iff, decide_eq_false_iff_not] at h
  refine ⟨by omega, ?_⟩
  have h1 : 1048576 / ((n + 1) * (n + 1)) ≤ 1048576 := Int.ediv_le_self _ (by omega)
  omega
theorem heavy_any' (w : World) (m n : Int) (hn : 0 ≤ n) :
    Calls Tryd.prog 5 #[.int .i64 m, .int .i64 n] w fun e w' => e = .returned (.bool (heavyB m n)) ∧ w = w' := by
  by_cases h : 400 < n
  · have e1 : decide (400 < n) = true := decide_eq_true h
    have e2 : heavyB m n = true := by unfold heavyB; rw [e1]; rfl
    rw [e2]
    go_enter Tryd.func5, Tryd.ntmps5
    go_wp2_with fail
    go_ret
    exact ⟨rfl, rfl⟩
  · have e1 : decide (400 < n) = false := decide_eq_false h
    have hsq : 0 < (n + 1) * (n + 1) := Int.mul_pos (by omega) (by omega)
    have hsq2 : (n + 1) * (n + 1) ≤ 1000000001 * 1000000001 := Int.mul_le_mul (by omega) (by omega) (by omega) (by omega)
    have h1 : IntKind.i64.wrap (n + 1) = n + 1 := IntWalk.i64_in _ (by omega)
    have h2 : IntKind.i64.wrap ((n + 1) * (n + 1)) = (n + 1) * (n + 1) := IntWalk.i64_in _ (by omega)
    have h3 : ¬ (n + 1) * (n + 1) = 0 := by omega
    have e2 : heavyB m n = decide (1048576 / ((n + 1) * (n + 1)) < m) := by unfold heavyB; rw [e1]; rfl
    rw [e2]
    go_enter Tryd.func5, Tryd.ntmps5
    go_wp2_with fail
    go_ret
    exact ⟨rfl, rfl⟩
theorem heavy_any (w : World) (m n : Int) (hn : 0 ≤ n) (_ : n ≤ 2147483647) :
    Calls Tryd.prog 5 #[.int .i64 m, .int .i64 n] w fun e w' => e = .returned (.bool (heavyB m n)) ∧ w = w' := heavy_any' w m n hn
theorem copyI_any (w : World) (a : Option Addr) (n c : Nat) (M : List Ins) (h : MI w a n c M) (hn65 : n ≤ 2147483647) : Calls Tryd.prog 7 #[.slice a n c] w fun e w' => ∃ v, e = .returned v ∧ w'.ownsRow w.heap.size TI 7 v M.length (cellsI M) ∧ Below w.heap.size w w' := by
  obtain ⟨i0, hi, hz0, hz1, hz2⟩ := info_parts infoI
  have hl := h.2.1
  have hnc := h.2.2.1
  have hN := h.2.2.2.1
  have HZ : Hid (w.ownsRow w.heap.size TI 7 (.slice none 0 0) 0 []) := Lib.hid (World.ownsRow_nil _ _ _ _)
  cases a with
  | none =>
    have hc := hN rfl
    subst hc
    have hn0 : n = 0 := by omega
    subst hn0
    have : M = [] := List.eq_nil_of_length_eq_zero hl
    subst this
    clear h hN
    go_enter Tryd.func7, Tryd.ntmps7
    go_wp2_with fail
    go_ret
    exact ⟨_, rfl, World.ownsRow_nil _ _ _ _, Below.refl _ _⟩
  | some ad =>
    have HN := Lib.hid h.news
    have HL := Lib.hid hl
    have hml : (cellsI M).length = n * 7 := by rw [cellsI_len, hl]
    clear h hN hl
    go_enter Tryd.func7, Tryd.ntmps7
    go_wp2_with (at_builtin; refine wpList_append_own_at _ rfl (.tmp 4) (.tmp 5) 22 rfl w.heap.size TI i0 (.agg #[.int .i8 0, .int .u64 0, .int .u64 0, .int .u64 0, .int .u64 0, .int .i64 0, .int .i64 0]) 7 56 Tryd.underlying22 hi hz0 hz1 hz2 rfl (by decide) _ 0 [] rfl HZ.out ad n c (cellsI M) rfl hml HN.out (cellsI_one M) (by unfold maxLen; omega) (by omega) (Nat.le_refl _) ?_)
    intro v' w1 hown hgrow _ _
    have HO : Hid (w1.ownsRow w.heap.size TI 7 v' M.length (cellsI M)) := Lib.hid (by
      rw [HL.out]
      simpa using hown)
    have HB2 := Lib.hid ((Below.refl w.heap.size w).grown hgrow (Nat.le_refl _) (fun k h => by simp [Value.ownBlock] at h))
    obtain ⟨av, cv, hv⟩ := own_shape hown
    subst hv
    clear hown hgrow hml
    go_wp2_with fail
    go_ret
    exact ⟨_, rfl, by simpa using HO.out, HB2.out⟩
end Go.Proofs.YtfmcjmkdlldlhaaDoor

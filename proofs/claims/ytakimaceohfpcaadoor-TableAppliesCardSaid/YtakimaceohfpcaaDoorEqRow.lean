/-
  Two rows of bytes held against each other.
-/
import Derived.Test.YtakimaceohfpcaaDoorStay
namespace Go.Proofs.YtakimaceohfpcaaDoor
open Go.RowKit

theorem run_part_row (w : World) (l : List Int) (i : Nat) (h : i < l.length) : (part 5 (row l) i).run Tryd.prog w = .ok (.int .u8 (l[i]?.getD 0)) w := by
  have hagg : (isAgg 5).run Tryd.prog w = .ok false w := by
    unfold isAgg
    rw [Sem.run_bind, run_underlying Tryd.underlying5 w]
    simp
  unfold part
  rw [Sem.run_bind, hagg]
  simp only [Result.andThen_ok]
  simp [row_get l i h]

/-- The round of the loop over two rows. -/
def eqRound (d : Nat) (l m : List Int) (i : Nat) (_ : Option Bool × Unit) : Sem (ForInStep (Option Bool × Unit)) := do
  let x ← part 5 (row l) (i * 1)
  let y ← part 5 (row m) (i * 1)
  let r ← Op.equalIn (d + 1) 5 x y
  if (!r) = true then pure (ForInStep.done (some false, ())) else pure (ForInStep.yield (none, ()))

theorem eqRound_run (w : World) (d : Nat) (l m : List Int) (i : Nat) (h1 : i < l.length) (h2 : i < m.length) (z : Option Bool × Unit) :
    (eqRound d l m i z).run Tryd.prog w = .ok (if l[i]?.getD 0 = m[i]?.getD 0 then ForInStep.yield (none, ()) else ForInStep.done (some false, ())) w := by
  unfold eqRound
  rw [Sem.run_bind, Nat.mul_one, run_part_row w l i h1]
  simp only [Result.andThen_ok]
  rw [Sem.run_bind, run_part_row w m i h2]
  simp only [Result.andThen_ok]
  rw [Sem.run_bind, run_equalIn_int w d 5 .u8 .u8 _ _ Tryd.underlying5]
  simp only [Result.andThen_ok]
  by_cases h : l[i]?.getD 0 = m[i]?.getD 0
  · rw [if_pos h]; simp [h]
  · rw [if_neg h]; simp [h]

/-- From s on the next n places hold the same. -/
def sameOn (l m : List Int) (s : Nat) : Nat → Bool
  | 0 => true
  | n + 1 => decide (l[s]?.getD 0 = m[s]?.getD 0) && sameOn l m (s + 1) n

theorem sameOn_iff (l m : List Int) : ∀ (n s : Nat), sameOn l m s n = true ↔ ∀ j, s ≤ j → j < s + n → l[j]?.getD 0 = m[j]?.getD 0
  | 0, s => by simp [sameOn]; intro j h1 h2; omega
  | n + 1, s => by
    rw [sameOn, Bool.and_eq_true, decide_eq_true_iff, sameOn_iff l m n (s + 1)]
    constructor
    · rintro ⟨h, k⟩ j a b
      by_cases hj : j = s
      · subst hj; exact h
      · exact k j (by omega) (by omega)
    · intro k
      exact ⟨k s (Nat.le_refl _) (by omega), fun j a b => k j (by omega) (by omega)⟩

theorem eqLoop_run (w : World) (d : Nat) (l m : List Int) : ∀ (n s : Nat), s + n ≤ l.length → s + n ≤ m.length →
    (forIn (List.range' s n 1) ((none, ()) : Option Bool × Unit) (eqRound d l m)).run Tryd.prog w = .ok (if sameOn l m s n then (none, ()) else (some false, ())) w
  | 0, s, _, _ => by
    simp [sameOn]
  | n + 1, s, h1, h2 => by
    rw [List.range'_succ, List.forIn_cons, Sem.run_bind, eqRound_run w d l m s (by omega) (by omega)]
    simp only [Result.andThen_ok]
    by_cases h : l[s]?.getD 0 = m[s]?.getD 0
    · rw [if_pos h]
      rw [eqLoop_run w d l m n (s + 1) (by omega) (by omega)]
      simp [sameOn, h]
    · rw [if_neg h]
      simp [sameOn, h]

theorem run_equalIn_row (w : World) (d : Nat) (l m : List Int) (hl : l.length = 256) (hm : m.length = 256) :
    (Op.equalIn (d + 2) 73 (.agg (row l)) (.agg (row m))).run Tryd.prog w = .ok (decide (l = m)) w := by
  obtain ⟨i0, hi, hz, hs, hb⟩ := info_parts infoB
  have hsz : ∀ w, (sizeOf 5).run Tryd.prog w = .ok 1 w := fun w => by simp [sizeOf, typeInfo, hi, hs]
  rw [Op.equalIn.eq_def]
  simp only [Sem.run_bind, run_underlying Tryd.underlying73, Result.andThen_ok, hsz]
  rw [Std.Legacy.Range.forIn_eq_forIn_range']
  have hgo := eqLoop_run w d l m 256 0 (by omega) (by omega)
  unfold eqRound at hgo
  simp only [Std.Legacy.Range.size, Nat.sub_zero, Nat.add_sub_cancel, Nat.div_one]
  rw [hgo]
  simp only [Result.andThen_ok]
  by_cases h : l = m
  · subst h
    rw [if_pos ((sameOn_iff _ _ _ _).2 fun _ _ _ => rfl)]
    simp
  · rw [if_neg (fun k => h (ext_of l m (by omega) fun j hj => (sameOn_iff _ _ _ _).1 k j (Nat.zero_le _) (by omega)))]
    simp [h]

theorem run_eql_row (w : World) (l m : List Int) (hl : l.length = 256) (hm : m.length = 256) :
    (binOp .eql 73 (.agg (row l)) (.agg (row m))).run Tryd.prog w = .ok (.bool (decide (l = m))) w := by
  rw [run_eql_struct, run_equalIn_row w 9998 l m hl hm]
  rfl
theorem run_neq_row (w : World) (l m : List Int) (hl : l.length = 256) (hm : m.length = 256) :
    (binOp .neq 73 (.agg (row l)) (.agg (row m))).run Tryd.prog w = .ok (.bool (!decide (l = m))) w := by
  rw [run_neq_struct, run_equalIn_row w 9998 l m hl hm]
  rfl
theorem eqGuardT : Tryd.prog.eqGuardType Tryd.prog.depth 73 = false := by kernel_rfl
theorem run_guardT (w : World) (op : BinOp) (x y : Operand) (xs ys : Array Value) : (eqGuard op 73 x y (.agg xs) (.agg ys)).run Tryd.prog w = .ok () w := run_eqGuard_agg w op 73 x y xs ys eqGuardT
end Go.Proofs.YtakimaceohfpcaaDoor

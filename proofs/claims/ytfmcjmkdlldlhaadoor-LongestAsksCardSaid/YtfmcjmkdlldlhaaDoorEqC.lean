/-
  Two classes held against each other.
-/
import Derived.Test.YtfmcjmkdlldlhaaDoorCls
namespace Go.Proofs.YtfmcjmkdlldlhaaDoor
open Go.RowKit

theorem infoQ : (Tryd.prog.info? 39).map (fun i => (i.zero, i.size, i.bytes)) = some (some (.int .u64 0), 1, 8) := by kernel_rfl
theorem info_partsQ {o : Option TypeInfo} {z : Option Value} {s b : Nat} (h : o.map (fun i => (i.zero, i.size, i.bytes)) = some (z, s, b)) : ∃ i, o = some i ∧ i.zero = z ∧ i.size = s ∧ i.bytes = b := by
  cases o with
  | none => simp at h
  | some i => simp at h; exact ⟨i, rfl, h.1, h.2.1, h.2.2⟩
theorem ext_four (l m : List Nat) (hl : l.length = 4) (hm : m.length = 4) (h : ∀ j : Nat, j < 4 → l[j]?.getD 0 = m[j]?.getD 0) : l = m := by
  apply List.ext_getElem (by rw [hl, hm])
  intro i h1 h2
  have := h i (by omega)
  simpa [h1, h2] using this
theorem run_part_rowC (w : World) (l : List Nat) (i : Nat) (h : i < l.length) : (part 39 (row64 l) i).run Tryd.prog w = .ok (.int .u64 ((l[i]?.getD 0 : Nat) : Int)) w := by
  have hagg : (isAgg 39).run Tryd.prog w = .ok false w := by
    unfold isAgg
    rw [Sem.run_bind, run_underlying Tryd.underlying39 w]
    simp
  unfold part
  rw [Sem.run_bind, hagg]
  simp only [Result.andThen_ok]
  simp [row64_get l i h]

/-- The round of the loop over two rows. -/
def eqRoundC (d : Nat) (l m : List Nat) (i : Nat) (_ : Option Bool × Unit) : Sem (ForInStep (Option Bool × Unit)) := do
  let x ← part 39 (row64 l) (i * 1)
  let y ← part 39 (row64 m) (i * 1)
  let r ← Op.equalIn (d + 1) 39 x y
  if (!r) = true then pure (ForInStep.done (some false, ())) else pure (ForInStep.yield (none, ()))

theorem eqRound_runC (w : World) (d : Nat) (l m : List Nat) (i : Nat) (h1 : i < l.length) (h2 : i < m.length) (z : Option Bool × Unit) :
    (eqRoundC d l m i z).run Tryd.prog w = .ok (if l[i]?.getD 0 = m[i]?.getD 0 then ForInStep.yield (none, ()) else ForInStep.done (some false, ())) w := by
  unfold eqRoundC
  rw [Sem.run_bind, Nat.mul_one, run_part_rowC w l i h1]
  simp only [Result.andThen_ok]
  rw [Sem.run_bind, run_part_rowC w m i h2]
  simp only [Result.andThen_ok]
  rw [Sem.run_bind, run_equalIn_int w d 39 .u64 .u64 _ _ Tryd.underlying39]
  simp only [Result.andThen_ok]
  by_cases h : l[i]?.getD 0 = m[i]?.getD 0
  · rw [if_pos h]; simp [h]
  · have h2 : ¬ ((l[i]?.getD 0 : Nat) : Int) = ((m[i]?.getD 0 : Nat) : Int) := fun k => h (Int.ofNat.inj k)
    rw [if_neg h]; simp [h2]

/-- From s on the next n places hold the same. -/
def sameOnC (l m : List Nat) (s : Nat) : Nat → Bool
  | 0 => true
  | n + 1 => decide (l[s]?.getD 0 = m[s]?.getD 0) && sameOnC l m (s + 1) n

theorem sameOn_iffC (l m : List Nat) : ∀ (n s : Nat), sameOnC l m s n = true ↔ ∀ j, s ≤ j → j < s + n → l[j]?.getD 0 = m[j]?.getD 0
  | 0, s => by simp [sameOnC]; intro j h1 h2; omega
  | n + 1, s => by
    rw [sameOnC, Bool.and_eq_true, decide_eq_true_iff, sameOn_iffC l m n (s + 1)]
    constructor
    · rintro ⟨h, k⟩ j a b
      by_cases hj : j = s
      · subst hj; exact h
      · exact k j (by omega) (by omega)
    · intro k
      exact ⟨k s (Nat.le_refl _) (by omega), fun j a b => k j (by omega) (by omega)⟩

theorem eqLoop_runC (w : World) (d : Nat) (l m : List Nat) : ∀ (n s : Nat), s + n ≤ l.length → s + n ≤ m.length →
    (forIn (List.range' s n 1) ((none, ()) : Option Bool × Unit) (eqRoundC d l m)).run Tryd.prog w = .ok (if sameOnC l m s n then (none, ()) else (some false, ())) w
  | 0, s, _, _ => by
    simp [sameOnC]
  | n + 1, s, h1, h2 => by
    rw [List.range'_succ, List.forIn_cons, Sem.run_bind, eqRound_runC w d l m s (by omega) (by omega)]
    simp only [Result.andThen_ok]
    by_cases h : l[s]?.getD 0 = m[s]?.getD 0
    · rw [if_pos h]
      rw [eqLoop_runC w d l m n (s + 1) (by omega) (by omega)]
      simp [sameOnC, h]
    · rw [if_neg h]
      simp [sameOnC, h]

theorem run_equalIn_rowC (w : World) (d : Nat) (l m : List Nat) (hl : l.length = 4) (hm : m.length = 4) :
    (Op.equalIn (d + 2) 41 (.agg (row64 l)) (.agg (row64 m))).run Tryd.prog w = .ok (decide (l = m)) w := by
  obtain ⟨i0, hi, hz, hs, hb⟩ := info_partsQ infoQ
  have hsz : ∀ w, (sizeOf 39).run Tryd.prog w = .ok 1 w := fun w => by simp [sizeOf, typeInfo, hi, hs]
  rw [Op.equalIn.eq_def]
  simp only [Sem.run_bind, run_underlying Tryd.underlying41, Result.andThen_ok, hsz]
  rw [Std.Legacy.Range.forIn_eq_forIn_range']
  have hgo := eqLoop_runC w d l m 4 0 (by omega) (by omega)
  unfold eqRoundC at hgo
  simp only [Std.Legacy.Range.size, Nat.sub_zero, Nat.add_sub_cancel, Nat.div_one]
  rw [hgo]
  simp only [Result.andThen_ok]
  by_cases h : l = m
  · subst h
    rw [if_pos ((sameOn_iffC _ _ _ _).2 fun _ _ _ => rfl)]
    simp
  · rw [if_neg (fun k => h (ext_four l m hl hm fun j hj => (sameOn_iffC _ _ _ _).1 k j (Nat.zero_le _) (by omega)))]
    simp [h]

theorem run_eql_rowC (w : World) (l m : List Nat) (hl : l.length = 4) (hm : m.length = 4) :
    (binOp .eql 41 (.agg (row64 l)) (.agg (row64 m))).run Tryd.prog w = .ok (.bool (decide (l = m))) w := by
  rw [run_eql_struct, run_equalIn_rowC w 9998 l m hl hm]
  rfl
theorem run_neq_rowC (w : World) (l m : List Nat) (hl : l.length = 4) (hm : m.length = 4) :
    (binOp .neq 41 (.agg (row64 l)) (.agg (row64 m))).run Tryd.prog w = .ok (.bool (!decide (l = m))) w := by
  rw [run_neq_struct, run_equalIn_rowC w 9998 l m hl hm]
  rfl
theorem eqGuardTC : Tryd.prog.eqGuardType Tryd.prog.depth 41 = false := by kernel_rfl
theorem run_guardTC (w : World) (op : BinOp) (x y : Operand) (xs ys : Array Value) : (eqGuard op 41 x y (.agg xs) (.agg ys)).run Tryd.prog w = .ok () w := run_eqGuard_agg w op 41 x y xs ys eqGuardTC
end Go.Proofs.YtfmcjmkdlldlhaaDoor

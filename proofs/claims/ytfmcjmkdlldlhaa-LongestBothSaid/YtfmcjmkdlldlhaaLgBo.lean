/-
  Many instructions for a list of them; a split of two machines as a list.
-/
import Derived.Test.YtfmcjmkdlldlhaaLgPl
import Derived.Test.YtfmcjmkdlldlhaaLgTw
import Derived.Deep.AppendLies
namespace Go.Proofs.Ytfmcjmkdlldlhaa
open Go.RowKit

theorem own_new7 (w : World) (base : Nat) (M : List Ins) (cs : Array Value) (hcs : cs = (cellsI M).toArray) (hb : base ≤ w.heap.size) (hm : M.length ≤ maxLen) : (w.alloc (.cells cs TI)).ownsRow base TI 7 (.slice (some ⟨w.heap.size, 0, none⟩) M.length M.length) M.length (cellsI M) := by
  subst hcs
  exact ⟨cellsI_len M, .inr ⟨w.heap.size, M.length, _, rfl, hb, heap_alloc_new w _, Nat.le_refl _, hm, by simp [cellsI_len], List.take_of_length_le (by simp [cellsI_len])⟩⟩
theorem cellsI_app (M N : List Ins) : cellsI (M ++ N) = cellsI M ++ cellsI N := by simp [cellsI]
/-- append(l, m...) of lists of instructions. -/
theorem wpList_appIs {ops : Array Oper} {rest : List Oper} {o : Oper} {a : Act} {w : World} {Q : Exit → Act → World → Prop} (hgd : o.guard = none) (s x : Operand)
    (ho : o.op = .call { callee := .builtin .append, args := #[s, x], argTypes := #[22, 22] })
    (base base2 : Nat) (v : Value) (n : Nat) (M N : List Ins) (ax : Option Addr) (nx cx : Nat) (hs : a.eval s = v) (hown : w.ownsRow base TI 7 v n (cellsI M)) (hx : a.eval x = .slice ax nx cx) (hN : w.ownsRow base2 TI 7 (.slice ax nx cx) N.length (cellsI N)) (hpos : 0 < N.length) (hsum : n + N.length ≤ 1000000000000) (hbase : base ≤ w.heap.size)
    (h : ∀ v' w', w'.ownsRow base TI 7 v' (n + N.length) (cellsI (M ++ N)) → AppPost w w' base v v' → wpList Try.prog ops Q rest (a.put o.dst v') w') :
    wpList Try.prog ops Q (o :: rest) a w := by
  obtain ⟨i0, hi, hz0, hz1, hz2⟩ := info_parts infoI
  obtain rfl := own_len hN
  obtain ⟨g, c, hv⟩ := own_some hN hpos
  simp only [Value.slice.injEq] at hv
  obtain ⟨rfl, _, rfl⟩ := hv
  refine wpList_append_own_at _ hgd s x 22 ho base TI i0 (.agg #[.int .i8 0, .int .u64 0, .int .u64 0, .int .u64 0, .int .u64 0, .int .i64 0, .int .i64 0]) 7 56 Try.underlying22 hi hz0 hz1 hz2 rfl (by decide) v n _ hs hown ⟨g, 0, none⟩ N.length cx (cellsI N) hx (cellsI_len N) (fun j u hj => ?_) (cellsI_one N) (by unfold maxLen; omega) (by omega) hbase fun v' w' h1 h2 _ h4 => ?_
  · have hj2 := (List.getElem?_eq_some_iff.1 hj).1
    rw [show (⟨g, 0, none⟩ : Addr).add j = ⟨g, j, none⟩ by simp [Addr.add]; exact fun h => h.symm, (own_cell hN j hj2).1]
    exact hj
  · rw [← cellsI_app] at h1
    exact h v' w' h1 (app_post hown (Nat.le_refl _) hbase (Below.refl _ w) h2 h4)
/-- The ends of a split of two machines are those of both. -/
theorem both_ends (A B : List Ins) (ha : Mach A) (hb : Mach B) (hl : A.length + B.length + 1 ≤ 65540) (tx : List Int) (f : Int) (q : Nat) : (endsI (bothM A B) tx f).1[q]?.getD false = ((endsI A tx f).1[q]?.getD false || (endsI B tx f).1[q]?.getD false) := by
  unfold endsI
  split
  · rfl
  · rename_i h
    have h' : ¬ (f < 0 ∨ (tx.length : Int) < f) := h
    exact ends_both A B tx ha.sh hb.sh hl f.toNat (by omega) q
theorem both_mach (A B : List Ins) (ha : Mach A) (hb : Mach B) (hl : A.length + B.length + 1 ≤ 65540) : Mach (bothM A B) := by
  refine ⟨bothM_shaped A B ha.sh hb.sh hl, fun x hx => ?_⟩
  simp only [bothM, placedM, List.mem_cons, List.mem_append, List.mem_map] at hx
  rcases hx with rfl | ⟨y, hy, rfl⟩ | ⟨y, hy, rfl⟩
  · exact isC_none
  · exact ha.cls y hy
  · exact hb.cls y hy
theorem ends_len3 (A : List Ins) (ha : Mach A) (tx : List Int) (f : Int) : (endsI A tx f).1.length = if outI tx f then 0 else tx.length + 1 := by
  split
  · rename_i h
    unfold endsI
    rw [if_pos h]
    rfl
  · rename_i h
    exact endsI_len A ha tx f h
/-- Where the places of a machine lie. -/
theorem mach_xs {M : List Ins} (h : Mach M) : ∀ x ∈ M, (x.op = 4 ∨ x.op = 5 → 0 ≤ x.x ∧ x.x ≤ 2000000) ∧ (x.op = 5 → 0 ≤ x.y ∧ x.y ≤ 2000000) := by
  obtain ⟨_, h2, h3⟩ := shaped_parts h.sh
  intro x hx
  obtain ⟨i, hi⟩ := List.getElem?_of_mem hx
  have ho := h3 i x hi
  unfold insOk at ho
  refine ⟨fun h => ?_, fun h => ?_⟩
  · rcases h with h | h
    · rw [if_neg (by omega), if_neg (by omega), if_pos h] at ho
      simp only [Bool.and_eq_true, decide_eq_true_eq] at ho
      have := ho.1.1
      omega
    · rw [if_neg (by omega), if_neg (by omega), if_neg (by omega), if_pos h] at ho
      simp only [Bool.and_eq_true, decide_eq_true_eq] at ho
      have := ho.1.1.1
      omega
  · rw [if_neg (by omega), if_neg (by omega), if_neg (by omega), if_pos h] at ho
    simp only [Bool.and_eq_true, decide_eq_true_eq] at ho
    have := ho.1
    omega
end Go.Proofs.Ytfmcjmkdlldlhaa

/-
  One more instruction for a list of them; the class of a byte, word by word.
-/
import Derived.Test.YtfmcjmkdlldlhaaLgK
import Derived.Test.YtfmcjmkdlldlhaaLgU
namespace Go.Proofs.Ytfmcjmkdlldlhaa
open Go.RowKit

theorem encI_one (x : Ins) : ∀ u ∈ encI x, u.oneCell' = true := by
  intro u hu
  simp only [encI, List.mem_cons, List.not_mem_nil, or_false] at hu
  rcases hu with rfl | rfl | rfl | rfl | rfl | rfl | rfl <;> rfl
theorem cellsI_snoc (M : List Ins) (x : Ins) : cellsI (M ++ [x]) = cellsI M ++ encI x := by simp [cellsI]
theorem wpList_appI {ops : Array Oper} {rest : List Oper} {o : Oper} {a : Act} {w W : World} {Q : Exit → Act → World → Prop} (hgd : o.guard = none) (s x : Operand)
    (ho : o.op = .call { callee := .builtin .append, args := #[s, x], argTypes := #[22, 22] })
    (base : Nat) (v : Value) (n : Nat) (M : List Ins) (y : Ins) (cs : Array Value) (hcs : cs = (encI y).toArray) (hW : W = w.alloc (.cells cs TI)) (hs : a.eval s = v) (hown : w.ownsRow base TI 7 v n (cellsI M)) (hx : a.eval x = .slice (some ⟨w.heap.size, 0, none⟩) 1 1) (hsum : n + 1 ≤ 1000000000000) (hbase : base ≤ w.heap.size)
    (h : ∀ g cap w', w'.ownsRow base TI 7 (.slice (some ⟨g, 0, none⟩) (n + 1) cap) (n + 1) (cellsI (M ++ [y])) → AppPost w w' base v (.slice (some ⟨g, 0, none⟩) (n + 1) cap) → wpList Try.prog ops Q rest (a.put o.dst (.slice (some ⟨g, 0, none⟩) (n + 1) cap)) w') :
    wpList Try.prog ops Q (o :: rest) a W := by
  obtain ⟨i0, hi, hz0, hz1, hz2⟩ := info_parts infoI
  refine wpList_app hgd s x 22 TI ho i0 (.agg #[.int .i8 0, .int .u64 0, .int .u64 0, .int .u64 0, .int .u64 0, .int .i64 0, .int .i64 0]) 7 56 Try.underlying22 hi hz0 hz1 hz2 rfl (by decide) base v n 1 _ (encI y) cs hcs hW hs hown hx rfl (encI_one y) (by decide) (by unfold maxLen; omega) (by omega) hbase fun g cap w' h1 h2 => ?_
  rw [← cellsI_snoc] at h1
  exact h g cap w' h1 h2
/-- What is owned stays below. -/
theorem app_below {w w' W : World} {base B : Nat} {v v' : Value} (hp : AppPost w w' base v v') (h : Below B W w) (hB : B ≤ base) : Below B W w' := hp.bel B W h hB
def OneW (w : World) (x : Nat) (e : Ending) (w' : World) : Prop := ∃ p0 p1 p2 p3 : Nat, withL noneL x = [p0, p1, p2, p3] ∧ e = .returned (.agg #[.int .u64 (p0 : Int), .int .u64 (p1 : Int), .int .u64 (p2 : Int), .int .u64 (p3 : Int)]) ∧ Below w.heap.size w w'
theorem one_words (w : World) (x : Nat) (hx : x < 256) : Calls Try.prog 25 #[.int .u8 (x : Int)] w (OneW w x) := by
  refine (one_any w x hx).mono ?_
  rintro e w' ⟨rfl, hb⟩
  obtain ⟨p0, p1, p2, p3, hp⟩ := isC_words _ (isC_with noneL x isC_none)
  exact ⟨p0, p1, p2, p3, hp, by rw [hp]; rfl, hb⟩
end Go.Proofs.Ytfmcjmkdlldlhaa

/-
  append onto a text that is full and is nobody's own ([]byte of a constant): the answer is new memory.
-/
import Derived.Test.YthegepiafodpjaaDoorBytes
import Derived.ArgAppend
namespace Go.Proofs.YthegepiafodpjaaDoor
open Go.RowKit

/-- append(s, l..) where the row of s is full. -/
theorem append_full {ops : Array Oper} {rest : List Oper} {o : Oper} {a : Act} {w : World} {Q : Exit → Act → World → Prop} (hgd : o.guard = none) (s x : Operand)
    (ho : o.op = .call { callee := .builtin .append, args := #[s, x], argTypes := #[91, 91] })
    (xs l : List Int) (b ad : Addr) (k n c : Nat) (hs : a.eval s = .slice (some b) k k) (hsb : SB w (.slice (some b) k k) xs) (hx : a.eval x = .slice (some ad) n c) (hb : SB w (.slice (some ad) n c) l) (h0 : 0 < n)
    (hsum : xs.length + n ≤ 140737488355328)
    (h : ∀ v' w', OwnB w' w.heap.size v' (xs ++ l) → Below w.heap.size w w' → wpList Tryd.prog ops Q rest (a.put o.dst v') w') :
    wpList Tryd.prog ops Q (o :: rest) a w := by
  obtain ⟨i0, hi, hz0, hz1, hz2⟩ := info_parts infoB
  obtain ⟨hn, hnews⟩ := hb.news
  obtain ⟨hk, holds⟩ := hsb.news
  refine wpList_append_grows w hgd s x 91 ho 5 i0 (.int .u8 0) 1 1 Tryd.underlying91 hi hz0 hz1 hz2 rfl (by decide) (some b) k k (xs.map (Value.int .u8)) hs (fun h => by cases h) (by rw [List.length_map, hk, Nat.mul_one]) (fun b' e => by cases e; exact holds) ad n c (l.map (Value.int .u8)) hx (by rw [List.length_map, hn, Nat.mul_one]) hnews (bytes_one l) (by omega) (by unfold maxLen; omega) (by omega) ?_
  intro v' w' hown hgrow
  refine h v' w' ?_ ⟨hgrow.os, hgrow.tape, hgrow.output, hgrow.size, fun k hk => hgrow.block k hk (by simp)⟩
  unfold OwnB
  rw [List.length_append, List.map_append, hk, hn]
  exact hown

/-- A text: of one's own, or full. -/
def TX (w : World) (base : Nat) (v : Value) (l : List Int) : Prop := OwnB w base v l ∨ ∃ b k, v = .slice (some b) k k ∧ SB w v l
theorem TX.below {w w' : World} {base : Nat} {v : Value} {l : List Int} (h : TX w base v l) (hb : Below w.heap.size w w') : TX w' base v l := by
  rcases h with h | ⟨b, k, rfl, h⟩
  · exact .inl (h.below hb)
  · exact .inr ⟨b, k, rfl, h.below hb⟩
/-- append(s, l..) onto a text. -/
theorem append_tx {ops : Array Oper} {rest : List Oper} {o : Oper} {a : Act} {w : World} {Q : Exit → Act → World → Prop} (hgd : o.guard = none) (s x : Operand)
    (ho : o.op = .call { callee := .builtin .append, args := #[s, x], argTypes := #[91, 91] })
    (base : Nat) (v : Value) (xs l : List Int) (ad : Addr) (n c : Nat) (hs : a.eval s = v) (ht : TX w base v xs) (hx : a.eval x = .slice (some ad) n c) (hb : SB w (.slice (some ad) n c) l) (h0 : 0 < n)
    (hsum : xs.length + n ≤ 140737488355328) (hbase : base ≤ w.heap.size)
    (h : ∀ v' w', OwnB w' base v' (xs ++ l) → Below base w w' → wpList Tryd.prog ops Q rest (a.put o.dst v') w') :
    wpList Tryd.prog ops Q (o :: rest) a w := by
  rcases ht with ht | ⟨b, k, rfl, ht⟩
  · exact append_sbp hgd s x ho base v xs l (some ad) n c hs ht hx (fun h => by cases h) hb hsum hbase fun v' w' h1 h2 => h v' w' h1 (h2.bel base w (Below.refl _ w) (Nat.le_refl _))
  · exact append_full hgd s x ho xs l b ad k n c hs ht hx hb h0 hsum fun v' w' h1 h2 => h v' w' (h1.mono hbase) (h2.mono hbase)
end Go.Proofs.YthegepiafodpjaaDoor

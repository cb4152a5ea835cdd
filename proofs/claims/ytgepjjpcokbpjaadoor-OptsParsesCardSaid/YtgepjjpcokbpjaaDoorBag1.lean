/-
  Bags of lists whose elements have one cell, of whatever type: what is written into them.
-/
import Derived.Test.YtgepjjpcokbpjaaDoorBag2
namespace Go.Proofs.YtgepjjpcokbpjaaDoor
open Go.RowKit

/-- append(l, x): one more element of one cell. -/
theorem append_1g {ops : Array Oper} {rest : List Oper} {o : Oper} {a : Act} {w : World} {Q : Exit → Act → World → Prop} (hgd : o.guard = none) (s x : Operand) (t e : TypeId) (z0 : Value) (by_ : Nat)
    (ho : o.op = .call { callee := .builtin .append, args := #[s, x], argTypes := #[t, t] }) (ht : Tryd.prog.underlying t = some (.slice e)) (hinfo : (Tryd.prog.info? e).map (fun i => (i.zero, i.size, i.bytes)) = some (some z0, 1, by_)) (hzs : z0.cells.size = 1)
    (base : Nat) (v : Value) (n : Nat) (us : List Value) (y : Value) (hs : a.eval s = v) (hown : w.ownsRow base e 1 v n us) (hx : a.eval x = .slice (some ⟨w.heap.size, 0, none⟩) 1 1) (hy : y.oneCell' = true) (hsum : (n + 1) * by_ ≤ 140737488355328) (hsum2 : n + 1 ≤ 140737488355328) (hbase : base ≤ w.heap.size)
    (h : ∀ v' w', w'.ownsRow base e 1 v' (n + 1) (us ++ [y]) → w'.ownsRow base e 1 v n us → AppPost w w' base v v' → wpList Tryd.prog ops Q rest (a.put o.dst v') w') :
    wpList Tryd.prog ops Q (o :: rest) a (w.alloc (.cells #[y] e)) := by
  obtain ⟨i0, hi, hz0, hz1, hz2⟩ := info_parts hinfo
  exact append_new hgd s x t e i0 z0 1 by_ ho ht hi hz0 hz1 hz2 hzs (by decide) base v n us hs hown 1 [y] #[y] rfl rfl (fun u hu => by simp at hu; subst hu; exact hy) hx (by unfold maxLen; omega) (by omega) hbase h

theorem own_some1 {w : World} {base n size : Nat} {e : TypeId} {v : Value} {us : List Value} (h : w.ownsRow base e size v n us) (hn : 0 < n) : ∃ g cap, v = .slice (some ⟨g, 0, none⟩) n cap ∧ n ≤ cap := by
  rcases h.2 with ⟨_, h0⟩ | ⟨g, cap, cur, rfl, _, _, hc, _⟩
  · omega
  · exact ⟨g, cap, rfl, hc⟩
theorem FrT.below1 {w wr w' : World} {base bg : Nat} {T : Nat → Prop} {fs : List Value} (h : FrT w wr base bg T) (hbag : BagAt w bg fs) (hb : Below wr.heap.size wr w') (hbase : base ≤ wr.heap.size) : FrT w w' base bg T :=
  ⟨(hb.block bg (h.at_ hbag).lt).trans h.bag, fun B w0 h0 hB => (h.bel B w0 h0 hB).trans (hb.mono (Nat.le_trans hB hbase)), Nat.le_trans h.size hb.size, h.lt, fun k hk => (hb.block k (Nat.lt_of_lt_of_le (h.lt k hk) h.size)).trans (h.kept k hk)⟩
section
variable (mk : Nat → Nat → List Value)
def half1 (n i : Nat) (len : Nat → Nat) (C : Nat → List Value) (k : Nat) : List Value := if k < n then marks mk k (len k) else if k = n then marks mk n i ++ (C n).drop i else C k
theorem half1_next (n : Nat) (len : Nat → Nat) (C : Nat → List Value) (hl : (C n).length = len n) : half1 mk n (len n) len C = half1 mk (n + 1) 0 len C := by
  funext k
  unfold half1
  by_cases h1 : k < n
  · rw [if_pos h1, if_pos (by omega)]
  · rw [if_neg h1]
    by_cases e : k = n
    · subst e
      rw [if_pos rfl, if_pos (by omega), List.drop_eq_nil_of_le (by omega), List.append_nil]
    · rw [if_neg e, if_neg (by omega)]
      by_cases e2 : k = n + 1
      · subst e2; rw [if_pos rfl]; rfl
      · rw [if_neg e2]
theorem half1_zero (len : Nat → Nat) (C : Nat → List Value) : half1 mk 0 0 len C = C := by
  funext k
  unfold half1
  rw [if_neg (Nat.not_lt_zero k)]
  by_cases e : k = 0
  · subst e; rw [if_pos rfl]; rfl
  · rw [if_neg e]
theorem half1_all (m : Nat) (len : Nat → Nat) (C : Nat → List Value) (k : Nat) (h : k < m) : half1 mk m 0 len C k = marks mk k (len k) := by unfold half1; rw [if_pos h]
theorem half1_set (hmk : ∀ k i, (mk k i).length = 1) (n i : Nat) (len : Nat → Nat) (C : Nat → List Value) (u : Value) (hi : i < len n) (hl : (C n).length = len n) (hm : mk n i = [u]) : (half1 mk n i len C n).set i u = half1 mk n (i + 1) len C n := by
  unfold half1
  rw [if_neg (Nat.lt_irrefl n), if_pos rfl, if_neg (Nat.lt_irrefl n), if_pos rfl, marks_succ, hm]
  have h1 : (marks mk n i).length = i := by rw [marks_len _ hmk n i, Nat.mul_one]
  rw [List.drop_eq_getElem_cons (by omega : i < (C n).length), List.set_append_right _ _ (by omega), h1, Nat.sub_self, List.set_cons_zero, List.append_assoc]
  rfl
theorem half1_other (n i : Nat) (len : Nat → Nat) (C : Nat → List Value) (k : Nat) (h : k ≠ n) : half1 mk n i len C k = half1 mk n (i + 1) len C k := by
  unfold half1
  by_cases h1 : k < n
  · rw [if_pos h1, if_pos h1]
  · rw [if_neg h1, if_neg h, if_neg h1, if_neg h]
end
/-- An element is written into list n. -/
theorem Bags.put1 {mk : Nat → Nat → List Value} (hmk : ∀ k i, (mk k i).length = 1) {E : TypeId} {w : World} {base m n i g cap : Nat} {vs : Nat → Value} {len : Nat → Nat} {C : Nat → List Value} {u : Value} (h : Bags w base E 1 m vs len (half1 mk n i len C)) (hn : n < m) (hv : vs n = .slice (some ⟨g, 0, none⟩) (len n) cap) (hi : i < len n) (hl : (C n).length = len n) (hm : mk n i = [u]) :
    Bags (w.setCell ⟨g, i, none⟩ u) base E 1 m vs len (half1 mk n (i + 1) len C) ∧ base ≤ g ∧ (∀ T, T ≠ E → KeepT T w (w.setCell ⟨g, i, none⟩ u)) ∧ (∀ (bg : Nat) (cs : Array Value) (T : TypeId), w.heap[bg]? = some (.cells cs T (0, 0)) → T ≠ E → g ≠ bg) := by
  have ho := h.own n hn
  rw [hv] at ho
  have hs1 := (ho.stored i u).1
  rw [half1_set mk hmk n i len C u hi hl hm] at hs1
  have hg : ∃ cur, w.heap[g]? = some (.cells cur E (0, 0)) ∧ base ≤ g := by
    rcases ho.2 with ⟨e, _⟩ | ⟨g', cap', cur, e, hb, hk, _⟩
    · simp at e
    · simp only [Value.slice.injEq, Option.some.injEq, Addr.mk.injEq, and_true, true_and] at e
      obtain ⟨rfl, rfl⟩ := e
      exact ⟨cur, hk, hb⟩
  obtain ⟨cur, hg, hb⟩ := hg
  have hne : ∀ (bg : Nat) (cs : Array Value) (T : TypeId), w.heap[bg]? = some (.cells cs T (0, 0)) → T ≠ E → g ≠ bg := fun bg cs T hk hT e => by
    subst e
    rw [hg] at hk
    simp only [Option.some.injEq, Obj.cells.injEq] at hk
    exact hT hk.2.1.symm
  refine ⟨⟨fun k hk => ?_, h.ap⟩, hb, fun T hT k cs hk => ?_, hne⟩
  · by_cases e : k = n
    · subst e; rw [hv]; exact hs1
    · rw [← half1_other mk n i len C k e]
      have hn2 : (vs k).ownBlock ≠ some g := fun e2 => h.ap k n hk hn e g e2 (by rw [hv]; rfl)
      exact ownsRow_setCell_other (h.own k hk) hn2 _
  · have hn2 := hne k cs T hk hT
    exact heap_setCell_other w ⟨g, i, none⟩ k _ (fun e => hn2 e.symm)
end Go.Proofs.YtgepjjpcokbpjaaDoor

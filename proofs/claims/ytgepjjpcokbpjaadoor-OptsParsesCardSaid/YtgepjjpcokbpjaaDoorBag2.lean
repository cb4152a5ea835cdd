/-
  Bags of lists whose elements have two cells, of whatever type: what is written into them, and the lists of lists.
-/
import Derived.Test.YtgepjjpcokbpjaaDoorBagB
namespace Go.Proofs.YtgepjjpcokbpjaaDoor
open Go.RowKit

/-- append(list, y): one more list, in a list of lists of any type. -/
theorem append_lg {ops : Array Oper} {rest : List Oper} {o : Oper} {a : Act} {w : World} {Q : Exit → Act → World → Prop} (hgd : o.guard = none) (s x : Operand) (t e : TypeId)
    (ho : o.op = .call { callee := .builtin .append, args := #[s, x], argTypes := #[t, t] }) (ht : Tryd.prog.underlying t = some (.slice e)) (hinfo : (Tryd.prog.info? e).map (fun i => (i.zero, i.size, i.bytes)) = some (some (.slice none 0 0), 1, 24))
    (base : Nat) (v : Value) (n : Nat) (us : List Value) (y : Value) (hs : a.eval s = v) (hown : w.ownsRow base e 1 v n us) (hx : a.eval x = .slice (some ⟨w.heap.size, 0, none⟩) 1 1) (hy : y.oneCell' = true) (hsum : n + 1 ≤ 5864062014805) (hbase : base ≤ w.heap.size)
    (h : ∀ v' w', w'.ownsRow base e 1 v' (n + 1) (us ++ [y]) → w'.ownsRow base e 1 v n us → AppPost w w' base v v' → wpList Tryd.prog ops Q rest (a.put o.dst v') w') :
    wpList Tryd.prog ops Q (o :: rest) a (w.alloc (.cells #[y] e)) := by
  obtain ⟨i0, hi, hz0, hz1, hz2⟩ := info_parts hinfo
  exact append_new hgd s x t e i0 (.slice none 0 0) 1 24 ho ht hi hz0 hz1 hz2 rfl (by decide) base v n us hs hown 1 [y] #[y] rfl rfl (fun u hu => by simp at hu; subst hu; exact hy) hx (by unfold maxLen; omega) (by omega) hbase h
/-- append(l, x): one more element of two cells. -/
theorem append_2g {ops : Array Oper} {rest : List Oper} {o : Oper} {a : Act} {w : World} {Q : Exit → Act → World → Prop} (hgd : o.guard = none) (s x : Operand) (t e : TypeId) (z0 z1 : Value) (by_ : Nat)
    (ho : o.op = .call { callee := .builtin .append, args := #[s, x], argTypes := #[t, t] }) (ht : Tryd.prog.underlying t = some (.slice e)) (hinfo : (Tryd.prog.info? e).map (fun i => (i.zero, i.size, i.bytes)) = some (some (.agg #[z0, z1]), 2, by_))
    (base : Nat) (v : Value) (n : Nat) (us : List Value) (y z : Value) (hs : a.eval s = v) (hown : w.ownsRow base e 2 v n us) (hx : a.eval x = .slice (some ⟨w.heap.size, 0, none⟩) 1 1) (hy : y.oneCell' = true ∧ z.oneCell' = true) (hsum : (n + 1) * by_ ≤ 140737488355328) (hsum2 : n + 1 ≤ 140737488355328) (hbase : base ≤ w.heap.size)
    (h : ∀ v' w', w'.ownsRow base e 2 v' (n + 1) (us ++ [y, z]) → w'.ownsRow base e 2 v n us → AppPost w w' base v v' → wpList Tryd.prog ops Q rest (a.put o.dst v') w') :
    wpList Tryd.prog ops Q (o :: rest) a (w.alloc (.cells #[y, z] e)) := by
  obtain ⟨i0, hi, hz0, hz1, hz2⟩ := info_parts hinfo
  exact append_new hgd s x t e i0 (.agg #[z0, z1]) 2 by_ ho ht hi hz0 hz1 hz2 rfl (by decide) base v n us hs hown 1 [y, z] #[y, z] rfl rfl (fun u hu => by
    simp only [List.mem_cons, List.not_mem_nil, or_false] at hu
    rcases hu with rfl | rfl
    · exact hy.1
    · exact hy.2) hx (by unfold maxLen; omega) (by omega) hbase h

/-! ### What the three lists of lists hold -/
structure LstG (T : TypeId) (w : World) (base : Nat) (bv ov mv : Value) (m p q : Nat) (vs ones mores : Nat → Value) : Prop where
  b : w.ownsRow base T 1 bv m (firstN vs m)
  o : w.ownsRow base T 1 ov p (firstN ones p)
  m : w.ownsRow base T 1 mv q (firstN mores q)
  bo : Apart ov bv
  bm : Apart mv bv
  om : Apart ov mv
section
variable {T : TypeId} {w w' : World} {base : Nat} {bv ov mv ov' mv' l : Value} {m p q : Nat} {vs ones mores : Nat → Value}
theorem LstG.keepT (h : LstG T w base bv ov mv m p q vs ones mores) (hk : KeepT T w w') : LstG T w' base bv ov mv m p q vs ones mores := { h with b := hk.own h.b, o := hk.own h.o, m := hk.own h.m }
theorem LstG.congr {ones' : Nat → Value} (h : LstG T w base bv ov mv m p q vs ones mores) (he : ∀ k, k < p → ones k = ones' k) : LstG T w base bv ov mv m p q vs ones' mores := { h with o := by rw [← firstN_congr he]; exact h.o }
theorem LstG.one (h : LstG T w base bv ov mv m p q vs ones mores) (ho : w'.ownsRow base T 1 ov' (p + 1) (firstN ones p ++ [l])) (hp : AppPost w w' base ov ov') : LstG T w' base bv ov' mv m (p + 1) q vs (fun k => if k = p then l else ones k) mores := by
  have h1 := hp.other base _ _ _ bv _ h.b h.bo
  have h2 := hp.other base _ _ _ mv _ h.m h.om
  exact ⟨h1.1, by rw [← firstN_snoc]; exact ho, h2.1, h1.2, h.bm, h2.2⟩
theorem LstG.more (h : LstG T w base bv ov mv m p q vs ones mores) (ho : w'.ownsRow base T 1 mv' (q + 1) (firstN mores q ++ [l])) (hp : AppPost w w' base mv mv') : LstG T w' base bv ov mv' m p (q + 1) vs ones (fun k => if k = q then l else mores k) := by
  have h1 := hp.other base _ _ _ bv _ h.b h.bm
  have h2 := hp.other base _ _ _ ov _ h.o h.om.symm
  exact ⟨h1.1, h2.1, by rw [← firstN_snoc]; exact ho, h.bo, h1.2, h2.2.symm⟩
end

/-! ### Lists of elements of two cells, written over place by place -/
section
variable (mk : Nat → Nat → List Value)
def half2 (n i : Nat) (len : Nat → Nat) (C : Nat → List Value) (k : Nat) : List Value := if k < n then marks mk k (len k) else if k = n then marks mk n i ++ (C n).drop (i * 2) else C k
theorem half2_next (n : Nat) (len : Nat → Nat) (C : Nat → List Value) (hl : (C n).length = len n * 2) : half2 mk n (len n) len C = half2 mk (n + 1) 0 len C := by
  funext k
  unfold half2
  by_cases h1 : k < n
  · rw [if_pos h1, if_pos (by omega)]
  · rw [if_neg h1]
    by_cases e : k = n
    · subst e
      rw [if_pos rfl, if_pos (by omega), List.drop_eq_nil_of_le (by omega), List.append_nil]
    · rw [if_neg e, if_neg (by omega)]
      by_cases e2 : k = n + 1
      · subst e2; rw [if_pos rfl]; rfl
      · rw [if_neg e2]
theorem half2_zero (len : Nat → Nat) (C : Nat → List Value) : half2 mk 0 0 len C = C := by
  funext k
  unfold half2
  rw [if_neg (Nat.not_lt_zero k)]
  by_cases e : k = 0
  · subst e; rw [if_pos rfl]; rfl
  · rw [if_neg e]
theorem half2_all (m : Nat) (len : Nat → Nat) (C : Nat → List Value) (k : Nat) (h : k < m) : half2 mk m 0 len C k = marks mk k (len k) := by unfold half2; rw [if_pos h]
theorem set_two2 (a b : List Value) (x y u v : Value) : ((a ++ x :: y :: b).set a.length u).set (a.length + 1) v = a ++ u :: v :: b := by
  rw [List.set_append_right _ _ (Nat.le_refl _), Nat.sub_self, List.set_append_right _ _ (by omega), Nat.add_sub_cancel_left]
  rfl
theorem half2_set (hmk : ∀ k i, (mk k i).length = 2) (n i : Nat) (len : Nat → Nat) (C : Nat → List Value) (u v : Value) (hi : i < len n) (hl : (C n).length = len n * 2) (hm : mk n i = [u, v]) : ((half2 mk n i len C n).set (i * 2) u).set (i * 2 + 1) v = half2 mk n (i + 1) len C n := by
  unfold half2
  rw [if_neg (Nat.lt_irrefl n), if_pos rfl, if_neg (Nat.lt_irrefl n), if_pos rfl, marks_succ, hm]
  have h1 : (marks mk n i).length = i * 2 := marks_len _ hmk n i
  obtain ⟨x, y, hd⟩ : ∃ x y, (C n).drop (i * 2) = x :: y :: (C n).drop ((i + 1) * 2) :=
    ⟨(C n)[i * 2]'(by omega), (C n)[i * 2 + 1]'(by omega), by rw [List.drop_eq_getElem_cons (by omega), List.drop_eq_getElem_cons (by omega), show (i + 1) * 2 = i * 2 + 1 + 1 by omega]⟩
  rw [hd, ← h1, set_two2, List.append_assoc]
  rfl
theorem half2_other (n i : Nat) (len : Nat → Nat) (C : Nat → List Value) (k : Nat) (h : k ≠ n) : half2 mk n i len C k = half2 mk n (i + 1) len C k := by
  unfold half2
  by_cases h1 : k < n
  · rw [if_pos h1, if_pos h1]
  · rw [if_neg h1, if_neg h, if_neg h1, if_neg h]
end
/-- An element is written into list n: the bag's lists behind it, and all blocks of another type stay. -/
theorem Bags.put2 {mk : Nat → Nat → List Value} (hmk : ∀ k i, (mk k i).length = 2) {E : TypeId} {w : World} {base m n i g cap : Nat} {vs : Nat → Value} {len : Nat → Nat} {C : Nat → List Value} {u v : Value} (h : Bags w base E 2 m vs len (half2 mk n i len C)) (hn : n < m) (hv : vs n = .slice (some ⟨g, 0, none⟩) (len n) cap) (hi : i < len n) (hl : (C n).length = len n * 2) (hm : mk n i = [u, v]) :
    Bags ((w.setCell ⟨g, i * 2, none⟩ u).setCell ⟨g, i * 2 + 1, none⟩ v) base E 2 m vs len (half2 mk n (i + 1) len C) ∧ base ≤ g ∧ (∀ T, T ≠ E → KeepT T w ((w.setCell ⟨g, i * 2, none⟩ u).setCell ⟨g, i * 2 + 1, none⟩ v)) ∧ (∀ (bg : Nat) (cs : Array Value) (T : TypeId), w.heap[bg]? = some (.cells cs T (0, 0)) → T ≠ E → g ≠ bg) := by
  have ho := h.own n hn
  rw [hv] at ho
  have hs1 := (ho.stored (i * 2) u).1
  have hs2 := (hs1.stored (i * 2 + 1) v).1
  rw [half2_set mk hmk n i len C u v hi hl hm] at hs2
  have hg : ∃ cur, w.heap[g]? = some (.cells cur E (0, 0)) ∧ base ≤ g := by
    rcases ho.2 with ⟨e, _⟩ | ⟨g', cap', cur, e, hb, hk, _⟩
    · simp at e
    · simp only [Value.slice.injEq, Option.some.injEq, Addr.mk.injEq, and_true, true_and] at e
      obtain ⟨rfl, rfl⟩ := e
      exact ⟨cur, hk, hb⟩
  obtain ⟨cur, hg, hb⟩ := hg
  have hne : ∀ (bg : Nat) (cs : Array Value) (T : TypeId), w.heap[bg]? = some (.cells cs T (0, 0)) → T ≠ E → g ≠ bg := fun bg cs T hk hT e => by
    subst e
    rw [hg] at hk
    simp only [Option.some.injEq, Obj.cells.injEq] at hk
    exact hT hk.2.1.symm
  refine ⟨⟨fun k hk => ?_, h.ap⟩, hb, fun T hT k cs hk => ?_, hne⟩
  · by_cases e : k = n
    · subst e; rw [hv]; exact hs2
    · rw [← half2_other mk n i len C k e]
      have hn2 : (vs k).ownBlock ≠ some g := fun e2 => h.ap k n hk hn e g e2 (by rw [hv]; rfl)
      exact ownsRow_setCell_other (ownsRow_setCell_other (h.own k hk) hn2 _) hn2 _
  · have hn2 := hne k cs T hk hT
    exact (heap_setCell_other _ ⟨g, i * 2 + 1, none⟩ k _ (fun e => hn2 e.symm)).trans (heap_setCell_other w ⟨g, i * 2, none⟩ k _ (fun e => hn2 e.symm))
end Go.Proofs.YtgepjjpcokbpjaaDoor

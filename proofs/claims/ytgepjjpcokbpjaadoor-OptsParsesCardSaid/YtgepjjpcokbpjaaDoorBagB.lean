/-
  galleyref00.Bag: AddBytes, apartBytes, Apart, where bytes alone were gathered.
-/
import Derived.Test.YtgepjjpcokbpjaaDoorBagM
import Derived.Test.YtgepjjpcokbpjaaDoorBagNil
import Derived.Laws.OwnMore
namespace Go.Proofs.YtgepjjpcokbpjaaDoor
open Go.RowKit

theorem infoL : (Tryd.prog.info? 61).map (fun i => (i.zero, i.size, i.bytes)) = some (some (.slice none 0 0), 1, 24) := by kernel_rfl

/-- append(list, y): one more element of a list of lists of bytes. -/
theorem append_l1 {ops : Array Oper} {rest : List Oper} {o : Oper} {a : Act} {w : World} {Q : Exit → Act → World → Prop} (hgd : o.guard = none) (s x : Operand)
    (ho : o.op = .call { callee := .builtin .append, args := #[s, x], argTypes := #[35, 35] })
    (base : Nat) (v : Value) (n : Nat) (us : List Value) (y : Value) (hs : a.eval s = v) (hown : w.ownsRow base 61 1 v n us) (hx : a.eval x = .slice (some ⟨w.heap.size, 0, none⟩) 1 1) (hy : y.oneCell' = true) (hsum : n + 1 ≤ 5864062014805) (hbase : base ≤ w.heap.size)
    (h : ∀ v' w', w'.ownsRow base 61 1 v' (n + 1) (us ++ [y]) → w'.ownsRow base 61 1 v n us → AppPost w w' base v v' → wpList Tryd.prog ops Q rest (a.put o.dst v') w') :
    wpList Tryd.prog ops Q (o :: rest) a (w.alloc (.cells #[y] 61)) := by
  obtain ⟨i0, hi, hz0, hz1, hz2⟩ := info_parts infoL
  exact append_new hgd s x 35 61 i0 (.slice none 0 0) 1 24 ho Tryd.underlying35 hi hz0 hz1 hz2 rfl (by decide) base v n us hs hown 1 [y] #[y] rfl rfl (fun u hu => by simp at hu; subst hu; exact hy) hx (by unfold maxLen; omega) (by omega) hbase h
/-- append(l, y): one more byte; the old list stays. -/
theorem append_u1 {ops : Array Oper} {rest : List Oper} {o : Oper} {a : Act} {w : World} {Q : Exit → Act → World → Prop} (hgd : o.guard = none) (s x : Operand)
    (ho : o.op = .call { callee := .builtin .append, args := #[s, x], argTypes := #[61, 61] })
    (base : Nat) (v : Value) (n : Nat) (us : List Value) (y : Int) (hs : a.eval s = v) (hown : w.ownsRow base 5 1 v n us) (hx : a.eval x = .slice (some ⟨w.heap.size, 0, none⟩) 1 1) (hsum : n + 1 ≤ 140737488355328) (hbase : base ≤ w.heap.size)
    (h : ∀ v' w', w'.ownsRow base 5 1 v' (n + 1) (us ++ [.int .u8 y]) → w'.ownsRow base 5 1 v n us → AppPost w w' base v v' → wpList Tryd.prog ops Q rest (a.put o.dst v') w') :
    wpList Tryd.prog ops Q (o :: rest) a (w.alloc (.cells #[.int .u8 y] 5)) := by
  obtain ⟨i0, hi, hz0, hz1, hz2⟩ := info_parts infoB
  exact append_new hgd s x 61 5 i0 (.int .u8 0) 1 1 ho Tryd.underlying61 hi hz0 hz1 hz2 rfl (by decide) base v n us hs hown 1 [.int .u8 y] #[.int .u8 y] rfl rfl (fun u hu => by simp at hu; subst hu; rfl) hx (by unfold maxLen; omega) (by omega) hbase h

/-- The block of a bag: its lists' heads. -/
def BagAt (w : World) (bg : Nat) (fs : List Value) : Prop := w.heap[bg]? = some (.cells fs.toArray 55 (0, 0))
theorem BagAt.lt {w : World} {bg : Nat} {fs : List Value} (h : BagAt w bg fs) : bg < w.heap.size := (Array.getElem?_eq_some_iff.1 h).1
theorem BagAt.cell {w : World} {bg : Nat} {fs : List Value} (h : BagAt w bg fs) (i : Nat) : w.cell? ⟨bg, i, none⟩ = fs[i]? := by
  rw [cell_of_row w bg i _ _ (0, 0) h]; simp
theorem BagAt.frozen {w : World} {bg : Nat} {fs : List Value} (h : BagAt w bg fs) (i : Nat) : w.frozen? ⟨bg, i, none⟩ = false := frozen_of_row w bg i _ _ h
theorem BagAt.set {w : World} {bg : Nat} {fs : List Value} (h : BagAt w bg fs) (i : Nat) (v : Value) : BagAt (w.setCell ⟨bg, i, none⟩ v) bg (fs.set i v) := by
  unfold BagAt
  rw [heap_setCell_same w bg i _ _ v h]
  simp
theorem BagAt.keepT {w w' : World} {bg : Nat} {fs : List Value} (h : BagAt w bg fs) (hk : KeepT 55 w w') : BagAt w' bg fs := (hk bg _ h).trans h
theorem keepT_bag {e : TypeId} {w : World} {bg i : Nat} {fs : List Value} (h : BagAt w bg fs) (hne : e ≠ 55) (u : Value) : KeepT e w (w.setCell ⟨bg, i, none⟩ u) := fun k cur hk =>
  heap_setCell_other w ⟨bg, i, none⟩ k u fun e2 => by
    simp only at e2
    subst e2
    unfold BagAt at h
    rw [hk] at h
    simp only [Option.some.injEq, Obj.cells.injEq] at h
    exact hne h.2.1
theorem neUL : (5 : TypeId) ≠ 61 := by decide
theorem neUG : (5 : TypeId) ≠ 55 := by decide
theorem neLG : (61 : TypeId) ≠ 55 := by decide

/-! ### What the three lists of lists hold -/
structure Lst (w : World) (base : Nat) (bv ov mv : Value) (m p q : Nat) (vs ones mores : Nat → Value) : Prop where
  b : w.ownsRow base 61 1 bv m (firstN vs m)
  o : w.ownsRow base 61 1 ov p (firstN ones p)
  m : w.ownsRow base 61 1 mv q (firstN mores q)
  bo : Apart ov bv
  bm : Apart mv bv
  om : Apart ov mv
section
variable {w w' : World} {base : Nat} {bv ov mv ov' mv' l : Value} {m p q : Nat} {vs ones mores : Nat → Value}
theorem Lst.keepT (h : Lst w base bv ov mv m p q vs ones mores) (hk : KeepT 61 w w') : Lst w' base bv ov mv m p q vs ones mores := { h with b := hk.own h.b, o := hk.own h.o, m := hk.own h.m }
theorem Lst.congr {ones' : Nat → Value} (h : Lst w base bv ov mv m p q vs ones mores) (he : ∀ k, k < p → ones k = ones' k) : Lst w base bv ov mv m p q vs ones' mores := { h with o := by rw [← firstN_congr he]; exact h.o }
theorem Lst.one (h : Lst w base bv ov mv m p q vs ones mores) (ho : w'.ownsRow base 61 1 ov' (p + 1) (firstN ones p ++ [l])) (hp : AppPost w w' base ov ov') : Lst w' base bv ov' mv m (p + 1) q vs (fun k => if k = p then l else ones k) mores := by
  have h1 := hp.other base _ _ _ bv _ h.b h.bo
  have h2 := hp.other base _ _ _ mv _ h.m h.om
  exact ⟨h1.1, by rw [← firstN_snoc]; exact ho, h2.1, h1.2, h.bm, h2.2⟩
theorem Lst.more (h : Lst w base bv ov mv m p q vs ones mores) (ho : w'.ownsRow base 61 1 mv' (q + 1) (firstN mores q ++ [l])) (hp : AppPost w w' base mv mv') : Lst w' base bv ov mv' m p (q + 1) vs ones (fun k => if k = q then l else mores k) := by
  have h1 := hp.other base _ _ _ bv _ h.b h.bm
  have h2 := hp.other base _ _ _ ov _ h.o h.om.symm
  exact ⟨h1.1, h2.1, by rw [← firstN_snoc]; exact ho, h.bo, h1.2, h2.2.symm⟩
end

/-- What stays while a bag is looked at. -/
structure Fr (w wr : World) (base bg : Nat) : Prop where
  bag : wr.heap[bg]? = w.heap[bg]?
  bel : ∀ B w0, Below B w0 w → B ≤ base → Below B w0 wr
  size : w.heap.size ≤ wr.heap.size
theorem Fr.refl (w : World) (base bg : Nat) : Fr w w base bg := ⟨rfl, fun _ _ h _ => h, Nat.le_refl _⟩
theorem Fr.at_ {w wr : World} {base bg : Nat} {fs : List Value} (h : Fr w wr base bg) (hb : BagAt w bg fs) : BagAt wr bg fs := h.bag.trans hb
theorem Fr.app {w wr w' : World} {base bg b2 s n : Nat} {e : TypeId} {v v' : Value} {xs fs : List Value} (h : Fr w wr base bg) (hb : BagAt w bg fs) (hv : wr.ownsRow b2 e s v n xs) (hne : e ≠ 55) (hp : AppPost wr w' base v v') : Fr w w' base bg :=
  ⟨((KeepT.of_app hv hp hne) bg _ (h.at_ hb)).trans h.bag, fun B w0 h0 hB => hp.bel B w0 (h.bel B w0 h0 hB) hB, Nat.le_trans h.size hp.size⟩
theorem Fr.cell {w wr : World} {base bg g i : Nat} (h : Fr w wr base bg) (hg : base ≤ g) (hne : g ≠ bg) (u : Value) : Fr w (wr.setCell ⟨g, i, none⟩ u) base bg :=
  ⟨(heap_setCell_other wr ⟨g, i, none⟩ bg u (fun e => hne e.symm)).trans h.bag, fun B w0 h0 hB => (h.bel B w0 h0 hB).setCell (by show B ≤ g; omega) u, by simpa using h.size⟩

/-- The same, with other blocks that stay. -/
structure FrT (w wr : World) (base bg : Nat) (T : Nat → Prop) : Prop where
  bag : wr.heap[bg]? = w.heap[bg]?
  bel : ∀ B w0, Below B w0 w → B ≤ base → Below B w0 wr
  size : w.heap.size ≤ wr.heap.size
  lt : ∀ k, T k → k < w.heap.size
  kept : ∀ k, T k → wr.heap[k]? = w.heap[k]?
theorem FrT.fr {w wr : World} {base bg : Nat} {T : Nat → Prop} (h : FrT w wr base bg T) : Fr w wr base bg := ⟨h.bag, h.bel, h.size⟩
theorem FrT.refl (w : World) (base bg : Nat) (T : Nat → Prop) (hT : ∀ k, T k → k < w.heap.size) : FrT w w base bg T := ⟨rfl, fun _ _ h _ => h, Nat.le_refl _, hT, fun _ _ => rfl⟩
theorem FrT.at_ {w wr : World} {base bg : Nat} {T : Nat → Prop} {fs : List Value} (h : FrT w wr base bg T) (hb : BagAt w bg fs) : BagAt wr bg fs := h.bag.trans hb
/-- A list lies in none of these blocks. -/
def FarT (T : Nat → Prop) (v : Value) : Prop := ∀ k, T k → v.ownBlock ≠ some k
theorem FarT.nil (T : Nat → Prop) : FarT T (.slice none 0 0) := fun k _ h => by simp [Value.ownBlock] at h
theorem FarT.app {T : Nat → Prop} {w wr w' : World} {base bg b2 : Nat} {v v' : Value} (h : FarT T v) (hF : FrT w wr base bg T) (hp : AppPost wr w' b2 v v') : FarT T v' := fun k hk e => by
  rcases hp.new k e with e | e
  · exact h k hk e
  · have := hF.lt k hk; have := hF.size; omega
theorem FrT.app {w wr w' : World} {base bg b2 s n : Nat} {T : Nat → Prop} {e : TypeId} {v v' : Value} {xs fs : List Value} (h : FrT w wr base bg T) (hb : BagAt w bg fs) (hv : wr.ownsRow b2 e s v n xs) (hne : e ≠ 55) (hp : AppPost wr w' base v v') (hT : FarT T v) : FrT w w' base bg T :=
  ⟨((KeepT.of_app hv hp hne) bg _ (h.at_ hb)).trans h.bag, fun B w0 h0 hB => hp.bel B w0 (h.bel B w0 h0 hB) hB, Nat.le_trans h.size hp.size, h.lt, fun k hk => (hp.block k (Nat.lt_of_lt_of_le (h.lt k hk) h.size) (hT k hk)).trans (h.kept k hk)⟩
theorem FrT.cell {w wr : World} {base bg g i : Nat} {T : Nat → Prop} (h : FrT w wr base bg T) (hg : base ≤ g) (hne : g ≠ bg) (u : Value) (hT : ¬ T g) : FrT w (wr.setCell ⟨g, i, none⟩ u) base bg T :=
  ⟨(heap_setCell_other wr ⟨g, i, none⟩ bg u (fun e => hne e.symm)).trans h.bag, fun B w0 h0 hB => (h.bel B w0 h0 hB).setCell (by show B ≤ g; omega) u, by simpa using h.size, h.lt, fun k hk => (heap_setCell_other wr ⟨g, i, none⟩ k u (fun e => hT (by have e : k = g := e; rw [← e]; exact hk))).trans (h.kept k hk)⟩

/-- The mark of a byte. -/
def mkB (n i : Nat) : Int := IntKind.u8.wrap (31 * (n : Int) + 7 * (i : Int) + 3)
def mkBs (n i : Nat) : List Value := [.int .u8 (mkB n i)]
theorem mkBs_len (n i : Nat) : (mkBs n i).length = 1 := rfl
theorem mkB_at (n q i : Nat) (h : i < q) : (marks mkBs n q)[i]? = some (.int .u8 (mkB n i)) := by
  have := marks_at mkBs mkBs_len n q i 0 h Nat.one_pos
  simpa [mkBs] using this
/-- The contents while list n is being written, i elements of it. -/
def half (n i : Nat) (len : Nat → Nat) (C : Nat → List Value) (k : Nat) : List Value := if k < n then marks mkBs k (len k) else if k = n then marks mkBs n i ++ (C n).drop i else C k
theorem half_next (n : Nat) (len : Nat → Nat) (C : Nat → List Value) (hl : (C n).length = len n) : half n (len n) len C = half (n + 1) 0 len C := by
  funext k
  unfold half
  by_cases h1 : k < n
  · rw [if_pos h1, if_pos (by omega)]
  · rw [if_neg h1]
    by_cases h2 : k = n
    · subst h2
      rw [if_pos rfl, if_pos (by omega), List.drop_of_length_le (by omega), List.append_nil]
    · rw [if_neg h2, if_neg (by omega)]
      by_cases h3 : k = n + 1
      · subst h3; rw [if_pos rfl]; rfl
      · rw [if_neg h3]
theorem half_zero (len : Nat → Nat) (C : Nat → List Value) : half 0 0 len C = C := by
  funext k
  unfold half
  rw [if_neg (by omega)]
  split
  · subst_vars; rfl
  · rfl
theorem half_self (n i : Nat) (len : Nat → Nat) (C : Nat → List Value) : half n i len C n = marks mkBs n i ++ (C n).drop i := by unfold half; rw [if_neg (by omega), if_pos rfl]
theorem half_set (n i : Nat) (len : Nat → Nat) (C : Nat → List Value) (hi : i < (C n).length) : (half n i len C n).set i (.int .u8 (mkB n i)) = half n (i + 1) len C n := by
  rw [half_self, half_self, marks_succ, List.set_append, marks_len mkBs mkBs_len]
  rw [if_neg (by omega), Nat.mul_one, Nat.sub_self, List.drop_eq_getElem_cons hi, List.set_cons_zero, List.append_assoc]
  rfl
theorem half_other (n i : Nat) (len : Nat → Nat) (C : Nat → List Value) (k : Nat) (h : k ≠ n) : half n i len C k = half n (i + 1) len C k := by
  unfold half
  by_cases h1 : k < n
  · rw [if_pos h1, if_pos h1]
  · rw [if_neg h1, if_neg h1, if_neg h, if_neg h]
theorem half_all (m : Nat) (len : Nat → Nat) (C : Nat → List Value) (k : Nat) (h : k < m) : half m 0 len C k = marks mkBs k (len k) := by unfold half; rw [if_pos h]
/-- A byte is written into list n. -/
theorem Bags.put {w : World} {base m n i g cap : Nat} {vs : Nat → Value} {len : Nat → Nat} {C : Nat → List Value} (h : Bags w base 5 1 m vs len (half n i len C)) (hn : n < m) (hv : vs n = .slice (some ⟨g, 0, none⟩) (len n) cap) (hi : i < (C n).length) :
    Bags (w.setCell ⟨g, i, none⟩ (.int .u8 (mkB n i))) base 5 1 m vs len (half n (i + 1) len C) := by
  have h0 := h.own n hn
  rw [hv] at h0
  obtain ⟨h1, h2⟩ := World.ownsRow.stored h0 i (.int .u8 (mkB n i))
  rw [half_set n i len C hi, ← hv] at h1
  refine ⟨fun k hk => ?_, h.ap⟩
  by_cases e : k = n
  · subst e; exact h1
  · rw [← half_other n i len C k e]
    refine World.ownsRow.kept (h.own k hk) h2 ?_
    by_cases hb : (vs k).ownBlock = some g
    · exact absurd (by rw [hv]; rfl) (h.ap k n hk hn e g hb)
    · exact .inr hb
theorem Bags.keep_lists {w : World} {base m n i g cap : Nat} {vs : Nat → Value} {len : Nat → Nat} {C : Nat → List Value} (h : Bags w base 5 1 m vs len C) (hn : n < m) (hv : vs n = .slice (some ⟨g, 0, none⟩) (len n) cap) (u : Value) : KeepT 61 w (w.setCell ⟨g, i, none⟩ u) ∧ base ≤ g ∧ (∀ fs bg, BagAt w bg fs → g ≠ bg) := by
  have h0 := h.own n hn
  rw [hv] at h0
  rcases h0.2 with ⟨h1, _⟩ | ⟨g', cap', cur, h1, hb, hg, _⟩
  · simp at h1
  · simp only [Value.slice.injEq, Option.some.injEq, Addr.mk.injEq, and_true, true_and] at h1
    obtain ⟨rfl, rfl⟩ := h1
    refine ⟨fun k cur' hk => heap_setCell_other w ⟨g, i, none⟩ k u (fun e => ?_), hb, fun fs bg hbg e => ?_⟩
    · simp only at e
      subst e
      rw [hg] at hk
      simp only [Option.some.injEq, Obj.cells.injEq] at hk
      exact neUL hk.2.1
    · subst e
      unfold BagAt at hbg
      rw [hg] at hbg
      simp only [Option.some.injEq, Obj.cells.injEq] at hbg
      exact neUG hbg.2.1

theorem row_cell {w : World} {base n cap g : Nat} {e : TypeId} {us : List Value} (h : w.ownsRow base e 1 (.slice (some ⟨g, 0, none⟩) n cap) n us) (k : Nat) (hk : k < n) : w.cell? ⟨g, k, none⟩ = us[k]? := World.ownsRow.cellAt h k (by omega)
theorem own_some {w : World} {base n : Nat} {e : TypeId} {v : Value} {us : List Value} (h : w.ownsRow base e 1 v n us) (hn : 0 < n) : ∃ g cap, v = .slice (some ⟨g, 0, none⟩) n cap ∧ n ≤ cap := by
  rcases h.2 with ⟨_, h0⟩ | ⟨g, cap, cur, rfl, _, _, hc, _⟩
  · omega
  · exact ⟨g, cap, rfl, hc⟩
end Go.Proofs.YtgepjjpcokbpjaaDoor

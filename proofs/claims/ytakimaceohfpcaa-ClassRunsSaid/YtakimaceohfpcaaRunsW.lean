/-
  Lists of runs that are written over and grown: what ClassRuns' walk needs.
-/
import Derived.Test.YtakimaceohfpcaaRefRuns
import Derived.Test.YtakimaceohfpcaaBagM
namespace Go.Proofs.Ytakimaceohfpcaa
open Go.RowKit

abbrev TR4 : TypeId := 28
/-- Four values in a block. -/
def Arr4 (w : World) (g : Nat) (f : Nat → Value) : Prop := w.heap[g]? = some (.cells #[f 0, f 1, f 2, f 3] TR4 (0, 0))
theorem Arr4.lt {w : World} {g : Nat} {f : Nat → Value} (h : Arr4 w g f) : g < w.heap.size := (Array.getElem?_eq_some_iff.1 h).1
theorem Arr4.cell {w : World} {g : Nat} {f : Nat → Value} (h : Arr4 w g f) (k : Nat) (hk : k < 4) : w.cell? ⟨g, k, none⟩ = some (f k) := by
  rw [cell_of_row w g k _ _ (0, 0) h]
  rcases (by omega : k = 0 ∨ k = 1 ∨ k = 2 ∨ k = 3) with rfl | rfl | rfl | rfl <;> rfl
theorem Arr4.frozen {w : World} {g : Nat} {f : Nat → Value} (h : Arr4 w g f) (k : Nat) : w.frozen? ⟨g, k, none⟩ = false := frozen_of_row w g k _ _ h
def put4 (f : Nat → Value) (k : Nat) (v : Value) (j : Nat) : Value := if j = k then v else f j
theorem Arr4.set {w : World} {g : Nat} {f : Nat → Value} (h : Arr4 w g f) (k : Nat) (hk : k < 4) (v : Value) : Arr4 (w.setCell ⟨g, k, none⟩ v) g (put4 f k v) := by
  unfold Arr4
  rw [heap_setCell_same w g k _ _ v h]
  rcases (by omega : k = 0 ∨ k = 1 ∨ k = 2 ∨ k = 3) with rfl | rfl | rfl | rfl <;> rfl
theorem Arr4.keep {w w' : World} {g : Nat} {f : Nat → Value} (h : Arr4 w g f) (hk : w'.heap[g]? = w.heap[g]?) : Arr4 w' g f := hk.trans h
theorem Arr4.below {w w' : World} {g : Nat} {f : Nat → Value} (h : Arr4 w g f) (hb : Below w.heap.size w w') : Arr4 w' g f := h.keep (hb.block g h.lt)
theorem Arr4.congr {w : World} {g : Nat} {f f' : Nat → Value} (h : Arr4 w g f) (e : ∀ k, k < 4 → f k = f' k) : Arr4 w g f' := by
  unfold Arr4 at h ⊢
  rw [← e 0 (by omega), ← e 1 (by omega), ← e 2 (by omega), ← e 3 (by omega)]; exact h
theorem own_not4 {w : World} {base g n : Nat} {v : Value} {xs : List Value} {f : Nat → Value} (h : w.ownsRow base 31 2 v n xs) (hg : Arr4 w g f) : v.ownBlock ≠ some g := by
  rcases h.2 with ⟨rfl, _⟩ | ⟨k, cap, cur, rfl, _, hk, _⟩
  · simp [Value.ownBlock]
  · intro e
    obtain rfl : k = g := by simpa [Value.ownBlock] using e
    rw [show w.heap[k]? = _ from hg] at hk
    simp only [Option.some.injEq, Obj.cells.injEq] at hk
    exact absurd hk.2.1 (by decide)

/-- What is written into list k at place i. -/
def mkR (len : Nat → Nat) (k i : Nat) : List Value := [.int .u8 (k : Int), .int .u8 (if i < len k then 77 else 78)]
theorem mkR_len (len : Nat → Nat) (k i : Nat) : (mkR len k i).length = 2 := rfl
theorem mkR_lo (len : Nat → Nat) (k i : Nat) (h : i < len k) : mkR len k i = [.int .u8 (k : Int), .int .u8 77] := by unfold mkR; rw [if_pos h]
theorem mkR_hi (len : Nat → Nat) (k i : Nat) (h : ¬ i < len k) : mkR len k i = [.int .u8 (k : Int), .int .u8 78] := by unfold mkR; rw [if_neg h]
def halfR (len : Nat → Nat) (C : Nat → List Value) (n i k : Nat) : List Value := if k < n then marks (mkR len) k (len k) else if k = n then marks (mkR len) n i ++ (C n).drop (i * 2) else C k
theorem halfR_zero (len : Nat → Nat) (C : Nat → List Value) : halfR len C 0 0 = C := by
  funext k
  unfold halfR
  rw [if_neg (Nat.not_lt_zero k)]
  by_cases e : k = 0
  · subst e; rw [if_pos rfl]; rfl
  · rw [if_neg e]
theorem halfR_next (len : Nat → Nat) (C : Nat → List Value) (n : Nat) (hl : (C n).length = len n * 2) : halfR len C n (len n) = halfR len C (n + 1) 0 := by
  funext k
  unfold halfR
  by_cases h1 : k < n
  · rw [if_pos h1, if_pos (by omega)]
  · rw [if_neg h1]
    by_cases e : k = n
    · subst e
      rw [if_pos rfl, if_pos (by omega), List.drop_eq_nil_of_le (by omega), List.append_nil]
    · rw [if_neg e, if_neg (by omega)]
      by_cases e2 : k = n + 1
      · subst e2; rw [if_pos rfl]; rfl
      · rw [if_neg e2]
theorem halfR_all (len : Nat → Nat) (C : Nat → List Value) (m k : Nat) (h : k < m) : halfR len C m 0 k = marks (mkR len) k (len k) := by unfold halfR; rw [if_pos h]
theorem set_two (a b : List Value) (x y u v : Value) : ((a ++ x :: y :: b).set a.length u).set (a.length + 1) v = a ++ u :: v :: b := by
  rw [List.set_append_right _ _ (Nat.le_refl _), Nat.sub_self, List.set_append_right _ _ (by omega), Nat.add_sub_cancel_left]
  rfl
theorem halfR_set (len : Nat → Nat) (C : Nat → List Value) (n i : Nat) (hi : i < len n) (hl : (C n).length = len n * 2) : ((halfR len C n i n).set (i * 2) (.int .u8 (n : Int))).set (i * 2 + 1) (.int .u8 77) = halfR len C n (i + 1) n := by
  unfold halfR
  rw [if_neg (Nat.lt_irrefl n), if_pos rfl, if_neg (Nat.lt_irrefl n), if_pos rfl, marks_succ, mkR_lo _ _ _ hi]
  have h1 : (marks (mkR len) n i).length = i * 2 := marks_len _ (mkR_len len) n i
  obtain ⟨x, y, hd⟩ : ∃ x y, (C n).drop (i * 2) = x :: y :: (C n).drop ((i + 1) * 2) :=
    ⟨(C n)[i * 2]'(by omega), (C n)[i * 2 + 1]'(by omega), by rw [List.drop_eq_getElem_cons (by omega), List.drop_eq_getElem_cons (by omega), show (i + 1) * 2 = i * 2 + 1 + 1 by omega]⟩
  rw [hd, ← h1, set_two, List.append_assoc]
  rfl
theorem halfR_other (len : Nat → Nat) (C : Nat → List Value) (n i k : Nat) (h : k ≠ n) : halfR len C n i k = halfR len C n (i + 1) k := by
  unfold halfR
  by_cases h1 : k < n
  · rw [if_pos h1, if_pos h1]
  · rw [if_neg h1, if_neg h, if_neg h1, if_neg h]
/-- All that lies there, while the lists are written over. -/
structure R1 (W w : World) (b2 g : Nat) (c : List Nat) (vs : Nat → Value) (len : Nat → Nat) (vw : Value) (rw_ : List (Nat × Nat)) (C : Nat → List Value) : Prop where
  bel : Below W.heap.size W w
  le : W.heap.size ≤ b2 ∧ W.heap.size ≤ g
  a2 : Arr64 w b2 24 c
  arr : Arr4 w g vs
  b : Bags w W.heap.size 31 2 4 vs len C
  want : OwnRn w W.heap.size vw rw_
  apw : ∀ j, j < 4 → Apart (vs j) vw
section
variable {W w w' : World} {b2 g : Nat} {c : List Nat} {vs : Nat → Value} {len : Nat → Nat} {vw : Value} {rw_ : List (Nat × Nat)} {C : Nat → List Value}
theorem R1.below (h : R1 W w b2 g c vs len vw rw_ C) (hb : Below w.heap.size w w') : R1 W w' b2 g c vs len vw rw_ C :=
  { h with bel := h.bel.trans (hb.mono h.bel.size), a2 := h.a2.below hb h.a2.lt, arr := h.arr.below hb, b := h.b.keepT (KeepT.of_below hb), want := h.want.below hb }
theorem R1.put {C0 : Nat → List Value} {n i : Nat} (h : R1 W w b2 g c vs len vw rw_ (halfR len C0 n i)) (hn : n < 4) (hi : i < len n) (hl : (C0 n).length = len n * 2) {gn cap : Nat} (hv : vs n = .slice (some ⟨gn, 0, none⟩) (len n) cap) :
    R1 W ((w.setCell ⟨gn, i * 2, none⟩ (.int .u8 (n : Int))).setCell ⟨gn, i * 2 + 1, none⟩ (.int .u8 77)) b2 g c vs len vw rw_ (halfR len C0 n (i + 1)) := by
  have ho := h.b.own n hn
  rw [hv] at ho
  have hge := (World.ownsRow.lt ho gn rfl).1
  have hnc : gn ≠ b2 := fun e => run_not_cls h.a2 ho (by rw [← e]; rfl)
  have hna : gn ≠ g := fun e => own_not4 ho h.arr (by rw [← e]; rfl)
  have hs1 := (ho.stored (i * 2) (.int .u8 (n : Int))).1
  have hs2 := (hs1.stored (i * 2 + 1) (.int .u8 77)).1
  rw [halfR_set len C0 n i hi hl] at hs2
  refine ⟨(h.bel.setCell hge _).setCell hge _, h.le, (h.a2.other _ (fun e => hnc e.symm) _).other _ (fun e => hnc e.symm) _, (h.arr.keep ?_), ⟨fun k hk => ?_, h.b.ap⟩, ?_, h.apw⟩
  · exact (heap_setCell_other _ ⟨gn, i * 2 + 1, none⟩ g _ (fun e => hna e.symm)).trans (heap_setCell_other w ⟨gn, i * 2, none⟩ g _ (fun e => hna e.symm))
  · by_cases e : k = n
    · subst e; rw [hv]; exact hs2
    · rw [← halfR_other len C0 n i k e]
      have hne : (vs k).ownBlock ≠ some gn := fun e2 => h.b.ap k n hk hn e gn e2 (by rw [hv]; rfl)
      exact ownsRow_setCell_other (ownsRow_setCell_other (h.b.own k hk) hne _) hne _
  · have hne : vw.ownBlock ≠ some gn := fun e2 => h.apw n hn gn (by rw [hv]; rfl) e2
    exact ownsRow_setCell_other (ownsRow_setCell_other h.want hne _) hne _
end
/-- append(l, r): one run, said by its cells. -/
theorem append_rv {ops : Array Oper} {rest : List Oper} {o : Oper} {a : Act} {w : World} {Q : Exit → Act → World → Prop} (hgd : o.guard = none) (s x : Operand)
    (ho : o.op = .call { callee := .builtin .append, args := #[s, x], argTypes := #[26, 26] })
    (base : Nat) (v : Value) (n : Nat) (xs : List Value) (y z : Int) (hs : a.eval s = v) (hown : w.ownsRow base 31 2 v n xs) (hx : a.eval x = .slice (some ⟨w.heap.size, 0, none⟩) 1 1) (hsum : n + 1 ≤ 4398046511104) (hbase : base ≤ w.heap.size)
    (h : ∀ v' w', w'.ownsRow base 31 2 v' (n + 1) (xs ++ [.int .u8 y, .int .u8 z]) → w'.ownsRow base 31 2 v n xs → AppPost w w' base v v' → wpList Try.prog ops Q rest (a.put o.dst v') w') :
    wpList Try.prog ops Q (o :: rest) a (w.alloc (.cells #[.int .u8 y, .int .u8 z] 31)) := by
  obtain ⟨i0, hi, hz0, hz1, hz2⟩ := info_parts infoRun
  exact append_new hgd s x 26 31 i0 _ 2 2 ho Try.underlying26 hi hz0 hz1 hz2 rfl (by decide) base v n xs hs hown 1 [.int .u8 y, .int .u8 z] #[.int .u8 y, .int .u8 z] rfl rfl (fun u hu => by simp only [List.mem_cons, List.not_mem_nil, or_false] at hu; rcases hu with rfl | rfl <;> rfl) hx (by unfold maxLen; omega) (by omega) hbase h
/-- All that lies there, while the lists grow: list n has i elements. -/
structure R3 (W w : World) (b2 g g10 : Nat) (c : List Nat) (vs : Nat → Value) (len : Nat → Nat) (vw : Value) (rw_ : List (Nat × Nat)) (f : Nat → Value) : Prop where
  bel : Below W.heap.size W w
  le : W.heap.size ≤ b2 ∧ W.heap.size ≤ g ∧ W.heap.size ≤ g10 ∧ g ≠ g10 ∧ b2 ≠ g10
  a2 : Arr64 w b2 24 c
  arr : Arr4 w g vs
  arr2 : Arr4 w g10 f
  want : OwnRn w W.heap.size vw rw_
structure R2 (W w : World) (b2 g g10 : Nat) (c : List Nat) (vs : Nat → Value) (len : Nat → Nat) (vw : Value) (rw_ : List (Nat × Nat)) (f : Nat → Value) (n : Nat) (ones mores : Nat → Value) : Prop where
  r : R3 W w b2 g g10 c vs len vw rw_ f
  gr : Grown w W.heap.size 31 2 4 (mkR len) vs len n ones mores
  fm : ∀ k, k < n → f k = mores k
  apw : ∀ j, n ≤ j → j < 4 → Apart (vs j) vw
structure RG (W w : World) (b2 g g10 : Nat) (c : List Nat) (vs : Nat → Value) (len : Nat → Nat) (vw : Value) (rw_ : List (Nat × Nat)) (f : Nat → Value) (n : Nat) (ones mores : Nat → Value) (i : Nat) (l o1 : Value) : Prop where
  r : R3 W w b2 g g10 c vs len vw rw_ f
  gs : Grows w W.heap.size 31 2 4 (mkR len) vs len n ones mores i l o1
  fm : ∀ k, k < n → f k = mores k
  fn : f n = l
  apl : Apart l vw
  apw : ∀ j, n < j → j < 4 → Apart (vs j) vw
section
variable {W w w' : World} {b2 g g10 : Nat} {c : List Nat} {vs : Nat → Value} {len : Nat → Nat} {vw : Value} {rw_ : List (Nat × Nat)} {f : Nat → Value} {n i : Nat} {ones mores : Nat → Value} {l l' o1 : Value}
theorem R3.put (h : R3 W w b2 g g10 c vs len vw rw_ f) (hn : n < 4) (v : Value) : R3 W (w.setCell ⟨g10, n, none⟩ v) b2 g g10 c vs len vw rw_ (put4 f n v) :=
  ⟨h.bel.setCell h.le.2.2.1 _, h.le, h.a2.other _ h.le.2.2.2.2 _, h.arr.keep (heap_setCell_other w ⟨g10, n, none⟩ g _ h.le.2.2.2.1), h.arr2.set n hn v, ownsRow_setCell_other h.want (own_not4 h.want h.arr2) _⟩
theorem keep_put (h : Arr4 w g10 f) (v : Value) : KeepT 31 w (w.setCell ⟨g10, n, none⟩ v) := fun k cur hk =>
  heap_setCell_other w ⟨g10, n, none⟩ k _ (fun e => by
    subst e
    rw [show w.heap[k]? = _ from h] at hk
    simp only [Option.some.injEq, Obj.cells.injEq] at hk
    exact absurd hk.2.1 (by decide))
theorem R2.start (h : R2 W w b2 g g10 c vs len vw rw_ f n ones mores) (hn : n < 4) : RG W (w.setCell ⟨g10, n, none⟩ (vs n)) b2 g g10 c vs len vw rw_ (put4 f n (vs n)) n ones mores (len n) (vs n) undef :=
  ⟨h.r.put hn _, (h.gr.start (o1 := undef) hn).keepT (keep_put h.r.arr2 _), fun k hk => by unfold put4; rw [if_neg (by omega)]; exact h.fm k hk, if_pos rfl, h.apw n (Nat.le_refl _) hn, fun j hj h4 => h.apw j (by omega) h4⟩
theorem RG.step (h : RG W w b2 g g10 c vs len vw rw_ f n ones mores i l o1) (hn : n < 4) (hi : len n ≤ i) (hv' : w'.ownsRow W.heap.size 31 2 l' (i + 1) (marks (mkR len) n i ++ [.int .u8 (n : Int), .int .u8 78])) (hold : w'.ownsRow W.heap.size 31 2 l i (marks (mkR len) n i)) (hp : AppPost w w' W.heap.size l l') :
    ∃ o2, RG W (w'.setCell ⟨g10, n, none⟩ l') b2 g g10 c vs len vw rw_ (put4 f n l') n ones mores (i + 1) l' o2 := by
  rw [← mkR_hi len n i (by omega)] at hv'
  have hs := h.gs.step (by omega) hn hi hv' hold hp
  have hw := hp.other W.heap.size 31 2 _ vw _ h.r.want h.apl
  have r' : R3 W w' b2 g g10 c vs len vw rw_ f := ⟨hp.bel _ _ h.r.bel (Nat.le_refl _), h.r.le, (hp.block b2 h.r.a2.lt (run_not_cls h.r.a2 h.gs.own)).trans h.r.a2, h.r.arr.keep (hp.block g h.r.arr.lt (own_not4 h.gs.own h.r.arr)), h.r.arr2.keep (hp.block g10 h.r.arr2.lt (own_not4 h.gs.own h.r.arr2)), hw.1⟩
  exact ⟨_, r'.put hn _, hs.keepT (keep_put r'.arr2 _), fun k hk => by unfold put4; rw [if_neg (by omega)]; exact h.fm k hk, if_pos rfl, hw.2, h.apw⟩
theorem RG.done (h : RG W w b2 g g10 c vs len vw rw_ f n ones mores (len n + 70) l o1) (hn : n < 4) : R2 W w b2 g g10 c vs len vw rw_ f (n + 1) (fun k => if k = n then o1 else ones k) (fun k => if k = n then l else mores k) :=
  ⟨h.r, h.gs.done hn, fun k hk => by
    by_cases e : k = n
    · subst e; rw [if_pos rfl]; exact h.fn
    · rw [if_neg e]; exact h.fm k (by omega), fun j hj h4 => h.apw j (by omega) h4⟩
end
end Go.Proofs.Ytakimaceohfpcaa

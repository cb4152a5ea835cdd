/-
  A window of a list of lists of bytes that the call owns: appended to, cut at its head.
-/
import Derived.Test.YtadjonggmbndmaaLists
import Derived.Test.YtadjonggmbndmaaSpace0
import Derived.ArgAppend
namespace Go.Proofs.Ytadjonggmbndmaa
open Go.RowKit

/-- v is a window of block b, its cells vs. -/
def Win (w : World) (base b : Nat) (v : Value) (vs : List Value) : Prop :=
  ∃ off cap cur, v = .slice (some ⟨b, off, none⟩) vs.length cap ∧ base ≤ b ∧ w.heap[b]? = some (.cells cur 35 (0, 0)) ∧ vs.length ≤ cap ∧ off + cap = cur.size ∧ cap ≤ maxLen ∧ (cur.toList.drop off).take vs.length = vs

theorem Win.lt {w : World} {base b : Nat} {v : Value} {vs : List Value} (h : Win w base b v vs) : b < w.heap.size := by
  obtain ⟨off, cap, cur, -, -, hb, -⟩ := h
  exact (Array.getElem?_eq_some_iff.1 hb).1
theorem Win.kept {w w' : World} {base b : Nat} {v : Value} {vs : List Value} (h : Win w base b v vs) (hk : w'.heap[b]? = w.heap[b]?) : Win w' base b v vs := by
  obtain ⟨off, cap, cur, h1, h2, h3, h4⟩ := h
  exact ⟨off, cap, cur, h1, h2, by rw [hk]; exact h3, h4⟩
theorem Win.below {w w' : World} {base b : Nat} {v : Value} {vs : List Value} (h : Win w base b v vs) (hb : Below w.heap.size w w') : Win w' base b v vs := h.kept (hb.block b h.lt)
theorem win_cells {l : List Value} {off n : Nat} {vs : List Value} (h : (l.drop off).take n = vs) (j : Nat) (u : Value) (hj : vs[j]? = some u) : l[off + j]? = some u := by
  subst h
  rw [List.getElem?_take] at hj
  split at hj
  · rw [List.getElem?_drop] at hj; exact hj
  · cases hj
theorem win_set {l : List Value} {off n : Nat} {vs : List Value} (y : Value) (h : (l.drop off).take n = vs) (hn : vs.length = n) (hl : off + n < l.length) : ((l.set (off + n) y).drop off).take (n + 1) = vs ++ [y] := by
  apply List.ext_getElem?
  intro i
  rw [List.getElem?_take]
  rcases Nat.lt_trichotomy i n with hi | hi | hi
  · rw [if_pos (by omega), List.getElem?_drop, List.getElem?_set_ne (by omega), List.getElem?_append_left (by omega), ← h, List.getElem?_take, if_pos hi, List.getElem?_drop]
  · subst hi
    rw [if_pos (by omega), List.getElem?_drop, List.getElem?_set_self (by omega), List.getElem?_append_right (by omega), hn, Nat.sub_self]
    rfl
  · rw [if_neg (by omega), List.getElem?_append_right (by omega)]
    rw [List.getElem?_eq_none (by simp; omega)]

/-- What an append to a window leaves. -/
structure WinPost (w w' : World) (base b b' : Nat) : Prop where
  bel : ∀ B w0, Below B w0 w → B ≤ base → Below B w0 w'
  blk : ∀ k, k < w.heap.size → k ≠ b → w'.heap[k]? = w.heap[k]?
  size : w.heap.size ≤ w'.heap.size
  new : b' = b ∨ w.heap.size ≤ b'

theorem infoR : (Try.prog.info? 35).map (fun i => (i.zero, i.size, i.bytes)) = some (some (.slice none 0 0), 1, 24) := by kernel_rfl

theorem append_win {ops : Array Oper} {rest : List Oper} {o : Oper} {a : Act} {w : World} {Q : Exit → Act → World → Prop} (hgd : o.guard = none) (s x : Operand)
    (ho : o.op = .call { callee := .builtin .append, args := #[s, x], argTypes := #[62, 62] })
    (base b : Nat) (v : Value) (vs : List Value) (y : Value) (hs : a.eval s = v) (hw : Win w base b v vs) (hx : a.eval x = .slice (some ⟨w.heap.size, 0, none⟩) 1 1) (hy : y.oneCell' = true) (hsum : vs.length + 1 ≤ 5864062014805)
    (h : ∀ b' v' w', Win w' base b' v' (vs ++ [y]) → WinPost w w' base b b' → wpList Try.prog ops Q rest (a.put o.dst v') w') :
    wpList Try.prog ops Q (o :: rest) a (w.alloc (.cells #[y] 35)) := by
  obtain ⟨i0, hi, hz0, hz1, hz2⟩ := info_parts infoR
  have hlt := hw.lt
  obtain ⟨off, cap, cur, rfl, hb0, hblk, hle, hcs, hcm, hvs⟩ := hw
  have hb0' := (Below.refl w.heap.size w).alloc (Nat.le_refl _) (.cells #[y] 35)
  have hblk1 : (w.alloc (.cells #[y] 35)).heap[b]? = some (.cells cur 35 (0, 0)) := by rw [hb0'.block b hlt]; exact hblk
  refine wpList_append_arg (P := Try.prog) _ hgd s x 62 ho 35 i0 (.slice none 0 0) 1 24 Try.underlying62 hi hz0 hz1 hz2 rfl (by decide) b off vs.length cap vs hs (by omega) (fun j u hj => ?_) ⟨w.heap.size, 0, none⟩ 1 1 [y] hx rfl (fun j u hj => ?_) (fun u hu => ?_) (fun hr j hj => ?_) (by unfold maxLen; omega) (by omega) (fun hr => ?_) (fun hg v' w' hown hgrow => ?_)
  · rw [cell_of_row _ b (off + j) _ _ _ hblk1]
    simpa using win_cells hvs j u hj
  · match j, hj with
    | 0, hj =>
      simp at hj; subst hj
      show (w.alloc (.cells #[y] 35)).cell? ⟨w.heap.size, 0, none⟩ = _
      rw [cell_of_row _ w.heap.size 0 _ _ (0, 0) (heap_alloc_new w _)]; rfl
    | j + 1, hj => simp at hj
  · simp at hu; subst hu; exact hy
  · have hj0 : j = 0 := by simpa using hj
    subst hj0
    refine ⟨?_, frozen_of_row _ b _ _ _ hblk1⟩
    rw [cell_of_row _ b _ _ _ _ hblk1, Array.getElem?_eq_getElem (by omega)]
    rfl
  · have hset := heap_setCell_same (w.alloc (.cells #[y] 35)) b (off + vs.length) _ _ y hblk1
    have e : (w.alloc (.cells #[y] 35)).setCells b (off + vs.length * 1) [y] = (w.alloc (.cells #[y] 35)).setCell ⟨b, off + vs.length, none⟩ y := by rw [Nat.mul_one]; rfl
    rw [e]
    refine h b _ _ ⟨off, cap, _, by rw [List.length_append]; rfl, hb0, hset, by rw [List.length_append]; exact hr, by simpa using hcs, hcm, ?_⟩ ⟨fun B w0 h0 hB => ?_, fun k hk hne => ?_, ?_, .inl rfl⟩
    · rw [List.length_append]
      simp only [Array.toList_setIfInBounds]
      exact win_set y hvs rfl (by simp; omega)
    · exact (h0.trans (hb0'.mono (by omega))).setCell (by show B ≤ b; omega) _
    · rw [Below.heap_setCell _ ⟨b, _, none⟩ y k hne, hb0'.block k hk]
    · show w.heap.size ≤ ((w.alloc _).setCell _ y).heap.size
      simp [World.setCell]
  · have hsz : (w.alloc (.cells #[y] 35)).heap.size = w.heap.size + 1 := World.size_alloc _ _
    rcases hown.2 with ⟨_, h0⟩ | ⟨g, cap', cur', rfl, hgb, hgblk, hgc, hgm, hgs, hgt⟩
    · omega
    · refine h g _ _ ⟨0, cap', cur', by rw [List.length_append]; rfl, by omega, hgblk, by rw [List.length_append]; exact hgc, by omega, hgm, ?_⟩ ⟨fun B w0 h0 hB => ?_, fun k hk hne => ?_, ?_, .inr (by omega)⟩
      · rw [List.drop_zero, List.length_append]
        rw [Nat.mul_one] at hgt
        exact hgt
      · exact (h0.trans (hb0'.mono (by omega))).grown hgrow (by omega) (fun k hk => by cases hk)
      · rw [hgrow.block k (by omega) (by simp), hb0'.block k hk]
      · have := hgrow.size; omega
theorem Win.read {w : World} {base b : Nat} {v : Value} {vs : List Value} (h : Win w base b v vs) : ∃ off cap, v = .slice (some ⟨b, off, none⟩) vs.length cap ∧ vs.length ≤ cap ∧ ∀ (j : Nat) u, vs[j]? = some u → w.cell? ⟨b, off + j, none⟩ = some u := by
  obtain ⟨off, cap, cur, rfl, -, hblk, hle, -, -, hvs⟩ := h
  refine ⟨off, cap, rfl, hle, fun j u hj => ?_⟩
  rw [cell_of_row _ b (off + j) _ _ _ hblk]
  simpa using win_cells hvs j u hj

theorem sizeR (w : World) : (sizeOf (Try.prog.elem 62)).run Try.prog w = .ok 1 w := by kernel_rfl
theorem elemR : Try.prog.underlying 62 = some (.slice (Try.prog.elem 62)) := by kernel_rfl
/-- v[1:] of a window of two cells or more. -/
theorem Win.cut {w : World} {base b : Nat} {v y z : Value} {vs : List Value} (h : Win w base b v (y :: z :: vs)) :
    ∃ v', (∀ W, (Instr.slice 62 v (some (.int .i64 1)) none none).run Try.prog W = .ok v' W) ∧ Win w base b v' (z :: vs) := by
  obtain ⟨off, cap, cur, rfl, hb0, hblk, hle, hcs, hcm, hvs⟩ := h
  simp only [List.length_cons] at hle hvs ⊢
  refine ⟨.slice (some ⟨b, off + 1, none⟩) (vs.length + 1) (cap - 1), fun W => ?_, off + 1, cap - 1, cur, rfl, hb0, hblk, by rw [List.length_cons]; omega, by omega, by omega, ?_⟩
  · rw [run_slice_l W 62 (some ⟨b, off, none⟩) (vs.length + 1 + 1) cap elemR .i64 1 (by omega) (by omega), sizeR]
    simp only [Result.andThen_ok, sliced]
    rw [if_neg (by show ¬ cap = Int.toNat 1; simp; omega)]
    simp [Addr.add]
  · rw [List.length_cons]
    have := congrArg (List.drop 1) hvs
    rw [List.drop_take, List.drop_drop] at this
    exact this
end Go.Proofs.Ytadjonggmbndmaa

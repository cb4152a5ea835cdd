/-
  Lists of lists of bytes: one more element. A block known whole.
-/
import Derived.Test.YtfmcjmkdlldlhaaDoorBagM
namespace Go.Proofs.YtfmcjmkdlldlhaaDoor
open Go.RowKit

theorem infoLs : (Tryd.prog.info? 25).map (fun i => (i.zero, i.size, i.bytes)) = some (some (.slice none 0 0), 1, 24) := by kernel_rfl
theorem neBL : (5 : TypeId) ≠ 25 := by decide

/-- append(list, y): one more element of a list of lists of bytes. -/
theorem append_ls {ops : Array Oper} {rest : List Oper} {o : Oper} {a : Act} {w : World} {Q : Exit → Act → World → Prop} (hgd : o.guard = none) (s x : Operand)
    (ho : o.op = .call { callee := .builtin .append, args := #[s, x], argTypes := #[45, 45] })
    (base : Nat) (v : Value) (n : Nat) (us : List Value) (y : Value) (hs : a.eval s = v) (hown : w.ownsRow base 25 1 v n us) (hx : a.eval x = .slice (some ⟨w.heap.size, 0, none⟩) 1 1) (hy : y.oneCell' = true) (hsum : n + 1 ≤ 5864062014805) (hbase : base ≤ w.heap.size)
    (h : ∀ v' w', w'.ownsRow base 25 1 v' (n + 1) (us ++ [y]) → w'.ownsRow base 25 1 v n us → AppPost w w' base v v' → wpList Tryd.prog ops Q rest (a.put o.dst v') w') :
    wpList Tryd.prog ops Q (o :: rest) a (w.alloc (.cells #[y] 25)) := by
  obtain ⟨i0, hi, hz0, hz1, hz2⟩ := info_parts infoLs
  exact append_new hgd s x 45 25 i0 (.slice none 0 0) 1 24 ho Tryd.underlying45 hi hz0 hz1 hz2 rfl (by decide) base v n us hs hown 1 [y] #[y] rfl rfl (fun u hu => by simp at hu; subst hu; exact hy) hx (by unfold maxLen; omega) (by omega) hbase h

/-- Block b is just these cells, of type T. -/
def At (w : World) (b : Nat) (T : TypeId) (l : List Value) : Prop := w.heap[b]? = some (.cells l.toArray T (0, 0))
theorem At.lt {w : World} {b : Nat} {T : TypeId} {l : List Value} (h : At w b T l) : b < w.heap.size := (Array.getElem?_eq_some_iff.1 h).1
theorem At.cell {w : World} {b : Nat} {T : TypeId} {l : List Value} (h : At w b T l) (i : Nat) : w.cell? ⟨b, i, none⟩ = l[i]? := by
  rw [cell_of_row w b i _ _ (0, 0) h]; simp
theorem At.frozen {w : World} {b : Nat} {T : TypeId} {l : List Value} (h : At w b T l) (i : Nat) : w.frozen? ⟨b, i, none⟩ = false := frozen_of_row w b i _ _ h
theorem At.set {w : World} {b : Nat} {T : TypeId} {l : List Value} (h : At w b T l) (i : Nat) (v : Value) : At (w.setCell ⟨b, i, none⟩ v) b T (l.set i v) := by
  unfold At
  rw [heap_setCell_same w b i _ _ v h]
  simp
theorem At.keep {w w' : World} {b : Nat} {T : TypeId} {l : List Value} (h : At w b T l) (hk : w'.heap[b]? = w.heap[b]?) : At w' b T l := hk.trans h
theorem At.below {w w' : World} {b : Nat} {T : TypeId} {l : List Value} (h : At w b T l) (hb : Below w.heap.size w w') : At w' b T l := (hb.block b h.lt).trans h
theorem At.new (w : World) (T : TypeId) (l : List Value) : At (w.alloc (.cells l.toArray T)) w.heap.size T l := heap_alloc_new w _
theorem At.ne_own {w : World} {b base s n : Nat} {T e : TypeId} {l xs : List Value} {v : Value} (h : At w b T l) (ho : w.ownsRow base e s v n xs) (hne : T ≠ e) : v.ownBlock ≠ some b := fun hv => by
  rcases ho.2 with ⟨rfl, _⟩ | ⟨g, cap, cur, rfl, _, hg, _⟩
  · simp [Value.ownBlock] at hv
  · simp only [Value.ownBlock, Option.some.injEq] at hv
    subst hv
    unfold At at h
    rw [hg] at h
    simp only [Option.some.injEq, Obj.cells.injEq] at h
    exact hne h.2.1.symm
theorem At.ne_at {w : World} {b b' : Nat} {T T' : TypeId} {l l' : List Value} (h : At w b T l) (h' : At w b' T' l') (hne : T ≠ T') : b ≠ b' := fun e => by
  subst e
  unfold At at h h'
  rw [h] at h'
  simp only [Option.some.injEq, Obj.cells.injEq] at h'
  exact hne h'.2.1
end Go.Proofs.YtfmcjmkdlldlhaaDoor

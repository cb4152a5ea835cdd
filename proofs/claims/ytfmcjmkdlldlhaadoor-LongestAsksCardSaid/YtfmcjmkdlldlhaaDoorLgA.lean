/-
  append to the lists of a search: what is laid just ahead of it in a block of its own.
-/
import Derived.Test.YtfmcjmkdlldlhaaDoorLgW
import Derived.Deep.RegionLaw
import Derived.Deep.RegionHeld3
import Derived.Deep.DeepCutAuto
import Derived.Deep.CutBlock
namespace Go.Proofs.YtfmcjmkdlldlhaaDoor
open Go.RowKit

theorem infoK : (Tryd.prog.info? 3).map (fun i => (i.zero, i.size, i.bytes)) = some (some (.int .i64 0), 1, 8) := by kernel_rfl
theorem infoT : (Tryd.prog.info? TT).map (fun i => (i.zero, i.size, i.bytes)) = some (some (.agg #[.int .i64 0, .int .i64 0]), 2, 16) := by kernel_rfl

theorem step_app {P : Program} {ops : Array Oper} {o : Oper} {a : Act} {w W : World} {K : Act → World → Prop} {Q : Exit → Act → World → Prop} {E : Prop} (hgd : o.guard = none) (s x : Operand) (t e : TypeId)
    (ho : o.op = .call { callee := .builtin .append, args := #[s, x], argTypes := #[t, t] }) (i0 : TypeInfo) (z : Value) (size bytes : Nat) (ht : P.underlying t = some (.slice e)) (hi : P.info? e = some i0) (hz0 : i0.zero = some z) (hz1 : i0.size = size) (hz2 : i0.bytes = bytes) (hzs : z.cells.size = size) (hsz : 0 < size)
    (base : Nat) (v : Value) (n m : Nat) (us news : List Value) (cs : Array Value) (hcs : cs = news.toArray) (hW : W = w.alloc (.cells cs e)) (hs : a.eval s = v) (hown : w.ownsRow base e size v n us) (hx : a.eval x = .slice (some ⟨w.heap.size, 0, none⟩) m m) (hl : news.length = m * size) (hy : ∀ u ∈ news, u.oneCell' = true) (hm : 0 < m) (hsum : n + m ≤ maxLen) (hby : (n + m) * bytes ≤ 140737488355328) (hbase : base ≤ w.heap.size)
    (h : ∀ g cap w', w'.ownsRow base e size (.slice (some ⟨g, 0, none⟩) (n + m) cap) (n + m) (us ++ news) → AppPost w w' base v (.slice (some ⟨g, 0, none⟩) (n + m) cap) → K (a.put o.dst (.slice (some ⟨g, 0, none⟩) (n + m) cap)) w') :
    if Region.wanted o (yielded ops a.tmps) = true then Oper.wp P o a W K Q else E := by
  subst hW hcs
  refine step_append_lies _ hgd s x t ho base e i0 z size bytes ht hi hz0 hz1 hz2 hzs hsz v n us hs (World.ownsRow.alloc hown _) ⟨w.heap.size, 0, none⟩ m m news hx hl (fun j u hj => ?_) hy hm hsum hby (by rw [World.size_alloc]; omega) _ rfl ?_
  · rw [show (⟨w.heap.size, 0, none⟩ : Addr).add j = ⟨w.heap.size, j, none⟩ by simp [Addr.add]; exact fun h => h.symm, cell_of_row _ w.heap.size j _ e (0, 0) (heap_alloc_new w _)]
    simpa using hj
  · intro g cap w' hown' hgrow hat _
    exact h g cap w' hown' (app_post hown (Nat.le_refl _) hbase ((Below.refl _ w).alloc (Nat.le_refl _) _) hgrow (hat.imp Eq.symm (congrArg some)))
theorem cellsN_one (l : List Nat) : ∀ u ∈ cellsN l, u.oneCell' = true := fun u hu => by
  obtain ⟨_, _, rfl⟩ := List.mem_map.1 hu
  rfl
/-- append(stack, ..) at a step of a region that draws. -/
theorem step_appK {ops : Array Oper} {o : Oper} {a : Act} {w W : World} {K : Act → World → Prop} {Q : Exit → Act → World → Prop} {E : Prop} (hgd : o.guard = none) (s x : Operand)
    (ho : o.op = .call { callee := .builtin .append, args := #[s, x], argTypes := #[86, 86] })
    (base : Nat) (v : Value) (n : Nat) (k ts : List Nat) (cs : Array Value) (hcs : cs = (cellsN ts).toArray) (hW : W = w.alloc (.cells cs 3)) (hs : a.eval s = v) (hown : w.ownsRow base 3 1 v n (cellsN k)) (hx : a.eval x = .slice (some ⟨w.heap.size, 0, none⟩) ts.length ts.length) (hm : 0 < ts.length) (hsum : n + ts.length ≤ 17592186044416) (hbase : base ≤ w.heap.size)
    (h : ∀ g cap w', w'.ownsRow base 3 1 (.slice (some ⟨g, 0, none⟩) (n + ts.length) cap) (n + ts.length) (cellsN k ++ cellsN ts) → AppPost w w' base v (.slice (some ⟨g, 0, none⟩) (n + ts.length) cap) → K (a.put o.dst (.slice (some ⟨g, 0, none⟩) (n + ts.length) cap)) w') :
    if Region.wanted o (yielded ops a.tmps) = true then Oper.wp Tryd.prog o a W K Q else E := by
  obtain ⟨i0, hi, hz0, hz1, hz2⟩ := info_parts infoK
  exact step_app hgd s x 86 3 ho i0 (.int .i64 0) 1 8 Tryd.underlying86 hi hz0 hz1 hz2 rfl (by decide) base v n ts.length _ _ cs hcs hW hs hown hx (by simp [cellsN]) (cellsN_one ts) hm (by unfold maxLen; omega) (by omega) hbase h
theorem encT_one (t : Nat × Nat) : ∀ u ∈ encT t, u.oneCell' = true := fun u hu => by
  simp only [encT, List.mem_cons, List.not_mem_nil, or_false] at hu
  rcases hu with rfl | rfl <;> rfl
/-- append(threads, t) at such a step. -/
theorem step_appT {ops : Array Oper} {o : Oper} {a : Act} {w W : World} {K : Act → World → Prop} {Q : Exit → Act → World → Prop} {E : Prop} (hgd : o.guard = none) (s x : Operand)
    (ho : o.op = .call { callee := .builtin .append, args := #[s, x], argTypes := #[85, 85] })
    (base : Nat) (v : Value) (n : Nat) (L : List Value) (t : Nat × Nat) (cs : Array Value) (hcs : cs = #[.int .i64 (t.1 : Int), .int .i64 (t.2 : Int)]) (hW : W = w.alloc (.cells cs TT)) (hs : a.eval s = v) (hown : w.ownsRow base TT 2 v n L) (hx : a.eval x = .slice (some ⟨w.heap.size, 0, none⟩) 1 1) (hsum : n + 1 ≤ 8796093022208) (hbase : base ≤ w.heap.size)
    (h : ∀ g cap w', w'.ownsRow base TT 2 (.slice (some ⟨g, 0, none⟩) (n + 1) cap) (n + 1) (L ++ [.int .i64 (t.1 : Int), .int .i64 (t.2 : Int)]) → AppPost w w' base v (.slice (some ⟨g, 0, none⟩) (n + 1) cap) → K (a.put o.dst (.slice (some ⟨g, 0, none⟩) (n + 1) cap)) w') :
    if Region.wanted o (yielded ops a.tmps) = true then Oper.wp Tryd.prog o a W K Q else E := by
  obtain ⟨i0, hi, hz0, hz1, hz2⟩ := info_parts infoT
  exact step_app hgd s x 85 TT ho i0 (.agg #[.int .i64 0, .int .i64 0]) 2 16 Tryd.underlying85 hi hz0 hz1 hz2 rfl (by decide) base v n 1 _ (encT t) cs hcs hW hs hown hx rfl (encT_one t) (by decide) (by unfold maxLen; omega) (by omega) hbase h
/-- The same at a list of operations that is in one order. -/
theorem wpList_app {P : Program} {ops : Array Oper} {rest : List Oper} {o : Oper} {a : Act} {w W : World} {Q : Exit → Act → World → Prop} (hgd : o.guard = none) (s x : Operand) (t e : TypeId)
    (ho : o.op = .call { callee := .builtin .append, args := #[s, x], argTypes := #[t, t] }) (i0 : TypeInfo) (z : Value) (size bytes : Nat) (ht : P.underlying t = some (.slice e)) (hi : P.info? e = some i0) (hz0 : i0.zero = some z) (hz1 : i0.size = size) (hz2 : i0.bytes = bytes) (hzs : z.cells.size = size) (hsz : 0 < size)
    (base : Nat) (v : Value) (n m : Nat) (us news : List Value) (cs : Array Value) (hcs : cs = news.toArray) (hW : W = w.alloc (.cells cs e)) (hs : a.eval s = v) (hown : w.ownsRow base e size v n us) (hx : a.eval x = .slice (some ⟨w.heap.size, 0, none⟩) m m) (hl : news.length = m * size) (hy : ∀ u ∈ news, u.oneCell' = true) (hm : 0 < m) (hsum : n + m ≤ maxLen) (hby : (n + m) * bytes ≤ 140737488355328) (hbase : base ≤ w.heap.size)
    (h : ∀ g cap w', w'.ownsRow base e size (.slice (some ⟨g, 0, none⟩) (n + m) cap) (n + m) (us ++ news) → AppPost w w' base v (.slice (some ⟨g, 0, none⟩) (n + m) cap) → wpList P ops Q rest (a.put o.dst (.slice (some ⟨g, 0, none⟩) (n + m) cap)) w') :
    wpList P ops Q (o :: rest) a W := by
  subst hW hcs
  refine wpList_append_lies _ hgd s x t ho base e i0 z size bytes ht hi hz0 hz1 hz2 hzs hsz v n us hs (World.ownsRow.alloc hown _) ⟨w.heap.size, 0, none⟩ m m news hx hl (fun j u hj => ?_) hy hm hsum hby (by rw [World.size_alloc]; omega) _ rfl ?_
  · rw [show (⟨w.heap.size, 0, none⟩ : Addr).add j = ⟨w.heap.size, j, none⟩ by simp [Addr.add]; exact fun h => h.symm, cell_of_row _ w.heap.size j _ e (0, 0) (heap_alloc_new w _)]
    simpa using hj
  · intro g cap w' hown' hgrow hat _
    exact h g cap w' hown' (app_post hown (Nat.le_refl _) hbase ((Below.refl _ w).alloc (Nat.le_refl _) _) hgrow (hat.imp Eq.symm (congrArg some)))
theorem wpList_appK {ops : Array Oper} {rest : List Oper} {o : Oper} {a : Act} {w W : World} {Q : Exit → Act → World → Prop} (hgd : o.guard = none) (s x : Operand)
    (ho : o.op = .call { callee := .builtin .append, args := #[s, x], argTypes := #[86, 86] })
    (base : Nat) (v : Value) (n : Nat) (k ts : List Nat) (cs : Array Value) (hcs : cs = (cellsN ts).toArray) (hW : W = w.alloc (.cells cs 3)) (hs : a.eval s = v) (hown : w.ownsRow base 3 1 v n (cellsN k)) (hx : a.eval x = .slice (some ⟨w.heap.size, 0, none⟩) ts.length ts.length) (hm : 0 < ts.length) (hsum : n + ts.length ≤ 17592186044416) (hbase : base ≤ w.heap.size)
    (h : ∀ g cap w', w'.ownsRow base 3 1 (.slice (some ⟨g, 0, none⟩) (n + ts.length) cap) (n + ts.length) (cellsN k ++ cellsN ts) → AppPost w w' base v (.slice (some ⟨g, 0, none⟩) (n + ts.length) cap) → wpList Tryd.prog ops Q rest (a.put o.dst (.slice (some ⟨g, 0, none⟩) (n + ts.length) cap)) w') :
    wpList Tryd.prog ops Q (o :: rest) a W := by
  obtain ⟨i0, hi, hz0, hz1, hz2⟩ := info_parts infoK
  exact wpList_app hgd s x 86 3 ho i0 (.int .i64 0) 1 8 Tryd.underlying86 hi hz0 hz1 hz2 rfl (by decide) base v n ts.length _ _ cs hcs hW hs hown hx (by simp [cellsN]) (cellsN_one ts) hm (by unfold maxLen; omega) (by omega) hbase h
theorem wpList_appT {ops : Array Oper} {rest : List Oper} {o : Oper} {a : Act} {w W : World} {Q : Exit → Act → World → Prop} (hgd : o.guard = none) (s x : Operand)
    (ho : o.op = .call { callee := .builtin .append, args := #[s, x], argTypes := #[85, 85] })
    (base : Nat) (v : Value) (n : Nat) (L : List Value) (t : Nat × Nat) (cs : Array Value) (hcs : cs = #[.int .i64 (t.1 : Int), .int .i64 (t.2 : Int)]) (hW : W = w.alloc (.cells cs TT)) (hs : a.eval s = v) (hown : w.ownsRow base TT 2 v n L) (hx : a.eval x = .slice (some ⟨w.heap.size, 0, none⟩) 1 1) (hsum : n + 1 ≤ 8796093022208) (hbase : base ≤ w.heap.size)
    (h : ∀ g cap w', w'.ownsRow base TT 2 (.slice (some ⟨g, 0, none⟩) (n + 1) cap) (n + 1) (L ++ [.int .i64 (t.1 : Int), .int .i64 (t.2 : Int)]) → AppPost w w' base v (.slice (some ⟨g, 0, none⟩) (n + 1) cap) → wpList Tryd.prog ops Q rest (a.put o.dst (.slice (some ⟨g, 0, none⟩) (n + 1) cap)) w') :
    wpList Tryd.prog ops Q (o :: rest) a W := by
  obtain ⟨i0, hi, hz0, hz1, hz2⟩ := info_parts infoT
  exact wpList_app hgd s x 85 TT ho i0 (.agg #[.int .i64 0, .int .i64 0]) 2 16 Tryd.underlying85 hi hz0 hz1 hz2 rfl (by decide) base v n 1 _ (encT t) cs hcs hW hs hown hx rfl (encT_one t) (by decide) (by unfold maxLen; omega) (by omega) hbase h
end Go.Proofs.YtfmcjmkdlldlhaaDoor

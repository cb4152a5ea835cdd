/-
  Plain words on worlds: a slice of bytes that reads as a list, a row of bytes in a block.
-/
import Derived.Test.YtaeiijncklmfdaaRows
import Derived.WalkKit
import Derived.WalkSpells
import Derived.WalkLawsBesides
import Derived.BigQuiet
import Derived.Deep.QuietTactic
namespace Go.Proofs.Ytaeiijncklmfdaa
open Go.RowKit

/-- Every number of the list is a byte. -/
def IsB (l : List Int) : Prop := ∀ i : Nat, 0 ≤ l[i]?.getD 0 ∧ l[i]?.getD 0 ≤ 255

/-- The slice value v reads, in w, as the bytes l. -/
def SB (w : World) (v : Value) (l : List Int) : Prop :=
  IsB l ∧ ∃ a cap, v = .slice a l.length cap ∧ l.length ≤ 140737488351232 ∧
    (l = [] ∨ ∃ b off, a = some ⟨b, off, none⟩ ∧ ∀ i : Nat, i < l.length → w.cell? ⟨b, off + i, none⟩ = some (.int .u8 (l[i]?.getD 0)))

theorem SB.below {w w' : World} {v : Value} {l : List Int} (h : SB w v l) (hb : Below w.heap.size w w') : SB w' v l := by
  obtain ⟨h1, a, cap, rfl, h2, h3⟩ := h
  refine ⟨h1, a, cap, rfl, h2, ?_⟩
  rcases h3 with h3 | ⟨b, off, ha, hc⟩
  · exact .inl h3
  · refine .inr ⟨b, off, ha, fun i hi => ?_⟩
    have hlt := World.block_lt_of_cell? w _ (hc i hi)
    rw [hb.cell hlt]
    exact hc i hi

theorem SB.cells {w : World} {b o n c : Nat} {l : List Int} (h : SB w (.slice (some ⟨b, o, none⟩) n c) l) : l.length = n ∧ ∀ i : Nat, i < n → w.cell? ⟨b, o + i, none⟩ = some (.int .u8 (l[i]?.getD 0)) := by
  obtain ⟨_, a, cap, he, _, h3⟩ := h
  simp only [Value.slice.injEq] at he
  obtain ⟨ha, rfl, rfl⟩ := he
  refine ⟨rfl, fun i hi => ?_⟩
  rcases h3 with rfl | ⟨b', o', hb, hc⟩
  · exact absurd hi (Nat.not_lt_zero _)
  · rw [← ha] at hb
    simp only [Option.some.injEq, Addr.mk.injEq] at hb
    obtain ⟨rfl, rfl, _⟩ := hb
    exact hc i hi

theorem SB.read {w : World} {a : Option Addr} {n c : Nat} {l : List Int} (h : SB w (.slice a n c) l) (k : Nat) (hk : k < n) : ∃ b o, a = some ⟨b, o, none⟩ ∧ ∀ i : Nat, i < n → w.cell? ⟨b, o + i, none⟩ = some (.int .u8 (l[i]?.getD 0)) := by
  obtain ⟨_, a', cap, he, _, h3⟩ := id h
  simp only [Value.slice.injEq] at he
  obtain ⟨ha, hn, _⟩ := he
  rcases h3 with rfl | ⟨b, o, hb, _⟩
  · rw [hn] at hk; exact absurd hk (Nat.not_lt_zero _)
  · have e : a = some ⟨b, o, none⟩ := ha.trans hb
    subst e
    exact ⟨b, o, rfl, h.cells.2⟩

theorem SB.drewN {w : World} {v : Value} {l : List Int} (h : SB w v l) (n : Nat) : SB (w.drewN n) v l :=
  h.below (below_drewN (Below.refl _ _) n)

theorem ret_bool {a b : Bool} (h : a = b) : Ending.returned (Value.bool a) = Ending.returned (Value.bool b) := by rw [h]

theorem ext_of (l m : List Int) (hl : l.length = m.length) (h : ∀ j : Nat, j < l.length → l[j]?.getD 0 = m[j]?.getD 0) : l = m := by
  apply List.ext_getElem hl
  intro i h1 h2
  have := h i h1
  simpa [h1, h2] using this

theorem take_snoc (l : List Int) (k : Nat) (h : k < l.length) : l.take (k + 1) = l.take k ++ [l[k]?.getD 0] := by
  rw [List.take_succ_eq_append_getElem h]
  simp [h]

/-- The program, its types under another name: the walk over a region then goes by the facts that are laid, and counts no long row. -/
def withT (p : Program) (T : Array TypeInfo) : Program := { p with types := T }
theorem withT_self (p : Program) : withT p p.types = p := rfl

/-! ### Rows of bytes: a whole block -/

/-- The cells of a row of bytes. Kept closed, so that no walk counts it. -/
def row (l : List Int) : Array Value := (l.map (Value.int .u8)).toArray
theorem row_size (l : List Int) : (row l).size = l.length := by simp [row]
theorem row_get (l : List Int) (i : Nat) (h : i < l.length) : (row l)[i]? = some (.int .u8 (l[i]?.getD 0)) := by simp [row, h]
theorem row_set (l : List Int) (i : Nat) (x : Int) : (row l).setIfInBounds i (.int .u8 x) = row (l.set i x) := by
  apply Array.ext'
  simp [row, List.map_set]
theorem row_one (l : List Int) : ∀ v ∈ (row l).toList, v.oneCell' = true := by
  intro v hv
  simp only [row, List.mem_map] at hv
  obtain ⟨x, _, rfl⟩ := hv
  rfl

/-- Block g of w is just the row l of bytes, of type T. -/
def Arr (w : World) (g : Nat) (T : TypeId) (l : List Int) : Prop := w.heap[g]? = some (.cells (row l) T (0, 0))

theorem Arr.lt {w : World} {g : Nat} {T : TypeId} {l : List Int} (h : Arr w g T l) : g < w.heap.size := (Array.getElem?_eq_some_iff.1 h).1
theorem Arr.cell {w : World} {g : Nat} {T : TypeId} {l : List Int} (h : Arr w g T l) (i : Nat) (hi : i < l.length) : w.cell? ⟨g, i, none⟩ = some (.int .u8 (l[i]?.getD 0)) := by
  rw [cell_of_row w g i _ T (0, 0) h, row_get l i hi]
theorem Arr.frozen {w : World} {g : Nat} {T : TypeId} {l : List Int} (h : Arr w g T l) (i : Nat) : w.frozen? ⟨g, i, none⟩ = false := frozen_of_row w g i _ T h
theorem Arr.set {w : World} {g : Nat} {T : TypeId} {l : List Int} (h : Arr w g T l) (i : Nat) (x : Int) : Arr (w.setCell ⟨g, i, none⟩ (.int .u8 x)) g T (l.set i x) := by
  unfold Arr
  rw [heap_setCell_same w g i _ T _ h, row_set]
theorem Arr.other {w : World} {g : Nat} {T : TypeId} {l : List Int} (h : Arr w g T l) (a : Addr) (hne : g ≠ a.block) (v : Value) : Arr (w.setCell a v) g T l := by
  unfold Arr
  rw [heap_setCell_other w a g v hne]
  exact h
theorem Arr.alloc {w : World} {g : Nat} {T : TypeId} {l : List Int} (h : Arr w g T l) (o : Obj) : Arr (w.alloc o) g T l := by
  unfold Arr
  rw [Below.heap_alloc w o g h.lt]
  exact h
theorem Arr.new (w : World) (T : TypeId) (l : List Int) : Arr (w.alloc (.cells (row l) T)) w.heap.size T l := heap_alloc_new w _
theorem Arr.drewN {w : World} {g : Nat} {T : TypeId} {l : List Int} (h : Arr w g T l) (n : Nat) : Arr (w.drewN n) g T l := h
theorem Arr.below {w w' : World} {g : Nat} {T : TypeId} {l : List Int} (h : Arr w g T l) {B : Nat} (hb : Below B w w') (hg : g < B) : Arr w' g T l := by
  unfold Arr
  rw [hb.block g hg]
  exact h
theorem Arr.sb {w : World} {g : Nat} {T : TypeId} {l : List Int} (h : Arr w g T l) (hB : IsB l) (hl : l.length ≤ 140737488351232) (cap : Nat) : SB w (.slice (some ⟨g, 0, none⟩) l.length cap) l :=
  ⟨hB, _, cap, rfl, hl, .inr ⟨g, 0, rfl, fun i hi => by rw [Nat.zero_add]; exact h.cell i hi⟩⟩

/-- The cells of a row of bools. -/
def rowb (l : List Bool) : Array Value := (l.map Value.bool).toArray
theorem rowb_size (l : List Bool) : (rowb l).size = l.length := by simp [rowb]
theorem rowb_get (l : List Bool) (i : Nat) (h : i < l.length) : (rowb l)[i]? = some (.bool (l[i]?.getD false)) := by simp [rowb, h]
theorem rowb_set (l : List Bool) (i : Nat) (x : Bool) : (rowb l).setIfInBounds i (.bool x) = rowb (l.set i x) := by
  apply Array.ext'
  simp [rowb, List.map_set]
theorem rowb_one (l : List Bool) : ∀ v ∈ (rowb l).toList, v.oneCell' = true := by
  intro v hv
  simp only [rowb, List.mem_map] at hv
  obtain ⟨x, _, rfl⟩ := hv
  rfl

/-- Block g of w is just the row l of bools, of type T. -/
def Arrb (w : World) (g : Nat) (T : TypeId) (l : List Bool) : Prop := w.heap[g]? = some (.cells (rowb l) T (0, 0))

theorem Arrb.lt {w : World} {g : Nat} {T : TypeId} {l : List Bool} (h : Arrb w g T l) : g < w.heap.size := (Array.getElem?_eq_some_iff.1 h).1
theorem Arrb.cell {w : World} {g : Nat} {T : TypeId} {l : List Bool} (h : Arrb w g T l) (i : Nat) (hi : i < l.length) : w.cell? ⟨g, i, none⟩ = some (.bool (l[i]?.getD false)) := by
  rw [cell_of_row w g i _ T (0, 0) h, rowb_get l i hi]
theorem Arrb.frozen {w : World} {g : Nat} {T : TypeId} {l : List Bool} (h : Arrb w g T l) (i : Nat) : w.frozen? ⟨g, i, none⟩ = false := frozen_of_row w g i _ T h
theorem Arrb.set {w : World} {g : Nat} {T : TypeId} {l : List Bool} (h : Arrb w g T l) (i : Nat) (x : Bool) : Arrb (w.setCell ⟨g, i, none⟩ (.bool x)) g T (l.set i x) := by
  unfold Arrb
  rw [heap_setCell_same w g i _ T _ h, rowb_set]
theorem Arrb.other {w : World} {g : Nat} {T : TypeId} {l : List Bool} (h : Arrb w g T l) (a : Addr) (hne : g ≠ a.block) (v : Value) : Arrb (w.setCell a v) g T l := by
  unfold Arrb
  rw [heap_setCell_other w a g v hne]
  exact h
theorem Arrb.alloc {w : World} {g : Nat} {T : TypeId} {l : List Bool} (h : Arrb w g T l) (o : Obj) : Arrb (w.alloc o) g T l := by
  unfold Arrb
  rw [Below.heap_alloc w o g h.lt]
  exact h
theorem Arrb.new (w : World) (T : TypeId) (l : List Bool) : Arrb (w.alloc (.cells (rowb l) T)) w.heap.size T l := heap_alloc_new w _
theorem Arrb.drewN {w : World} {g : Nat} {T : TypeId} {l : List Bool} (h : Arrb w g T l) (n : Nat) : Arrb (w.drewN n) g T l := h
theorem Arrb.below {w w' : World} {g : Nat} {T : TypeId} {l : List Bool} (h : Arrb w g T l) {B : Nat} (hb : Below B w w') (hg : g < B) : Arrb w' g T l := by
  unfold Arrb
  rw [hb.block g hg]
  exact h
section
variable {P : Program}

/-- A whole row is stored into a block. -/
theorem run_storeAt_row (w : World) (g : Nat) (t ty : TypeId) (old cs : Array Value) (hg : w.heap[g]? = some (.cells old t (0, 0))) (hs : old.size = cs.size)
    (hi : (P.info? ty).map (·.size) = some cs.size) (h1 : ∀ v ∈ cs.toList, v.oneCell' = true) :
    (Instr.storeAt ty (.pointer (some ⟨g, 0, none⟩)) (.agg cs)).run P w = .ok () (w.setRow g cs) := by
  cases hq : P.info? ty with
  | none => simp [hq] at hi
  | some i =>
    have hsz : i.size = cs.size := by simpa [hq] using hi
    have hst := run_storeCells_at P g 0 t cs.toList 0 old w hg (by simp [hs]) h1
    have e : (old.toList.take (0 + 0) ++ cs.toList ++ old.toList.drop (0 + 0 + cs.toList.length)).toArray = cs := by
      apply Array.ext'
      simp
      omega
    rw [e] at hst
    simp [Instr.storeAt, Instr.sureAddr, storeVar, sizeOf, typeInfo, hq, hsz, Value.cells, hst]

theorem wpList_store_row {ops : Array Oper} {rest : List Oper} {o : Oper} {a : Act} {w : World} {Q : Exit → Act → World → Prop} (hgd : o.guard = none) (ty : TypeId) (x y : Operand) (ho : o.op = .store ty x y) (hd : o.dst = none)
    (g : Nat) (t : TypeId) (old cs : Array Value) (hx : a.eval x = .pointer (some ⟨g, 0, none⟩)) (hy : a.eval y = .agg cs) (hg : w.heap[g]? = some (.cells old t (0, 0))) (hs : old.size = cs.size)
    (hi : (P.info? ty).map (·.size) = some cs.size) (h1 : ∀ v ∈ cs.toList, v.oneCell' = true)
    (h : wpList P ops Q rest a (w.setRow g cs)) : wpList P ops Q (o :: rest) a w := by
  refine wpList_plain hgd fun K hK => ?_
  unfold Oper.wp execOp
  simp only [ho, hx, hy, Sem.run_bind, run_storeAt_row w g t ty old cs hg hs hi h1, Result.andThen_ok]
  exact hK _ _ (by rw [hd]; exact h)

/-- A result that lies in a row of its own. -/
theorem ret_row {fn : Func} {p : Tmp} {ty : TypeId} (h : fn.results = #[.cell p ty]) {R : Ending → World → Prop} {a : Act} {w : World} {g : Nat} {t : TypeId} {l : List Int} {d : TypeDesc}
    (hp : a.tmps.getD p undef = .pointer (some ⟨g, 0, none⟩)) (hg : Arr w g t l)
    (hu : P.underlying ty = some d) (hd : (match d with | .struct _ | .array _ _ => true | _ => false) = true) (hi : (P.info? ty).map (·.size) = some l.length) (hdef : a.defers = [])
    (hR : R (.returned (.agg (row l))) w) : bodyPost P fn R .ret a w :=
  bodyPost_ret (results_cell_row h _ w g t (row l) (0, 0) d hp hg hu hd (by rw [row_size]; exact hi)) hdef hR
end

/-- Two results: a row of its own, and a number or bool in a slot. -/
theorem ret_row_tmp {P : Program} {fn : Func} {p q : Tmp} {ty : TypeId} (h : fn.results = #[.cell p ty, .tmp q]) {R : Ending → World → Prop} {a : Act} {w : World} {g : Nat} {t : TypeId} {l : List Int} {d : TypeDesc}
    (hp : a.tmps.getD p undef = .pointer (some ⟨g, 0, none⟩)) (hg : Arr w g t l)
    (hu : P.underlying ty = some d) (hd : (match d with | .struct _ | .array _ _ => true | _ => false) = true) (hi : (P.info? ty).map (·.size) = some l.length) (hdef : a.defers = [])
    (hR : R (.returned (.tuple #[.agg (row l), a.tmps.getD q undef])) w) : bodyPost P fn R .ret a w := by
  have hp' : a.tmps[p]?.getD undef = .pointer (some ⟨g, 0, none⟩) := by simpa using hp
  refine bodyPost_ret (v := .tuple #[.agg (row l), a.tmps.getD q undef]) ?_ hdef hR
  simp [results, h, hp', asAddr, run_loadVar_row w g t ty (row l) (0, 0) d hg hu hd (by rw [row_size]; exact hi)]

theorem cell_setCell_far {w : World} {p q : Addr} {v : Value} (h : w.cell? q = some v) (hne : q.block ≠ p.block) (u : Value) : (w.setCell p u).cell? q = some v := by
  rw [World.cell?_of_block (w := w) (heap_setCell_other w p q.block u hne)]
  exact h

theorem Arr.setRow {w : World} {g : Nat} {T : TypeId} {old l : List Int} (h : Arr w g T old) : Arr (w.setRow g (row l)) g T l := setRow_heap w g _ _ T _ h
theorem Arr.setRow_other {w : World} {g k : Nat} {T : TypeId} {l : List Int} (h : Arr w g T l) (cs : Array Value) (hne : g ≠ k) : Arr (w.setRow k cs) g T l := by
  unfold Arr
  rw [_root_.Go.setRow_other w k g cs hne]
  exact h
theorem Arrb.setRow_other {w : World} {g k : Nat} {T : TypeId} {l : List Bool} (h : Arrb w g T l) (cs : Array Value) (hne : g ≠ k) : Arrb (w.setRow k cs) g T l := by
  unfold Arrb
  rw [_root_.Go.setRow_other w k g cs hne]
  exact h
theorem below_setRow {B : Nat} {a w : World} (h : Below B a w) {g : Nat} (hg : B ≤ g) (cs : Array Value) : Below B a (w.setRow g cs) :=
  h.trans ⟨rfl, rfl, rfl, by simp, fun k hk => _root_.Go.setRow_other w g k cs (by omega)⟩

/-- A new variable of a row's type, and a row stored there at once. -/
theorem box_row (w : World) (T : TypeId) (z l : List Int) :
    Below w.heap.size w ((w.alloc (.cells (row z) T)).setRow w.heap.size (row l)) ∧ Arr ((w.alloc (.cells (row z) T)).setRow w.heap.size (row l)) w.heap.size T l ∧
    ((w.alloc (.cells (row z) T)).setRow w.heap.size (row l)).heap.size = w.heap.size + 1 :=
  ⟨below_setRow ((Below.refl _ w).alloc (Nat.le_refl _) _) (Nat.le_refl _) _, (Arr.new w T z).setRow, by rw [setRow_size, World.size_alloc]⟩

end Go.Proofs.Ytaeiijncklmfdaa

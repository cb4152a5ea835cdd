/-
  class.split: each atom is parted by a class.
-/
import Derived.Test.YtakimaceohfpcaaSortC
import Derived.Test.YtakimaceohfpcaaBytes
import Derived.Test.YtakimaceohfpcaaEqC
import Derived.Test.YtakimaceohfpcaaOf
import Derived.Deep.RegionHeld3
import Derived.Deep.AppendLies
import Derived.Deep.DeepCutAuto
namespace Go.Proofs.Ytakimaceohfpcaa
open Go.RowKit

def andC (a c : Cl) : Cl := ⟨andL a.1 c.1, isC_and _ _ a.2 c.2⟩
def notC (c : Cl) : Cl := ⟨notL c.1, isC_not _ c.2⟩
def noneC : Cl := ⟨noneL, isC_none⟩
/-- The parts of one atom. -/
def partL (c a : Cl) : List Cl := if andL a.1 c.1 = a.1 ∨ andL a.1 c.1 = noneL then [a] else [andC a c, andC a (notC c)]
def splitL (cs : List Cl) (c : Cl) : List Cl := cs.flatMap (partL c)
theorem splitL_take (cs : List Cl) (c : Cl) (k : Nat) (h : k < cs.length) : splitL (cs.take (k + 1)) c = splitL (cs.take k) c ++ partL c cs[k] := by
  unfold splitL
  rw [List.take_succ_eq_append_getElem h, List.flatMap_append]
  simp
theorem partL_len (c a : Cl) : (partL c a).length ≤ 2 ∧ 1 ≤ (partL c a).length := by unfold partL; split <;> simp
theorem splitL_len (cs : List Cl) (c : Cl) : (splitL cs c).length ≤ cs.length * 2 := by
  induction cs with
  | nil => simp [splitL]
  | cons x t ih =>
    have := (partL_len c x).1
    unfold splitL at ih ⊢
    rw [List.flatMap_cons, List.length_append, List.length_cons]
    omega
theorem infoCl : (Try.prog.info? 24).map (fun i => (i.zero, i.size, i.bytes)) = some (some (.agg #[.int .u64 0, .int .u64 0, .int .u64 0, .int .u64 0]), 4, 32) := by kernel_rfl
theorem cellsC_one (cs : List Cl) : ∀ u ∈ cellsC cs, u.oneCell' = true := by
  intro u hu
  unfold cellsC at hu
  obtain ⟨x, _, hx⟩ := List.mem_flatMap.1 hu
  unfold encC at hx
  obtain ⟨_, _, rfl⟩ := List.mem_map.1 hx
  rfl
theorem news_block (w : World) (xs : List Value) (T : TypeId) : ∀ j u, xs[j]? = some u → (w.alloc (.cells xs.toArray T)).cell? ((⟨w.heap.size, 0, none⟩ : Addr).add j) = some u := by
  intro j u hj
  rw [show (⟨w.heap.size, 0, none⟩ : Addr).add j = ⟨w.heap.size, j, none⟩ by simp [Addr.add]; exact fun h => h.symm, cell_of_row _ w.heap.size j _ _ (0, 0) (heap_alloc_new w _)]
  simpa using hj

/-- append(out, some classes...): they lie in a block of their own, just laid. -/
theorem append_cs {ops : Array Oper} {rest : List Oper} {o : Oper} {a : Act} {w : World} {Q : Exit → Act → World → Prop} (hgd : o.guard = none) (s x : Operand)
    (ho : o.op = .call { callee := .builtin .append, args := #[s, x], argTypes := #[53, 53] })
    (base : Nat) (v : Value) (xs ys : List Cl) (n : Nat) (hn : ys.length = n) (bl : Array Value) (hbl : bl = (cellsC ys).toArray) (hs : a.eval s = v) (hown : OwnCs w base v xs) (hx : a.eval x = .slice (some ⟨w.heap.size, 0, none⟩) n n)
    (hsum : xs.length + n ≤ 4398046511104) (hbase : base ≤ w.heap.size)
    (h : ∀ v' w', OwnCs w' base v' (xs ++ ys) → AppPost w w' base v v' → wpList Try.prog ops Q rest (a.put o.dst v') w') :
    wpList Try.prog ops Q (o :: rest) a (w.alloc (.cells bl 24)) := by
  subst hbl hn
  obtain ⟨i0, hi, hz0, hz1, hz2⟩ := info_partsQ infoCl
  refine wpList_append_own_at _ hgd s x 53 ho base 24 i0 _ 4 32 Try.underlying53 hi hz0 hz1 hz2 rfl (by decide) v xs.length (cellsC xs) hs (World.ownsRow.alloc hown _) ⟨w.heap.size, 0, none⟩ ys.length ys.length (cellsC ys) hx (cellsC_len ys) (news_block w _ _) (cellsC_one ys) (by unfold maxLen; omega) (by omega) (by rw [World.size_alloc]; omega) ?_
  intro v' w' hown' hgrow _ hat
  refine h v' w' ?_ (app_post hown (Nat.le_refl _) hbase ((Below.refl _ w).alloc (Nat.le_refl _) _) hgrow hat)
  unfold OwnCs
  rw [List.length_append, cellsC_append]
  exact hown'

/-- The same at a step of a region that draws its order. -/
theorem step_append_cs {ops : Array Oper} {o : Oper} {a : Act} {w : World} {K : Act → World → Prop} {Q : Exit → Act → World → Prop} {E : Prop} (hgd : o.guard = none) (s x : Operand)
    (ho : o.op = .call { callee := .builtin .append, args := #[s, x], argTypes := #[53, 53] })
    (base : Nat) (v : Value) (xs ys : List Cl) (n : Nat) (hn : ys.length = n) (hn0 : 0 < n) (bl : Array Value) (hbl : bl = (cellsC ys).toArray) (hs : a.eval s = v) (hown : OwnCs w base v xs) (hx : a.eval x = .slice (some ⟨w.heap.size, 0, none⟩) n n)
    (hsum : xs.length + n ≤ 4398046511104) (hbase : base ≤ w.heap.size)
    (h : ∀ g cap w', OwnCs w' base (.slice (some ⟨g, 0, none⟩) (xs.length + n) cap) (xs ++ ys) → AppPost (w.alloc (.cells bl 24)) w' base v (.slice (some ⟨g, 0, none⟩) (xs.length + n) cap) → K (a.put o.dst (.slice (some ⟨g, 0, none⟩) (xs.length + n) cap)) w') :
    if Region.wanted o (yielded ops a.tmps) = true then Oper.wp Try.prog o a (w.alloc (.cells bl 24)) K Q else E := by
  subst hbl hn
  obtain ⟨i0, hi, hz0, hz1, hz2⟩ := info_partsQ infoCl
  refine step_append_lies _ hgd s x 53 ho base 24 i0 _ 4 32 Try.underlying53 hi hz0 hz1 hz2 rfl (by decide) v xs.length (cellsC xs) hs (World.ownsRow.alloc hown _) ⟨w.heap.size, 0, none⟩ ys.length ys.length (cellsC ys) hx (cellsC_len ys) (news_block w _ _) (cellsC_one ys) hn0 (by unfold maxLen; omega) (by omega) (by rw [World.size_alloc]; omega) _ rfl ?_
  intro g cap w' hown' hgrow hat _
  refine h g cap w' ?_ (app_post (World.ownsRow.alloc hown _) (Nat.le_refl _) (by rw [World.size_alloc]; omega) (Below.refl _ _) hgrow (hat.imp Eq.symm (congrArg some)))
  unfold OwnCs
  rw [List.length_append, cellsC_append]
  exact hown'

/-- What a region of split holds: three classes in boxes. -/
theorem keep3 {w w1 w2 : World} {b8 b7 b3 : Nat} {r0 r1 r2 r3 p0 p1 p2 p3 q0 q1 q2 q3 : Nat}
    (h : (w1.cell? ⟨b8, 0, none⟩ = some (.int .u64 (r0 : Int)) ∧ w1.cell? ⟨b8, 1, none⟩ = some (.int .u64 (r1 : Int)) ∧ w1.cell? ⟨b8, 2, none⟩ = some (.int .u64 (r2 : Int)) ∧ w1.cell? ⟨b8, 3, none⟩ = some (.int .u64 (r3 : Int))) ∧
      (w1.cell? ⟨b7, 0, none⟩ = some (.int .u64 (p0 : Int)) ∧ w1.cell? ⟨b7, 1, none⟩ = some (.int .u64 (p1 : Int)) ∧ w1.cell? ⟨b7, 2, none⟩ = some (.int .u64 (p2 : Int)) ∧ w1.cell? ⟨b7, 3, none⟩ = some (.int .u64 (p3 : Int))) ∧
      (w1.cell? ⟨b3, 0, none⟩ = some (.int .u64 (q0 : Int)) ∧ w1.cell? ⟨b3, 1, none⟩ = some (.int .u64 (q1 : Int)) ∧ w1.cell? ⟨b3, 2, none⟩ = some (.int .u64 (q2 : Int)) ∧ w1.cell? ⟨b3, 3, none⟩ = some (.int .u64 (q3 : Int))) ∧ Below w.heap.size w w1)
    (hk : ∀ b, b = b8 ∨ b = b7 ∨ b = b3 → b < w1.heap.size → w2.heap[b]? = w1.heap[b]?) (hB : Below w.heap.size w w2) :
    (w2.cell? ⟨b8, 0, none⟩ = some (.int .u64 (r0 : Int)) ∧ w2.cell? ⟨b8, 1, none⟩ = some (.int .u64 (r1 : Int)) ∧ w2.cell? ⟨b8, 2, none⟩ = some (.int .u64 (r2 : Int)) ∧ w2.cell? ⟨b8, 3, none⟩ = some (.int .u64 (r3 : Int))) ∧
      (w2.cell? ⟨b7, 0, none⟩ = some (.int .u64 (p0 : Int)) ∧ w2.cell? ⟨b7, 1, none⟩ = some (.int .u64 (p1 : Int)) ∧ w2.cell? ⟨b7, 2, none⟩ = some (.int .u64 (p2 : Int)) ∧ w2.cell? ⟨b7, 3, none⟩ = some (.int .u64 (p3 : Int))) ∧
      (w2.cell? ⟨b3, 0, none⟩ = some (.int .u64 (q0 : Int)) ∧ w2.cell? ⟨b3, 1, none⟩ = some (.int .u64 (q1 : Int)) ∧ w2.cell? ⟨b3, 2, none⟩ = some (.int .u64 (q2 : Int)) ∧ w2.cell? ⟨b3, 3, none⟩ = some (.int .u64 (q3 : Int))) ∧ Below w.heap.size w w2 := by
  have k : ∀ {a : Addr} {v}, (a.block = b8 ∨ a.block = b7 ∨ a.block = b3) → w1.cell? a = some v → w2.cell? a = some v := fun {a v} hb ha => by
    rw [World.cell?_of_block (w := w1) (hk a.block hb (World.block_lt_of_cell? w1 _ ha))]; exact ha
  obtain ⟨⟨x0, x1, x2, x3⟩, ⟨y0, y1, y2, y3⟩, ⟨z0, z1, z2, z3⟩, _⟩ := h
  exact ⟨⟨k (.inl rfl) x0, k (.inl rfl) x1, k (.inl rfl) x2, k (.inl rfl) x3⟩, ⟨k (.inr (.inl rfl)) y0, k (.inr (.inl rfl)) y1, k (.inr (.inl rfl)) y2, k (.inr (.inl rfl)) y3⟩, ⟨k (.inr (.inr rfl)) z0, k (.inr (.inr rfl)) z1, k (.inr (.inr rfl)) z2, k (.inr (.inr rfl)) z3⟩, hB⟩
theorem keep3B {w w1 w2 : World} {b8 b7 b3 : Nat} {r0 r1 r2 r3 p0 p1 p2 p3 q0 q1 q2 q3 : Nat}
    (h : (w1.cell? ⟨b8, 0, none⟩ = some (.int .u64 (r0 : Int)) ∧ w1.cell? ⟨b8, 1, none⟩ = some (.int .u64 (r1 : Int)) ∧ w1.cell? ⟨b8, 2, none⟩ = some (.int .u64 (r2 : Int)) ∧ w1.cell? ⟨b8, 3, none⟩ = some (.int .u64 (r3 : Int))) ∧
      (w1.cell? ⟨b7, 0, none⟩ = some (.int .u64 (p0 : Int)) ∧ w1.cell? ⟨b7, 1, none⟩ = some (.int .u64 (p1 : Int)) ∧ w1.cell? ⟨b7, 2, none⟩ = some (.int .u64 (p2 : Int)) ∧ w1.cell? ⟨b7, 3, none⟩ = some (.int .u64 (p3 : Int))) ∧
      (w1.cell? ⟨b3, 0, none⟩ = some (.int .u64 (q0 : Int)) ∧ w1.cell? ⟨b3, 1, none⟩ = some (.int .u64 (q1 : Int)) ∧ w1.cell? ⟨b3, 2, none⟩ = some (.int .u64 (q2 : Int)) ∧ w1.cell? ⟨b3, 3, none⟩ = some (.int .u64 (q3 : Int))) ∧ Below w.heap.size w w1) (hb : Below w1.heap.size w1 w2) :
    (w2.cell? ⟨b8, 0, none⟩ = some (.int .u64 (r0 : Int)) ∧ w2.cell? ⟨b8, 1, none⟩ = some (.int .u64 (r1 : Int)) ∧ w2.cell? ⟨b8, 2, none⟩ = some (.int .u64 (r2 : Int)) ∧ w2.cell? ⟨b8, 3, none⟩ = some (.int .u64 (r3 : Int))) ∧
      (w2.cell? ⟨b7, 0, none⟩ = some (.int .u64 (p0 : Int)) ∧ w2.cell? ⟨b7, 1, none⟩ = some (.int .u64 (p1 : Int)) ∧ w2.cell? ⟨b7, 2, none⟩ = some (.int .u64 (p2 : Int)) ∧ w2.cell? ⟨b7, 3, none⟩ = some (.int .u64 (p3 : Int))) ∧
      (w2.cell? ⟨b3, 0, none⟩ = some (.int .u64 (q0 : Int)) ∧ w2.cell? ⟨b3, 1, none⟩ = some (.int .u64 (q1 : Int)) ∧ w2.cell? ⟨b3, 2, none⟩ = some (.int .u64 (q2 : Int)) ∧ w2.cell? ⟨b3, 3, none⟩ = some (.int .u64 (q3 : Int))) ∧ Below w.heap.size w w2 := keep3 h (fun b _ hl => hb.block b hl) (h.2.2.2.trans (hb.mono h.2.2.2.size))
theorem keep3A {w w1 w2 : World} {base b8 b7 b3 : Nat} {v v' : Value} {r0 r1 r2 r3 p0 p1 p2 p3 q0 q1 q2 q3 : Nat}
    (h : (w1.cell? ⟨b8, 0, none⟩ = some (.int .u64 (r0 : Int)) ∧ w1.cell? ⟨b8, 1, none⟩ = some (.int .u64 (r1 : Int)) ∧ w1.cell? ⟨b8, 2, none⟩ = some (.int .u64 (r2 : Int)) ∧ w1.cell? ⟨b8, 3, none⟩ = some (.int .u64 (r3 : Int))) ∧
      (w1.cell? ⟨b7, 0, none⟩ = some (.int .u64 (p0 : Int)) ∧ w1.cell? ⟨b7, 1, none⟩ = some (.int .u64 (p1 : Int)) ∧ w1.cell? ⟨b7, 2, none⟩ = some (.int .u64 (p2 : Int)) ∧ w1.cell? ⟨b7, 3, none⟩ = some (.int .u64 (p3 : Int))) ∧
      (w1.cell? ⟨b3, 0, none⟩ = some (.int .u64 (q0 : Int)) ∧ w1.cell? ⟨b3, 1, none⟩ = some (.int .u64 (q1 : Int)) ∧ w1.cell? ⟨b3, 2, none⟩ = some (.int .u64 (q2 : Int)) ∧ w1.cell? ⟨b3, 3, none⟩ = some (.int .u64 (q3 : Int))) ∧ Below w.heap.size w w1) (hA : AppPost w1 w2 base v v') (hne : ∀ b, b = b8 ∨ b = b7 ∨ b = b3 → v.ownBlock ≠ some b) (hb : w.heap.size ≤ base) :
    (w2.cell? ⟨b8, 0, none⟩ = some (.int .u64 (r0 : Int)) ∧ w2.cell? ⟨b8, 1, none⟩ = some (.int .u64 (r1 : Int)) ∧ w2.cell? ⟨b8, 2, none⟩ = some (.int .u64 (r2 : Int)) ∧ w2.cell? ⟨b8, 3, none⟩ = some (.int .u64 (r3 : Int))) ∧
      (w2.cell? ⟨b7, 0, none⟩ = some (.int .u64 (p0 : Int)) ∧ w2.cell? ⟨b7, 1, none⟩ = some (.int .u64 (p1 : Int)) ∧ w2.cell? ⟨b7, 2, none⟩ = some (.int .u64 (p2 : Int)) ∧ w2.cell? ⟨b7, 3, none⟩ = some (.int .u64 (p3 : Int))) ∧
      (w2.cell? ⟨b3, 0, none⟩ = some (.int .u64 (q0 : Int)) ∧ w2.cell? ⟨b3, 1, none⟩ = some (.int .u64 (q1 : Int)) ∧ w2.cell? ⟨b3, 2, none⟩ = some (.int .u64 (q2 : Int)) ∧ w2.cell? ⟨b3, 3, none⟩ = some (.int .u64 (q3 : Int))) ∧ Below w.heap.size w w2 := keep3 h (fun b hb hl => hA.block b hl (hne b hb)) (hA.bel _ _ h.2.2.2 hb)
theorem below_of3 {w w1 w2 : World} (h : Below w.heap.size w w1) (hb : Below w1.heap.size w1 w2) : Below w.heap.size w w2 := h.trans (hb.mono h.size)

theorem own_words {w : World} {base g cap : Nat} {cs : List Cl} (h : OwnCs w base (.slice (some ⟨g, 0, none⟩) cs.length cap) cs) (k : Nat) (hk : k < cs.length) (p0 p1 p2 p3 : Nat) (e : cs[k].1 = [p0, p1, p2, p3]) :
    w.cell? ⟨g, k * 4, none⟩ = some (.int .u64 (p0 : Int)) ∧ w.cell? ⟨g, k * 4 + 1, none⟩ = some (.int .u64 (p1 : Int)) ∧ w.cell? ⟨g, k * 4 + 2, none⟩ = some (.int .u64 (p2 : Int)) ∧ w.cell? ⟨g, k * 4 + 3, none⟩ = some (.int .u64 (p3 : Int)) := by
  have hx : encC cs[k] = [.int .u64 (p0 : Int), .int .u64 (p1 : Int), .int .u64 (p2 : Int), .int .u64 (p3 : Int)] := by unfold encC; rw [e]; rfl
  have hc : ∀ c, c < 4 → w.cell? ⟨g, k * 4 + c, none⟩ = (encC cs[k])[c]? := fun c hc => by
    rw [h.cellAt (k * 4 + c) (by omega), cellsC_get cs k c hc, List.getElem?_eq_getElem hk]; rfl
  exact ⟨by rw [show k * 4 = k * 4 + 0 by omega, hc 0 (by omega), hx]; rfl, by rw [hc 1 (by omega), hx]; rfl, by rw [hc 2 (by omega), hx]; rfl, by rw [hc 3 (by omega), hx]; rfl⟩

theorem OwnCs.below {w w' : World} {base : Nat} {v : Value} {cs : List Cl} (h : OwnCs w base v cs) (hb : Below w.heap.size w w') : OwnCs w' base v cs :=
  World.ownsRow.kept h (row := none) ⟨hb.os, hb.tape, hb.output, hb.size, fun k hk _ => hb.block k hk⟩ (by cases v.ownBlock <;> simp)
theorem OwnCs.mono {w : World} {base base' : Nat} {v : Value} {cs : List Cl} (h : OwnCs w base v cs) (hb : base' ≤ base) : OwnCs w base' v cs := ⟨h.1, h.2.imp_right fun ⟨g, cap, cur, e, hg, r⟩ => ⟨g, cap, cur, e, by omega, r⟩⟩
theorem cells_of (a : Cl) {p0 p1 p2 p3 : Nat} (e : a.1 = [p0, p1, p2, p3]) : encC a = [.int .u64 (p0 : Int), .int .u64 (p1 : Int), .int .u64 (p2 : Int), .int .u64 (p3 : Int)] := by unfold encC; rw [e]; rfl
theorem partL_one {c a : Cl} (h : andL a.1 c.1 = a.1 ∨ andL a.1 c.1 = noneL) : partL c a = [a] := if_pos h
theorem partL_two {c a : Cl} (h : ¬ (andL a.1 c.1 = a.1 ∨ andL a.1 c.1 = noneL)) : partL c a = [andC a c, andC a (notC c)] := if_neg h

def SplitPost (w : World) (cs : List Cl) (c : Cl) (e : Ending) (w' : World) : Prop := ∃ v, e = .returned v ∧ OwnCs w' w.heap.size v (splitL cs c) ∧ Below w.heap.size w w'
def SplitInv (w : World) (cs : List Cl) (c : Cl) (v5 v11 : Value) (wr : World) : Prop :=
  ∃ k : Nat, k ≤ cs.length ∧ v11 = .int .i64 k ∧ OwnCs wr (w.heap.size + 1) v5 (splitL (cs.take k) c) ∧ Arr64 wr w.heap.size 24 c.1 ∧ Below w.heap.size w wr

set_option maxHeartbeats 4000000 in
set_option maxRecDepth 100000 in
theorem split_any (w : World) (base g cap : Nat) (cs : List Cl) (c : Cl) (h : OwnCs w base (.slice (some ⟨g, 0, none⟩) cs.length cap) cs) (hl : cs.length ≤ 1000000000) :
    Calls Try.prog 42 #[.slice (some ⟨g, 0, none⟩) cs.length cap, .agg (row64 c.1)] w (SplitPost w cs c) := by
  have hand := fun (W : World) (a : Cl) => and_any W a.1 c.1 a.2 c.2
  have hnot := fun (W : World) => not_any W c.1 c.2
  have hand2 := fun (W : World) (a : Cl) => and_any W a.1 (notL c.1) a.2 (isC_not _ c.2)
  have HA := Lib.hid hand
  have HN := Lib.hid hnot
  have HA2 := Lib.hid hand2
  obtain ⟨cl, hc⟩ := id c
  have hst : SplitInv w cs c (.slice none 0 0) (.int .i64 0) (w.alloc (.cells (row64 c.1) 24)) :=
    ⟨0, by omega, rfl, World.ownsRow_nil _ _ _ _, Arr64.new _ _ _, (Below.refl _ w).alloc (Nat.le_refl _) _⟩
  have HST := Lib.hid hst
  obtain ⟨q0, q1, q2, q3, hq⟩ := isC_words c.1 c.2
  have hrq : row64 c.1 = #[.int .u64 (q0 : Int), .int .u64 (q1 : Int), .int .u64 (q2 : Int), .int .u64 (q3 : Int)] := by rw [hq]; rfl
  rw [hrq] at hst ⊢
  have HST := Lib.hid hst
  have HRQ := Lib.hid hrq
  have HQ := Lib.hid hq
  have hgu := fun w op x y xs ys => run_guardTC w op x y xs ys
  have HG := Lib.hid hgu
  clear hand hnot hand2 hrq hq hst hgu hc cl
  obtain ⟨n, hn⟩ : ∃ n, cs.length = n := ⟨_, rfl⟩
  have HN0 := Lib.hid hn
  rw [hn] at h hl ⊢
  clear hn
  go_enter Try.func42, Try.ntmps42
  go_wp2_with fail
  go_loopw [5, 11] (fun v5 v11 wr => SplitInv w cs c v5 v11 wr) (fun _ i _ => n - (intOf i).toNat)
  case atStart => exact HST.out
  case round =>
    obtain ⟨k, hk, rfl, ho, hac, rb⟩ := hrel
    rw [HN0.out] at hk
    by_cases hlt : k < n
    · have hkl : k < cs.length := by rw [HN0.out]; exact hlt
      have hpl := splitL_take cs c k hkl
      have hsl := splitL_len (cs.take k) c
      rw [List.length_take] at hsl
      have hw := fun p0 p1 p2 p3 e => own_words (by rw [HN0.out]; exact h) k hkl p0 p1 p2 p3 e
      generalize cs[k] = a at hpl hw
      obtain ⟨p0, p1, p2, p3, hp⟩ := isC_words a.1 a.2
      obtain ⟨r0, r1, r2, r3, hr⟩ := isC_words (andL a.1 c.1) (isC_and _ _ a.2 c.2)
      have hrp : row64 a.1 = #[.int .u64 (p0 : Int), .int .u64 (p1 : Int), .int .u64 (p2 : Int), .int .u64 (p3 : Int)] := by rw [hp]; rfl
      have hrr : row64 (andL a.1 c.1) = #[.int .u64 (r0 : Int), .int .u64 (r1 : Int), .int .u64 (r2 : Int), .int .u64 (r3 : Int)] := by rw [hr]; rfl
      have hrz : row64 noneL = #[.int .u64 0, .int .u64 0, .int .u64 0, .int .u64 0] := rfl
      have hA := fun W => HA.out W a
      have q1' := fun W => run_eql_rowC W (andL a.1 c.1) a.1 (isC_and _ _ a.2 c.2).1 a.2.1
      have q2' := fun W => run_eql_rowC W (andL a.1 c.1) noneL (isC_and _ _ a.2 c.2).1 rfl
      have hA2 := fun W => HA2.out W a
      rw [hrp, hrr, HRQ.out] at hA
      rw [hrp, hrr] at q1'
      rw [hrr, hrz] at q2'
      rw [hrp] at hA2
      obtain ⟨w0, w1, w2, w3⟩ := hw p0 p1 p2 p3 hp
      have w0 := (rb.cell (World.block_lt_of_cell? w _ w0)).trans w0
      have w1 := (rb.cell (World.block_lt_of_cell? w _ w1)).trans w1
      have w2 := (rb.cell (World.block_lt_of_cell? w _ w2)).trans w2
      have w3 := (rb.cell (World.block_lt_of_cell? w _ w3)).trans w3
      obtain ⟨c0, c1, c2, c3⟩ := hac.four HQ.out
      have HAc := Lib.hid hA
      have HP := Lib.hid hp
      have HRR := Lib.hid hrr
      have HR := Lib.hid hr
      have HPL := Lib.hid hpl
      have hbs := rb.size
      have hlt1 := hac.lt
      have HLT := Lib.hid (World.ownsRow.lt ho)
      have hb0 := (Below.refl wr.heap.size wr).alloc (Nat.le_refl _) (.cells #[.int .u64 (p0 : Int), .int .u64 (p1 : Int), .int .u64 (p2 : Int), .int .u64 (p3 : Int)] 24)
      have a7 : Arr64 (wr.alloc (.cells #[.int .u64 (p0 : Int), .int .u64 (p1 : Int), .int .u64 (p2 : Int), .int .u64 (p3 : Int)] 24)) wr.heap.size 24 a.1 := by rw [← hrp]; exact Arr64.new _ _ _
      have hsz : wr.heap.size < (wr.alloc (.cells #[.int .u64 (p0 : Int), .int .u64 (p1 : Int), .int .u64 (p2 : Int), .int .u64 (p3 : Int)] 24)).heap.size := by rw [World.size_alloc]; omega
      have HB0 := Lib.hid hb0
      have HRP := Lib.hid hrp
      clear hrp hrr hrz hA hw hp hr hpl hb0
      go_wp2_with fail
      refine (HAc.out _).mono ?_
      rintro e wA ⟨rfl, hbA⟩
      generalize wr.alloc (.cells #[.int .u64 (p0 : Int), .int .u64 (p1 : Int), .int .u64 (p2 : Int), .int .u64 (p3 : Int)] 24) = Wa at hbA a7 hsz HB0
      have hbB := HB0.out.trans (hbA.mono (Nat.le_of_lt hsz))
      have hsA := hbA.size
      have a7 := a7.below hbA a7.lt
      have a7' := a7.alloc (.cells #[.int .u64 (r0 : Int), .int .u64 (r1 : Int), .int .u64 (r2 : Int), .int .u64 (r3 : Int)] 24)
      obtain ⟨d0, d1, d2, d3⟩ := a7'.four HP.out
      have hac := hac.below hbB hlt1
      have hac' := hac.alloc (.cells #[.int .u64 (r0 : Int), .int .u64 (r1 : Int), .int .u64 (r2 : Int), .int .u64 (r3 : Int)] 24)
      have ho := ho.below hbB
      have rb := rb.trans (hbB.mono hbs)
      clear w0 w1 w2 w3 c0 c1 c2 c3 hbA HAc HB0
      obtain ⟨e0, e1, e2, e3⟩ := hac.four HQ.out
      obtain ⟨c0, c1, c2, c3⟩ := hac'.four HQ.out
      have hgu := HG.out
      have a8 : Arr64 (wA.alloc (.cells #[.int .u64 (r0 : Int), .int .u64 (r1 : Int), .int .u64 (r2 : Int), .int .u64 (r3 : Int)] 24)) wA.heap.size 24 (andL a.1 c.1) := by rw [← HRR.out]; exact Arr64.new _ _ _
      obtain ⟨f0, f1, f2, f3⟩ := a8.four HR.out
      have hbC := (Below.refl wA.heap.size wA).alloc (Nat.le_refl _) (.cells #[.int .u64 (r0 : Int), .int .u64 (r1 : Int), .int .u64 (r2 : Int), .int .u64 (r3 : Int)] 24)
      have ho := ho.below hbC
      have rb := rb.trans (hbC.mono rb.size)
      have hbX : w.heap.size + 1 ≤ (wA.alloc (.cells #[.int .u64 (r0 : Int), .int .u64 (r1 : Int), .int .u64 (r2 : Int), .int .u64 (r3 : Int)] 24)).heap.size := by rw [World.size_alloc]; omega
      have h87 : wr.heap.size < wA.heap.size := by omega
      clear hbC a7 e0 e1 e2 e3 hac
      go_upto_region 6 with fail
      generalize wA.heap.size = b8 at f0 f1 f2 f3 a8 h87 ⊢
      generalize wA.alloc (.cells #[.int .u64 (r0 : Int), .int .u64 (r1 : Int), .int .u64 (r2 : Int), .int .u64 (r3 : Int)] 24) = W2 at a7' hac' a8 d0 d1 d2 d3 c0 c1 c2 c3 f0 f1 f2 f3 ho rb hbX ⊢
      by_cases hone : andL a.1 c.1 = a.1 ∨ andL a.1 c.1 = noneL
      · have hone1 := partL_one hone
        have q2 := fun W => q2' W
        have hor : decide (andL a.1 c.1 = a.1) = true ∨ decide (andL a.1 c.1 = a.1) = false ∧ decide (andL a.1 c.1 = noneL) = true := by
          rcases hone with e4 | e4
          · exact .inl (decide_eq_true e4)
          · by_cases e5 : andL a.1 c.1 = a.1
            · exact .inl (decide_eq_true e5)
            · exact .inr ⟨decide_eq_false e5, decide_eq_true e4⟩
        have HO := Lib.hid hone1
        have HC1 := Lib.hid (show #[Value.int .u64 (p0 : Int), .int .u64 (p1 : Int), .int .u64 (p2 : Int), .int .u64 (p3 : Int)] = (cellsC [a]).toArray by unfold cellsC; rw [List.flatMap_cons, cells_of a HP.out]; rfl)
        clear hone hone1 q2
        generalize decide (andL a.1 c.1 = a.1) = t1 at q1' hor
        generalize decide (andL a.1 c.1 = noneL) = t2 at q2' hor
        rcases hor with rfl | ⟨rfl, rfl⟩
        all_goals
          go_wp2_with (at_builtin; refine append_cs rfl (.tmp 26) (.tmp 28) rfl (w.heap.size + 1) _ (splitL (cs.take k) c) [a] 1 rfl _ HC1.out rfl ho rfl (by omega) hbX ?_)
          intro v' w9 ho9 hA9
          have rb9 := hA9.bel _ _ rb (by omega)
          have hac9 : Arr64 w9 w.heap.size 24 c.1 := (hA9.block _ hac'.lt (fun e => by have := (World.ownsRow.lt ho _ e).1; omega)).trans hac'
          rw [← HO.out, ← HPL.out] at ho9
          have HO9 := Lib.hid ho9
          clear ho9 hA9 ho rb hac' a7' a8 d0 d1 d2 d3 c0 c1 c2 c3 f0 f1 f2 f3 q1' q2' hgu hA2
          go_wp2_with fail
          go_roundw
          case rel => exact ⟨k + 1, by rw [HN0.out]; omega, by go_num, HO9.out, hac9, rb9⟩
          case measure => simp [intOf]; omega
      · have htwo1 := partL_two hone
        have hc1 : decide (andL a.1 c.1 = a.1) = false := decide_eq_false (fun e => hone (.inl e))
        have hc2 : decide (andL a.1 c.1 = noneL) = false := decide_eq_false (fun e => hone (.inr e))
        rw [hc1] at q1'
        rw [hc2] at q2'
        obtain ⟨s0, s1, s2, s3, hs⟩ := isC_words (andL a.1 (notL c.1)) (isC_and _ _ a.2 (isC_not _ c.2))
        obtain ⟨n0, n1, n2, n3, hn⟩ := isC_words (notL c.1) (isC_not _ c.2)
        have hrs : row64 (andL a.1 (notL c.1)) = #[.int .u64 (s0 : Int), .int .u64 (s1 : Int), .int .u64 (s2 : Int), .int .u64 (s3 : Int)] := by rw [hs]; rfl
        have hrn : row64 (notL c.1) = #[.int .u64 (n0 : Int), .int .u64 (n1 : Int), .int .u64 (n2 : Int), .int .u64 (n3 : Int)] := by rw [hn]; rfl
        have hno := HN.out
        rw [HRQ.out, hrn] at hno
        rw [hrs, hrn] at hA2
        have HO := Lib.hid htwo1
        have HC2 := Lib.hid (show #[Value.int .u64 (r0 : Int), .int .u64 (r1 : Int), .int .u64 (r2 : Int), .int .u64 (r3 : Int), .int .u64 (s0 : Int), .int .u64 (s1 : Int), .int .u64 (s2 : Int), .int .u64 (s3 : Int)] = (cellsC [andC a c, andC a (notC c)]).toArray by unfold cellsC; rw [List.flatMap_cons, List.flatMap_cons, cells_of (andC a c) HR.out, cells_of (andC a (notC c)) hs]; rfl)
        have HNO := Lib.hid hno
        have HA3 := Lib.hid hA2
        clear hone htwo1 hc1 hc2 hrs hrn hs hn hno hA2
        have hne : ∀ b, b = b8 ∨ b = wr.heap.size ∨ b = w.heap.size → u5.ownBlock ≠ some b := fun b hb e => by
          have := HLT.out b e
          omega
        have HNE := Lib.hid hne
        have hoD : OwnCs W2.drew (w.heap.size + 1) u5 (splitL (cs.take k) c) := ho
        have HOD := Lib.hid hoD
        clear hne hoD
        go_wp2_with fail
        go_region_held3 (fun w' => (w'.cell? ⟨b8, 0, none⟩ = some (.int .u64 (r0 : Int)) ∧ w'.cell? ⟨b8, 1, none⟩ = some (.int .u64 (r1 : Int)) ∧ w'.cell? ⟨b8, 2, none⟩ = some (.int .u64 (r2 : Int)) ∧ w'.cell? ⟨b8, 3, none⟩ = some (.int .u64 (r3 : Int))) ∧
      (w'.cell? ⟨wr.heap.size, 0, none⟩ = some (.int .u64 (p0 : Int)) ∧ w'.cell? ⟨wr.heap.size, 1, none⟩ = some (.int .u64 (p1 : Int)) ∧ w'.cell? ⟨wr.heap.size, 2, none⟩ = some (.int .u64 (p2 : Int)) ∧ w'.cell? ⟨wr.heap.size, 3, none⟩ = some (.int .u64 (p3 : Int))) ∧
      (w'.cell? ⟨w.heap.size, 0, none⟩ = some (.int .u64 (q0 : Int)) ∧ w'.cell? ⟨w.heap.size, 1, none⟩ = some (.int .u64 (q1 : Int)) ∧ w'.cell? ⟨w.heap.size, 2, none⟩ = some (.int .u64 (q2 : Int)) ∧ w'.cell? ⟨w.heap.size, 3, none⟩ = some (.int .u64 (q3 : Int))) ∧ Below w.heap.size w w')
          (first | exact ⟨⟨f0, f1, f2, f3⟩, ⟨d0, d1, d2, d3⟩, ⟨c0, c1, c2, c3⟩, rb.drew⟩ | assumption | exact keep3B (by assumption) (by assumption) | exact keep3B (by assumption) ((Below.refl _ _).alloc (Nat.le_refl _) _) | exact keep3A (by assumption) hA9 HNE.out (by omega))
          (first | (go_at_call 56; refine (HNO.out _).mono ?_; rintro e wN ⟨rfl, hbN⟩) | (go_at_call 55; refine (HA3.out _).mono ?_; rintro e wB ⟨rfl, hbB2⟩) | (refine step_append_cs (by rfl) (.tmp 30) (.tmp 36) (by rfl) (w.heap.size + 1) u5 (splitL (cs.take k) c) [andC a c, andC a (notC c)] 2 rfl (by omega) _ HC2.out (by rfl) ((HOD.out.below hbN).below hbB2) (by rfl) (by omega) (by have h1 := hbN.size; have h2 := hbB2.size; have h3 : W2.drew.heap.size = W2.heap.size := rfl; omega) ?_; intro g9 cap9 w9 ho9 hA9))
        rename_i hH
        have rb9 := hH.2.2.2
        have haN : Arr64 wN w.heap.size 24 c.1 := Arr64.below (show Arr64 W2.drew w.heap.size 24 c.1 from hac') hbN hac'.lt
        have haB := (haN.below hbB2 haN.lt).alloc (.cells #[.int .u64 (r0 : Int), .int .u64 (r1 : Int), .int .u64 (r2 : Int), .int .u64 (r3 : Int), .int .u64 (s0 : Int), .int .u64 (s1 : Int), .int .u64 (s2 : Int), .int .u64 (s3 : Int)] 24)
        have hac9 : Arr64 w9 w.heap.size 24 c.1 := (hA9.block _ haB.lt (HNE.out _ (.inr (.inr rfl)))).trans haB
        rw [← HO.out, ← HPL.out] at ho9
        have HO9 := Lib.hid ho9
        generalize (splitL (cs.take k) c).length + 2 = l9 at HO9 ⊢
        clear hH haN haB hbN hbB2 ho9 hA9 ho rb hac' a7' a8 d0 d1 d2 d3 c0 c1 c2 c3 f0 f1 f2 f3 q1' q2' hgu
        go_wp2_with fail
        go_roundw
        case rel => exact ⟨k + 1, by rw [HN0.out]; omega, by go_num, HO9.out, hac9, rb9⟩
        case measure => simp [intOf]; omega
    · have e : cs.take k = cs := List.take_of_length_le (by rw [HN0.out]; omega)
      rw [e] at ho
      have HO := Lib.hid (show SplitPost w cs c (.returned _) wr from ⟨_, rfl, OwnCs.mono ho (Nat.le_succ _), rb⟩)
      clear ho e hac
      go_wp2_with fail
      go_ret
      exact HO.out
end Go.Proofs.Ytakimaceohfpcaa

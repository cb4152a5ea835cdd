/-
  bracket.Print: what its walk keeps.
-/
import Derived.Test.YthegepiafodpjaaDoorBrV
import Derived.Test.YthegepiafodpjaaDoorBrN
import Derived.Test.YthegepiafodpjaaDoorRuns
import Derived.Test.YthegepiafodpjaaDoorRefRuns
import Derived.Test.YthegepiafodpjaaDoorOwnM
import Derived.Test.YthegepiafodpjaaDoorApp
import Derived.Test.YthegepiafodpjaaDoorBrY
import Derived.Test.YthegepiafodpjaaDoorBrQ
import Derived.Test.YthegepiafodpjaaDoorSigns4
import Derived.Deep.DeepCutAuto
namespace Go.Proofs.YthegepiafodpjaaDoor
open Go.RowKit

/-- Two boxes of classes: the class, and the class without bytes. -/
def PB (w wr : World) (c : List Nat) : Prop := wr.heap[w.heap.size]? = some (.cells (row64 c) 28 (0, 0)) ∧ wr.heap[w.heap.size + 1]? = some (.cells (row64 noneL) 28 (0, 0)) ∧ Below w.heap.size w wr
theorem PB.below {w wr w' : World} {c : List Nat} (h : PB w wr c) (hb : Below wr.heap.size wr w') : PB w w' c :=
  ⟨heap_b hb h.1, heap_b hb h.2.1, h.2.2.trans (hb.mono h.2.2.size)⟩
theorem PB.new (w : World) (c : List Nat) : ∃ w1 g g1, (w.alloc (.cells (row64 c) 28)).alloc (.cells (row64 noneL) 28) = w1 ∧ w.heap.size = g ∧ w.heap.size + 1 = g1 ∧ PB w w1 c := by
  refine ⟨_, _, _, rfl, rfl, rfl, ?_⟩
  have b1 := box1 w (.cells (row64 c) 28)
  have n1 := heap_alloc_new w (.cells (row64 c) 28)
  have e1 : (w.alloc (.cells (row64 c) 28)).heap.size = w.heap.size + 1 := by simp
  generalize w.alloc (.cells (row64 c) 28) = w1 at b1 n1 e1 ⊢
  have b2 := box1 w1 (.cells (row64 noneL) 28)
  have n2 := heap_alloc_new w1 (.cells (row64 noneL) 28)
  rw [e1] at n2
  exact ⟨heap_b b2 n1, n2, b1.trans (b2.mono (by omega))⟩

theorem PB.keep {w wr w' : World} {c : List Nat} (h : PB w wr c) (hb : Below (w.heap.size + 2) wr w') : PB w w' c :=
  ⟨by rw [hb.block _ (by omega)]; exact h.1, by rw [hb.block _ (by omega)]; exact h.2.1, h.2.2.trans (hb.mono (by omega))⟩
theorem PB.size {w wr : World} {c : List Nat} (h : PB w wr c) : w.heap.size + 2 ≤ wr.heap.size := (Array.getElem?_eq_some_iff.1 h.2.1).1
theorem PB.row {w wr : World} {c : List Nat} (h : PB w wr c) (c' : List Nat) : PB w (wr.setRow w.heap.size (row64 c')) c' :=
  ⟨setRow_heap _ _ _ _ _ _ h.1, by rw [_root_.Go.setRow_other _ _ _ _ (by omega)]; exact h.2.1, below_setRow h.2.2 (Nat.le_refl _) _⟩

theorem own_setRow4 {w : World} {base size n : Nat} {e : TypeId} {v : Value} {xs : List Value} (h : w.ownsRow base e size v n xs) (g : Nat) (hg : g < base) (cs : Array Value) : (w.setRow g cs).ownsRow base e size v n xs :=
  ⟨h.1, h.2.imp_right fun ⟨g', cap, cur, e', hb, hg', r⟩ => ⟨g', cap, cur, e', hb, (_root_.Go.setRow_other w g g' cs (by omega)).trans hg', r⟩⟩
theorem TX.lt {w : World} {base : Nat} {v : Value} {l : List Int} (h : TX w base v l) (hl : 0 < l.length) : ∀ k, v.ownBlock = some k → k < w.heap.size := by
  intro k hk
  rcases h with h | ⟨b, n, rfl, h⟩
  · exact (World.ownsRow.lt h k hk).2
  · obtain ⟨hn, hc⟩ := h.news
    have h0 := hc 0 (.int .u8 (l[0]'hl)) (by simp [hl])
    have := World.block_lt_of_cell? w _ h0
    simp only [Value.ownBlock, Option.some.injEq] at hk
    subst hk
    exact this
/-- append(s, l..) onto a text: what it leaves. -/
theorem append_txp {ops : Array Oper} {rest : List Oper} {o : Oper} {a : Act} {w : World} {Q : Exit → Act → World → Prop} (hgd : o.guard = none) (s x : Operand)
    (ho : o.op = .call { callee := .builtin .append, args := #[s, x], argTypes := #[91, 91] })
    (base : Nat) (v : Value) (xs l : List Int) (ad : Addr) (n c : Nat) (hs : a.eval s = v) (ht : TX w base v xs) (hx : a.eval x = .slice (some ad) n c) (hb : SB w (.slice (some ad) n c) l) (h0 : 0 < n)
    (hsum : xs.length + n ≤ 140737488355328) (hbase : base ≤ w.heap.size)
    (h : ∀ v' w', OwnB w' base v' (xs ++ l) → AppPost w w' base v v' → wpList Tryd.prog ops Q rest (a.put o.dst v') w') :
    wpList Tryd.prog ops Q (o :: rest) a w := by
  rcases ht with ht | ⟨b, k, rfl, ht⟩
  · exact append_sbp hgd s x ho base v xs l (some ad) n c hs ht hx (fun h => by cases h) hb hsum hbase h
  · refine append_full hgd s x ho xs l b ad k n c hs ht hx hb h0 hsum fun v' w' h1 h2 => h v' w' (h1.mono hbase) ⟨fun B w0 hB hle => hB.trans (h2.mono (by omega)), fun base2 e n xs vb m ho hap => ⟨World.ownsRow.kept ho (row := none) ⟨h2.os, h2.tape, h2.output, h2.size, fun k hk _ => h2.block k hk⟩ (by cases vb.ownBlock <;> simp), fun k e1 e2 => ?_⟩, fun k hk _ => h2.block k hk, h2.size, fun k hk => .inr (World.ownsRow.lt h1 k hk).1⟩
    have := (World.ownsRow.lt h1 k e1).1
    have := (World.ownsRow.lt ho k e2).2
    omega

/-- The loop over the runs: the text, the runs. -/
structure RW (w0 : World) (B B2 : Nat) (vr : Value) (rs : List (Nat × Nat)) (wr : World) (v : Value) (l : List Int) : Prop where
  tx : TX wr B v l
  runs : OwnRn wr B2 vr rs
  ap : Apart v vr
  bel : Below w0.heap.size w0 wr
  le : w0.heap.size ≤ B
  size : B ≤ wr.heap.size
  ne : 0 < l.length
theorem RW.below {w0 wr w' : World} {B B2 : Nat} {vr v : Value} {rs : List (Nat × Nat)} {l : List Int} (h : RW w0 B B2 vr rs wr v l) (hb : Below wr.heap.size wr w') : RW w0 B B2 vr rs w' v l :=
  ⟨h.tx.below hb, h.runs.below hb, h.ap, h.bel.trans (hb.mono h.bel.size), h.le, Nat.le_trans h.size hb.size, h.ne⟩
theorem RW.app {w0 wr w' : World} {B B2 : Nat} {vr v v' : Value} {rs : List (Nat × Nat)} {l l' : List Int} (h : RW w0 B B2 vr rs wr v l) (ho : OwnB w' B v' (l ++ l')) (hA : AppPost wr w' B v v') : RW w0 B B2 vr rs w' v' (l ++ l') := by
  obtain ⟨h1, h2⟩ := hA.other _ _ _ _ _ _ h.runs h.ap
  exact ⟨.inl ho, h1, h2, hA.bel _ _ h.bel h.le, h.le, Nat.le_trans h.size hA.size, by rw [List.length_append]; have := h.ne; omega⟩
theorem RW.at_ {w0 wr : World} {B B2 g m cap : Nat} {v : Value} {rs : List (Nat × Nat)} {l : List Int} (h : RW w0 B B2 (.slice (some ⟨g, 0, none⟩) m cap) rs wr v l) (hm : rs.length = m) (k : Nat) (hk : k < m) :
    wr.cell? ⟨g, k * 2, none⟩ = some (.int .u8 ((rs[k]?.getD (0, 0)).1 : Int)) ∧ wr.cell? ⟨g, k * 2 + 1, none⟩ = some (.int .u8 ((rs[k]?.getD (0, 0)).2 : Int)) := by
  obtain ⟨g', cap', e, hA⟩ := h.runs.at_ (by omega)
  simp only [Value.slice.injEq, Option.some.injEq, Addr.mk.injEq] at e
  have := e.1.1
  subst this
  exact hA k (by omega)
/-- A box that lies apart from the text. -/
def BoxR (wr : World) (v : Value) (g : Nat) (lo hi : Nat) : Prop := wr.heap[g]? = some (.cells #[.int .u8 (lo : Int), .int .u8 (hi : Int)] 95 (0, 0)) ∧ v.ownBlock ≠ some g
theorem BoxR.below {wr w' : World} {v : Value} {g lo hi : Nat} (h : BoxR wr v g lo hi) (hb : Below wr.heap.size wr w') : BoxR w' v g lo hi := ⟨heap_b hb h.1, h.2⟩
theorem BoxR.app {wr w' : World} {v v' : Value} {base g lo hi : Nat} (h : BoxR wr v g lo hi) (hA : AppPost wr w' base v v') : BoxR w' v' g lo hi := by
  have hlt := (Array.getElem?_eq_some_iff.1 h.1).1
  refine ⟨(hA.block g hlt h.2).trans h.1, fun e => ?_⟩
  rcases hA.new g e with e | e
  · exact h.2 e
  · omega
theorem BoxR.cells {wr : World} {v : Value} {g lo hi : Nat} (h : BoxR wr v g lo hi) : wr.cell? ⟨g, 0, none⟩ = some (.int .u8 (lo : Int)) ∧ wr.cell? ⟨g, 1, none⟩ = some (.int .u8 (hi : Int)) :=
  ⟨by rw [cell_of_row _ _ _ _ _ (0, 0) h.1]; rfl, by rw [cell_of_row _ _ _ _ _ (0, 0) h.1]; rfl⟩
theorem BoxR.new {w0 wr : World} {B B2 : Nat} {vr v : Value} {rs : List (Nat × Nat)} {l : List Int} (h : RW w0 B B2 vr rs wr v l) (lo hi : Nat) : RW w0 B B2 vr rs (wr.alloc (.cells #[.int .u8 (lo : Int), .int .u8 (hi : Int)] 95)) v l ∧ BoxR (wr.alloc (.cells #[.int .u8 (lo : Int), .int .u8 (hi : Int)] 95)) v wr.heap.size lo hi :=
  ⟨h.below (box1 _ _), heap_alloc_new wr _, fun e => by have := h.tx.lt h.ne _ e; omega⟩
/-- The text up to the first k runs. -/
def hdP (np : Bool) : List Int := 91 :: (if np = true then [94] else [])
def upP (np : Bool) (rs : List (Nat × Nat)) (k : Nat) : List Int := hdP np ++ (rs.take k).flatMap runI
theorem wrI_len (b : Nat) : 1 ≤ (wrI b).length ∧ (wrI b).length ≤ 5 := by unfold wrI; split <;> simp
theorem runI_len (r : Nat × Nat) : (runI r).length ≤ 11 := by
  have h1 := (wrI_len r.1).2
  have h2 := (wrI_len r.2).2
  unfold runI
  rw [List.length_append]
  split
  · simp; omega
  · simp; omega
theorem flat_len : ∀ rs : List (Nat × Nat), (rs.flatMap runI).length ≤ 11 * rs.length
  | [] => by simp
  | r :: rs => by
    have h1 := flat_len rs
    have h2 := runI_len r
    rw [List.flatMap_cons, List.length_append, List.length_cons]
    omega
theorem upP_len (np : Bool) (rs : List (Nat × Nat)) (k : Nat) (h : rs.length ≤ 256) : (upP np rs k).length ≤ 2818 ∧ 0 < (upP np rs k).length := by
  have h1 := flat_len (rs.take k)
  have h2 : (rs.take k).length ≤ 256 := by rw [List.length_take]; omega
  have h3 : (hdP np).length ≤ 2 ∧ 0 < (hdP np).length := by unfold hdP; split <;> simp
  unfold upP
  rw [List.length_append]
  omega
theorem upP_zero (np : Bool) (rs : List (Nat × Nat)) : upP np rs 0 = hdP np := by unfold upP; simp
theorem upP_step (np : Bool) (rs : List (Nat × Nat)) (k : Nat) (h : k < rs.length) : upP np rs (k + 1) = upP np rs k ++ runI (rs[k]?.getD (0, 0)) := by
  unfold upP
  rw [List.take_add_one, List.flatMap_append, List.getElem?_eq_getElem h, List.append_assoc]
  simp
theorem printI_up (c : List Nat) : printI c = upP (notP c) (runsP c) (runsP c).length ++ [93] := by
  unfold printI upP hdP
  rw [List.take_length]
  simp
theorem runsP_len (c : List Nat) : (runsP c).length ≤ 256 := by
  have h1 := runsOf_len (elemsL (inP c))
  have h2 := elemsU_len (inP c) 256
  exact Nat.le_trans h1 h2
theorem sg_snoc (l : List Int) (k : Nat) (h : k < l.length) : sg (l.take (k + 1)) = sg (l.take k) ++ [(l[k]?.getD 0, false)] := by
  rw [take_snoc l k h, sg_append]
  rfl
end Go.Proofs.YthegepiafodpjaaDoor

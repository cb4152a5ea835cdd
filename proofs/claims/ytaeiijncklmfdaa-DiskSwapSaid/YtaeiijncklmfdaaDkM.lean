/-
  Layer 3: a disk as mathematics, and how it lies in memory.
-/
import Derived.Test.YtaeiijncklmfdaaBytes
import Derived.MapKept
import Derived.Laws.IdiomRangeMap
namespace Go.Proofs.Ytaeiijncklmfdaa
open Go.RowKit

structure FileS where
  bytes : List Int
  synced : Int
  bad : Bool
structure ChS where
  gone : ByteArray
  to : ByteArray
  file : Option Nat
structure DkS where
  room : Int
  power : Bool
  folder : List (ByteArray × Nat)
  durable : List (ByteArray × Nat)
  pending : List ChS
  plan : List (Int × Int)
  tries : Int
  done : Int
  file : Nat → FileS
  ps : List Nat

def getK : List (ByteArray × Nat) → ByteArray → Option Nat
  | [], _ => none
  | x :: l, k => if x.1 == k then some x.2 else getK l k
def putK : List (ByteArray × Nat) → ByteArray → Nat → List (ByteArray × Nat)
  | [], k, p => [(k, p)]
  | x :: l, k, p => if x.1 == k then (k, p) :: l else x :: putK l k p
def delK : List (ByteArray × Nat) → ByteArray → List (ByteArray × Nat)
  | [], _ => []
  | x :: l, k => if x.1 == k then l else x :: delK l k
def ptV : Option Nat → Value
  | none => .pointer none
  | some p => .pointer (some ⟨p, 0, none⟩)
def kvE (e : MapEntry) : Value × Value := (e.key, e.val)
def kvV (x : ByteArray × Nat) : Value × Value := (.string x.1, ptV (some x.2))
def MapAt (w : World) (g : Nat) (L : List (ByteArray × Nat)) : Prop :=
  ∃ (es : Array MapEntry) (clock : Nat), w.heap[g]? = some (.map es clock) ∧ MapKept.Stamped es clock ∧ es.toList.map kvE = L.map kvV

theorem bqs (k : ByteArray) : (k == k) = true := (MapKept.bytes_beq k k).2 rfl
theorem bqn {a b : ByteArray} (h : a ≠ b) : (a == b) = false := by
  cases hc : a == b with
  | false => rfl
  | true => exact absurd ((MapKept.bytes_beq a b).1 hc) h

theorem findK (k : ByteArray) : ∀ (l : List MapEntry) (L : List (ByteArray × Nat)) (i : Nat), l.map kvE = L.map kvV →
    (getK L k = none ∧ Instr.findNow .string (.string k) l i = some none ∧ (∀ x ∈ l, x.key ≠ .string k) ∧ (∀ p, putK L k p = L ++ [(k, p)]) ∧ delK L k = L) ∨
    ∃ j p e, getK L k = some p ∧ Instr.findNow .string (.string k) l i = some (some (i + j, ptV (some p))) ∧ l[j]? = some e ∧ e.key = .string k ∧
      (∀ q, (l.modify j fun e => { e with key := .string k, val := ptV (some q) }).map kvE = (putK L k q).map kvV) ∧ (l.eraseIdx j).map kvE = (delK L k).map kvV
  | [], L, i, h => by
    have : L = [] := by simpa using h.symm
    subst this
    exact .inl ⟨rfl, rfl, fun _ hx => absurd hx (by simp), fun _ => rfl, rfl⟩
  | e :: l, [], i, h => by simp at h
  | e :: l, x :: L, i, h => by
    simp only [List.map_cons, List.cons.injEq] at h
    obtain ⟨h1, h2⟩ := h
    have hk : e.key = .string x.1 := congrArg Prod.fst h1
    have hv : e.val = ptV (some x.2) := congrArg Prod.snd h1
    by_cases hx : x.1 = k
    · right
      subst hx
      refine ⟨0, x.2, e, by simp [getK, bqs], by simp [Instr.findNow, hk, hv, Instr.sameNow, bqs], rfl, hk, fun q => ?_, ?_⟩
      · simp only [List.modify_zero_cons, List.map_cons, putK, bqs, if_true, h2]
        rfl
      · simp only [List.eraseIdx_cons_zero, delK, bqs, if_true, h2]
    · have hxk : (x.1 == k) = false := bqn hx
      have hkx : (k == x.1) = false := bqn (Ne.symm hx)
      have hf : ∀ r, Instr.findNow .string (.string k) (e :: l) i = r ↔ Instr.findNow .string (.string k) l (i + 1) = r := fun r => by
        simp only [Instr.findNow, hk, Instr.sameNow, hkx]
      rcases findK k l L (i + 1) h2 with ⟨a1, a2, a3, a4, a5⟩ | ⟨j, p, e', a1, a2, a3, a4, a5, a6⟩
      · left
        refine ⟨by simp [getK, hxk, a1], (hf _).2 a2, fun y hy => ?_, fun p => by simp [putK, hxk, a4], by simp [delK, hxk, a5]⟩
        rcases List.mem_cons.1 hy with rfl | hy
        · rw [hk]; intro hc; exact hx (by simpa using hc)
        · exact a3 y hy
      · right
        refine ⟨j + 1, p, e', by simp [getK, hxk, a1], (hf _).2 (by rw [a2]; simp only [Option.some.injEq, Prod.mk.injEq, and_true]; omega), by simpa using a3, a4, fun q => ?_, ?_⟩
        · rw [List.modify_succ_cons, List.map_cons, a5 q]
          simp only [putK, hxk, Bool.false_eq_true, if_false, List.map_cons, h1]
        · rw [List.eraseIdx_cons_succ, List.map_cons, a6]
          simp only [delK, hxk, Bool.false_eq_true, if_false, List.map_cons, h1]

theorem isKeyS (k : ByteArray) : MapKept.IsKey .string (.string k) := by simp [MapKept.IsKey]
theorem udM : Try.prog.underlying 66 = some (.map 9 97) := by kernel_rfl
theorem zeroPF (w : World) : (zeroValue 97).run Try.prog w = .ok (.pointer none) w := by kernel_rfl

theorem lookupK_run (w : World) (g : Nat) (L : List (ByteArray × Nat)) (h : MapAt w g L) (k : ByteArray) :
    (Instr.lookup 66 (.map (some g)) (.string k) false).run Try.prog w = .ok (ptV (getK L k)) w := by
  obtain ⟨es, clock, hg, hst, he⟩ := h
  have h4 := fun b W => MapKept.run_checkKey (P := Try.prog) (w := W) Try.underlying9 (isKeyS k) b 9999
  unfold Instr.lookup
  simp only [Sem.run_bind, run_underlying udM, Result.andThen, getObj, Sem.run, hg, h4]
  rcases findK k es.toList L 0 he with ⟨a1, a2, _⟩ | ⟨j, p, e, a1, a2, _⟩
  · have h3 := fun W => MapKept.run_findKey (P := Try.prog) (w := W) Try.underlying9 a2
    rw [a1]
    simp
    rw [h3 w]
    exact zeroPF w
  · have h3 := fun W => MapKept.run_findKey (P := Try.prog) (w := W) Try.underlying9 a2
    rw [a1]
    simp
    rw [h3 w]
    rfl

theorem heap_setIf (w : World) (g : Nat) (o : Obj) (h : g < w.heap.size) : (w.heap.setIfInBounds g o)[g]? = some o := by simp [h]
theorem insertK_run (w : World) (g : Nat) (L : List (ByteArray × Nat)) (h : MapAt w g L) (k : ByteArray) (p : Nat) :
    ∃ o : Obj, (Instr.mapUpdate 66 (.map (some g)) (.string k) (ptV (some p))).run Try.prog w = .ok () { w with heap := w.heap.setIfInBounds g o } ∧
      MapAt { w with heap := w.heap.setIfInBounds g o } g (putK L k p) := by
  obtain ⟨es, clock, hg, hst, he⟩ := h
  have h1 := fun W => MapKept.run_checkKey (P := Try.prog) (w := W) Try.underlying9 (isKeyS k) false 9999
  have hlt : g < w.heap.size := (Array.getElem?_eq_some_iff.1 hg).1
  rcases findK k es.toList L 0 he with ⟨a1, a2, a3, a4, _⟩ | ⟨j, q, e, a1, a2, a3, a4, a5, _⟩
  · have h2 := fun W => MapKept.run_findKey (P := Try.prog) (w := W) Try.underlying9 a2
    refine ⟨.map (es.push ⟨.string k, ptV (some p), clock⟩) (clock + 1), ?_, _, _, heap_setIf w g _ hlt, MapKept.stamped_push hst a3, ?_⟩
    · unfold Instr.mapUpdate
      simp only [Sem.run_bind, run_underlying udM, Result.andThen, getObj, Sem.run, hg, h1, h2, MapKept.run_setObj_map _ hg]
    · rw [Array.toList_push, List.map_append, he, a4, List.map_append]
      rfl
  · have h2 := fun W => MapKept.run_findKey (P := Try.prog) (w := W) Try.underlying9 a2
    have hj : es[j]? = some e := by simpa using a3
    have h5 := MapKept.run_keyThatStays (P := Try.prog) (w := w) (isKeyS k)
    refine ⟨.map (es.modify j fun e => { e with key := .string k, val := ptV (some p) }) clock, ?_, _, _, heap_setIf w g _ hlt, ?_, ?_⟩
    · unfold Instr.mapUpdate
      simp only [Sem.run_bind, run_underlying udM, Result.andThen, getObj, Sem.run, hg, h1, h2, Nat.zero_add, hj, Option.map_some, Option.getD_some, a4, h5, MapKept.run_setObj_map _ hg]
    · refine MapKept.stamped_modify hst _ _ (fun _ _ => rfl) fun x _ hx => ?_
      rw [hj] at hx
      cases hx
      exact a4.symm
    · rw [Array.toList_modify, a5 p]

theorem deleteK_run (w : World) (g : Nat) (L : List (ByteArray × Nat)) (h : MapAt w g L) (k : ByteArray) :
    ∃ o : Obj, (∀ ty, (Builtin.delete_ #[66, 9] ty #[.map (some g), .string k]).run Try.prog w = .ok (.tuple #[]) { w with heap := w.heap.setIfInBounds g o }) ∧
      MapAt { w with heap := w.heap.setIfInBounds g o } g (delK L k) := by
  obtain ⟨es, clock, hg, hst, he⟩ := h
  have h1 := fun b W => MapKept.run_checkKey (P := Try.prog) (w := W) Try.underlying9 (isKeyS k) b 9999
  have hlt : g < w.heap.size := (Array.getElem?_eq_some_iff.1 hg).1
  rcases findK k es.toList L 0 he with ⟨a1, a2, a3, a4, a5⟩ | ⟨j, q, e, a1, a2, a3, a4, a5, a6⟩
  · have h2 := fun W => MapKept.run_findKey (P := Try.prog) (w := W) Try.underlying9 a2
    refine ⟨.map es clock, ?_, es, clock, heap_setIf w g _ hlt, hst, by rw [a5]; exact he⟩
    intro ty
    simp [Builtin.delete_, run_underlying udM, MapKept.run_getObj_map hg, h1, h2, MapKept.run_setObj_map _ hg, Result.andThen]
  · have h2 := fun W => MapKept.run_findKey (P := Try.prog) (w := W) Try.underlying9 a2
    refine ⟨.map (es.eraseIdxIfInBounds j) clock, ?_, _, clock, heap_setIf w g _ hlt, MapKept.stamped_erase hst _, ?_⟩
    · intro ty
      simp [Builtin.delete_, run_underlying udM, MapKept.run_getObj_map hg, h1, h2, MapKept.run_setObj_map _ hg, Result.andThen]
    · have hj : j < es.size := by
        have := (List.getElem?_eq_some_iff.1 a3).1
        simpa using this
      rw [Array.eraseIdxIfInBounds_eq, dif_pos hj, Array.toList_eraseIdx, a6]
end Go.Proofs.Ytaeiijncklmfdaa

/-
  space.table: what each name does, as a map; the look-up.
-/
import Derived.Test.YtakimaceohfpcaaDoorBytes
import Derived.MapKept
import Derived.Carry
namespace Go.Proofs.YtakimaceohfpcaaDoor
open Go.RowKit

/-- The function of that number, as a value. -/
def fnV (f : Nat) : Value := .func (.func f) #[] #[]
def tabE : Array MapEntry := #[⟨.int .u8 103, fnV 136, 0⟩, ⟨.int .u8 71, fnV 137, 1⟩, ⟨.int .u8 104, fnV 138, 2⟩, ⟨.int .u8 72, fnV 139, 3⟩, ⟨.int .u8 120, fnV 140, 4⟩]

theorem set_last (w : World) (o o' : Obj) : ({ w.alloc o with heap := (w.alloc o).heap.setIfInBounds w.heap.size o' } : World) = w.alloc o' := by
  show ({ w.alloc o with heap := (w.heap.push o).setIfInBounds w.heap.size o' } : World) = { w with heap := w.heap.push o' }
  have : (w.heap.push o).setIfInBounds w.heap.size o' = w.heap.push o' := by
    apply Array.ext'
    simp
  rw [this]
  rfl

theorem udT : Tryd.prog.underlying 206 = some (.map 5 205) := by kernel_rfl
theorem isKeyB (k : Int) : MapKept.IsKey (.int .u8) (.int .u8 k) := by simp [MapKept.IsKey]
theorem insert_run (w : World) (es : Array MapEntry) (clock : Nat) (k : Int) (v : Value) (hno : Instr.findNow (.int .u8) (.int .u8 k) es.toList 0 = some none) :
    (Instr.mapUpdate 206 (.map (some w.heap.size)) (.int .u8 k) v).run Tryd.prog (w.alloc (.map es clock)) = .ok () (w.alloc (.map (es.push ⟨.int .u8 k, v, clock⟩) (clock + 1))) := by
  have h1 : (w.alloc (.map es clock)).heap[w.heap.size]? = some (.map es clock) := heap_alloc_new w _
  have h2 := fun W => MapKept.run_findKey (P := Tryd.prog) (w := W) Tryd.underlying5 hno
  have h3 := fun W => MapKept.run_checkKey (P := Tryd.prog) (w := W) Tryd.underlying5 (isKeyB k) false 9999
  have h4 := MapKept.run_setObj_map (P := Tryd.prog) (.map (es.push ⟨.int .u8 k, v, clock⟩) (clock + 1)) h1
  rw [set_last] at h4
  unfold Instr.mapUpdate
  simp only [Sem.run_bind, run_underlying udT, Result.andThen, getObj, Sem.run, h1, h3, h2, h4]

/-- What the look-up of a name finds. -/
def funOf (x : Int) : Value :=
  if x = 103 then fnV 136 else if x = 71 then fnV 137 else if x = 104 then fnV 138 else if x = 72 then fnV 139 else if x = 120 then fnV 140 else .nilFunc
theorem zeroF (w : World) : (zeroValue 205).run Tryd.prog w = .ok .nilFunc w := by kernel_rfl
theorem find_in (x : Int) : ∃ a, Instr.findNow (.int .u8) (.int .u8 x) tabE.toList 0 = some a ∧ (match a with | some (_, v) => v | none => .nilFunc) = funOf x := by
  unfold funOf tabE
  simp only [Instr.findNow, Instr.sameNow, if_true]
  by_cases h1 : x = 103
  · subst h1; exact ⟨_, rfl, rfl⟩
  by_cases h2 : x = 71
  · subst h2; exact ⟨_, rfl, rfl⟩
  by_cases h3 : x = 104
  · subst h3; exact ⟨_, rfl, rfl⟩
  by_cases h4 : x = 72
  · subst h4; exact ⟨_, rfl, rfl⟩
  by_cases h5 : x = 120
  · subst h5; exact ⟨_, rfl, rfl⟩
  simp only [if_neg h1, if_neg h2, if_neg h3, if_neg h4, if_neg h5]
  rw [beq_eq_false_iff_ne.2 h1, beq_eq_false_iff_ne.2 h2, beq_eq_false_iff_ne.2 h3, beq_eq_false_iff_ne.2 h4, beq_eq_false_iff_ne.2 h5]
  exact ⟨none, rfl, rfl⟩
theorem lookup_run (w : World) (g : Nat) (x : Int) (hg : w.heap[g]? = some (.map tabE 5)) :
    (Instr.lookup 206 (.map (some g)) (.int .u8 x) false).run Tryd.prog w = .ok (funOf x) w := by
  obtain ⟨a, h1, h2⟩ := find_in x
  have h3 := fun W => MapKept.run_findKey (P := Tryd.prog) (w := W) Tryd.underlying5 h1
  have h4 := fun b W => MapKept.run_checkKey (P := Tryd.prog) (w := W) Tryd.underlying5 (isKeyB x) b 9999
  unfold Instr.lookup
  simp only [Sem.run_bind, run_underlying udT, Result.andThen, getObj, Sem.run, hg, h4]
  cases a with
  | none =>
    simp [← h2]
    rw [h3 w]
    exact zeroF w
  | some p =>
    simp [← h2]
    rw [h3 w]
    rfl

set_option maxRecDepth 100000 in
theorem table_any (w : World) : Calls Tryd.prog 129 #[] w fun e w' => e = .returned (.map (some w.heap.size)) ∧ w' = w.alloc (.map tabE 5) := by
  have hmm := @run_makeMap Tryd.prog
  have i1 := insert_run w #[] 0 103 (fnV 136) rfl
  have i2 := insert_run w #[⟨.int .u8 103, fnV 136, 0⟩] 1 71 (fnV 137) rfl
  have i3 := insert_run w #[⟨.int .u8 103, fnV 136, 0⟩, ⟨.int .u8 71, fnV 137, 1⟩] 2 104 (fnV 138) rfl
  have i4 := insert_run w #[⟨.int .u8 103, fnV 136, 0⟩, ⟨.int .u8 71, fnV 137, 1⟩, ⟨.int .u8 104, fnV 138, 2⟩] 3 72 (fnV 139) rfl
  have i5 := insert_run w #[⟨.int .u8 103, fnV 136, 0⟩, ⟨.int .u8 71, fnV 137, 1⟩, ⟨.int .u8 104, fnV 138, 2⟩, ⟨.int .u8 72, fnV 139, 3⟩] 4 120 (fnV 140) rfl
  unfold fnV at i1 i2 i3 i4 i5
  go_enter Tryd.func129, Tryd.ntmps129
  go_wp2
  go_ret
  exact ⟨rfl, rfl⟩
end Go.Proofs.YtakimaceohfpcaaDoor

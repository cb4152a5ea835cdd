/-
  bracket: sign, over, unclosed, closer, kind.
-/
import Derived.Test.YthegepiafodpjaaDoorBrM
import Derived.Test.YthegepiafodpjaaDoorEqMarks
import Derived.Deep.DeepCutAuto
namespace Go.Proofs.YthegepiafodpjaaDoor
open Go.RowKit

/-- The tables of the package are as its text says. -/
structure BrW (w : World) : Prop where
  names : NamW w
  k0 : w.cell? ⟨2, 0, none⟩ = some (.int .u8 58)
  k1 : w.cell? ⟨2, 1, none⟩ = some (.int .u8 58)
  k2 : w.cell? ⟨2, 2, none⟩ = some (.int .u8 61)
  k3 : w.cell? ⟨2, 3, none⟩ = some (.int .u8 61)
  k4 : w.cell? ⟨2, 4, none⟩ = some (.int .u8 46)
  k5 : w.cell? ⟨2, 5, none⟩ = some (.int .u8 46)
theorem cell_b {w w' : World} {a : Addr} {v : Value} (hb : Below w.heap.size w w') (h : w.cell? a = some v) : w'.cell? a = some v := by
  obtain ⟨b, o, s⟩ := a
  obtain rfl : s = none := World.cell?_spot h
  rw [hb.cell (World.block_lt_of_cell? w _ h)]; exact h
theorem BrW.below {w w' : World} (h : BrW w) (hb : Below w.heap.size w w') : BrW w' :=
  ⟨h.names.below hb (Nat.le_refl _), cell_b hb h.k0, cell_b hb h.k1, cell_b hb h.k2, cell_b hb h.k3, cell_b hb h.k4, cell_b hb h.k5⟩

abbrev rdV (a : Option Addr) (n c : Nat) (op : Nat) : Value := .agg #[.slice a n c, .int .i64 (op : Int)]
theorem box1 (w : World) (o : Obj) : Below w.heap.size w (w.alloc o) := (Below.refl _ w).alloc (Nat.le_refl _) o
set_option maxRecDepth 100000 in
theorem over_any (w : World) (a : Option Addr) (n c op i : Nat) (l : List Mk) (h : SM w (.slice a n c) l) :
    Calls Tryd.prog 71 #[rdV a n c op, .int .i64 (i : Int)] w fun e w' => e = .returned (.bool (over l i)) ∧ Below w.heap.size w w' := by
  obtain ⟨hl, hn⟩ := h.len
  have HL : Hid (over l i = decide (n ≤ i)) := Lib.hid (by unfold over; rw [hl])
  have HB := Lib.hid (box1 w (.cells #[.slice a n c, .int .i64 (op : Int)] 80))
  clear h hl
  go_enter Tryd.func71, Tryd.ntmps71
  go_wp2_with fail
  go_ret
  exact ⟨by rw [HL.out]; simp, HB.out⟩
set_option maxRecDepth 100000 in
theorem sign_any (w : World) (a : Option Addr) (n c op i : Nat) (b : Int) (l : List Mk) (h : SM w (.slice a n c) l) :
    Calls Tryd.prog 29 #[rdV a n c op, .int .i64 (i : Int), .int .u8 b] w fun e w' => e = .returned (.bool (sgn l i b)) ∧ Below w.heap.size w w' := by
  obtain ⟨hl, hn⟩ := h.len
  have hb := box1 w (.cells #[.slice a n c, .int .i64 (op : Int)] 80)
  have HB := Lib.hid hb
  have HL := Lib.hid hl
  by_cases hlt : i < n
  · have hd : decide ((i : Int) < (n : Int)) = true := by simp; omega
    obtain ⟨bk, o, rfl, hr⟩ := h.read i hlt
    obtain ⟨r0, r1⟩ := hr i hlt
    obtain ⟨x, hx⟩ : ∃ x, l[i]?.getD (0, false) = x := ⟨_, rfl⟩
    obtain ⟨x0, x1⟩ := x
    rw [hx] at r0 r1
    simp only at r0 r1
    have q0 := cell_b hb r0
    have q1 := cell_b hb r1
    have HS : Hid (sgn l i b = decide ((x0, x1) = (b, false))) := Lib.hid (by unfold sgn; rw [hx, decide_eq_true (show i < l.length by omega), Bool.true_and])
    clear h hl hr r0 r1 hx hb
    by_cases he : x0 = b
    · subst he
      have e1 : (x0 == x0) = true := by simp
      cases x1 with
      | true =>
        go_enter Tryd.func29, Tryd.ntmps29
        go_wp2_with fail
        go_ret
        exact ⟨by rw [HS.out]; simp, HB.out⟩
      | false =>
        go_enter Tryd.func29, Tryd.ntmps29
        go_wp2_with fail
        go_ret
        exact ⟨by rw [HS.out]; simp, HB.out⟩
    · have e1 : (x0 == b) = false := by simpa using he
      have HE := Lib.hid he
      clear he
      go_enter Tryd.func29, Tryd.ntmps29
      go_wp2_with fail
      go_ret
      exact ⟨by rw [HS.out, decide_eq_false (fun e => HE.out (Prod.mk.inj e).1)]; simp, HB.out⟩
  · have hd : decide ((i : Int) < (n : Int)) = false := by simp; omega
    have HS : Hid (sgn l i b = false) := Lib.hid (by unfold sgn; rw [decide_eq_false (by omega), Bool.false_and])
    clear h hl hb
    go_enter Tryd.func29, Tryd.ntmps29
    go_wp2_with fail
    go_ret
    exact ⟨by rw [HS.out]; rfl, HB.out⟩
set_option maxRecDepth 100000 in
theorem unclosed_any (w : World) (a : Option Addr) (n c op : Nat) :
    Calls Tryd.prog 73 #[rdV a n c op] w fun e w' => e = .returned (.agg #[.int .i64 32, .int .i64 (op : Int)]) ∧ Below w.heap.size w w' := by
  have HB := Lib.hid (((box1 w (.cells #[.slice a n c, .int .i64 (op : Int)] 80)).alloc (by simp) (.cells #[.int .i64 32, .int .i64 (op : Int)] 83)))
  go_enter Tryd.func73, Tryd.ntmps73
  go_wp2_with fail
  exact bodyPost_ret (v := .agg #[.int .i64 32, .int .i64 (op : Int)]) (by simp [results, Tryd.results73, go_sem]) rfl ⟨rfl, HB.out⟩
theorem idxc0 (w : World) (a0 a1 a2 a3 a4 a5 : Value) : Sem.run Tryd.prog (Instr.index 160 (.agg #[a0, a1, a2, a3, a4, a5]) (.int .i64 0)) w = .ok (.agg #[a0, a1]) w := by kernel_rfl
theorem idxc1 (w : World) (a0 a1 a2 a3 a4 a5 : Value) : Sem.run Tryd.prog (Instr.index 160 (.agg #[a0, a1, a2, a3, a4, a5]) (.int .i64 1)) w = .ok (.agg #[a2, a3]) w := by kernel_rfl
theorem idxc2 (w : World) (a0 a1 a2 a3 a4 a5 : Value) : Sem.run Tryd.prog (Instr.index 160 (.agg #[a0, a1, a2, a3, a4, a5]) (.int .i64 2)) w = .ok (.agg #[a4, a5]) w := by kernel_rfl
def IsK (k : Int) : Prop := k = 58 ∨ k = 61 ∨ k = 46
set_option maxHeartbeats 1000000 in
set_option maxRecDepth 100000 in
theorem closer_any (w : World) (hw : BrW w) (kd : Int) (hk : IsK kd) :
    Calls Tryd.prog 80 #[.int .u8 kd] w fun e w' => e = .returned (.int .u8 kd) ∧ Below w.heap.size w w' := by
  obtain ⟨-, k0, k1, k2, k3, k4, k5⟩ := hw
  go_enter Tryd.func80, Tryd.ntmps80
  go_wp2_with fail
  clear k0 k1 k2 k3 k4 k5
  go_loopw [6] (fun v wr => ∃ k : Nat, k ≤ 2 ∧ v = .int .i64 k ∧ Below w.heap.size w wr ∧ (0 < k → kd ≠ 58) ∧ (1 < k → kd ≠ 61)) (fun v _ => 3 - (intOf v).toNat)
  case atStart => exact ⟨0, by omega, rfl, Below.refl _ _, fun h => absurd h (by omega), fun h => absurd h (by omega)⟩
  case round =>
    obtain ⟨k, hk2, rfl, hb, g1, g2⟩ := hrel
    have HG := Lib.hid (And.intro g1 g2)
    have HB := Lib.hid hb
    have hbs := hb.size
    clear g1 g2 hb
    rcases (by omega : k = 0 ∨ k = 1 ∨ k = 2) with rfl | rfl | rfl
    · have hix := fun w a0 a1 a2 a3 a4 a5 => idxc0 w a0 a1 a2 a3 a4 a5
      by_cases he : kd = 58
      · subst he
        go_wp2_with fail
        go_ret
        exact ⟨rfl, HB.out.alloc hbs _⟩
      · have e1 : ((58 : Int) == kd) = false := by simp; omega
        have HE := Lib.hid he
        clear he
        go_wp2_with fail
        go_roundw
        case rel => exact ⟨1, by omega, rfl, HB.out.alloc hbs _, fun _ => HE.out, fun h => absurd h (by omega)⟩
        case measure => simp [intOf]
    · have hix := fun w a0 a1 a2 a3 a4 a5 => idxc1 w a0 a1 a2 a3 a4 a5
      by_cases he : kd = 61
      · subst he
        go_wp2_with fail
        go_ret
        exact ⟨rfl, HB.out.alloc hbs _⟩
      · have e1 : ((61 : Int) == kd) = false := by simp; omega
        have HE := Lib.hid he
        clear he
        go_wp2_with fail
        go_roundw
        case rel => exact ⟨2, by omega, rfl, HB.out.alloc hbs _, fun _ => HG.out.1 (by omega), fun _ => HE.out⟩
        case measure => simp [intOf]
    · have hix := fun w a0 a1 a2 a3 a4 a5 => idxc2 w a0 a1 a2 a3 a4 a5
      obtain rfl : kd = 46 := by
        rcases hk with h | h | h
        · exact absurd h (HG.out.1 (by omega))
        · exact absurd h (HG.out.2 (by omega))
        · exact h
      go_wp2_with fail
      go_ret
      exact ⟨rfl, HB.out.alloc hbs _⟩
end Go.Proofs.YthegepiafodpjaaDoor

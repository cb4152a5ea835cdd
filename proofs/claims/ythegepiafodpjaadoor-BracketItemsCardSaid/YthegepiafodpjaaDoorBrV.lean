/-
  bracket.written: how a byte is written inside a list.
-/
import Derived.Test.YthegepiafodpjaaDoorBrP
import Derived.Test.YthegepiafodpjaaDoorBrW
import Derived.Test.YthegepiafodpjaaDoorBytes
import Derived.Deep.DeepCutAuto
namespace Go.Proofs.YthegepiafodpjaaDoor
open Go.RowKit

/-- The table of the bytes that are written apart. -/
structure OddW (w : World) : Prop where
  o0 : w.cell? ⟨1, 0, none⟩ = some (.int .u8 91)
  o1 : w.cell? ⟨1, 1, none⟩ = some (.int .u8 93)
  o2 : w.cell? ⟨1, 2, none⟩ = some (.int .u8 45)
  o3 : w.cell? ⟨1, 3, none⟩ = some (.int .u8 94)
theorem OddW.below {w w' : World} (h : OddW w) (hb : Below w.heap.size w w') : OddW w' :=
  ⟨cell_b hb h.o0, cell_b hb h.o1, cell_b hb h.o2, cell_b hb h.o3⟩
theorem idxo0 (w : World) (a0 a1 a2 a3 : Value) : Sem.run Tryd.prog (Instr.index 108 (.agg #[a0, a1, a2, a3]) (.int .i64 0)) w = .ok a0 w := by kernel_rfl
theorem idxo1 (w : World) (a0 a1 a2 a3 : Value) : Sem.run Tryd.prog (Instr.index 108 (.agg #[a0, a1, a2, a3]) (.int .i64 1)) w = .ok a1 w := by kernel_rfl
theorem idxo2 (w : World) (a0 a1 a2 a3 : Value) : Sem.run Tryd.prog (Instr.index 108 (.agg #[a0, a1, a2, a3]) (.int .i64 2)) w = .ok a2 w := by kernel_rfl
theorem idxo3 (w : World) (a0 a1 a2 a3 : Value) : Sem.run Tryd.prog (Instr.index 108 (.agg #[a0, a1, a2, a3]) (.int .i64 3)) w = .ok a3 w := by kernel_rfl
/-- The answer of written: bytes, new. -/
def WrittenPost4 (w : World) (l : List Int) (e : Ending) (w' : World) : Prop := ∃ ad, e = .returned (.slice (some ad) l.length l.length) ∧ SB w' (.slice (some ad) l.length l.length) l ∧ Below w.heap.size w w'
theorem written_post4 {w wr : World} (hb : Below w.heap.size w wr) (l : List Int) (n : Nat) (cs : Array Value) (e : Ending) (he : e = .returned (.slice (some ⟨wr.heap.size, 0, none⟩) n n)) (hn : n = l.length) (h : cs = row l) (hB : l.all (fun x => decide (0 ≤ x ∧ x ≤ 255)) = true) (hl : l.length ≤ 140737488351232) :
    WrittenPost4 w l e (wr.alloc (.cells cs 5)) := by
  subst hn
  exact ⟨_, he, SB.lit wr _ l cs (0, 0) _ h hB hl, hb.alloc hb.size _⟩
theorem all_five (b : Int) (h0 : 0 ≤ b) (h1 : b ≤ 255) : [91, 46, b, 46, 93].all (fun x => decide (0 ≤ x ∧ x ≤ 255)) = true := by simp; omega
theorem all_one4 (b : Int) (h0 : 0 ≤ b) (h1 : b ≤ 255) : [b].all (fun x => decide (0 ≤ x ∧ x ≤ 255)) = true := by simp; omega

set_option maxHeartbeats 1000000 in
set_option maxRecDepth 100000 in
theorem written4_any (w : World) (hw : OddW w) (b : Nat) (h1 : b ≤ 255) : Calls Tryd.prog 37 #[.int .u8 (b : Int)] w (WrittenPost4 w (wrI b)) := by
  obtain ⟨k0, k1, k2, k3⟩ := hw
  have HO : Hid (oddB b = true → wrI b = [91, 46, (b : Int), 46, 93]) := Lib.hid (fun h => by unfold wrI; rw [if_pos h])
  have HN : Hid ((b : Int) ≠ 91 → (b : Int) ≠ 93 → (b : Int) ≠ 45 → (b : Int) ≠ 94 → wrI b = [(b : Int)]) := Lib.hid (fun a1 a2 a3 a4 => by
    unfold wrI
    rw [if_neg (by unfold oddB; simp; omega)])
  obtain ⟨x, hx⟩ : ∃ x : Int, (b : Int) = x := ⟨_, rfl⟩
  have HX : Hid (x = 91 ∨ x = 93 ∨ x = 45 ∨ x = 94 → oddB b = true) := Lib.hid (fun h => by unfold oddB; simp; omega)
  have h0 : 0 ≤ x := by omega
  have h1' : x ≤ 255 := by omega
  rw [hx] at HO HN ⊢
  have HH := Lib.hid (And.intro h0 h1')
  clear hx h1 h0 h1'
  go_enter Tryd.func37, Tryd.ntmps37
  go_wp2_with fail
  clear k0 k1 k2 k3
  go_loopw [6] (fun v wr => ∃ k : Nat, k ≤ 4 ∧ v = .int .i64 k ∧ Below w.heap.size w wr ∧ (0 < k → x ≠ 91) ∧ (1 < k → x ≠ 93) ∧ (2 < k → x ≠ 45) ∧ (3 < k → x ≠ 94)) (fun v _ => 4 - (intOf v).toNat)
  case atStart => exact ⟨0, by omega, rfl, Below.refl _ _, fun h => absurd h (by omega), fun h => absurd h (by omega), fun h => absurd h (by omega), fun h => absurd h (by omega)⟩
  case round =>
    obtain ⟨k, hk2, rfl, hb, g1, g2, g3, g4⟩ := hrel
    have HG := Lib.hid (And.intro g1 (And.intro g2 (And.intro g3 g4)))
    have HB := Lib.hid hb
    have hbs := hb.size
    clear g1 g2 g3 g4 hb
    rcases (by omega : k = 0 ∨ k = 1 ∨ k = 2 ∨ k = 3 ∨ k = 4) with rfl | rfl | rfl | rfl | rfl
    · have hix := fun w a0 a1 a2 a3 => idxo0 w a0 a1 a2 a3
      by_cases he : x = 91
      · have e1 : ((91 : Int) == x) = true := by simp; omega
        have HE := Lib.hid he
        clear he
        go_wp2_with fail
        go_ret
        rw [HO.out (HX.out (Or.inl HE.out))]
        exact written_post4 HB.out _ 5 _ _ rfl rfl rfl (all_five x HH.out.1 HH.out.2) (by simp)
      · have e1 : ((91 : Int) == x) = false := by simp; omega
        have HE := Lib.hid he
        clear he
        go_wp2_with fail
        go_roundw
        case rel => exact ⟨1, by omega, rfl, HB.out, fun _ => HE.out, fun h => absurd h (by omega), fun h => absurd h (by omega), fun h => absurd h (by omega)⟩
        case measure => simp [intOf]
    · have hix := fun w a0 a1 a2 a3 => idxo1 w a0 a1 a2 a3
      by_cases he : x = 93
      · have e1 : ((93 : Int) == x) = true := by simp; omega
        have HE := Lib.hid he
        clear he
        go_wp2_with fail
        go_ret
        rw [HO.out (HX.out (Or.inr (Or.inl HE.out)))]
        exact written_post4 HB.out _ 5 _ _ rfl rfl rfl (all_five x HH.out.1 HH.out.2) (by simp)
      · have e1 : ((93 : Int) == x) = false := by simp; omega
        have HE := Lib.hid he
        clear he
        go_wp2_with fail
        go_roundw
        case rel => exact ⟨2, by omega, rfl, HB.out, fun _ => HG.out.1 (by omega), fun _ => HE.out, fun h => absurd h (by omega), fun h => absurd h (by omega)⟩
        case measure => simp [intOf]
    · have hix := fun w a0 a1 a2 a3 => idxo2 w a0 a1 a2 a3
      by_cases he : x = 45
      · have e1 : ((45 : Int) == x) = true := by simp; omega
        have HE := Lib.hid he
        clear he
        go_wp2_with fail
        go_ret
        rw [HO.out (HX.out (Or.inr (Or.inr (Or.inl HE.out))))]
        exact written_post4 HB.out _ 5 _ _ rfl rfl rfl (all_five x HH.out.1 HH.out.2) (by simp)
      · have e1 : ((45 : Int) == x) = false := by simp; omega
        have HE := Lib.hid he
        clear he
        go_wp2_with fail
        go_roundw
        case rel => exact ⟨3, by omega, rfl, HB.out, fun _ => HG.out.1 (by omega), fun _ => HG.out.2.1 (by omega), fun _ => HE.out, fun h => absurd h (by omega)⟩
        case measure => simp [intOf]
    · have hix := fun w a0 a1 a2 a3 => idxo3 w a0 a1 a2 a3
      by_cases he : x = 94
      · have e1 : ((94 : Int) == x) = true := by simp; omega
        have HE := Lib.hid he
        clear he
        go_wp2_with fail
        go_ret
        rw [HO.out (HX.out (Or.inr (Or.inr (Or.inr HE.out))))]
        exact written_post4 HB.out _ 5 _ _ rfl rfl rfl (all_five x HH.out.1 HH.out.2) (by simp)
      · have e1 : ((94 : Int) == x) = false := by simp; omega
        have HE := Lib.hid he
        clear he
        go_wp2_with fail
        go_roundw
        case rel => exact ⟨4, by omega, rfl, HB.out, fun _ => HG.out.1 (by omega), fun _ => HG.out.2.1 (by omega), fun _ => HG.out.2.2.1 (by omega), fun _ => HE.out⟩
        case measure => simp [intOf]
    · go_wp2_with fail
      go_ret
      rw [HN.out (HG.out.1 (by omega)) (HG.out.2.1 (by omega)) (HG.out.2.2.1 (by omega)) (HG.out.2.2.2 (by omega))]
      exact written_post4 HB.out _ 1 _ _ rfl rfl rfl (all_one4 x HH.out.1 HH.out.2) (by simp)
end Go.Proofs.YthegepiafodpjaaDoor

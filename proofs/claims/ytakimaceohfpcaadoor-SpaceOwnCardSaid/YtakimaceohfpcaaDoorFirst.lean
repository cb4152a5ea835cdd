/-
  space.Space: First.
-/
import Derived.Test.YtakimaceohfpcaaDoorSpCut
namespace Go.Proofs.YtakimaceohfpcaaDoor
open Go.RowKit

/-- What stands ahead of the first line end. -/
def firstL (p : List Int) : List Int := match cutL p with
  | some (a, _) => a
  | none => p

def FirstPost (w : World) (p : List Int) (e : Ending) (w' : World) : Prop := ∃ v, e = .returned (.tuple #[v, .bool (foundL p)]) ∧ OwnB w' w.heap.size v (firstL p) ∧ Below w.heap.size w w'

set_option maxHeartbeats 1000000 in
set_option maxRecDepth 100000 in
theorem spFirst_any (w : World) (g base : Nat) (most : Int) (pv hv : Value) (p h : List Int) (s : Sp w g base most pv hv p h) :
    Calls Tryd.prog 71 #[.pointer (some ⟨g, 0, none⟩)] w (FirstPost w p) := by
  have hcv := fun (w : World) (C : Array Value) (n c g : Nat) (hg : g = w.heap.size) => Joins.run_convert_bytes_const_at (P := Tryd.prog) w 48 5 C n c g hg Tryd.underlying48 Tryd.underlying5
  have hb0 := (Below.refl w.heap.size w).alloc (Nat.le_refl _) (.cells #[.int .u8 10] 5 (1, 2))
  have s1 := s.below hb0
  have h10 : (w.alloc (.cells #[.int .u8 10] 5 (1, 2))).cell? ⟨w.heap.size, 0, none⟩ = some (.int .u8 10) := by rw [cell_of_row _ w.heap.size 0 _ _ (1, 2) (heap_alloc_new w _)]; rfl
  have hcap : ∀ ad n c, pv = .slice ad n c → n ≤ c := by
    intro ad n c e
    obtain ⟨a, cap, he, hc, -, -⟩ := s.op.sbn s.bp s.len2P
    rw [he] at e
    simp only [Value.slice.injEq] at e
    omega
  have HC := Lib.hid (cut_any _ pv p s.op.head s1.sbP hcap w.heap.size 1 h10)
  obtain ⟨-, c1, c2, c3, f2, f3⟩ := s.cells
  have sbp := s1.sbP
  have HS := Lib.hid s
  obtain ⟨-, ap, cp, rfl, -⟩ := s.sbP
  clear h10 hcap
  go_enter Tryd.func71, Tryd.ntmps71
  go_wp2_with fail
  refine (isSpace_yes w g base most _ hv p h s).mono ?_
  rintro e w' ⟨rfl, rfl⟩
  clear s
  go_wp2_with fail
  refine HC.out.mono ?_
  intro e w1 hP
  clear hcv
  cases hc : cutL p with
  | none =>
    obtain ⟨rfl, n, rfl⟩ := cut_none hP hc
    have hf : foundL p = false := by unfold foundL; rw [hc]; rfl
    have hr : firstL p = p := by unfold firstL; rw [hc]
    have HF := Lib.hid hf
    have HR := Lib.hid hr
    have sb2 := sbp.drewN n
    have hb2 := below_drewN hb0 n
    clear hP s1 hc HC hf hr hb0 c1 c2 c3 f2 f3 sbp
    go_wp2_with fail
    refine (clone_any _ _ p sb2).mono ?_
    rintro e w3 ⟨v3, rfl, ho, hb⟩
    obtain ⟨-, a3, c3', rfl, -⟩ := ho.sb sb2.1 sb2.len2
    have H := Lib.hid (show FirstPost w p (.returned (.tuple #[.slice a3 p.length c3', .bool false])) w3 from by unfold FirstPost; rw [HF.out, HR.out]; exact ⟨_, rfl, OwnB.mono ho hb2.size, hb2.trans (hb.mono hb2.size)⟩)
    clear ho hb sb2 hb2
    go_wp2_with fail
    go_ret2
    exact H.out
  | some y =>
    obtain ⟨a, b⟩ := y
    obtain ⟨va, vb, rfl, sa, -, n, rfl⟩ := cut_some hP hc
    have hf : foundL p = true := by unfold foundL; rw [hc]; rfl
    have hr : firstL p = a := by unfold firstL; rw [hc]
    have HF := Lib.hid hf
    have HR := Lib.hid hr
    have sb2 := sa.drewN n
    have hb2 := below_drewN hb0 n
    clear hP s1 hc HC hf hr hb0 sbp sa c1 c2 c3 f2 f3
    go_wp2_with fail
    refine (clone_any _ va a sb2).mono ?_
    rintro e w3 ⟨v3, rfl, ho, hb⟩
    obtain ⟨-, a3, c3', rfl, -⟩ := ho.sb sb2.1 sb2.len2
    have H := Lib.hid (show FirstPost w p (.returned (.tuple #[.slice a3 a.length c3', .bool true])) w3 from by unfold FirstPost; rw [HF.out, HR.out]; exact ⟨_, rfl, OwnB.mono ho hb2.size, hb2.trans (hb.mono hb2.size)⟩)
    clear ho hb sb2 hb2
    go_wp2_with fail
    go_ret2
    exact H.out
end Go.Proofs.YtakimaceohfpcaaDoor

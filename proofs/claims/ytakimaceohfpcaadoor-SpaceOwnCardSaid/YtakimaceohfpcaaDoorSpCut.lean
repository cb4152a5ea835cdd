/-
  space.Space: Cut, First.
-/
import Derived.Test.YtakimaceohfpcaaDoorCut
namespace Go.Proofs.YtakimaceohfpcaaDoor
open Go.RowKit

/-- What is left of the pattern, and whether a line end was found. -/
def restL (p : List Int) : List Int := match cutL p with
  | some (_, b) => b
  | none => p
def foundL (p : List Int) : Bool := (cutL p).isSome

set_option maxHeartbeats 1000000 in
set_option maxRecDepth 100000 in
theorem spCut_any (w : World) (g base : Nat) (most : Int) (pv hv : Value) (p h : List Int) (s : Sp w g base most pv hv p h) :
    Calls Tryd.prog 112 #[.pointer (some ⟨g, 0, none⟩)] w (SpPost w g base most pv hv (restL p) h (.bool (foundL p))) := by
  have hcv := fun (w : World) (C : Array Value) (n c g : Nat) (hg : g = w.heap.size) => Joins.run_convert_bytes_const_at (P := Tryd.prog) w 48 5 C n c g hg Tryd.underlying48 Tryd.underlying5
  have hb0 := (Below.refl w.heap.size w).alloc (Nat.le_refl _) (.cells #[.int .u8 10] 5 (1, 2))
  have s1 := s.below hb0
  have h10 : (w.alloc (.cells #[.int .u8 10] 5 (1, 2))).cell? ⟨w.heap.size, 0, none⟩ = some (.int .u8 10) := by rw [cell_of_row _ w.heap.size 0 _ _ (1, 2) (heap_alloc_new w _)]; rfl
  have hcap : ∀ ad n c, pv = .slice ad n c → n ≤ c := by
    intro ad n c e
    obtain ⟨a, cap, he, hc, -, -⟩ := s.op.sbn s.bp s.len2P
    rw [he] at e
    simp only [Value.slice.injEq] at e
    omega
  have HC := Lib.hid (cut_any _ pv p s.op.head s1.sbP hcap w.heap.size 1 h10)
  have st0 := SpStep.ofBelow (g := g) (base := base) (pv := pv) (hv := hv) hb0 s.base_le
  obtain ⟨-, c1, c2, c3, f2, f3⟩ := s.cells
  have HS := Lib.hid s
  obtain ⟨-, ap, cp, rfl, -⟩ := s.sbP
  clear h10 hcap
  go_enter Tryd.func112, Tryd.ntmps112
  go_wp2_with fail
  refine (isSpace_yes w g base most _ hv p h s).mono ?_
  rintro e w' ⟨rfl, rfl⟩
  clear s
  go_wp2_with fail
  refine HC.out.mono ?_
  intro e w1 hP
  clear hcv
  cases hc : cutL p with
  | none =>
    obtain ⟨rfl, n, rfl⟩ := cut_none hP hc
    have hr : restL p = p := by unfold restL; rw [hc]
    have hf : foundL p = false := by unfold foundL; rw [hc]; rfl
    have H := Lib.hid (show SpPost w g base most (.slice ap p.length cp) hv (restL p) h (.bool (foundL p)) (.returned (.bool false)) ((w.alloc (.cells #[.int .u8 10] 5 (1, 2))).drewN n) from
      by rw [hr, hf]; exact ⟨_, _, rfl, s1.drewN n, st0.trans (SpStep.drewN s1.base_le n)⟩)
    clear hP s1 st0 hc HC hr hf
    go_wp2_with fail
    go_ret
    exact H.out
  | some y =>
    obtain ⟨a, b⟩ := y
    obtain ⟨va, vb, rfl, -, sb, n, rfl⟩ := cut_some hP hc
    have s2 := s1.drewN n
    have st2 := st0.trans (SpStep.drewN (g := g) s1.base_le n)
    have sb2 := sb.drewN n
    have HR : Hid (restL p = b) := by show restL p = b; unfold restL; rw [hc]
    have HF : Hid (foundL p = true) := by show foundL p = true; unfold foundL; rw [hc]; rfl
    have hlb : (b.length : Int) ≤ most := by
      have := cutL_some hc
      have h2 := HS.out.lp
      rw [this, List.length_append, List.length_cons] at h2
      omega
    clear hP s1 st0 hc HC sb c1 c2 c3 f2 f3
    obtain ⟨-, c1, c2, c3, f2, f3⟩ := s2.cells
    generalize (w.alloc (.cells #[.int .u8 10] 5 (1, 2))).drewN n = w2 at s2 st2 sb2 c1 c2 c3 f2 f3 ⊢
    go_wp2_with fail
    refine (clone_any w2 vb b sb2).mono ?_
    rintro e w3 ⟨v3, rfl, ho, hb⟩
    obtain ⟨-, a3, c3', rfl, -⟩ := ho.sb sb2.1 sb2.len2
    have hS := s2.setP hb ho sb2.1 hlb
    clear c1 c2 c3 f2 f3
    obtain ⟨-, -, c2, -, f2, -⟩ := (s2.below hb).cells
    have H := Lib.hid (show SpPost w g base most (.slice ap p.length cp) hv (restL p) h (.bool (foundL p)) (.returned (.bool true)) (w3.setCell ⟨g, 2, none⟩ (.slice a3 b.length c3')) from by rw [HR.out, HF.out]; exact ⟨_, hv, rfl, hS.1, st2.trans hS.2⟩)
    clear hS s2 st2 ho hb sb2
    go_wp2_with fail
    go_ret
    exact H.out
end Go.Proofs.YtakimaceohfpcaaDoor

/-
  Lists of marks: how they read, a row of them in a block; galleyref00's helpers on them.
-/
import Derived.Test.YthegepiafodpjaaDoorBytes
import Derived.Test.YthegepiafodpjaaDoorMkDef
namespace Go.Proofs.YthegepiafodpjaaDoor
open Go.RowKit

def IsM (l : List Mk) : Prop := ∀ i : Nat, 0 ≤ (l[i]?.getD (0, false)).1 ∧ (l[i]?.getD (0, false)).1 ≤ 255

/-- The slice value v reads, in w, as the marks l. -/
def SM (w : World) (v : Value) (l : List Mk) : Prop :=
  IsM l ∧ ∃ a cap, v = .slice a l.length cap ∧ l.length ≤ 70368744175616 ∧
    (l = [] ∨ ∃ b off, a = some ⟨b, off, none⟩ ∧ ∀ i : Nat, i < l.length → w.cell? ⟨b, off + i * 2, none⟩ = some (.int .u8 (l[i]?.getD (0, false)).1) ∧ w.cell? ⟨b, off + i * 2 + 1, none⟩ = some (.bool (l[i]?.getD (0, false)).2))

theorem SM.below {w w' : World} {v : Value} {l : List Mk} (h : SM w v l) (hb : Below w.heap.size w w') : SM w' v l := by
  obtain ⟨h1, a, cap, rfl, h2, h3⟩ := h
  refine ⟨h1, a, cap, rfl, h2, ?_⟩
  rcases h3 with h3 | ⟨b, off, ha, hc⟩
  · exact .inl h3
  · refine .inr ⟨b, off, ha, fun i hi => ?_⟩
    have hlt := World.block_lt_of_cell? w _ (hc i hi).1
    rw [hb.cell hlt, hb.cell (p := ⟨b, off + i * 2 + 1, none⟩) hlt]
    exact hc i hi
theorem SM.drewN {w : World} {v : Value} {l : List Mk} (h : SM w v l) (n : Nat) : SM (w.drewN n) v l := h.below (below_drewN (Below.refl _ _) n)
theorem SM.len {w : World} {a : Option Addr} {n c : Nat} {l : List Mk} (h : SM w (.slice a n c) l) : l.length = n ∧ n ≤ 70368744175616 := by
  obtain ⟨_, _, _, he, hl, _⟩ := h
  simp only [Value.slice.injEq] at he
  omega
theorem SM.read {w : World} {a : Option Addr} {n c : Nat} {l : List Mk} (h : SM w (.slice a n c) l) (k : Nat) (hk : k < n) : ∃ b o, a = some ⟨b, o, none⟩ ∧
    ∀ i : Nat, i < n → w.cell? ⟨b, o + i * 2, none⟩ = some (.int .u8 (l[i]?.getD (0, false)).1) ∧ w.cell? ⟨b, o + i * 2 + 1, none⟩ = some (.bool (l[i]?.getD (0, false)).2) := by
  obtain ⟨_, a', cap, he, _, h3⟩ := h
  simp only [Value.slice.injEq] at he
  obtain ⟨ha, rfl, _⟩ := he
  rcases h3 with rfl | ⟨b, o, hb, hc⟩
  · exact absurd hk (Nat.not_lt_zero _)
  · exact ⟨b, o, ha.trans hb, hc⟩

theorem takem_snoc (l : List Mk) (k : Nat) (h : k < l.length) : l.take (k + 1) = l.take k ++ [l[k]?.getD (0, false)] := by
  rw [List.take_succ_eq_append_getElem h]
  simp [h]
theorem takem_eq_step (a b : List Mk) (k : Nat) (h : k < a.length) (hl : a.length = b.length) (ht : a.take k = b.take k) (he : a[k]?.getD (0, false) = b[k]?.getD (0, false)) : a.take (k + 1) = b.take (k + 1) := by
  rw [takem_snoc a k h, takem_snoc b k (by omega), ht, he]
theorem extm_of (l m : List Mk) (hl : l.length = m.length) (h : ∀ j : Nat, j < l.length → l[j]?.getD (0, false) = m[j]?.getD (0, false)) : l = m := by
  apply List.ext_getElem hl
  intro i h1 h2
  have := h i h1
  simpa [h1, h2] using this

end Go.Proofs.YthegepiafodpjaaDoor

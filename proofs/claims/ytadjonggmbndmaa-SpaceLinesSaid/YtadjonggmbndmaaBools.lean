/-
  Slices of booleans: how they read, how such an argument is opened.
-/
import Derived.Test.YtadjonggmbndmaaOpen
import Derived.Deep.Slices
namespace Go.Proofs.Ytadjonggmbndmaa
open Go.ChangeShapes Go.WideShapes Go.ChangeAt Go.RowKit

/-- The slice value v reads, in w, as the booleans r. -/
def CB (w : World) (v : Value) (r : List Bool) : Prop :=
  ∃ a cap, v = .slice a r.length cap ∧ (r = [] ∨ ∃ b off, a = some ⟨b, off, none⟩ ∧ ∀ i : Nat, i < r.length → w.cell? ⟨b, off + i, none⟩ = some (.bool (r[i]?.getD false)))
theorem CB.below {w w' : World} {v : Value} {r : List Bool} (h : CB w v r) (hb : Below w.heap.size w w') : CB w' v r := by
  obtain ⟨a, cap, rfl, h4⟩ := h
  refine ⟨a, cap, rfl, ?_⟩
  rcases h4 with h4 | ⟨b, off, ha, hc⟩
  · exact .inl h4
  · exact .inr ⟨b, off, ha, fun i hi => by rw [hb.cell (World.block_lt_of_cell? w _ (hc i hi))]; exact hc i hi⟩
theorem CB.read {w : World} {a : Option Addr} {n c : Nat} {r : List Bool} (h : CB w (.slice a n c) r) (k : Nat) (hk : k < n) : ∃ b o, a = some ⟨b, o, none⟩ ∧ w.cell? ⟨b, o + k, none⟩ = some (.bool (r[k]?.getD false)) := by
  obtain ⟨_, _, he, h4⟩ := h
  simp only [Value.slice.injEq] at he
  obtain ⟨rfl, rfl, rfl⟩ := he
  rcases h4 with rfl | ⟨b, o, hb, hc⟩
  · exact absurd hk (Nat.not_lt_zero _)
  · exact ⟨b, o, hb, hc k hk⟩
theorem CB.len {w : World} {a : Option Addr} {n c : Nat} {r : List Bool} (h : CB w (.slice a n c) r) : r.length = n := by
  obtain ⟨_, _, he, -⟩ := h
  simp only [Value.slice.injEq] at he
  exact he.2.1.symm

section
variable {H : Type} {enc : TypeId × Value → H} {P : Program} {w : World} {base : Nat} {spare : Nat → Bool} {held : Bool}
theorem open_cb {t e : TypeId} {a : Option Addr} {len cap : Nat} {d : DataW H} {p : List MemPlace} (ht : P.underlying t = some (.slice e)) (he : P.underlying e = some .bool) (hce : P.cellsOf e = 1)
    (h : DataW.Trod enc P w base spare held t (.slice a len cap) d p) : ∃ r : List Bool, r.length = len ∧ CB w (.slice a len cap) r := by
  obtain ⟨fuel, hf⟩ := h
  rcases Go.Deep.open_slice ht hf with ⟨hcs, _⟩ | ⟨x, l, c, m, n, D, Pl, hcs, _, hl, hm, hmm, hx, hi⟩
  · simp [Value.cells] at hcs
    obtain ⟨rfl, rfl, rfl⟩ := hcs
    exact ⟨[], rfl, none, 0, rfl, .inl rfl⟩
  · simp [Value.cells] at hcs
    obtain ⟨rfl, rfl, rfl⟩ := hcs
    have hlen : len ≤ m := by rw [hmm]; split <;> omega
    have hone : ∀ i, ∃ y : Bool, i < len → w.cell? (x.add i) = some (.bool y) := by
      intro i
      by_cases hil : i < len
      · obtain ⟨cs', hc, ht'⟩ := hi i (by omega)
        rw [hce, Nat.mul_one] at hc
        obtain ⟨_, hcl, hat⟩ := World.cells?_some hc
        have hat0 := hat 0 (by omega)
        match cs', hcl with
        | [v], _ =>
          have hcell : w.cell? (x.add i) = some v := by simpa [Addr.add] using hat0
          obtain ⟨y, hy, -⟩ := DataW.trod_bool he ht'
          simp only [List.cons.injEq, and_true] at hy
          subst hy
          exact ⟨y, fun _ => hcell⟩
      · exact ⟨false, fun h => absurd h hil⟩
    obtain ⟨F, hF⟩ := Classical.axiomOfChoice hone
    refine ⟨(List.range len).map F, by simp, some x, cap, by simp, ?_⟩
    by_cases h0 : len = 0
    · subst h0; exact .inl rfl
    · obtain ⟨b, off, spot⟩ := x
      have hc0 := hF 0 (by omega)
      have hspot : spot = none := by simpa [Addr.add] using World.cell?_spot hc0
      subst hspot
      refine .inr ⟨b, off, rfl, fun i hi' => ?_⟩
      have hil : i < len := by simpa using hi'
      have g1 := hF i hil
      rw [show (⟨b, off, none⟩ : Addr).add i = ⟨b, off + i, none⟩ by simp [Addr.add]] at g1
      rw [List.getElem?_map, List.getElem?_range hil]
      exact g1
end
end Go.Proofs.Ytadjonggmbndmaa

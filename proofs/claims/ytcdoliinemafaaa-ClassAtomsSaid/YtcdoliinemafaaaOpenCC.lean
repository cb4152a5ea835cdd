/-
  A list of classes as an argument.
-/
import Derived.Test.YtcdoliinemafaaaOpenC
import Derived.Test.YtcdoliinemafaaaAtoms
import Derived.Deep.Slices
namespace Go.Proofs.Ytcdoliinemafaaa
open Go.ChangeShapes Go.WideShapes Go.ChangeAt Go.RowKit

section
variable {H : Type} {enc : TypeId × Value → H} {P : Program} {w : World} {base : Nat} {spare : Nat → Bool} {held : Bool}
theorem add_addC (x : Addr) (a b : Nat) : (x.add a).add b = x.add (a + b) := by
  unfold Addr.add
  by_cases h1 : a = 0 <;> by_cases h2 : b = 0 <;> simp [h1, h2, Nat.add_assoc]
theorem open_cc {t e q : TypeId} {a : Option Addr} {len cap : Nat} {d : DataW H} {p : List MemPlace} (ht : P.underlying t = some (.slice e)) (he : P.underlying e = some (.array 4 q)) (hq : P.underlying q = some (.int .u64)) (hcq : P.cellsOf q = 1) (hce : P.cellsOf e = 4)
    (h : DataW.Trod enc P w base spare held t (.slice a len cap) d p) : ∃ l : List Cl, l.length = len ∧ CC w (.slice a len cap) l := by
  obtain ⟨fuel, hf⟩ := h
  rcases Go.Deep.open_slice ht hf with ⟨hcs, _⟩ | ⟨x, l, c, m, n, D, Pl, hcs, _, hl, hm, hmm, hx, hi⟩
  · simp [Value.cells] at hcs
    obtain ⟨rfl, rfl, rfl⟩ := hcs
    exact ⟨[], rfl, none, 0, rfl, .inl rfl⟩
  · simp [Value.cells] at hcs
    obtain ⟨rfl, rfl, rfl⟩ := hcs
    have hlen : len ≤ m := by rw [hmm]; split <;> omega
    have hone : ∀ i, ∃ y : Cl, i < len → ∀ c, c < 4 → w.cell? (x.add (i * 4 + c)) = (encC y)[c]? := by
      intro i
      by_cases hil : i < len
      · obtain ⟨cs', hc, ht'⟩ := hi i (by omega)
        rw [hce] at hc
        obtain ⟨_, hcl, hat⟩ := World.cells?_some hc
        obtain ⟨xs, _, _, _, hxl, hxs, hel⟩ := DataW.trod_array he ht'
        have hw : ∀ j, j < 4 → ∃ z : Nat, cs'[j]? = some (.int .u64 (z : Int)) ∧ z < 18446744073709551616 := by
          intro j hj
          have h1 := hel j hj
          have hxj : xs[j]? = some xs[j] := List.getElem?_eq_getElem (by omega)
          rw [hxj, hcq, Nat.mul_one] at h1
          obtain ⟨z, e1, _, wz⟩ := DataW.trod_int hq h1
          obtain ⟨b1, b2⟩ := wf_u64 wz
          have hj' : j < cs'.length := by omega
          rw [List.drop_eq_getElem_cons hj', List.take_succ_cons, List.take_zero] at e1
          simp only [List.cons.injEq, and_true] at e1
          refine ⟨z.toNat, ?_, by omega⟩
          rw [List.getElem?_eq_getElem hj', e1, Int.toNat_of_nonneg b1]
        obtain ⟨z0, k0, l0⟩ := hw 0 (by omega)
        obtain ⟨z1, k1, l1⟩ := hw 1 (by omega)
        obtain ⟨z2, k2, l2⟩ := hw 2 (by omega)
        obtain ⟨z3, k3, l3⟩ := hw 3 (by omega)
        have hic : IsC [z0, z1, z2, z3] := ⟨rfl, fun i => by
          match i with
          | 0 => simpa using l0
          | 1 => simpa using l1
          | 2 => simpa using l2
          | 3 => simpa using l3
          | n + 4 => simp⟩
        refine ⟨⟨[z0, z1, z2, z3], hic⟩, fun _ c hc4 => ?_⟩
        have hat1 := hat c hc4
        rw [add_addC] at hat1
        rw [hat1]
        match c, hc4 with
        | 0, _ => rw [k0]; rfl
        | 1, _ => rw [k1]; rfl
        | 2, _ => rw [k2]; rfl
        | 3, _ => rw [k3]; rfl
      · exact ⟨noneC, fun h => absurd h hil⟩
    obtain ⟨F, hF⟩ := Classical.axiomOfChoice hone
    refine ⟨(List.range len).map F, by simp, some x, cap, by simp, ?_⟩
    by_cases h0 : len = 0
    · subst h0; exact .inl rfl
    · obtain ⟨b, off, spot⟩ := x
      have hc0 := hF 0 (by omega) 0 (by omega)
      have he0 : (encC (F 0))[0]? = some ((encC (F 0))[0]'(by rw [encC_len]; omega)) := List.getElem?_eq_getElem _
      rw [he0] at hc0
      have hspot : spot = none := by simpa [Addr.add] using World.cell?_spot hc0
      subst hspot
      refine .inr ⟨b, off, rfl, fun i hi' c hc4 => ?_⟩
      have hil : i < len := by simpa using hi'
      have g1 := hF i hil c hc4
      rw [show (⟨b, off, none⟩ : Addr).add (i * 4 + c) = ⟨b, off + i * 4 + c, none⟩ by rw [Nat.add_assoc]; simp [Addr.add]] at g1
      simp only [List.getElem_map, List.getElem_range]
      exact g1
end
end Go.Proofs.Ytcdoliinemafaaa

/-
  How an argument that is a slice of marks is opened.
-/
import Derived.Test.YthegepiafodpjaaDoorOpen
import Derived.Test.YthegepiafodpjaaDoorMk
import Derived.Deep.SlicePairs
namespace Go.Proofs.YthegepiafodpjaaDoor
open Go.ChangeShapes Go.WideShapes Go.ChangeAt Go.RowKit

theorem bytesM : Tryd.prog.bytesOf 35 = 2 := by kernel_rfl
def boolIn : Value → Bool
  | .bool b => b
  | _ => false

section
variable {H : Type} {enc : TypeId × Value → H} {P : Program} {w : World} {base : Nat} {spare : Nat → Bool} {held : Bool}

/-- A SLICE OF MARKS: it reads as a list of marks. -/
theorem open_sm {t e : TypeId} {f0 f1 : Field} {a : Option Addr} {len cap : Nat} {d : DataW H} {p : List MemPlace} (ht : P.underlying t = some (.slice e)) (he : P.underlying e = some (.struct #[f0, f1]))
    (ce : P.cellsOf e = 2) (o0 : f0.offset = 0) (o1 : f1.offset = 1) (c0 : P.cellsOf f0.type = 1) (c1 : P.cellsOf f1.type = 1) (t0 : P.underlying f0.type = some (.int .u8)) (t1 : P.underlying f1.type = some .bool)
    (h : DataW.Trod enc P w base spare held t (.slice a len cap) d p) (hsz : ∀ elems sp, d = .slice elems sp → elems.length + sp.length ≤ 70368744175616) : ∃ l : List Mk, l.length = len ∧ SM w (.slice a len cap) l := by
  obtain ⟨fuel, hf⟩ := h
  rcases Go.Deep.open_slice_pairs ht he ce o0 o1 c0 c1 hf with ⟨hcs, _⟩ | ⟨x, l, c, m, n, V0, V1, D0, D1, P0, P1, hcs, _, hl, hm, hmm, hx, hall⟩
  · simp [Value.cells] at hcs
    obtain ⟨rfl, rfl, rfl⟩ := hcs
    exact ⟨[], rfl, fun i => by simp, none, 0, rfl, by simp, .inl rfl⟩
  · simp [Value.cells] at hcs
    obtain ⟨rfl, rfl, rfl⟩ := hcs
    have hlen : len ≤ m := by rw [hmm]; split <;> omega
    simp only [Prod.mk.injEq] at hx
    have hbound := hsz _ _ hx.1
    simp only [List.length_map, List.length_range] at hbound
    have hone : ∀ i, i < len → V0 i = .int .u8 (intOf (V0 i)) ∧ V1 i = .bool (boolIn (V1 i)) ∧ 0 ≤ intOf (V0 i) ∧ intOf (V0 i) ≤ 255 := by
      intro i hi
      obtain ⟨_, _, h0, h1⟩ := hall i (by omega)
      obtain ⟨y, e0, _, wy⟩ := DataW.trod_int t0 h0
      obtain ⟨b, e1, _⟩ := DataW.trod_bool t1 h1
      simp only [List.cons.injEq, and_true] at e0 e1
      rw [e0, e1]
      exact ⟨rfl, rfl, wf_u8 wy⟩
    have hget : ∀ i, i < len → ((List.range len).map fun i => (intOf (V0 i), boolIn (V1 i)))[i]?.getD (0, false) = (intOf (V0 i), boolIn (V1 i)) := by
      intro i hi
      simp [hi]
    refine ⟨(List.range len).map fun i => (intOf (V0 i), boolIn (V1 i)), by simp, ?_, some x, cap, by simp, by simp; omega, ?_⟩
    · intro i
      by_cases hi : i < len
      · rw [hget i hi]; exact (hone i hi).2.2
      · rw [List.getElem?_eq_none (by simp; omega)]; simp
    · by_cases h0 : len = 0
      · subst h0; exact .inl (by simp)
      · obtain ⟨b, off, spot⟩ := x
        have hc0 := (hall 0 (by omega)).1
        have hspot : spot = none := by simpa [Addr.add] using World.cell?_spot hc0
        subst hspot
        refine .inr ⟨b, off, rfl, fun i hi => ?_⟩
        have hi' : i < len := by simpa using hi
        obtain ⟨g0, g1, _, _⟩ := hall i (by omega)
        rw [show (⟨b, off, none⟩ : Addr).add (i * 2) = ⟨b, off + i * 2, none⟩ by simp [Addr.add]] at g0
        rw [show (⟨b, off, none⟩ : Addr).add (i * 2 + 1) = ⟨b, off + i * 2 + 1, none⟩ by simp [Addr.add, Nat.add_assoc]] at g1
        obtain ⟨k0, k1, _, _⟩ := hone i hi'
        rw [hget i hi']
        exact ⟨g0.trans (congrArg some k0), g1.trans (congrArg some k1)⟩
end
end Go.Proofs.YthegepiafodpjaaDoor

/-
  How an argument that is a class is opened.
-/
import Derived.Test.YthegepiafodpjaaDoorCls
import Derived.ProofKit
import Derived.OpenShut
import Derived.ShutString
import Derived.ChangeOld
namespace Go.Proofs.YthegepiafodpjaaDoor
open Go.ChangeShapes Go.WideShapes Go.ChangeAt Go.RowKit

section
variable {H : Type} {enc : TypeId × Value → H} {P : Program} {w : World} {base : Nat} {spare : Nat → Bool} {held : Bool}

theorem okWide_arrayC {r : Reach} {b0 : Nat} {t e : TypeId} {n : Nat} {v : Value} (ha : P.underlying t = some (.array n e)) (hv : Value.okWide P w r b0 t v) : ∃ cs, v = .agg cs ∧ cs.size = P.cellsOf t := by
  unfold Value.okWide at hv
  rw [ha] at hv
  obtain ⟨cs, h1, h2, _⟩ := hv
  exact ⟨cs, h1, h2⟩
theorem wf_u64 {n : Int} (h : (Lit.int .u64 n).wf = true) : 0 ≤ n ∧ n < 18446744073709551616 := by
  simp [Lit.wf, IntKind.min, IntKind.max, IntKind.signed, IntKind.bits] at h
  omega

theorem wf_byteC {n : Int} (h : (Lit.int .u8 n).wf = true) : 0 ≤ n ∧ n < 256 := by
  simp [Lit.wf, IntKind.min, IntKind.max, IntKind.signed, IntKind.bits] at h
  omega

/-- A CLASS BY VALUE: four words. -/
theorem open_cls {r : Reach} {b0 : Nat} {t e : TypeId} {v : Value} {d : DataW H} {p : List MemPlace} (ha : P.underlying t = some (.array 4 e)) (he : P.underlying e = some (.int .u64)) (hce : P.cellsOf e = 1) (hct : P.cellsOf t = 4)
    (hv : Value.okWide P w r b0 t v) (h : DataW.Trod enc P w base spare held t v d p) : ∃ l : List Nat, IsC l ∧ v = .agg (row64 l) := by
  obtain ⟨cs, rfl, hsz⟩ := okWide_arrayC ha hv
  obtain ⟨fuel, hf⟩ := h
  obtain ⟨xs, m, _, _, hlen, hxs, hel⟩ := DataW.trod_array ha hf
  have hone : ∀ i, i < 4 → ∃ x : Nat, cs[i]? = some (.int .u64 (x : Int)) ∧ x < 18446744073709551616 := by
    intro i hi
    have h1 := hel i hi
    have hx : xs[i]? = some xs[i] := List.getElem?_eq_getElem (by omega)
    rw [hx, hce, Nat.mul_one] at h1
    obtain ⟨x, e1, _, wx⟩ := DataW.trod_int he h1
    obtain ⟨b1, b2⟩ := wf_u64 wx
    have hi' : i < (Value.cells (.agg cs)).toList.length := by rw [hlen, hct]; exact hi
    rw [List.drop_eq_getElem_cons hi', List.take_succ_cons, List.take_zero] at e1
    simp only [List.cons.injEq, and_true] at e1
    have hs : i < cs.size := by rw [hsz, hct]; exact hi
    refine ⟨x.toNat, ?_, by omega⟩
    rw [Array.getElem?_eq_getElem hs, Int.toNat_of_nonneg b1]
    simpa [Value.cells] using e1
  obtain ⟨x0, k0, l0⟩ := hone 0 (by omega)
  obtain ⟨x1, k1, l1⟩ := hone 1 (by omega)
  obtain ⟨x2, k2, l2⟩ := hone 2 (by omega)
  obtain ⟨x3, k3, l3⟩ := hone 3 (by omega)
  refine ⟨[x0, x1, x2, x3], ⟨rfl, fun i => ?_⟩, ?_⟩
  · match i with
    | 0 => simpa using l0
    | 1 => simpa using l1
    | 2 => simpa using l2
    | 3 => simpa using l3
    | n + 4 => simp
  · congr 1
    apply Array.ext_getElem?
    intro i
    match i with
    | 0 => rw [k0]; rfl
    | 1 => rw [k1]; rfl
    | 2 => rw [k2]; rfl
    | 3 => rw [k3]; rfl
    | n + 4 =>
      have : cs[n + 4]? = none := by simp; omega
      rw [this]; simp [row64]
end
end Go.Proofs.YthegepiafodpjaaDoor

/-
  The bulk of a slice of pieces.
-/
import Derived.Test.YtdbkoephkdfbfaaDoorBulk
import Derived.Test.YtdbkoephkdfbfaaDoorPieces
namespace Go.Proofs.YtdbkoephkdfbfaaDoor
open Go.ChangeShapes Go.WideShapes Go.ChangeAt Go.RowKit Go.Deep

section
variable {H : Type} {enc : TypeId × Value → H} {P : Program} {w : World} {base : Nat} {spare : Nat → Bool} {held : Bool}
theorem bulk_ps {t e q : TypeId} {f0 f1 : Field} {a : Option Addr} {len cap : Nat} {d : DataW H} {p : List MemPlace} (ht : P.underlying t = some (.slice e)) (he : P.underlying e = some (.struct #[f0, f1])) (hone : oneCellFields P #[f0, f1] = true)
    (hC : P.cellsOf e = 2) (t1 : P.underlying f1.type = some (.slice q))
    (h : DataW.Trod enc P w base spare held t (.slice a len cap) d p) (r : List Pc) (hp : PS w (.slice a len cap) r) : r.length + (r.map fun x => x.2.length).sum ≤ Rows.uptoBulk d := by
  obtain ⟨hrl, -, -, -⟩ := hp.len
  obtain ⟨hlc, hN, hS⟩ := open_structs ht he hone (by rw [hC]; rfl) h
  have h0 := bulk_len ht h
  cases a with
  | none =>
    have hl : len = 0 := by have := hN rfl; omega
    have : r = [] := List.eq_nil_of_length_eq_zero (by omega)
    subst this
    exact Nat.zero_le _
  | some x =>
    obtain ⟨D, sp, hd, hi⟩ := hS x rfl
    rw [hd, bulk_slice_eq]
    have hk : ∀ i : Nat, i < len → (r[i]?.getD (0, [])).2.length + 1 ≤ Rows.uptoBulk (D i) := by
      intro i hil
      obtain ⟨ys, n, hD, hf⟩ := hi i hil
      obtain ⟨v1, y1, hc1, hy1, tr1⟩ := hf 1 f1 rfl
      obtain ⟨b, o, hb, hc⟩ := hp.read i hil
      obtain ⟨-, ad, m, cc, g1, g2, -⟩ := hc i hil
      cases hb
      have hc1' : w.cell? ⟨b, o + i * 2 + 1, none⟩ = some v1 := by
        rw [← hc1]
        simp [Addr.add, Nat.add_assoc]
      rw [g1] at hc1'
      simp only [Option.some.injEq] at hc1'
      subst hc1'
      have hb := bulk_len (p := y1.2) t1 ⟨n, tr1⟩
      have hm := (bulk_at (ys.map (·.1)) 1 y1.1 (by rw [List.getElem?_map, hy1]; rfl))
      rw [hD]
      have hl := g2.len.1
      omega
    have hs := bulk_sum D (fun x : Pc => x.2.length + 1) (0, []) len r hrl hk
    have e : ∀ (r : List Pc), (r.map fun x : Pc => x.2.length + 1).sum = r.length + (r.map fun x => x.2.length).sum := by
      intro r
      induction r with
      | nil => rfl
      | cons x r ih => simp only [List.map_cons, List.sum_cons, List.length_cons, ih]; omega
    rw [e] at hs
    omega
end
end Go.Proofs.YtdbkoephkdfbfaaDoor

/-
  How the arguments of a statement are opened: a table by value, a slice of bytes.
-/
import Derived.Test.YtaeiijncklmfdaaBase
import Derived.ProofKit
import Derived.OpenShut
import Derived.ShutString
import Derived.ChangeOld
import Derived.SizedLaws
namespace Go.Proofs.Ytaeiijncklmfdaa
open Go.ChangeShapes Go.WideShapes Go.ChangeAt Go.RowKit

theorem own : ownKnob Try.prog.godebug = none := by kernel_rfl
theorem bytesB : Try.prog.bytesOf 5 = 1 := by kernel_rfl
theorem laidOut : laidOutB Try.prog = true := by kernel_rfl

section
variable {H : Type} {enc : TypeId × Value → H} {P : Program} {w : World} {base : Nat} {spare : Nat → Bool} {held : Bool}

theorem okWide_array {r : Reach} {b0 : Nat} {t e : TypeId} {n : Nat} {v : Value} (ha : P.underlying t = some (.array n e)) (hv : Value.okWide P w r b0 t v) : ∃ cs, v = .agg cs ∧ cs.size = P.cellsOf t := by
  unfold Value.okWide at hv
  rw [ha] at hv
  obtain ⟨cs, h1, h2, _⟩ := hv
  exact ⟨cs, h1, h2⟩

theorem wf_u8 {n : Int} (h : (Lit.int .u8 n).wf = true) : 0 ≤ n ∧ n ≤ 255 := bounds_u8 h

/-- AN ARRAY OF BYTES BY VALUE: its cells are a row of bytes. -/
theorem open_row {r : Reach} {b0 : Nat} {t e : TypeId} {n : Nat} {v : Value} {d : DataW H} {p : List MemPlace} (ha : P.underlying t = some (.array n e)) (he : P.underlying e = some (.int .u8)) (hce : P.cellsOf e = 1) (hct : P.cellsOf t = n)
    (hv : Value.okWide P w r b0 t v) (h : DataW.Trod enc P w base spare held t v d p) : ∃ l : List Int, l.length = n ∧ IsB l ∧ v = .agg (row l) := by
  obtain ⟨cs, rfl, hsz⟩ := okWide_array ha hv
  obtain ⟨fuel, hf⟩ := h
  obtain ⟨xs, m, _, _, hlen, hxs, hel⟩ := DataW.trod_array ha hf
  have hone : ∀ i, i < n → ∃ x : Int, cs[i]? = some (.int .u8 x) ∧ 0 ≤ x ∧ x ≤ 255 := by
    intro i hi
    have h1 := hel i hi
    have hx : xs[i]? = some xs[i] := List.getElem?_eq_getElem (by omega)
    rw [hx, hce, Nat.mul_one] at h1
    obtain ⟨x, e1, _, wx⟩ := DataW.trod_int he h1
    refine ⟨x, ?_, wf_u8 wx⟩
    have hi' : i < (Value.cells (.agg cs)).toList.length := by rw [hlen, hct]; exact hi
    rw [List.drop_eq_getElem_cons hi', List.take_succ_cons, List.take_zero] at e1
    simp only [List.cons.injEq, and_true] at e1
    have hs : i < cs.size := by rw [hsz, hct]; exact hi
    rw [Array.getElem?_eq_getElem hs]
    simpa [Value.cells] using e1
  refine ⟨cs.toList.map (fun v => intOf v), by simp [hsz, hct], ?_, ?_⟩
  · intro i
    by_cases hi : i < n
    · obtain ⟨x, hc, hb⟩ := hone i hi
      simpa [hc, intOf] using hb
    · have : cs[i]? = none := by simp; omega
      simp [this]
  · congr 1
    apply Array.ext'
    apply List.ext_getElem?
    intro i
    by_cases hi : i < n
    · obtain ⟨x, hc, _⟩ := hone i hi
      simp [row, hc, intOf]
    · have : cs[i]? = none := by simp; omega
      simp [row, this]

/-- A SLICE OF BYTES: it reads as a list of bytes. -/
theorem open_sb {t e : TypeId} {a : Option Addr} {len cap : Nat} {d : DataW H} {p : List MemPlace} (ht : P.underlying t = some (.slice e)) (he : P.underlying e = some (.int .u8)) (hce : P.cellsOf e = 1)
    (h : DataW.Trod enc P w base spare held t (.slice a len cap) d p) (hsz : ∀ elems sp, d = .slice elems sp → elems.length + sp.length ≤ 140737488351232) : ∃ l : List Int, l.length = len ∧ SB w (.slice a len cap) l ∧ (a = none → cap = 0) := by
  obtain ⟨fuel, hf⟩ := h
  rcases open_ints ht he hce hf with ⟨hcs, _⟩ | ⟨x, l, c, zs, hcs, _, hl, hm, hz, hd, hcell, hwz⟩
  · simp [Value.cells] at hcs
    obtain ⟨rfl, rfl, rfl⟩ := hcs
    exact ⟨[], rfl, ⟨fun i => by simp, none, 0, rfl, by simp, .inl rfl⟩, fun _ => rfl⟩
  · simp [Value.cells] at hcs
    obtain ⟨rfl, rfl, rfl⟩ := hcs
    have hlen : len ≤ zs.length := by rw [hz]; split <;> omega
    simp only [Prod.mk.injEq] at hd
    have hbound := hsz _ _ hd.1
    simp only [lits, List.length_map, List.length_take, List.length_drop] at hbound
    have hbound' : len ≤ 140737488351232 := by omega
    refine ⟨zs.take len, by simp; omega, ⟨?_, some x, cap, by simp; omega, by simp; omega, ?_⟩, fun h => by cases h⟩
    · intro i
      by_cases hi : i < (zs.take len).length
      · rw [List.getElem?_eq_getElem hi]
        exact wf_u8 (hwz _ (List.mem_of_mem_take (List.getElem_mem hi)))
      · rw [List.getElem?_eq_none (by omega)]; simp
    · by_cases h0 : len = 0
      · subst h0; exact .inl (by simp)
      · obtain ⟨b, off, spot⟩ := x
        have hc0 := hcell 0 (by omega)
        have hspot : spot = none := by simpa [Addr.add] using World.cell?_spot hc0
        subst hspot
        refine .inr ⟨b, off, rfl, fun i hi => ?_⟩
        have hi' : i < len := by simp at hi; omega
        have := hcell i (by omega)
        rw [show (⟨b, off, none⟩ : Addr).add i = ⟨b, off + i, none⟩ by simp [Addr.add]] at this
        rw [this, List.getElem?_take_of_lt hi']
        simp
end
end Go.Proofs.Ytaeiijncklmfdaa

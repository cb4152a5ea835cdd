/-
  A struct by value whose fields have one cell each: it is opened field by field.
-/
import Derived.Test.YtaeiijncklmfdaaOpen
import Derived.Deep.Fields
import Derived.SizedLaws
namespace Go.Proofs.Ytaeiijncklmfdaa
open Go.ChangeShapes Go.WideShapes Go.ChangeAt Go.RowKit Go.Deep

theorem len3 {α : Type} (l : List α) (h : l.length = 3) : ∃ a b c, l = [a, b, c] := by
  match l, h with
  | [a, b, c], _ => exact ⟨a, b, c, rfl⟩
theorem len4 {α : Type} (l : List α) (h : l.length = 4) : ∃ a b c d, l = [a, b, c, d] := by
  match l, h with
  | [a, b, c, d], _ => exact ⟨a, b, c, d, rfl⟩
theorem len6 {α : Type} (l : List α) (h : l.length = 6) : ∃ a b c d e f, l = [a, b, c, d, e, f] := by
  match l, h with
  | [a, b, c, d, e, f], _ => exact ⟨a, b, c, d, e, f, rfl⟩

section
variable {H : Type} {enc : TypeId × Value → H} {P : Program} {w : World} {base : Nat} {spare : Nat → Bool} {held : Bool}
theorem open_fields {r : Reach} {b0 : Nat} {t : TypeId} {fs : Array Field} {v : Value} {d : DataW H} {p : List MemPlace} (hs : P.underlying t = some (.struct fs)) (hone : oneCellFields P fs = true) (hC : P.cellsOf t = fs.size)
    (hv : Value.okWide P w r b0 t v) (h : DataW.Trod enc P w base spare held t v d p) :
    ∃ (cs : List Value) (ys : List (DataW H × List MemPlace)), v = .agg cs.toArray ∧ cs.length = fs.size ∧ ys.length = fs.size ∧ d = .agg (ys.map (·.1)) ∧
      ∀ (j : Nat) (f : Field) (c : Value) (y : DataW H × List MemPlace), fs[j]? = some f → cs[j]? = some c → ys[j]? = some y → ∃ n, DataW.trod enc P w base spare held n f.type [c] = some y := by
  obtain ⟨cs, rfl, hsz⟩ := okWide_struct hs hv
  obtain ⟨fuel, hf⟩ := h
  obtain ⟨xs, n, _, hx, _, hlen, hg⟩ := DataW.trod_struct hs hf
  simp only [Prod.mk.injEq] at hx
  refine ⟨cs.toList, xs, by simp, by simp [hsz, hC], hlen, hx.1, fun j f c y hj hc hy => ⟨n, ?_⟩⟩
  obtain ⟨ho, hk⟩ := hone_of hone j f hj
  have h1 := hg j f hj
  rw [ho, hk, hy] at h1
  rw [← h1]
  congr 1
  have hlt := (List.getElem?_eq_some_iff.1 hc).1
  simp only [Value.cells]
  rw [List.drop_eq_getElem_cons hlt, List.take_succ_cons, List.take_zero]
  rw [List.getElem?_eq_getElem hlt] at hc
  simp only [Option.some.injEq] at hc
  rw [hc]

theorem weightsEach_mem {ts : List TypeId} {ds : List (DataW H)} {i : Nat} {t : TypeId} {x : DataW H} (ht : ts[i]? = some t) (hx : ds[i]? = some x) : ∀ n ∈ x.weights P t, n ∈ DataW.weightsEach P ts ds :=
  DataW.weights_mem_each ht hx
/-- The bound on a list of bytes in a field. -/
theorem sized_field {ts : List TypeId} {ds : List (DataW H)} (h : (DataW.weightsEach P ts ds).all (· ≤ reachBytes) = true) {j : Nat} {t : TypeId} {d : DataW H} {fs : Array Field} (ht : ts[j]? = some t) (hd : ds[j]? = some d) (hu : P.underlying t = some (.struct fs))
    {i : Nat} {ft e : TypeId} (hft : (fs.toList.map (·.type))[i]? = some ft) {ys : List (DataW H × List MemPlace)} (hdd : d = .agg (ys.map (·.1))) {y : DataW H} (hy : (ys.map (·.1))[i]? = some y) {elems sp : List (DataW H)} (he : y = .slice elems sp)
    (hue : P.underlying ft = some (.slice e)) : (elems.length + sp.length) * P.bytesOf e ≤ reachBytes := by
  have h1 : (elems.length + sp.length) * P.bytesOf e ∈ y.weights P ft := by
    subst he
    rw [DataW.weights, hue]
    exact List.mem_cons_self
  have h2 : (elems.length + sp.length) * P.bytesOf e ∈ d.weights P t := by
    subst hdd
    rw [DataW.weights, hu]
    exact weightsEach_mem hft hy _ h1
  have := List.all_eq_true.1 h _ (weightsEach_mem ht hd _ h2)
  simpa using this
theorem slice_shape {t e : TypeId} {n : Nat} {c : Value} {y : DataW H × List MemPlace} (ht : P.underlying t = some (.slice e)) (he : P.underlying e = some (.int .u8)) (hce : P.cellsOf e = 1) (h : DataW.trod enc P w base spare held n t [c] = some y) : ∃ a l k, c = .slice a l k := by
  rcases open_ints ht he hce h with ⟨hcs, _⟩ | ⟨x, l, k, zs, hcs, _⟩
  · simp at hcs; exact ⟨_, _, _, hcs⟩
  · simp at hcs; exact ⟨_, _, _, hcs⟩
end
end Go.Proofs.Ytaeiijncklmfdaa

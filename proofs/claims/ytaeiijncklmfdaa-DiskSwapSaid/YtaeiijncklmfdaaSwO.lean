/-
  Openings of the swap's fields.
-/
import Derived.Test.YtaeiijncklmfdaaSwL
import Derived.Test.YtaeiijncklmfdaaFields
namespace Go.Proofs.Ytaeiijncklmfdaa
open Go.ChangeShapes Go.WideShapes Go.ChangeAt Go.RowKit Go.Deep

section
variable {H : Type} {enc : TypeId × Value → H} {P : Program} {w : World} {base : Nat} {spare : Nat → Bool} {held : Bool}
theorem slice_shapeG {t e : TypeId} {n : Nat} {c : Value} {y : DataW H × List MemPlace} (ht : P.underlying t = some (.slice e)) (h : DataW.trod enc P w base spare held n t [c] = some y) : ∃ a l k, c = .slice a l k ∧ l ≤ k := by
  rcases DataW.trod_slice ht h with h0 | ⟨a, len, cap, elems, rest, n, _, e1, e2, hb, hl, hm, hlen, hel, hsp, hns⟩
  · have := h0.1
    simp at this
    exact ⟨_, _, _, this, Nat.le_refl _⟩
  · simp at e1
    exact ⟨_, _, _, e1, hl⟩
/-- The bound on the rows of a field. -/
theorem sized_field_rows {ts : List TypeId} {ds : List (DataW H)} (h : (DataW.weightsEach P ts ds).all (· ≤ reachBytes) = true) {j : Nat} {t : TypeId} {d : DataW H} {fs : Array Field} (ht : ts[j]? = some t) (hd : ds[j]? = some d) (hu : P.underlying t = some (.struct fs))
    {i : Nat} {ft e q : TypeId} (hft : (fs.toList.map (·.type))[i]? = some ft) {ys : List (DataW H × List MemPlace)} (hdd : d = .agg (ys.map (·.1))) {y : DataW H} (hy : (ys.map (·.1))[i]? = some y) {elems sp : List (DataW H)} (he : y = .slice elems sp)
    (hue : P.underlying ft = some (.slice e)) (huq : P.underlying e = some (.slice q)) (x : DataW H) (hx : x ∈ elems) (e2 s2 : List (DataW H)) (hxe : x = .slice e2 s2) : (e2.length + s2.length) * P.bytesOf q ≤ reachBytes := by
  have h0 : (e2.length + s2.length) * P.bytesOf q ∈ x.weights P e := by
    subst hxe
    rw [DataW.weights, huq]
    exact List.mem_cons_self
  have h1 : (e2.length + s2.length) * P.bytesOf q ∈ y.weights P ft := by
    subst he
    rw [DataW.weights, hue]
    exact List.mem_cons_of_mem _ (List.mem_append_left _ (weightsAll_mem e elems x hx _ h0))
  have h2 : (e2.length + s2.length) * P.bytesOf q ∈ d.weights P t := by
    subst hdd
    rw [DataW.weights, hu]
    exact weightsEach_mem hft hy _ h1
  have := List.all_eq_true.1 h _ (weightsEach_mem ht hd _ h2)
  simpa using this
theorem bytesN : Try.prog.bytesOf 3 = 8 := by kernel_rfl
/-- A SLICE OF NUMBERS: it reads as a list of numbers. -/
theorem open_is {t e : TypeId} {a : Option Addr} {len cap : Nat} {d : DataW H} {p : List MemPlace} (ht : P.underlying t = some (.slice e)) (he : P.underlying e = some (.int .i64)) (hce : P.cellsOf e = 1)
    (h : DataW.Trod enc P w base spare held t (.slice a len cap) d p) (hsz : ∀ elems sp, d = .slice elems sp → elems.length + sp.length ≤ 140737488351232) : ∃ l : List Int, IsAt w a len cap l := by
  obtain ⟨fuel, hf⟩ := h
  rcases open_ints ht he hce hf with ⟨hcs, _⟩ | ⟨x, l, c, zs, hcs, _, hl, hm, hz, hd, hcell, hwz⟩
  · simp [Value.cells] at hcs
    obtain ⟨rfl, rfl, rfl⟩ := hcs
    exact ⟨[], rfl, Nat.le_refl _, fun _ => rfl, by simp, fun hn => absurd hn (Nat.lt_irrefl _)⟩
  · simp [Value.cells] at hcs
    obtain ⟨rfl, rfl, rfl⟩ := hcs
    have hlen : len ≤ zs.length := by rw [hz]; split <;> omega
    simp only [Prod.mk.injEq] at hd
    have hbound := hsz _ _ hd.1
    simp only [lits, List.length_map, List.length_take, List.length_drop] at hbound
    refine ⟨zs.take len, by simp; omega, hl, (fun h => by cases h), by omega, fun hn => ?_⟩
    obtain ⟨b, off, spot⟩ := x
    have hc0 := hcell 0 (by omega)
    have hspot : spot = none := by simpa [Addr.add] using World.cell?_spot hc0
    subst hspot
    refine ⟨b, off, rfl, fun i hi => ?_⟩
    have h1 := hcell i (by omega)
    rw [show (⟨b, off, none⟩ : Addr).add i = ⟨b, off + i, none⟩ by simp [Addr.add]] at h1
    rw [h1, List.getElem?_take_of_lt hi]
    rfl
end
end Go.Proofs.Ytaeiijncklmfdaa

/-
  How texts, parts and options among the arguments are opened.
-/
import Derived.Test.YtgepjjpcokbpjaaDoorStr
import Derived.Test.YtgepjjpcokbpjaaDoorFields
import Derived.Deep.Slices
namespace Go.Proofs.YtgepjjpcokbpjaaDoor
open Go.ChangeShapes Go.WideShapes Go.ChangeAt Go.RowKit Go.Deep

section
variable {H : Type} {enc : TypeId × Value → H} {P : Program} {w : World} {base : Nat} {spare : Nat → Bool} {held : Bool}
/-- A slice of structs whose fields have one cell each: cell by cell. -/
theorem open_structs {t e : TypeId} {fs : Array Field} {a : Option Addr} {len cap : Nat} {d : DataW H} {p : List MemPlace} (ht : P.underlying t = some (.slice e)) (he : P.underlying e = some (.struct fs)) (hone : oneCellFields P fs = true) (hC : P.cellsOf e = fs.size)
    (h : DataW.Trod enc P w base spare held t (.slice a len cap) d p) :
    len ≤ cap ∧ (a = none → cap = 0) ∧ ∀ x, a = some x → ∃ (D : Nat → DataW H) (sp : List (DataW H)), d = .slice ((List.range len).map D) sp ∧
      ∀ i, i < len → ∃ (ys : List (DataW H × List MemPlace)) (n : Nat), D i = .agg (ys.map (·.1)) ∧
        ∀ (j : Nat) (f : Field), fs[j]? = some f → ∃ (v : Value) (y : DataW H × List MemPlace), w.cell? (x.add (i * fs.size + j)) = some v ∧ ys[j]? = some y ∧ DataW.trod enc P w base spare held n f.type [v] = some y := by
  obtain ⟨fuel, hf⟩ := h
  rcases Go.Deep.open_slice ht hf with ⟨hcs, _⟩ | ⟨x, l, c, m, n, D, Pl, hcs, _, hl, hm, hmm, hx, hi⟩
  · simp [Value.cells] at hcs
    obtain ⟨rfl, rfl, rfl⟩ := hcs
    exact ⟨Nat.le_refl _, fun _ => rfl, fun x h => by cases h⟩
  · simp [Value.cells] at hcs
    obtain ⟨rfl, rfl, rfl⟩ := hcs
    simp only [Prod.mk.injEq] at hx
    refine ⟨hl, (fun h => by cases h), fun x' hx' => ?_⟩
    simp only [Option.some.injEq] at hx'
    subst hx'
    refine ⟨D, _, hx.1, fun i hil => ?_⟩
    have him : i < m := by rw [hmm]; split <;> omega
    obtain ⟨cs', hc, ht'⟩ := hi i him
    rw [hC] at hc
    obtain ⟨ys, n', _, hy, _, hyl, hg⟩ := DataW.trod_struct he ht'
    obtain ⟨_, hcl, hat⟩ := World.cells?_some hc
    simp only [Prod.mk.injEq] at hy
    refine ⟨ys, n', hy.1, fun j f hj => ?_⟩
    obtain ⟨ho, hk⟩ := hone_of hone j f hj
    have hjl : j < fs.size := (Array.getElem?_eq_some_iff.1 hj).1
    have hjc : j < cs'.length := by omega
    have h1 := hg j f hj
    rw [ho, hk, List.drop_eq_getElem_cons hjc, List.take_succ_cons, List.take_zero] at h1
    have hcell := hat j hjl
    rw [List.getElem?_eq_getElem hjc] at hcell
    refine ⟨cs'[j], ys[j]'(by omega), ?_, List.getElem?_eq_getElem _, h1.trans (List.getElem?_eq_getElem _)⟩
    rw [← Go.Deep.add_add]
    exact hcell
theorem w_slice {t e : TypeId} {elems sp : List (DataW H)} (ht : P.underlying t = some (.slice e)) (hw : ∀ n ∈ (DataW.slice elems sp).weights P t, n ≤ reachBytes) : (elems.length + sp.length) * P.bytesOf e ≤ reachBytes ∧ ∀ x ∈ elems, ∀ n ∈ x.weights P e, n ≤ reachBytes := by
  rw [DataW.weights, ht] at hw
  refine ⟨hw _ List.mem_cons_self, fun x hx n hn => hw n (List.mem_cons_of_mem _ (List.mem_append_left _ ?_))⟩
  have hm : ∀ (l : List (DataW H)), x ∈ l → n ∈ DataW.weightsAll P e l := by
    intro l
    induction l with
    | nil => intro h; cases h
    | cons y l ih =>
      intro h
      rw [DataW.weightsAll, List.mem_append]
      rcases List.mem_cons.1 h with rfl | h
      · exact .inl hn
      · exact .inr (ih h)
  exact hm elems hx
theorem w_arg {ts : List TypeId} {ds : List (DataW H)} (h : (DataW.weightsEach P ts ds).all (· ≤ reachBytes) = true) {j : Nat} {t : TypeId} {d : DataW H} (ht : ts[j]? = some t) (hd : ds[j]? = some d) : ∀ n ∈ d.weights P t, n ≤ reachBytes := by
  intro n hn
  have := List.all_eq_true.1 h _ (DataW.weights_mem_each ht hd _ hn)
  simpa using this
theorem w_part {t ft : TypeId} {fs : Array Field} {ys : List (DataW H)} {y : DataW H} (hu : P.underlying t = some (.struct fs)) (hw : ∀ n ∈ (DataW.agg ys).weights P t, n ≤ reachBytes) {i : Nat} (hft : (fs.toList.map (·.type))[i]? = some ft) (hy : ys[i]? = some y) : ∀ n ∈ y.weights P ft, n ≤ reachBytes := by
  intro n hn
  refine hw n ?_
  rw [DataW.weights, hu]
  exact weightsEach_mem hft hy _ hn
theorem w_str {t : TypeId} {bs : List UInt8} (hw : ∀ n ∈ (DataW.lit (.string bs) : DataW H).weights P t, n ≤ reachBytes) : bs.length ≤ 140737488351232 := by
  rw [DataW.weights] at hw
  exact hw _ (List.mem_singleton.2 rfl)
theorem slice_shapeT {t e : TypeId} {n : Nat} {c : Value} {y : DataW H × List MemPlace} (ht : P.underlying t = some (.slice e)) (h : DataW.trod enc P w base spare held n t [c] = some y) : ∃ a l k, c = .slice a l k := by
  rcases Go.Deep.open_slice ht h with ⟨hcs, _⟩ | ⟨x, l, k, m, n, D, Pl, hcs, _⟩
  · simp at hcs; exact ⟨_, _, _, hcs⟩
  · simp at hcs; exact ⟨_, _, _, hcs⟩
/-- A SLICE OF STRINGS. -/
theorem open_ts {t e : TypeId} {a : Option Addr} {len cap : Nat} {d : DataW H} {p : List MemPlace} (ht : P.underlying t = some (.slice e)) (he : P.underlying e = some .string) (hc : P.cellsOf e = 1)
    (h : DataW.Trod enc P w base spare held t (.slice a len cap) d p) (hby : P.bytesOf e = 16) (hw : ∀ n ∈ d.weights P t, n ≤ reachBytes) : ∃ l : List Str, l.length = len ∧ TS w (.slice a len cap) l ∧ ∀ s ∈ l, s.size ≤ 140737488351232 := by
  obtain ⟨fuel, hf⟩ := h
  rcases open_strings ht he hc hf with ⟨hcs, _⟩ | ⟨x, l, c, ss, hcs, _, hl, hm, hz, hd, hcell, hsz⟩
  · simp [Value.cells] at hcs
    obtain ⟨rfl, rfl, rfl⟩ := hcs
    exact ⟨[], rfl, ⟨none, 0, rfl, by simp, by simp, fun _ => rfl, .inl rfl⟩, fun _ h => by cases h⟩
  · simp [Value.cells] at hcs
    obtain ⟨rfl, rfl, rfl⟩ := hcs
    have hlen : len ≤ ss.length := by rw [hz]; split <;> omega
    simp only [Prod.mk.injEq] at hd
    have htl : (ss.take len).length = len := by simp; omega
    rw [hd.1] at hw
    obtain ⟨hw1, hw2⟩ := w_slice ht hw
    rw [hby] at hw1
    have hw1 : ((strs (H := H) (ss.take len)).length + (strs (H := H) (ss.drop len)).length) * 16 ≤ 140737488351232 := hw1
    simp only [strs, List.length_map, htl] at hw1
    refine ⟨ss.take len, htl, ⟨some x, cap, by rw [htl], by omega, by omega, (fun e => by cases e), ?_⟩, fun s hs => ?_⟩
    · by_cases h0 : len = 0
      · subst h0; exact .inl (by simp)
      · obtain ⟨b, off, spot⟩ := x
        have hc0 := hcell 0 (by omega)
        have hspot : spot = none := by simpa [Addr.add] using World.cell?_spot hc0
        subst hspot
        refine .inr ⟨b, off, rfl, fun i hi => ?_⟩
        have hi' : i < len := by omega
        have := hcell i (by omega)
        rw [show (⟨b, off, none⟩ : Addr).add i = ⟨b, off + i, none⟩ by simp [Addr.add]] at this
        rw [this, List.getElem?_take_of_lt hi']
        simp
    · have hm2 : (.lit (.string s.data.toList) : DataW H) ∈ strs (ss.take len) := List.mem_map.2 ⟨s, hs, rfl⟩
      have h1 := w_str (hw2 _ hm2)
      have : s.size = s.data.toList.length := by rw [Array.length_toList]; rfl
      omega
/-- A SLICE OF PARTS. -/
theorem open_pt {t e : TypeId} {f0 f1 : Field} {a : Option Addr} {len cap : Nat} {d : DataW H} {p : List MemPlace} (ht : P.underlying t = some (.slice e)) (he : P.underlying e = some (.struct #[f0, f1])) (hone : oneCellFields P #[f0, f1] = true)
    (hC : P.cellsOf e = 2) (t0 : P.underlying f0.type = some .bool) (t1 : P.underlying f1.type = some .string)
    (h : DataW.Trod enc P w base spare held t (.slice a len cap) d p) (hby : P.bytesOf e = 24) (hw : ∀ n ∈ d.weights P t, n ≤ reachBytes) : ∃ l : List Prt, l.length = len ∧ PT w (.slice a len cap) l ∧ ∀ x ∈ l, x.2.size ≤ 140737488351232 := by
  obtain ⟨hlc, hN, hS⟩ := open_structs ht he hone (by rw [hC]; rfl) h
  cases a with
  | none =>
    have hc := hN rfl
    subst hc
    have hl : len = 0 := by omega
    subst hl
    exact ⟨[], rfl, ⟨none, 0, rfl, by simp, by simp, fun _ => rfl, .inl rfl⟩, fun _ h => by cases h⟩
  | some x =>
    obtain ⟨D, sp, hd, hi⟩ := hS x rfl
    rw [hd] at hw
    obtain ⟨hw1, hw2⟩ := w_slice ht hw
    rw [hby] at hw1
    simp only [List.length_map, List.length_range] at hw1
    have hw1 : (len + sp.length) * 24 ≤ 140737488351232 := hw1
    have hone : ∀ i, ∃ z : Prt, i < len → w.cell? (x.add (i * 2)) = some (.bool z.1) ∧ w.cell? (x.add (i * 2 + 1)) = some (.string z.2) ∧ z.2.size ≤ 140737488351232 := by
      intro i
      by_cases hil : i < len
      · obtain ⟨ys, n, hD, hf⟩ := hi i hil
        obtain ⟨v0, y0, hc0, hy0, tr0⟩ := hf 0 f0 rfl
        obtain ⟨v1, y1, hc1, hy1, tr1⟩ := hf 1 f1 rfl
        obtain ⟨g, e0, _⟩ := DataW.trod_bool t0 tr0
        simp only [List.cons.injEq, and_true] at e0
        subst e0
        obtain ⟨s, e1, e2, _⟩ := DataW.trod_string t1 tr1
        simp only [List.cons.injEq, and_true] at e1
        subst e1
        refine ⟨(g, s), fun _ => ⟨by simpa using hc0, by simpa using hc1, ?_⟩⟩
        have hmem : D i ∈ (List.range len).map D := List.mem_map.2 ⟨i, List.mem_range.2 hil, rfl⟩
        have h1 := hw2 _ hmem
        rw [hD] at h1
        have h2 := w_part he h1 (i := 1) (ft := f1.type) rfl (y := y1.1) (by rw [List.getElem?_map, hy1]; rfl)
        rw [e2] at h2
        have h3 := w_str h2
        have : s.size = s.data.toList.length := by rw [Array.length_toList]; rfl
        show s.size ≤ _
        omega
      · exact ⟨(false, ByteArray.empty), fun h => absurd h hil⟩
    obtain ⟨F, hF⟩ := Classical.axiomOfChoice hone
    have hget : ∀ i, i < len → ((List.range len).map F)[i]?.getD (false, ByteArray.empty) = F i := fun i hi => by simp [hi]
    refine ⟨(List.range len).map F, by simp, ⟨some x, cap, by simp, by simp; omega, by simp; omega, (fun h => by cases h), ?_⟩, fun z hz => ?_⟩
    · by_cases h0 : len = 0
      · subst h0; exact .inl rfl
      · obtain ⟨b, off, spot⟩ := x
        obtain ⟨hc0, _⟩ := hF 0 (by omega)
        have hspot : spot = none := by simpa [Addr.add] using World.cell?_spot hc0
        subst hspot
        refine .inr ⟨b, off, rfl, fun i hi' => ?_⟩
        have hil : i < len := by simpa using hi'
        obtain ⟨g0, g1, _⟩ := hF i hil
        rw [hget i hil]
        rw [show (⟨b, off, none⟩ : Addr).add (i * 2) = ⟨b, off + i * 2, none⟩ by simp [Addr.add]] at g0
        rw [show (⟨b, off, none⟩ : Addr).add (i * 2 + 1) = ⟨b, off + i * 2 + 1, none⟩ by simp [Addr.add, Nat.add_assoc]] at g1
        exact ⟨g0, g1⟩
    · obtain ⟨i, hi1, rfl⟩ := List.mem_map.1 hz
      exact (hF i (List.mem_range.1 hi1)).2.2
end
end Go.Proofs.YtgepjjpcokbpjaaDoor

/-
  Slices of pieces and of spans: how they read, how such arguments are opened.
-/
import Derived.Test.YtdbkoephkdfbfaaDoorOpen
import Derived.Test.YtdbkoephkdfbfaaDoorBytes
import Derived.Test.YtdbkoephkdfbfaaDoorFields
import Derived.Test.YtdbkoephkdfbfaaDoorFillM
import Derived.Deep.Slices
namespace Go.Proofs.YtdbkoephkdfbfaaDoor
open Go.ChangeShapes Go.WideShapes Go.ChangeAt Go.RowKit Go.Deep

/-- A number that fits a word. -/
def IsI (x : Int) : Prop := -9223372036854775808 ≤ x ∧ x ≤ 9223372036854775807

/-- The slice value v reads, in w, as the pieces p. -/
def PS (w : World) (v : Value) (p : List Pc) : Prop :=
  (∀ i : Nat, IsI (p[i]?.getD (0, [])).1) ∧ ∃ a cap, v = .slice a p.length cap ∧ p.length ≤ 4398046510976 ∧ p.length ≤ cap ∧ (a = none → cap = 0) ∧
    (p = [] ∨ ∃ b off, a = some ⟨b, off, none⟩ ∧ ∀ i : Nat, i < p.length → w.cell? ⟨b, off + i * 2, none⟩ = some (.int .i64 (p[i]?.getD (0, [])).1) ∧
      ∃ ad n c, w.cell? ⟨b, off + i * 2 + 1, none⟩ = some (.slice ad n c) ∧ SB w (.slice ad n c) (p[i]?.getD (0, [])).2 ∧ n ≤ c ∧ (ad = none → c = 0))
/-- The slice value v reads, in w, as the spans l. -/
def NS (w : World) (v : Value) (l : List Sp) : Prop :=
  (∀ i : Nat, IsI (l[i]?.getD (-1, -1)).1 ∧ IsI (l[i]?.getD (-1, -1)).2) ∧ ∃ a cap, v = .slice a l.length cap ∧ l.length ≤ 8796093021952 ∧ l.length ≤ cap ∧
    (l = [] ∨ ∃ b off, a = some ⟨b, off, none⟩ ∧ ∀ i : Nat, i < l.length → w.cell? ⟨b, off + i * 2, none⟩ = some (.int .i64 (l[i]?.getD (-1, -1)).1) ∧ w.cell? ⟨b, off + i * 2 + 1, none⟩ = some (.int .i64 (l[i]?.getD (-1, -1)).2))

theorem PS.below {w w' : World} {v : Value} {p : List Pc} (h : PS w v p) (hb : Below w.heap.size w w') : PS w' v p := by
  obtain ⟨h0, a, cap, rfl, h1, h2, h3, h4⟩ := h
  refine ⟨h0, a, cap, rfl, h1, h2, h3, ?_⟩
  rcases h4 with h4 | ⟨b, off, ha, hc⟩
  · exact .inl h4
  · refine .inr ⟨b, off, ha, fun i hi => ?_⟩
    obtain ⟨g0, ad, n, c, g1, g2, g3⟩ := hc i hi
    exact ⟨by rw [hb.cell (World.block_lt_of_cell? w _ g0)]; exact g0, ad, n, c, by rw [hb.cell (World.block_lt_of_cell? w _ g1)]; exact g1, g2.below hb, g3⟩
theorem NS.below {w w' : World} {v : Value} {l : List Sp} (h : NS w v l) (hb : Below w.heap.size w w') : NS w' v l := by
  obtain ⟨h0, a, cap, rfl, h1, h2, h4⟩ := h
  refine ⟨h0, a, cap, rfl, h1, h2, ?_⟩
  rcases h4 with h4 | ⟨b, off, ha, hc⟩
  · exact .inl h4
  · refine .inr ⟨b, off, ha, fun i hi => ?_⟩
    obtain ⟨g0, g1⟩ := hc i hi
    exact ⟨by rw [hb.cell (World.block_lt_of_cell? w _ g0)]; exact g0, by rw [hb.cell (World.block_lt_of_cell? w _ g1)]; exact g1⟩
theorem PS.drewN {w : World} {v : Value} {p : List Pc} (h : PS w v p) (n : Nat) : PS (w.drewN n) v p := h.below (below_drewN (Below.refl _ _) n)
theorem NS.drewN {w : World} {v : Value} {l : List Sp} (h : NS w v l) (n : Nat) : NS (w.drewN n) v l := h.below (below_drewN (Below.refl _ _) n)
theorem PS.len {w : World} {a : Option Addr} {n c : Nat} {p : List Pc} (h : PS w (.slice a n c) p) : p.length = n ∧ n ≤ 4398046510976 ∧ n ≤ c ∧ (a = none → c = 0) := by
  obtain ⟨_, _, _, he, h1, h2, h3, _⟩ := h
  simp only [Value.slice.injEq] at he
  obtain ⟨rfl, rfl, rfl⟩ := he
  exact ⟨rfl, h1, h2, h3⟩
theorem NS.len {w : World} {a : Option Addr} {n c : Nat} {l : List Sp} (h : NS w (.slice a n c) l) : l.length = n ∧ n ≤ 8796093021952 ∧ n ≤ c := by
  obtain ⟨_, _, _, he, h1, h2, _⟩ := h
  simp only [Value.slice.injEq] at he
  obtain ⟨rfl, rfl, rfl⟩ := he
  exact ⟨rfl, h1, h2⟩
theorem PS.read {w : World} {a : Option Addr} {n c : Nat} {p : List Pc} (h : PS w (.slice a n c) p) (k : Nat) (hk : k < n) : ∃ b o, a = some ⟨b, o, none⟩ ∧
    ∀ i : Nat, i < n → w.cell? ⟨b, o + i * 2, none⟩ = some (.int .i64 (p[i]?.getD (0, [])).1) ∧ ∃ ad m cc, w.cell? ⟨b, o + i * 2 + 1, none⟩ = some (.slice ad m cc) ∧ SB w (.slice ad m cc) (p[i]?.getD (0, [])).2 ∧ m ≤ cc ∧ (ad = none → cc = 0) := by
  obtain ⟨_, _, _, he, _, _, _, h4⟩ := h
  simp only [Value.slice.injEq] at he
  obtain ⟨rfl, rfl, rfl⟩ := he
  rcases h4 with rfl | ⟨b, o, hb, hc⟩
  · exact absurd hk (Nat.not_lt_zero _)
  · exact ⟨b, o, hb, hc⟩
theorem NS.read {w : World} {a : Option Addr} {n c : Nat} {l : List Sp} (h : NS w (.slice a n c) l) (k : Nat) (hk : k < n) : ∃ b o, a = some ⟨b, o, none⟩ ∧
    ∀ i : Nat, i < n → w.cell? ⟨b, o + i * 2, none⟩ = some (.int .i64 (l[i]?.getD (-1, -1)).1) ∧ w.cell? ⟨b, o + i * 2 + 1, none⟩ = some (.int .i64 (l[i]?.getD (-1, -1)).2) := by
  obtain ⟨_, _, _, he, _, _, h4⟩ := h
  simp only [Value.slice.injEq] at he
  obtain ⟨rfl, rfl, rfl⟩ := he
  rcases h4 with rfl | ⟨b, o, hb, hc⟩
  · exact absurd hk (Nat.not_lt_zero _)
  · exact ⟨b, o, hb, hc⟩

theorem bytesPc : Tryd.prog.bytesOf 122 = 32 := by kernel_rfl
theorem bytesSp : Tryd.prog.bytesOf 118 = 16 := by kernel_rfl

section
variable {H : Type} {enc : TypeId × Value → H} {P : Program} {w : World} {base : Nat} {spare : Nat → Bool} {held : Bool}

/-- A slice of structs whose fields have one cell each: cell by cell. -/
theorem open_structs {t e : TypeId} {fs : Array Field} {a : Option Addr} {len cap : Nat} {d : DataW H} {p : List MemPlace} (ht : P.underlying t = some (.slice e)) (he : P.underlying e = some (.struct fs)) (hone : oneCellFields P fs = true) (hC : P.cellsOf e = fs.size)
    (h : DataW.Trod enc P w base spare held t (.slice a len cap) d p) :
    len ≤ cap ∧ (a = none → cap = 0) ∧ ∀ x, a = some x → ∃ (D : Nat → DataW H) (sp : List (DataW H)), d = .slice ((List.range len).map D) sp ∧
      ∀ i, i < len → ∃ (ys : List (DataW H × List MemPlace)) (n : Nat), D i = .agg (ys.map (·.1)) ∧
        ∀ (j : Nat) (f : Field), fs[j]? = some f → ∃ (v : Value) (y : DataW H × List MemPlace), w.cell? (x.add (i * fs.size + j)) = some v ∧ ys[j]? = some y ∧ DataW.trod enc P w base spare held n f.type [v] = some y := by
  obtain ⟨fuel, hf⟩ := h
  rcases Go.Deep.open_slice ht hf with ⟨hcs, _⟩ | ⟨x, l, c, m, n, D, Pl, hcs, _, hl, hm, hmm, hx, hi⟩
  · simp [Value.cells] at hcs
    obtain ⟨rfl, rfl, rfl⟩ := hcs
    exact ⟨Nat.le_refl _, fun _ => rfl, fun x h => by cases h⟩
  · simp [Value.cells] at hcs
    obtain ⟨rfl, rfl, rfl⟩ := hcs
    simp only [Prod.mk.injEq] at hx
    refine ⟨hl, (fun h => by cases h), fun x' hx' => ?_⟩
    simp only [Option.some.injEq] at hx'
    subst hx'
    refine ⟨D, _, hx.1, fun i hil => ?_⟩
    have him : i < m := by rw [hmm]; split <;> omega
    obtain ⟨cs', hc, ht'⟩ := hi i him
    rw [hC] at hc
    obtain ⟨ys, n', _, hy, _, hyl, hg⟩ := DataW.trod_struct he ht'
    obtain ⟨_, hcl, hat⟩ := World.cells?_some hc
    simp only [Prod.mk.injEq] at hy
    refine ⟨ys, n', hy.1, fun j f hj => ?_⟩
    obtain ⟨ho, hk⟩ := hone_of hone j f hj
    have hjl : j < fs.size := (Array.getElem?_eq_some_iff.1 hj).1
    have hjc : j < cs'.length := by omega
    have h1 := hg j f hj
    rw [ho, hk, List.drop_eq_getElem_cons hjc, List.take_succ_cons, List.take_zero] at h1
    have hcell := hat j hjl
    rw [List.getElem?_eq_getElem hjc] at hcell
    refine ⟨cs'[j], ys[j]'(by omega), ?_, List.getElem?_eq_getElem _, h1.trans (List.getElem?_eq_getElem _)⟩
    rw [← Go.Deep.add_add]
    exact hcell

theorem sized_elem {ts : List TypeId} {ds : List (DataW H)} (h : (DataW.weightsEach P ts ds).all (· ≤ reachBytes) = true) {j : Nat} {t e : TypeId} {elems sp : List (DataW H)} (ht : ts[j]? = some t) (hd : ds[j]? = some (.slice elems sp))
    (hu : P.underlying t = some (.slice e)) (x : DataW H) (hx : x ∈ elems) : ∀ n ∈ x.weights P e, n ≤ reachBytes := by
  intro n hn
  have hm : ∀ (l : List (DataW H)), x ∈ l → n ∈ DataW.weightsAll P e l := by
    intro l
    induction l with
    | nil => intro h; cases h
    | cons y l ih =>
      intro h
      rw [DataW.weightsAll, List.mem_append]
      rcases List.mem_cons.1 h with rfl | h
      · exact .inl hn
      · exact .inr (ih h)
  have h3 : n ∈ (DataW.slice elems sp).weights P t := by
    rw [DataW.weights, hu]
    exact List.mem_cons_of_mem _ (List.mem_append_left _ (hm elems hx))
  have := List.all_eq_true.1 h _ (DataW.weights_mem_each ht hd _ h3)
  simpa using this

/-- A SLICE OF PIECES: it reads as a list of pieces. -/
theorem open_ps {t e q : TypeId} {f0 f1 : Field} {a : Option Addr} {len cap : Nat} {d : DataW H} {p : List MemPlace} (ht : P.underlying t = some (.slice e)) (he : P.underlying e = some (.struct #[f0, f1])) (hone : oneCellFields P #[f0, f1] = true)
    (hC : P.cellsOf e = 2) (t0 : P.underlying f0.type = some (.int .i64)) (t1 : P.underlying f1.type = some (.slice q)) (hq : P.underlying q = some (.int .u8)) (hcq : P.cellsOf q = 1)
    (h : DataW.Trod enc P w base spare held t (.slice a len cap) d p) (hsz : ∀ elems sp, d = .slice elems sp → elems.length + sp.length ≤ 4398046510976 ∧ ∀ x ∈ elems, ∀ ys e2 s2, x = .agg ys → ys[1]? = some (.slice e2 s2) → e2.length + s2.length ≤ 140737488351232) :
    ∃ r : List Pc, r.length = len ∧ PS w (.slice a len cap) r := by
  obtain ⟨hlc, hN, hS⟩ := open_structs ht he hone (by rw [hC]; rfl) h
  cases a with
  | none =>
    have hc := hN rfl
    subst hc
    have hl : len = 0 := by omega
    subst hl
    exact ⟨[], rfl, fun i => by simp [IsI], none, 0, rfl, by simp, by simp, fun _ => rfl, .inl rfl⟩
  | some x =>
    obtain ⟨D, sp, hd, hi⟩ := hS x rfl
    obtain ⟨hb1, hb2⟩ := hsz _ _ hd
    simp only [List.length_map, List.length_range] at hb1
    have hone : ∀ i, ∃ z : Pc, i < len → ∃ (ad : Option Addr) (k c : Nat), w.cell? (x.add (i * 2)) = some (.int .i64 z.1) ∧ IsI z.1 ∧ w.cell? (x.add (i * 2 + 1)) = some (.slice ad k c) ∧ SB w (.slice ad k c) z.2 ∧ k ≤ c ∧ (ad = none → c = 0) := by
      intro i
      by_cases hil : i < len
      · obtain ⟨ys, n, hD, hf⟩ := hi i hil
        obtain ⟨v0, y0, hc0, hy0, tr0⟩ := hf 0 f0 rfl
        obtain ⟨v1, y1, hc1, hy1, tr1⟩ := hf 1 f1 rfl
        obtain ⟨g, e0, _, wg⟩ := DataW.trod_int t0 tr0
        simp only [List.cons.injEq, and_true] at e0
        subst e0
        obtain ⟨ad, k, c, e1⟩ := slice_shape t1 hq hcq tr1
        subst e1
        have hmem : D i ∈ (List.range len).map D := List.mem_map.2 ⟨i, List.mem_range.2 hil, rfl⟩
        have hkc : k ≤ c := by
          rcases open_ints t1 hq hcq tr1 with ⟨hcs, _⟩ | ⟨y, l, c', zs, hcs, _, hl, _⟩
          · simp at hcs; omega
          · simp at hcs; omega
        obtain ⟨l, _, hs, hn⟩ := open_sb (d := y1.1) (p := y1.2) t1 hq hcq ⟨n, tr1⟩ (fun e2 s2 e => hb2 (D i) hmem _ e2 s2 hD (by rw [List.getElem?_map, hy1]; simp [e]))
        exact ⟨(g, l), fun _ => ⟨ad, k, c, by simpa using hc0, by have := bounds_i64 wg; exact this, by simpa using hc1, hs, hkc, hn⟩⟩
      · exact ⟨(0, []), fun h => absurd h hil⟩
    obtain ⟨F, hF⟩ := Classical.axiomOfChoice hone
    have hget : ∀ i, i < len → ((List.range len).map F)[i]?.getD (0, []) = F i := fun i hi => by simp [hi]
    refine ⟨(List.range len).map F, by simp, ?_, some x, cap, by simp, by simp; omega, by simp; omega, (fun h => by cases h), ?_⟩
    · intro i
      by_cases hil : i < len
      · rw [hget i hil]; obtain ⟨_, _, _, _, h, _⟩ := hF i hil; exact h
      · rw [List.getElem?_eq_none (by simp; omega)]; simp [IsI]
    · by_cases h0 : len = 0
      · subst h0; exact .inl rfl
      · obtain ⟨b, off, spot⟩ := x
        obtain ⟨_, _, _, hc0, _⟩ := hF 0 (by omega)
        have hspot : spot = none := by simpa [Addr.add] using World.cell?_spot hc0
        subst hspot
        refine .inr ⟨b, off, rfl, fun i hi' => ?_⟩
        have hil : i < len := by simpa using hi'
        obtain ⟨ad, k, c, g0, _, g1, g2, g3⟩ := hF i hil
        rw [hget i hil]
        rw [show (⟨b, off, none⟩ : Addr).add (i * 2) = ⟨b, off + i * 2, none⟩ by simp [Addr.add]] at g0
        rw [show (⟨b, off, none⟩ : Addr).add (i * 2 + 1) = ⟨b, off + i * 2 + 1, none⟩ by simp [Addr.add, Nat.add_assoc]] at g1
        exact ⟨g0, ad, k, c, g1, g2, g3⟩

/-- A SLICE OF SPANS: it reads as a list of spans. -/
theorem open_ns {t e : TypeId} {f0 f1 : Field} {a : Option Addr} {len cap : Nat} {d : DataW H} {p : List MemPlace} (ht : P.underlying t = some (.slice e)) (he : P.underlying e = some (.struct #[f0, f1])) (hone : oneCellFields P #[f0, f1] = true)
    (hC : P.cellsOf e = 2) (t0 : P.underlying f0.type = some (.int .i64)) (t1 : P.underlying f1.type = some (.int .i64))
    (h : DataW.Trod enc P w base spare held t (.slice a len cap) d p) (hsz : ∀ elems sp, d = .slice elems sp → elems.length + sp.length ≤ 8796093021952) :
    ∃ r : List Sp, r.length = len ∧ NS w (.slice a len cap) r := by
  obtain ⟨hlc, hN, hS⟩ := open_structs ht he hone (by rw [hC]; rfl) h
  cases a with
  | none =>
    have hc := hN rfl
    subst hc
    have hl : len = 0 := by omega
    subst hl
    exact ⟨[], rfl, fun i => by simp [IsI], none, 0, rfl, by simp, by simp, .inl rfl⟩
  | some x =>
    obtain ⟨D, sp, hd, hi⟩ := hS x rfl
    have hb1 := hsz _ _ hd
    simp only [List.length_map, List.length_range] at hb1
    have hone : ∀ i, ∃ z : Sp, i < len → w.cell? (x.add (i * 2)) = some (.int .i64 z.1) ∧ IsI z.1 ∧ w.cell? (x.add (i * 2 + 1)) = some (.int .i64 z.2) ∧ IsI z.2 := by
      intro i
      by_cases hil : i < len
      · obtain ⟨ys, n, hD, hf⟩ := hi i hil
        obtain ⟨v0, y0, hc0, hy0, tr0⟩ := hf 0 f0 rfl
        obtain ⟨v1, y1, hc1, hy1, tr1⟩ := hf 1 f1 rfl
        obtain ⟨g0, e0, _, w0⟩ := DataW.trod_int t0 tr0
        obtain ⟨g1, e1, _, w1⟩ := DataW.trod_int t1 tr1
        simp only [List.cons.injEq, and_true] at e0 e1
        subst e0 e1
        exact ⟨(g0, g1), fun _ => ⟨by simpa using hc0, bounds_i64 w0, by simpa using hc1, bounds_i64 w1⟩⟩
      · exact ⟨(-1, -1), fun h => absurd h hil⟩
    obtain ⟨F, hF⟩ := Classical.axiomOfChoice hone
    have hget : ∀ i, i < len → ((List.range len).map F)[i]?.getD (-1, -1) = F i := fun i hi => by simp [hi]
    refine ⟨(List.range len).map F, by simp, ?_, some x, cap, by simp, by simp; omega, by simp; omega, ?_⟩
    · intro i
      by_cases hil : i < len
      · rw [hget i hil]; obtain ⟨_, h0, _, h1⟩ := hF i hil; exact ⟨h0, h1⟩
      · rw [List.getElem?_eq_none (by simp; omega)]; simp [IsI]
    · by_cases h0 : len = 0
      · subst h0; exact .inl rfl
      · obtain ⟨b, off, spot⟩ := x
        obtain ⟨hc0, _⟩ := hF 0 (by omega)
        have hspot : spot = none := by simpa [Addr.add] using World.cell?_spot hc0
        subst hspot
        refine .inr ⟨b, off, rfl, fun i hi' => ?_⟩
        have hil : i < len := by simpa using hi'
        obtain ⟨g0, _, g1, _⟩ := hF i hil
        rw [hget i hil]
        rw [show (⟨b, off, none⟩ : Addr).add (i * 2) = ⟨b, off + i * 2, none⟩ by simp [Addr.add]] at g0
        rw [show (⟨b, off, none⟩ : Addr).add (i * 2 + 1) = ⟨b, off + i * 2 + 1, none⟩ by simp [Addr.add, Nat.add_assoc]] at g1
        exact ⟨g0, g1⟩

/-- The bound on a list in a field of an element of a slice. -/
theorem sized_part {ts : List TypeId} {ds : List (DataW H)} (h : (DataW.weightsEach P ts ds).all (· ≤ reachBytes) = true) {j : Nat} {t e ft q : TypeId} {elems sp : List (DataW H)} (ht : ts[j]? = some t) (hd : ds[j]? = some (.slice elems sp))
    (hu : P.underlying t = some (.slice e)) {fs : Array Field} (he : P.underlying e = some (.struct fs)) {x : DataW H} (hx : x ∈ elems) {ys e2 s2 : List (DataW H)} (hxx : x = .agg ys) {i : Nat} (hft : (fs.toList.map (·.type))[i]? = some ft)
    (hy : ys[i]? = some (.slice e2 s2)) (hq : P.underlying ft = some (.slice q)) : (e2.length + s2.length) * P.bytesOf q ≤ reachBytes := by
  refine sized_elem h ht hd hu x hx _ ?_
  subst hxx
  rw [DataW.weights, he]
  refine weightsEach_mem hft hy _ ?_
  rw [DataW.weights, hq]
  exact List.mem_cons_self
end
end Go.Proofs.YtdbkoephkdfbfaaDoor

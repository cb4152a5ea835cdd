/-
  Slices of structs whose fields have one cell each (numbers, truth values, texts, lists of bytes, rows of bytes): how they read, how such an argument is opened.
-/
import Derived.Test.YthegepiafodpjaaDoorOpen
import Derived.Test.YthegepiafodpjaaDoorBytes
import Derived.Test.YthegepiafodpjaaDoorFields
import Derived.Test.YthegepiafodpjaaDoorLists
import Derived.Deep.Slices
namespace Go.Proofs.YthegepiafodpjaaDoor
open Go.ChangeShapes Go.WideShapes Go.ChangeAt Go.RowKit Go.Deep

/-- The kinds of fields. -/
inductive FK where
  | int (k : IntKind)
  | bool
  | str
  | bytes
  | rows
/-- What the fields of a struct hold, each under its number. -/
structure El where
  i : Nat → Int
  b : Nat → Bool
  s : Nat → ByteArray
  l : Nat → List Int
  r : Nat → List (List Int)
def El.zero : El := ⟨fun _ => 0, fun _ => false, fun _ => ByteArray.empty, fun _ => [], fun _ => []⟩
/-- The value v is field j of x. -/
def RK (w : World) (k : FK) (v : Value) (x : El) (j : Nat) : Prop := match k with
  | .int k => v = .int k (x.i j) ∧ (Lit.int k (x.i j)).wf = true
  | .bool => v = .bool (x.b j)
  | .str => v = .string (x.s j) ∧ (x.s j).size ≤ 140737488351232
  | .bytes => ∃ a n c, v = .slice a n c ∧ SB w v (x.l j) ∧ n ≤ c ∧ (a = none → c = 0)
  | .rows => ∃ a n c, v = .slice a n c ∧ RB w v (x.r j)
theorem RK.below {w w' : World} {k : FK} {v : Value} {x : El} {j : Nat} (h : RK w k v x j) (hb : Below w.heap.size w w') : RK w' k v x j := by
  cases k with
  | int k => exact h
  | bool => exact h
  | str => exact h
  | bytes => obtain ⟨a, n, c, e, hs, r⟩ := h; exact ⟨a, n, c, e, hs.below hb, r⟩
  | rows => obtain ⟨a, n, c, e, hs⟩ := h; exact ⟨a, n, c, e, hs.below hb⟩
/-- A struct's cells, in memory. -/
def ElAt (w : World) (b o : Nat) (ks : List FK) (x : El) : Prop := ∀ j k, ks[j]? = some k → ∃ v, w.cell? ⟨b, o + j, none⟩ = some v ∧ RK w k v x j
theorem ElAt.below {w w' : World} {b o : Nat} {ks : List FK} {x : El} (h : ElAt w b o ks x) (hb : Below w.heap.size w w') : ElAt w' b o ks x := fun j k hk => by
  obtain ⟨v, h1, h2⟩ := h j k hk
  exact ⟨v, by rw [hb.cell (World.block_lt_of_cell? w _ h1)]; exact h1, h2.below hb⟩
/-- A struct by value. -/
def ElV (w : World) (ks : List FK) (vs : List Value) (x : El) : Prop := vs.length = ks.length ∧ ∀ j k, ks[j]? = some k → ∃ v, vs[j]? = some v ∧ RK w k v x j
theorem ElV.below {w w' : World} {ks : List FK} {vs : List Value} {x : El} (h : ElV w ks vs x) (hb : Below w.heap.size w w') : ElV w' ks vs x := ⟨h.1, fun j k hk => by
  obtain ⟨v, h1, h2⟩ := h.2 j k hk
  exact ⟨v, h1, h2.below hb⟩⟩
/-- The slice value v reads, in w, as these structs. -/
def SS (w : World) (ks : List FK) (v : Value) (r : List El) : Prop :=
  ∃ a cap, v = .slice a r.length cap ∧ r.length ≤ 140737488351232 ∧ r.length ≤ cap ∧ (a = none → cap = 0) ∧
    (r = [] ∨ ∃ b off, a = some ⟨b, off, none⟩ ∧ ∀ i : Nat, i < r.length → ElAt w b (off + i * ks.length) ks (r[i]?.getD El.zero))
theorem SS.below {w w' : World} {ks : List FK} {v : Value} {r : List El} (h : SS w ks v r) (hb : Below w.heap.size w w') : SS w' ks v r := by
  obtain ⟨a, cap, rfl, h1, h2, h3, h4⟩ := h
  refine ⟨a, cap, rfl, h1, h2, h3, h4.imp_right ?_⟩
  rintro ⟨b, off, ha, hc⟩
  exact ⟨b, off, ha, fun i hi => (hc i hi).below hb⟩
theorem SS.len {w : World} {ks : List FK} {a : Option Addr} {n c : Nat} {r : List El} (h : SS w ks (.slice a n c) r) : r.length = n ∧ n ≤ 140737488351232 ∧ n ≤ c ∧ (a = none → c = 0) := by
  obtain ⟨_, _, he, h1, h2, h3, _⟩ := h
  simp only [Value.slice.injEq] at he
  obtain ⟨rfl, rfl, rfl⟩ := he
  exact ⟨rfl, h1, h2, h3⟩
theorem SS.read {w : World} {ks : List FK} {a : Option Addr} {n c : Nat} {r : List El} (h : SS w ks (.slice a n c) r) (k : Nat) (hk : k < n) : ∃ b o, a = some ⟨b, o, none⟩ ∧ ∀ i : Nat, i < n → ElAt w b (o + i * ks.length) ks (r[i]?.getD El.zero) := by
  obtain ⟨_, _, he, _, _, _, h4⟩ := h
  simp only [Value.slice.injEq] at he
  obtain ⟨rfl, rfl, rfl⟩ := he
  rcases h4 with rfl | ⟨b, o, hb, hc⟩
  · exact absurd hk (Nat.not_lt_zero _)
  · exact ⟨b, o, hb, hc⟩

/-- A type of that kind. -/
def KindOk (P : Program) (t : TypeId) (k : FK) : Prop := match k with
  | .int k => P.underlying t = some (.int k)
  | .bool => P.underlying t = some .bool
  | .str => P.underlying t = some .string
  | .bytes => ∃ q, P.underlying t = some (.slice q) ∧ P.underlying q = some (.int .u8) ∧ P.cellsOf q = 1 ∧ P.bytesOf q = 1
  | .rows => ∃ e q, P.underlying t = some (.slice e) ∧ P.underlying e = some (.slice q) ∧ P.underlying q = some (.int .u8) ∧ P.cellsOf e = 1 ∧ P.cellsOf q = 1 ∧ P.bytesOf q = 1 ∧ P.bytesOf e = 24
def KindsOk (P : Program) : List TypeId → List FK → Prop
  | [], [] => True
  | t :: ts, k :: ks => KindOk P t k ∧ KindsOk P ts ks
  | _, _ => False
theorem KindsOk.at {P : Program} : ∀ {ts : List TypeId} {ks : List FK}, KindsOk P ts ks → ts.length = ks.length ∧ ∀ (j : Nat) t k, ts[j]? = some t → ks[j]? = some k → KindOk P t k
  | [], [], _ => ⟨rfl, fun j t k h _ => by simp at h⟩
  | t :: ts, k :: ks, h => by
    obtain ⟨h1, h2⟩ := h
    obtain ⟨h3, h4⟩ := KindsOk.at h2
    refine ⟨by simp [h3], fun j t' k' a b => ?_⟩
    cases j with
    | zero => simp at a b; subst a b; exact h1
    | succ j => exact h4 j t' k' (by simpa using a) (by simpa using b)
  | [], _ :: _, h => h.elim
  | _ :: _, [], h => h.elim

section
variable {H : Type} {enc : TypeId × Value → H} {P : Program} {w : World} {base : Nat} {spare : Nat → Bool} {held : Bool}
theorem weightsAll_memS (e : TypeId) (x : DataW H) : ∀ (l : List (DataW H)), x ∈ l → ∀ n ∈ x.weights P e, n ∈ DataW.weightsAll P e l
  | y :: l, h, n, hn => by
    rw [DataW.weightsAll, List.mem_append]
    rcases List.mem_cons.1 h with rfl | h
    · exact .inl hn
    · exact .inr (weightsAll_memS e x l h n hn)
theorem weights_elemS {t e : TypeId} {elems sp : List (DataW H)} (hu : P.underlying t = some (.slice e)) (x : DataW H) (hx : x ∈ elems) : ∀ n ∈ x.weights P e, n ∈ (DataW.slice elems sp).weights P t := fun n hn => by
  rw [DataW.weights, hu]
  exact List.mem_cons_of_mem _ (List.mem_append_left _ (weightsAll_memS e x elems hx n hn))
theorem weights_selfS {t e : TypeId} {elems sp : List (DataW H)} (hu : P.underlying t = some (.slice e)) : (elems.length + sp.length) * P.bytesOf e ∈ (DataW.slice elems sp).weights P t := by
  rw [DataW.weights, hu]
  exact List.mem_cons_self
theorem slice_shapeK {t e : TypeId} {n : Nat} {c : Value} {y : DataW H × List MemPlace} (ht : P.underlying t = some (.slice e)) (h : DataW.trod enc P w base spare held n t [c] = some y) : ∃ a l k, c = .slice a l k := by
  rcases Go.Deep.open_slice ht h with ⟨hcs, _⟩ | ⟨x, l, k, _, _, _, _, hcs, _⟩
  · simp at hcs; exact ⟨_, _, _, hcs⟩
  · simp at hcs; exact ⟨_, _, _, hcs⟩
theorem weights_argS {ts : List TypeId} {ds : List (DataW H)} (h : (DataW.weightsEach P ts ds).all (· ≤ reachBytes) = true) {j : Nat} {t : TypeId} {d : DataW H} (ht : ts[j]? = some t) (hd : ds[j]? = some d) : ∀ n ∈ d.weights P t, n ≤ reachBytes := fun n hn => by
  have := List.all_eq_true.1 h _ (weightsEach_mem ht hd _ hn)
  simpa using this
/-- A field of that kind. -/
theorem open_kind {t : TypeId} {k : FK} {n : Nat} {c : Value} {y : DataW H × List MemPlace} (hk : KindOk P t k) (h : DataW.trod enc P w base spare held n t [c] = some y) (hw : ∀ m ∈ y.1.weights P t, m ≤ reachBytes) (j : Nat) : ∃ x : El, RK w k c x j := by
  cases k with
  | int k =>
    obtain ⟨z, e, -, wf⟩ := DataW.trod_int hk h
    simp only [List.cons.injEq, and_true] at e
    exact ⟨{ El.zero with i := fun _ => z }, e, wf⟩
  | bool =>
    obtain ⟨z, e, -⟩ := DataW.trod_bool hk h
    simp only [List.cons.injEq, and_true] at e
    exact ⟨{ El.zero with b := fun _ => z }, e⟩
  | str =>
    obtain ⟨z, e, hz, -⟩ := DataW.trod_string hk h
    simp only [List.cons.injEq, and_true] at e
    refine ⟨{ El.zero with s := fun _ => z }, e, ?_⟩
    have hmem : z.data.toList.length ∈ y.1.weights P t := by
      subst hz
      unfold DataW.weights
      exact List.mem_cons_self
    have := hw _ hmem
    simp only [reachBytes] at this
    show z.size ≤ _
    have e2 : z.data.toList.length = z.size := Array.length_toList
    omega
  | bytes =>
    obtain ⟨q, h1, h2, h3, h4⟩ := hk
    have hc : ∃ a l k, c = .slice a l k ∧ l ≤ k := by
      rcases open_ints h1 h2 h3 h with ⟨hcs, _⟩ | ⟨x, l, k, zs, hcs, _, hl, _⟩
      · simp at hcs; exact ⟨_, _, _, hcs, by omega⟩
      · simp at hcs; exact ⟨_, _, _, hcs, hl⟩
    obtain ⟨a, l, k, rfl, hlk⟩ := hc
    obtain ⟨z, -, hs, hn⟩ := open_sb (d := y.1) (p := y.2) h1 h2 h3 ⟨n, h⟩ (fun elems sp e => by
      have := hw ((elems.length + sp.length) * P.bytesOf q) (by rw [e]; exact weights_selfS h1)
      rw [h4] at this
      simp only [reachBytes] at this
      omega)
    exact ⟨{ El.zero with l := fun _ => z }, a, l, k, rfl, hs, hlk, hn⟩
  | rows =>
    obtain ⟨e, q, h1, h2, h3, h4, h5, h6, h7⟩ := hk
    obtain ⟨a, l, k, rfl⟩ := slice_shapeK h1 h
    obtain ⟨z, -, hs⟩ := open_rb (d := y.1) (p := y.2) h1 h2 h3 h4 h5 ⟨n, h⟩ (fun elems sp ee => by
      refine ⟨?_, fun x hx e2 s2 hxe => ?_⟩
      · have := hw ((elems.length + sp.length) * P.bytesOf e) (by rw [ee]; exact weights_selfS h1)
        rw [h7] at this
        simp only [reachBytes] at this
        omega
      · have := hw ((e2.length + s2.length) * P.bytesOf q) (by rw [ee]; exact weights_elemS h1 x hx _ (by rw [hxe]; exact weights_selfS h2))
        rw [h6] at this
        simp only [reachBytes] at this
        omega)
    exact ⟨{ El.zero with r := fun _ => z }, a, l, k, rfl, hs⟩
theorem RK.congr {k : FK} {v : Value} {x x' : El} {j : Nat} (h : RK w k v x j) (h1 : x'.i j = x.i j) (h2 : x'.b j = x.b j) (h3 : x'.s j = x.s j) (h4 : x'.l j = x.l j) (h5 : x'.r j = x.r j) : RK w k v x' j := by
  cases k <;> simp only [RK, h1, h2, h3, h4, h5] at h ⊢ <;> exact h
/-- Field by field. -/
theorem el_of {ks : List FK} {C : Nat → FK → El → Prop} (hC : ∀ j k (x x' : El), C j k x → x'.i j = x.i j → x'.b j = x.b j → x'.s j = x.s j → x'.l j = x.l j → x'.r j = x.r j → C j k x') (h : ∀ j k, ks[j]? = some k → ∃ x, C j k x) : ∃ x, ∀ j k, ks[j]? = some k → C j k x := by
  have hall : ∀ j, ∃ x, ∀ k, ks[j]? = some k → C j k x := fun j => by
    cases hk : ks[j]? with
    | none => exact ⟨El.zero, fun k e => by simp at e⟩
    | some k =>
      obtain ⟨x, hx⟩ := h j k hk
      exact ⟨x, fun k' e => by simp only [Option.some.injEq] at e; subst e; exact hx⟩
  obtain ⟨F, hF⟩ := Classical.axiomOfChoice hall
  exact ⟨⟨fun j => (F j).i j, fun j => (F j).b j, fun j => (F j).s j, fun j => (F j).l j, fun j => (F j).r j⟩, fun j k hk => hC j k (F j) _ (hF j k hk) rfl rfl rfl rfl rfl⟩
/-- A slice of such structs: cell by cell. -/
theorem open_structsS {t e : TypeId} {fs : Array Field} {a : Option Addr} {len cap : Nat} {d : DataW H} {p : List MemPlace} (ht : P.underlying t = some (.slice e)) (he : P.underlying e = some (.struct fs)) (hone : oneCellFields P fs = true) (hC : P.cellsOf e = fs.size)
    (h : DataW.Trod enc P w base spare held t (.slice a len cap) d p) :
    len ≤ cap ∧ (a = none → cap = 0) ∧ ∀ x, a = some x → ∃ (D : Nat → DataW H) (sp : List (DataW H)), d = .slice ((List.range len).map D) sp ∧
      ∀ i, i < len → ∃ (ys : List (DataW H × List MemPlace)) (n : Nat), D i = .agg (ys.map (·.1)) ∧
        ∀ (j : Nat) (f : Field), fs[j]? = some f → ∃ (v : Value) (y : DataW H × List MemPlace), w.cell? (x.add (i * fs.size + j)) = some v ∧ ys[j]? = some y ∧ DataW.trod enc P w base spare held n f.type [v] = some y := by
  obtain ⟨fuel, hf⟩ := h
  rcases Go.Deep.open_slice ht hf with ⟨hcs, _⟩ | ⟨x, l, c, m, n, D, Pl, hcs, _, hl, hm, hmm, hx, hi⟩
  · simp [Value.cells] at hcs
    obtain ⟨rfl, rfl, rfl⟩ := hcs
    exact ⟨Nat.le_refl _, fun _ => rfl, fun x h => by cases h⟩
  · simp [Value.cells] at hcs
    obtain ⟨rfl, rfl, rfl⟩ := hcs
    simp only [Prod.mk.injEq] at hx
    refine ⟨hl, (fun h => by cases h), fun x' hx' => ?_⟩
    simp only [Option.some.injEq] at hx'
    subst hx'
    refine ⟨D, _, hx.1, fun i hil => ?_⟩
    have him : i < m := by rw [hmm]; split <;> omega
    obtain ⟨cs', hc, ht'⟩ := hi i him
    rw [hC] at hc
    obtain ⟨ys, n', _, hy, _, hyl, hg⟩ := DataW.trod_struct he ht'
    obtain ⟨_, hcl, hat⟩ := World.cells?_some hc
    simp only [Prod.mk.injEq] at hy
    refine ⟨ys, n', hy.1, fun j f hj => ?_⟩
    obtain ⟨ho, hk⟩ := hone_of hone j f hj
    have hjl : j < fs.size := (Array.getElem?_eq_some_iff.1 hj).1
    have hjc : j < cs'.length := by omega
    have h1 := hg j f hj
    rw [ho, hk, List.drop_eq_getElem_cons hjc, List.take_succ_cons, List.take_zero] at h1
    have hcell := hat j hjl
    rw [List.getElem?_eq_getElem hjc] at hcell
    refine ⟨cs'[j], ys[j]'(by omega), ?_, List.getElem?_eq_getElem _, h1.trans (List.getElem?_eq_getElem _)⟩
    rw [← Go.Deep.add_add]
    exact hcell
/-- A SLICE OF STRUCTS: it reads as a list of them. -/
theorem open_ss {t e : TypeId} {fs : Array Field} {ks : List FK} {a : Option Addr} {len cap : Nat} {d : DataW H} {p : List MemPlace} (ht : P.underlying t = some (.slice e)) (he : P.underlying e = some (.struct fs)) (hone : oneCellFields P fs = true)
    (hC : P.cellsOf e = fs.size) (hB : 0 < P.bytesOf e) (hne : ks ≠ []) (hks : KindsOk P (fs.toList.map (·.type)) ks) (h : DataW.Trod enc P w base spare held t (.slice a len cap) d p) (hw : ∀ n ∈ d.weights P t, n ≤ reachBytes) :
    ∃ r : List El, r.length = len ∧ SS w ks (.slice a len cap) r := by
  obtain ⟨hlc, hN, hS⟩ := open_structsS ht he hone hC h
  obtain ⟨hkl, hkk⟩ := hks.at
  have hkl : fs.size = ks.length := by simpa using hkl
  cases a with
  | none =>
    have hc := hN rfl
    subst hc
    have hl : len = 0 := by omega
    subst hl
    exact ⟨[], rfl, Option.none, 0, rfl, by simp, by simp, fun _ => rfl, .inl rfl⟩
  | some x =>
    obtain ⟨D, sp, hd, hi⟩ := hS x rfl
    have hlen : len ≤ 140737488351232 := by
      have := hw (((List.range len).map D).length + sp.length |>.mul (P.bytesOf e)) (by rw [hd]; exact weights_selfS ht)
      simp only [List.length_map, List.length_range, reachBytes] at this
      have h2 : len ≤ (len + sp.length).mul (P.bytesOf e) := by
        show len ≤ (len + sp.length) * P.bytesOf e
        calc len ≤ (len + sp.length) * 1 := by omega
          _ ≤ _ := Nat.mul_le_mul_left _ hB
      omega
    have hone : ∀ i, ∃ z : El, i < len → ∀ j k, ks[j]? = some k → ∃ v, w.cell? (x.add (i * ks.length + j)) = some v ∧ RK w k v z j := by
      intro i
      by_cases hil : i < len
      · obtain ⟨ys, n, hD, hf⟩ := hi i hil
        have hmem : D i ∈ (List.range len).map D := List.mem_map.2 ⟨i, List.mem_range.2 hil, rfl⟩
        obtain ⟨z, hz⟩ := el_of (ks := ks) (C := fun j k z => ∃ v, w.cell? (x.add (i * ks.length + j)) = some v ∧ RK w k v z j) (fun j k z z' hv h1 h2 h3 h4 h5 => by
          obtain ⟨v, hv1, hv2⟩ := hv
          exact ⟨v, hv1, hv2.congr h1 h2 h3 h4 h5⟩) (fun j k hk => by
          have hj : j < fs.size := by rw [hkl]; exact (List.getElem?_eq_some_iff.1 hk).1
          obtain ⟨v, y, hc, hy, tr⟩ := hf j fs[j] (Array.getElem?_eq_getElem hj)
          obtain ⟨z, hz⟩ := open_kind (hkk j fs[j].type k (by simp [hj]) hk) tr (fun m hm => hw m (by
            rw [hd]
            refine weights_elemS ht (D i) hmem m ?_
            rw [hD, DataW.weights, he]
            exact weightsEach_mem (i := j) (by simp [hj]) (by rw [List.getElem?_map, hy]; rfl) m hm)) j
          exact ⟨z, v, by rw [← hkl]; exact hc, hz⟩)
        exact ⟨z, fun _ => hz⟩
      · exact ⟨El.zero, fun h => absurd h hil⟩
    obtain ⟨F, hF⟩ := Classical.axiomOfChoice hone
    have hget : ∀ i, i < len → ((List.range len).map F)[i]?.getD El.zero = F i := fun i hi => by simp [hi]
    refine ⟨(List.range len).map F, by simp, some x, cap, by simp, by simp; omega, by simp; omega, (fun h => by cases h), ?_⟩
    by_cases h0 : len = 0
    · subst h0; exact .inl rfl
    · obtain ⟨b, off, spot⟩ := x
      obtain ⟨k0, hk0⟩ : ∃ k0, ks[0]? = some k0 := by
        cases ks with
        | nil => exact absurd rfl hne
        | cons k0 _ => exact ⟨k0, rfl⟩
      obtain ⟨_, hc0, _⟩ := hF 0 (by omega) 0 k0 hk0
      have hspot : spot = Option.none := by simpa [Addr.add] using World.cell?_spot hc0
      subst hspot
      refine .inr ⟨b, off, rfl, fun i hi' => ?_⟩
      have hil : i < len := by simpa using hi'
      rw [hget i hil]
      intro j k hk
      obtain ⟨v, h1, h2⟩ := hF i hil j k hk
      refine ⟨v, ?_, h2⟩
      rw [show (⟨b, off, Option.none⟩ : Addr).add (i * ks.length + j) = ⟨b, off + i * ks.length + j, Option.none⟩ by simp [Addr.add, Nat.add_assoc]] at h1
      exact h1
end
end Go.Proofs.YthegepiafodpjaaDoor

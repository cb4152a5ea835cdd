/-
  A script: a slice of steps, each a mark and a slice of slices of bytes.
-/
import Derived.Test.YtbdgolbejoheiaaOpen
import Derived.Test.YtbdgolbejoheiaaBytes
import Derived.Test.YtbdgolbejoheiaaFields
import Derived.Test.YtbdgolbejoheiaaLists
import Derived.Deep.Slices
namespace Go.Proofs.Ytbdgolbejoheiaa
open Go.ChangeShapes Go.WideShapes Go.ChangeAt Go.RowKit Go.Deep

abbrev Stp := Bool × List (List Int)
/-- The slice value v reads, in w, as the steps r. -/
def OS (w : World) (v : Value) (r : List Stp) : Prop :=
  ∃ a cap, v = .slice a r.length cap ∧ r.length ≤ 4398046510976 ∧ r.length ≤ cap ∧ (a = none → cap = 0) ∧
    (r = [] ∨ ∃ b off, a = some ⟨b, off, none⟩ ∧ ∀ i : Nat, i < r.length → w.cell? ⟨b, off + i * 2, none⟩ = some (.bool (r[i]?.getD (false, [])).1) ∧
      ∃ ad n c, w.cell? ⟨b, off + i * 2 + 1, none⟩ = some (.slice ad n c) ∧ RB w (.slice ad n c) (r[i]?.getD (false, [])).2)
theorem OS.below {w w' : World} {v : Value} {p : List Stp} (h : OS w v p) (hb : Below w.heap.size w w') : OS w' v p := by
  obtain ⟨a, cap, rfl, h1, h2, h3, h4⟩ := h
  refine ⟨a, cap, rfl, h1, h2, h3, ?_⟩
  rcases h4 with h4 | ⟨b, off, ha, hc⟩
  · exact .inl h4
  · refine .inr ⟨b, off, ha, fun i hi => ?_⟩
    obtain ⟨g0, ad, n, c, g1, g2⟩ := hc i hi
    exact ⟨by rw [hb.cell (World.block_lt_of_cell? w _ g0)]; exact g0, ad, n, c, by rw [hb.cell (World.block_lt_of_cell? w _ g1)]; exact g1, g2.below hb⟩
theorem OS.len {w : World} {a : Option Addr} {n c : Nat} {p : List Stp} (h : OS w (.slice a n c) p) : p.length = n ∧ n ≤ 4398046510976 ∧ n ≤ c ∧ (a = none → c = 0) := by
  obtain ⟨_, _, he, h1, h2, h3, _⟩ := h
  simp only [Value.slice.injEq] at he
  obtain ⟨rfl, rfl, rfl⟩ := he
  exact ⟨rfl, h1, h2, h3⟩
theorem OS.read {w : World} {a : Option Addr} {n c : Nat} {p : List Stp} (h : OS w (.slice a n c) p) (k : Nat) (hk : k < n) : ∃ b o, a = some ⟨b, o, none⟩ ∧
    ∀ i : Nat, i < n → w.cell? ⟨b, o + i * 2, none⟩ = some (.bool (p[i]?.getD (false, [])).1) ∧ ∃ ad m cc, w.cell? ⟨b, o + i * 2 + 1, none⟩ = some (.slice ad m cc) ∧ RB w (.slice ad m cc) (p[i]?.getD (false, [])).2 := by
  obtain ⟨_, _, he, _, _, _, h4⟩ := h
  simp only [Value.slice.injEq] at he
  obtain ⟨rfl, rfl, rfl⟩ := he
  rcases h4 with rfl | ⟨b, o, hb, hc⟩
  · exact absurd hk (Nat.not_lt_zero _)
  · exact ⟨b, o, hb, hc⟩
theorem bytesOp : Try.prog.bytesOf 44 = 32 := by kernel_rfl

section
variable {H : Type} {enc : TypeId × Value → H} {P : Program} {w : World} {base : Nat} {spare : Nat → Bool} {held : Bool}

/-- A slice of structs whose fields have one cell each: cell by cell. -/
theorem open_structsO {t e : TypeId} {fs : Array Field} {a : Option Addr} {len cap : Nat} {d : DataW H} {p : List MemPlace} (ht : P.underlying t = some (.slice e)) (he : P.underlying e = some (.struct fs)) (hone : oneCellFields P fs = true) (hC : P.cellsOf e = fs.size)
    (h : DataW.Trod enc P w base spare held t (.slice a len cap) d p) :
    len ≤ cap ∧ (a = none → cap = 0) ∧ ∀ x, a = some x → ∃ (D : Nat → DataW H) (sp : List (DataW H)), d = .slice ((List.range len).map D) sp ∧
      ∀ i, i < len → ∃ (ys : List (DataW H × List MemPlace)) (n : Nat), D i = .agg (ys.map (·.1)) ∧
        ∀ (j : Nat) (f : Field), fs[j]? = some f → ∃ (v : Value) (y : DataW H × List MemPlace), w.cell? (x.add (i * fs.size + j)) = some v ∧ ys[j]? = some y ∧ DataW.trod enc P w base spare held n f.type [v] = some y := by
  obtain ⟨fuel, hf⟩ := h
  rcases Go.Deep.open_slice ht hf with ⟨hcs, _⟩ | ⟨x, l, c, m, n, D, Pl, hcs, _, hl, hm, hmm, hx, hi⟩
  · simp [Value.cells] at hcs
    obtain ⟨rfl, rfl, rfl⟩ := hcs
    exact ⟨Nat.le_refl _, fun _ => rfl, fun x h => by cases h⟩
  · simp [Value.cells] at hcs
    obtain ⟨rfl, rfl, rfl⟩ := hcs
    simp only [Prod.mk.injEq] at hx
    refine ⟨hl, (fun h => by cases h), fun x' hx' => ?_⟩
    simp only [Option.some.injEq] at hx'
    subst hx'
    refine ⟨D, _, hx.1, fun i hil => ?_⟩
    have him : i < m := by rw [hmm]; split <;> omega
    obtain ⟨cs', hc, ht'⟩ := hi i him
    rw [hC] at hc
    obtain ⟨ys, n', _, hy, _, hyl, hg⟩ := DataW.trod_struct he ht'
    obtain ⟨_, hcl, hat⟩ := World.cells?_some hc
    simp only [Prod.mk.injEq] at hy
    refine ⟨ys, n', hy.1, fun j f hj => ?_⟩
    obtain ⟨ho, hk⟩ := hone_of hone j f hj
    have hjl : j < fs.size := (Array.getElem?_eq_some_iff.1 hj).1
    have hjc : j < cs'.length := by omega
    have h1 := hg j f hj
    rw [ho, hk, List.drop_eq_getElem_cons hjc, List.take_succ_cons, List.take_zero] at h1
    have hcell := hat j hjl
    rw [List.getElem?_eq_getElem hjc] at hcell
    refine ⟨cs'[j], ys[j]'(by omega), ?_, List.getElem?_eq_getElem _, h1.trans (List.getElem?_eq_getElem _)⟩
    rw [← Go.Deep.add_add]
    exact hcell

theorem weightsAll_memO (e : TypeId) (x : DataW H) : ∀ (l : List (DataW H)), x ∈ l → ∀ n ∈ x.weights P e, n ∈ DataW.weightsAll P e l
  | y :: l, h, n, hn => by
    rw [DataW.weightsAll, List.mem_append]
    rcases List.mem_cons.1 h with rfl | h
    · exact .inl hn
    · exact .inr (weightsAll_memO e x l h n hn)
theorem weights_elem {t e : TypeId} {elems sp : List (DataW H)} (hu : P.underlying t = some (.slice e)) (x : DataW H) (hx : x ∈ elems) : ∀ n ∈ x.weights P e, n ∈ (DataW.slice elems sp).weights P t := fun n hn => by
  rw [DataW.weights, hu]
  exact List.mem_cons_of_mem _ (List.mem_append_left _ (weightsAll_memO e x elems hx n hn))
theorem weights_self {t e : TypeId} {elems sp : List (DataW H)} (hu : P.underlying t = some (.slice e)) : (elems.length + sp.length) * P.bytesOf e ∈ (DataW.slice elems sp).weights P t := by
  rw [DataW.weights, hu]
  exact List.mem_cons_self
/-- The bounds of a script. -/
theorem sized_os {t e r0 b0 q : TypeId} {fs : Array Field} {elems sp : List (DataW H)} (hu : P.underlying t = some (.slice e)) (he : P.underlying e = some (.struct fs)) (hft : (fs.toList.map (·.type))[1]? = some r0) (hr : P.underlying r0 = some (.slice b0)) (hb : P.underlying b0 = some (.slice q))
    (hw : ∀ n ∈ (DataW.slice elems sp).weights P t, n ≤ reachBytes) : (elems.length + sp.length) * P.bytesOf e ≤ reachBytes ∧ ∀ x ∈ elems, ∀ ys e2 s2, x = .agg ys → ys[1]? = some (.slice e2 s2) → ((e2.length + s2.length) * P.bytesOf b0 ≤ reachBytes ∧ ∀ x2 ∈ e2, ∀ e3 s3, x2 = .slice e3 s3 → (e3.length + s3.length) * P.bytesOf q ≤ reachBytes) := by
  refine ⟨hw _ (weights_self hu), fun x hx ys e2 s2 hxe hy => ?_⟩
  subst hxe
  have h2 : ∀ n ∈ (DataW.slice e2 s2).weights P r0, n ≤ reachBytes := fun n hn => hw n (weights_elem hu _ hx n (by
    rw [DataW.weights, he]
    exact weightsEach_mem hft hy n hn))
  refine ⟨h2 _ (weights_self hr), fun x2 hx2 e3 s3 h3 => ?_⟩
  subst h3
  exact h2 _ (weights_elem hr _ hx2 _ (weights_self hb))
theorem slice_shapeS {t e : TypeId} {n : Nat} {c : Value} {y : DataW H × List MemPlace} (ht : P.underlying t = some (.slice e)) (h : DataW.trod enc P w base spare held n t [c] = some y) : ∃ a l k, c = .slice a l k := by
  rcases Go.Deep.open_slice ht h with ⟨hcs, _⟩ | ⟨x, l, k, _, _, _, _, hcs, _⟩
  · simp at hcs; exact ⟨_, _, _, hcs⟩
  · simp at hcs; exact ⟨_, _, _, hcs⟩

/-- A SCRIPT: it reads as a list of steps. -/
theorem open_os {t e r0 b0 q : TypeId} {f0 f1 : Field} {a : Option Addr} {len cap : Nat} {d : DataW H} {p : List MemPlace} (ht : P.underlying t = some (.slice e)) (he : P.underlying e = some (.struct #[f0, f1])) (hone : oneCellFields P #[f0, f1] = true)
    (hC : P.cellsOf e = 2) (t0 : P.underlying f0.type = some .bool) (e1 : f1.type = r0) (t1 : P.underlying r0 = some (.slice b0)) (t2 : P.underlying b0 = some (.slice q)) (hq : P.underlying q = some (.int .u8)) (hcb : P.cellsOf b0 = 1) (hcq : P.cellsOf q = 1)
    (h : DataW.Trod enc P w base spare held t (.slice a len cap) d p) (hsz : ∀ elems sp, d = .slice elems sp → elems.length + sp.length ≤ 4398046510976 ∧ ∀ x ∈ elems, ∀ ys e2 s2, x = .agg ys → ys[1]? = some (.slice e2 s2) → (e2.length + s2.length ≤ 5864062014805 ∧ ∀ x2 ∈ e2, ∀ e3 s3, x2 = .slice e3 s3 → e3.length + s3.length ≤ 140737488351232)) :
    ∃ r : List Stp, r.length = len ∧ OS w (.slice a len cap) r := by
  subst e1
  obtain ⟨hlc, hN, hS⟩ := open_structsO ht he hone (by rw [hC]; rfl) h
  cases a with
  | none =>
    have hc := hN rfl
    subst hc
    have hl : len = 0 := by omega
    subst hl
    exact ⟨[], rfl, Option.none, 0, rfl, by simp, by simp, fun _ => rfl, .inl rfl⟩
  | some x =>
    obtain ⟨D, sp, hd, hi⟩ := hS x rfl
    obtain ⟨hb1, hb2⟩ := hsz _ _ hd
    simp only [List.length_map, List.length_range] at hb1
    have hone : ∀ i, ∃ z : Stp, i < len → ∃ (ad : Option Addr) (k c : Nat), w.cell? (x.add (i * 2)) = some (.bool z.1) ∧ w.cell? (x.add (i * 2 + 1)) = some (.slice ad k c) ∧ RB w (.slice ad k c) z.2 := by
      intro i
      by_cases hil : i < len
      · obtain ⟨ys, n, hD, hf⟩ := hi i hil
        obtain ⟨v0, y0, hc0, hy0, tr0⟩ := hf 0 f0 rfl
        obtain ⟨v1, y1, hc1, hy1, tr1⟩ := hf 1 f1 rfl
        obtain ⟨g, e0, _⟩ := DataW.trod_bool t0 tr0
        simp only [List.cons.injEq, and_true] at e0
        subst e0
        obtain ⟨ad, k, c, e1⟩ := slice_shapeS t1 tr1
        subst e1
        have hmem : D i ∈ (List.range len).map D := List.mem_map.2 ⟨i, List.mem_range.2 hil, rfl⟩
        obtain ⟨l, _, hs⟩ := open_rb (d := y1.1) (p := y1.2) t1 t2 hq hcb hcq ⟨n, tr1⟩ (fun e2 s2 e => hb2 (D i) hmem _ e2 s2 hD (by rw [List.getElem?_map, hy1]; simp [e]))
        exact ⟨(g, l), fun _ => ⟨ad, k, c, by simpa using hc0, by simpa using hc1, hs⟩⟩
      · exact ⟨(false, []), fun h => absurd h hil⟩
    obtain ⟨F, hF⟩ := Classical.axiomOfChoice hone
    have hget : ∀ i, i < len → ((List.range len).map F)[i]?.getD (false, []) = F i := fun i hi => by simp [hi]
    refine ⟨(List.range len).map F, by simp, some x, cap, by simp, by simp; omega, by simp; omega, (fun h => by cases h), ?_⟩
    by_cases h0 : len = 0
    · subst h0; exact .inl rfl
    · obtain ⟨b, off, spot⟩ := x
      obtain ⟨_, _, _, hc0, _⟩ := hF 0 (by omega)
      have hspot : spot = Option.none := by simpa [Addr.add] using World.cell?_spot hc0
      subst hspot
      refine .inr ⟨b, off, rfl, fun i hi' => ?_⟩
      have hil : i < len := by simpa using hi'
      obtain ⟨ad, k, c, g0, g1, g2⟩ := hF i hil
      rw [hget i hil]
      rw [show (⟨b, off, Option.none⟩ : Addr).add (i * 2) = ⟨b, off + i * 2, Option.none⟩ by simp [Addr.add]] at g0
      rw [show (⟨b, off, Option.none⟩ : Addr).add (i * 2 + 1) = ⟨b, off + i * 2 + 1, Option.none⟩ by simp [Addr.add, Nat.add_assoc]] at g1
      exact ⟨g0, ad, k, c, g1, g2⟩
theorem weights_arg {ts : List TypeId} {ds : List (DataW H)} (h : (DataW.weightsEach P ts ds).all (· ≤ reachBytes) = true) {j : Nat} {t : TypeId} {d : DataW H} (ht : ts[j]? = some t) (hd : ds[j]? = some d) : ∀ n ∈ d.weights P t, n ≤ reachBytes := fun n hn => by
  have := List.all_eq_true.1 h _ (weightsEach_mem ht hd _ hn)
  simpa using this
theorem weights_field {ts : List TypeId} {ds : List (DataW H)} (h : (DataW.weightsEach P ts ds).all (· ≤ reachBytes) = true) {j : Nat} {t : TypeId} {d : DataW H} {fs : Array Field} (ht : ts[j]? = some t) (hd : ds[j]? = some d) (hu : P.underlying t = some (.struct fs))
    {i : Nat} {ft : TypeId} (hft : (fs.toList.map (·.type))[i]? = some ft) {ys : List (DataW H × List MemPlace)} (hdd : d = .agg (ys.map (·.1))) {y : DataW H} (hy : (ys.map (·.1))[i]? = some y) : ∀ n ∈ y.weights P ft, n ≤ reachBytes := fun n hn => weights_arg h ht hd n (by
  subst hdd
  rw [DataW.weights, hu]
  exact weightsEach_mem hft hy _ hn)
theorem os_fits {elems sp : List (DataW H)} (hw : ∀ n ∈ (DataW.slice elems sp).weights Try.prog 35, n ≤ reachBytes) : elems.length + sp.length ≤ 4398046510976 ∧ ∀ x ∈ elems, ∀ ys e2 s2, x = .agg ys → ys[1]? = some (.slice e2 s2) → (e2.length + s2.length ≤ 5864062014805 ∧ ∀ x2 ∈ e2, ∀ e3 s3, x2 = .slice e3 s3 → e3.length + s3.length ≤ 140737488351232) := by
  have hq := sized_os (r0 := 22) Try.underlying35 Try.underlying44 rfl Try.underlying22 Try.underlying25 hw
  simp only [bytesOp, bytesS, bytesB, reachBytes] at hq
  refine ⟨by have := hq.1; omega, fun x hx ys e2 s2 h1 h2 => ⟨by have := (hq.2 x hx ys e2 s2 h1 h2).1; omega, fun x2 hx2 e3 s3 h3 => by have := (hq.2 x hx ys e2 s2 h1 h2).2 x2 hx2 e3 s3 h3; omega⟩⟩
/-- A SCRIPT of this program: it reads as a list of steps. -/
theorem open_script {a : Option Addr} {len cap : Nat} {d : DataW H} {p : List MemPlace} (h : DataW.Trod enc Try.prog w base spare held 35 (.slice a len cap) d p) (hw : ∀ n ∈ d.weights Try.prog 35, n ≤ reachBytes) : ∃ r : List Stp, r.length = len ∧ OS w (.slice a len cap) r :=
  open_os Try.underlying35 Try.underlying44 (by kernel_rfl) (by kernel_rfl) Try.underlying4 rfl Try.underlying22 Try.underlying25 Try.underlying5 (by kernel_rfl) (by kernel_rfl) h (fun elems sp e => by
    subst e
    exact os_fits hw)
end
end Go.Proofs.Ytbdgolbejoheiaa

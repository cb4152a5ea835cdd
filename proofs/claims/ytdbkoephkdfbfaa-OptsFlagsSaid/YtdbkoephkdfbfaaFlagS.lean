/-
  Slices of flags: how they read.
-/
import Derived.Test.YtdbkoephkdfbfaaStr
import Derived.Test.YtdbkoephkdfbfaaOpenT
namespace Go.Proofs.Ytdbkoephkdfbfaa
open Go.ChangeShapes Go.WideShapes Go.ChangeAt Go.RowKit Go.Deep

/-- Kind, text, stuck. -/
abbrev Fl := Int × ByteArray × Bool
def fl0 : Fl := (0, ByteArray.empty, false)
/-- The slice value v reads, in w, as the flags l. -/
def FLS (w : World) (v : Value) (l : List Fl) : Prop :=
  ∃ a cap, v = .slice a l.length cap ∧ l.length ≤ 4398046510976 ∧ l.length ≤ cap ∧ (a = none → cap = 0) ∧
    (l = [] ∨ ∃ b off, a = some ⟨b, off, none⟩ ∧ ∀ i : Nat, i < l.length → w.cell? ⟨b, off + i * 3, none⟩ = some (.int .i64 (l[i]?.getD fl0).1) ∧ w.cell? ⟨b, off + i * 3 + 1, none⟩ = some (.string (l[i]?.getD fl0).2.1) ∧ w.cell? ⟨b, off + i * 3 + 2, none⟩ = some (.bool (l[i]?.getD fl0).2.2))
theorem FLS.below {w w' : World} {v : Value} {l : List Fl} (h : FLS w v l) (hb : Below w.heap.size w w') : FLS w' v l := by
  obtain ⟨a, cap, rfl, h1, h2, h3, h4⟩ := h
  refine ⟨a, cap, rfl, h1, h2, h3, ?_⟩
  rcases h4 with h4 | ⟨b, off, ha, hc⟩
  · exact .inl h4
  · refine .inr ⟨b, off, ha, fun i hi => ?_⟩
    obtain ⟨g0, g1, g2⟩ := hc i hi
    exact ⟨by rw [hb.cell (World.block_lt_of_cell? w _ g0)]; exact g0, by rw [hb.cell (World.block_lt_of_cell? w _ g1)]; exact g1, by rw [hb.cell (World.block_lt_of_cell? w _ g2)]; exact g2⟩
theorem FLS.len {w : World} {a : Option Addr} {n c : Nat} {l : List Fl} (h : FLS w (.slice a n c) l) : l.length = n ∧ n ≤ 4398046510976 ∧ n ≤ c ∧ (a = none → c = 0) := by
  obtain ⟨_, _, he, h1, h2, h3, _⟩ := h
  simp only [Value.slice.injEq] at he
  obtain ⟨rfl, rfl, rfl⟩ := he
  exact ⟨rfl, h1, h2, h3⟩
theorem FLS.read {w : World} {a : Option Addr} {n c : Nat} {l : List Fl} (h : FLS w (.slice a n c) l) (k : Nat) (hk : k < n) : ∃ b o, a = some ⟨b, o, none⟩ ∧
    ∀ i : Nat, i < n → w.cell? ⟨b, o + i * 3, none⟩ = some (.int .i64 (l[i]?.getD fl0).1) ∧ w.cell? ⟨b, o + i * 3 + 1, none⟩ = some (.string (l[i]?.getD fl0).2.1) ∧ w.cell? ⟨b, o + i * 3 + 2, none⟩ = some (.bool (l[i]?.getD fl0).2.2) := by
  obtain ⟨_, _, he, _, _, _, h4⟩ := h
  simp only [Value.slice.injEq] at he
  obtain ⟨rfl, rfl, rfl⟩ := he
  rcases h4 with rfl | ⟨b, o, hb, hc⟩
  · exact absurd hk (Nat.not_lt_zero _)
  · exact ⟨b, o, hb, hc⟩
section
variable {H : Type} {enc : TypeId × Value → H} {P : Program} {w : World} {base : Nat} {spare : Nat → Bool} {held : Bool}
/-- A SLICE OF FLAGS. -/
theorem open_fl {t e : TypeId} {f0 f1 f2 : Field} {a : Option Addr} {len cap : Nat} {d : DataW H} {p : List MemPlace} (ht : P.underlying t = some (.slice e)) (he : P.underlying e = some (.struct #[f0, f1, f2])) (hone : oneCellFields P #[f0, f1, f2] = true)
    (hC : P.cellsOf e = 3) (t0 : P.underlying f0.type = some (.int .i64)) (t1 : P.underlying f1.type = some .string) (t2 : P.underlying f2.type = some .bool)
    (h : DataW.Trod enc P w base spare held t (.slice a len cap) d p) (hby : P.bytesOf e = 32) (hw : ∀ n ∈ d.weights P t, n ≤ reachBytes) : ∃ l : List Fl, l.length = len ∧ FLS w (.slice a len cap) l ∧ ∀ x ∈ l, x.2.1.size ≤ 140737488351232 ∧ -9223372036854775808 ≤ x.1 ∧ x.1 ≤ 9223372036854775807 := by
  obtain ⟨hlc, hN, hS⟩ := open_structs ht he hone (by rw [hC]; rfl) h
  cases a with
  | none =>
    have hc := hN rfl
    subst hc
    have hl : len = 0 := by omega
    subst hl
    exact ⟨[], rfl, ⟨none, 0, rfl, by simp, by simp, fun _ => rfl, .inl rfl⟩, fun _ h => by cases h⟩
  | some x =>
    obtain ⟨D, sp, hd, hi⟩ := hS x rfl
    rw [hd] at hw
    obtain ⟨hw1, hw2⟩ := w_slice ht hw
    rw [hby] at hw1
    simp only [List.length_map, List.length_range] at hw1
    have hw1 : (len + sp.length) * 32 ≤ 140737488351232 := hw1
    have hone : ∀ i, ∃ z : Fl, i < len → w.cell? (x.add (i * 3)) = some (.int .i64 z.1) ∧ w.cell? (x.add (i * 3 + 1)) = some (.string z.2.1) ∧ w.cell? (x.add (i * 3 + 2)) = some (.bool z.2.2) ∧ z.2.1.size ≤ 140737488351232 ∧ -9223372036854775808 ≤ z.1 ∧ z.1 ≤ 9223372036854775807 := by
      intro i
      by_cases hil : i < len
      · obtain ⟨ys, n, hD, hf⟩ := hi i hil
        obtain ⟨v0, y0, hc0, hy0, tr0⟩ := hf 0 f0 rfl
        obtain ⟨v1, y1, hc1, hy1, tr1⟩ := hf 1 f1 rfl
        obtain ⟨v2, y2, hc2, hy2, tr2⟩ := hf 2 f2 rfl
        obtain ⟨g, e0, _, wg⟩ := DataW.trod_int t0 tr0
        simp only [List.cons.injEq, and_true] at e0
        subst e0
        obtain ⟨s, e1, e2, _⟩ := DataW.trod_string t1 tr1
        simp only [List.cons.injEq, and_true] at e1
        subst e1
        obtain ⟨b, e3, _⟩ := DataW.trod_bool t2 tr2
        simp only [List.cons.injEq, and_true] at e3
        subst e3
        have hmem : D i ∈ (List.range len).map D := List.mem_map.2 ⟨i, List.mem_range.2 hil, rfl⟩
        have h1 := hw2 _ hmem
        rw [hD] at h1
        have h2 := w_part he h1 (i := 1) (ft := f1.type) rfl (y := y1.1) (by rw [List.getElem?_map, hy1]; rfl)
        rw [e2] at h2
        have h3 := w_str h2
        have : s.size = s.data.toList.length := by rw [Array.length_toList]; rfl
        refine ⟨(g, s, b), fun _ => ⟨by simpa using hc0, by simpa using hc1, by simpa using hc2, ?_, by have := bounds_i64 wg; exact this⟩⟩
        show s.size ≤ _
        omega
      · exact ⟨fl0, fun h => absurd h hil⟩
    obtain ⟨F, hF⟩ := Classical.axiomOfChoice hone
    have hget : ∀ i, i < len → ((List.range len).map F)[i]?.getD fl0 = F i := fun i hi => by simp [hi]
    refine ⟨(List.range len).map F, by simp, ⟨some x, cap, by simp, by simp; omega, by simp; omega, (fun h => by cases h), ?_⟩, fun z hz => ?_⟩
    · by_cases h0 : len = 0
      · subst h0; exact .inl rfl
      · obtain ⟨b, off, spot⟩ := x
        obtain ⟨hc0, _⟩ := hF 0 (by omega)
        have hspot : spot = none := by simpa [Addr.add] using World.cell?_spot hc0
        subst hspot
        refine .inr ⟨b, off, rfl, fun i hi' => ?_⟩
        have hil : i < len := by simpa using hi'
        obtain ⟨g0, g1, g2, _⟩ := hF i hil
        rw [hget i hil]
        rw [show (⟨b, off, none⟩ : Addr).add (i * 3) = ⟨b, off + i * 3, none⟩ by simp [Addr.add]] at g0
        rw [show (⟨b, off, none⟩ : Addr).add (i * 3 + 1) = ⟨b, off + i * 3 + 1, none⟩ by simp [Addr.add, Nat.add_assoc]] at g1
        rw [show (⟨b, off, none⟩ : Addr).add (i * 3 + 2) = ⟨b, off + i * 3 + 2, none⟩ by simp [Addr.add, Nat.add_assoc]] at g2
        exact ⟨g0, g1, g2⟩
    · obtain ⟨i, hi1, rfl⟩ := List.mem_map.1 hz
      exact (hF i (List.mem_range.1 hi1)).2.2.2
end
end Go.Proofs.Ytdbkoephkdfbfaa

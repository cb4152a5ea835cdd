/-
  Slices of slices of bytes: how they read, how such an argument is opened.
-/
import Derived.Test.YtaeiijncklmfdaaOpen
import Derived.Test.YtaeiijncklmfdaaBytes
import Derived.Deep.Slices
import Derived.SizedLaws
namespace Go.Proofs.Ytaeiijncklmfdaa
open Go.ChangeShapes Go.WideShapes Go.ChangeAt Go.RowKit

/-- The slice value v reads, in w, as the rows r of bytes. -/
def RB (w : World) (v : Value) (r : List (List Int)) : Prop :=
  ∃ a cap, v = .slice a r.length cap ∧ r.length ≤ 5864062014805 ∧ r.length ≤ cap ∧ (a = none → cap = 0) ∧
    (r = [] ∨ ∃ b off, a = some ⟨b, off, none⟩ ∧ ∀ i : Nat, i < r.length → ∃ ad n c, w.cell? ⟨b, off + i, none⟩ = some (.slice ad n c) ∧ SB w (.slice ad n c) (r[i]?.getD []) ∧ n ≤ c ∧ (ad = none → c = 0))

theorem RB.below {w w' : World} {v : Value} {r : List (List Int)} (h : RB w v r) (hb : Below w.heap.size w w') : RB w' v r := by
  obtain ⟨a, cap, rfl, h1, h2, h3, h4⟩ := h
  refine ⟨a, cap, rfl, h1, h2, h3, ?_⟩
  rcases h4 with h4 | ⟨b, off, ha, hc⟩
  · exact .inl h4
  · refine .inr ⟨b, off, ha, fun i hi => ?_⟩
    obtain ⟨ad, n, c, g1, g2, g3⟩ := hc i hi
    exact ⟨ad, n, c, by rw [hb.cell (World.block_lt_of_cell? w _ g1)]; exact g1, g2.below hb, g3⟩
theorem RB.len {w : World} {a : Option Addr} {n c : Nat} {r : List (List Int)} (h : RB w (.slice a n c) r) : r.length = n ∧ n ≤ 5864062014805 ∧ n ≤ c ∧ (a = none → c = 0) := by
  obtain ⟨_, _, he, h1, h2, h3, _⟩ := h
  simp only [Value.slice.injEq] at he
  obtain ⟨rfl, rfl, rfl⟩ := he
  exact ⟨rfl, h1, h2, h3⟩
theorem RB.read {w : World} {a : Option Addr} {n c : Nat} {r : List (List Int)} (h : RB w (.slice a n c) r) (k : Nat) (hk : k < n) : ∃ b o, a = some ⟨b, o, none⟩ ∧
    ∀ i : Nat, i < n → ∃ ad m cc, w.cell? ⟨b, o + i, none⟩ = some (.slice ad m cc) ∧ SB w (.slice ad m cc) (r[i]?.getD []) ∧ m ≤ cc ∧ (ad = none → cc = 0) := by
  obtain ⟨_, _, he, _, _, _, h4⟩ := h
  simp only [Value.slice.injEq] at he
  obtain ⟨rfl, rfl, rfl⟩ := he
  rcases h4 with rfl | ⟨b, o, hb, hc⟩
  · exact absurd hk (Nat.not_lt_zero _)
  · exact ⟨b, o, hb, hc⟩

theorem bytesS : Try.prog.bytesOf 34 = 24 := by kernel_rfl

section
variable {H : Type} {enc : TypeId × Value → H} {P : Program} {w : World} {base : Nat} {spare : Nat → Bool} {held : Bool}

theorem weightsAll_mem (e : TypeId) : ∀ (l : List (DataW H)) (x : DataW H), x ∈ l → ∀ n ∈ x.weights P e, n ∈ DataW.weightsAll P e l
  | d :: r, x, hx, n, hn => by
    rw [DataW.weightsAll, List.mem_append]
    rcases List.mem_cons.1 hx with rfl | hx
    · exact .inl hn
    · exact .inr (weightsAll_mem e r x hx n hn)
theorem sized_rows {ts : List TypeId} {ds : List (DataW H)} (h : (DataW.weightsEach P ts ds).all (· ≤ reachBytes) = true) {j : Nat} {t e q : TypeId} {elems sp : List (DataW H)} (ht : ts[j]? = some t) (hd : ds[j]? = some (.slice elems sp))
    (hu : P.underlying t = some (.slice e)) (hue : P.underlying e = some (.slice q)) (x : DataW H) (hx : x ∈ elems) (e2 s2 : List (DataW H)) (he : x = .slice e2 s2) : (e2.length + s2.length) * P.bytesOf q ≤ reachBytes := by
  have h1 : (e2.length + s2.length) * P.bytesOf q ∈ x.weights P e := by
    subst he
    rw [DataW.weights, hue]
    exact List.mem_cons_self
  have h2 := weightsAll_mem e elems x hx _ h1
  have h3 : (e2.length + s2.length) * P.bytesOf q ∈ (DataW.slice elems sp).weights P t := by
    rw [DataW.weights, hu]
    exact List.mem_cons_of_mem _ (List.mem_append_left _ h2)
  have h4 := DataW.weights_mem_each ht hd _ h3
  have := List.all_eq_true.1 h _ h4
  simpa using this

/-- A SLICE OF SLICES OF BYTES: it reads as rows. -/
theorem open_rb {t e q : TypeId} {a : Option Addr} {len cap : Nat} {d : DataW H} {p : List MemPlace} (ht : P.underlying t = some (.slice e)) (he : P.underlying e = some (.slice q)) (hq : P.underlying q = some (.int .u8)) (hce : P.cellsOf e = 1) (hcq : P.cellsOf q = 1)
    (h : DataW.Trod enc P w base spare held t (.slice a len cap) d p) (hsz : ∀ elems sp, d = .slice elems sp → elems.length + sp.length ≤ 5864062014805 ∧ ∀ x ∈ elems, ∀ e2 s2, x = .slice e2 s2 → e2.length + s2.length ≤ 140737488351232) :
    ∃ r : List (List Int), r.length = len ∧ RB w (.slice a len cap) r := by
  obtain ⟨fuel, hf⟩ := h
  rcases Go.Deep.open_slice ht hf with ⟨hcs, _⟩ | ⟨x, l, c, m, n, D, Pl, hcs, _, hl, hm, hmm, hx, hi⟩
  · simp [Value.cells] at hcs
    obtain ⟨rfl, rfl, rfl⟩ := hcs
    exact ⟨[], rfl, none, 0, rfl, by simp, by simp, fun _ => rfl, .inl rfl⟩
  · simp [Value.cells] at hcs
    obtain ⟨rfl, rfl, rfl⟩ := hcs
    simp only [Prod.mk.injEq] at hx
    obtain ⟨hb1, hb2⟩ := hsz _ _ hx.1
    simp only [List.length_map, List.length_range] at hb1
    have hlen : len ≤ m := by rw [hmm]; split <;> omega
    have hone : ∀ i, i < len → ∃ (ad : Option Addr) (k c : Nat) (l : List Int), w.cell? (x.add i) = some (.slice ad k c) ∧ SB w (.slice ad k c) l ∧ k ≤ c ∧ (ad = none → c = 0) := by
      intro i hil
      obtain ⟨cs', hc, ht'⟩ := hi i (by omega)
      rw [hce, Nat.mul_one] at hc
      obtain ⟨_, hcl, hat⟩ := World.cells?_some hc
      have hat0 := hat 0 (by omega)
      match cs', hcl with
      | [v], _ =>
        have hcell : w.cell? (x.add i) = some v := by simpa [Addr.add] using hat0
        have hD : D i ∈ (List.range len).map D := List.mem_map.2 ⟨i, List.mem_range.2 hil, rfl⟩
        have hsi := hb2 (D i) hD
        have shape : ∃ ad k c, v = .slice ad k c ∧ k ≤ c := by
          rcases open_ints he hq hcq ht' with ⟨hcs, _⟩ | ⟨y, l, c, zs, hcs, _, hl, _⟩
          · simp at hcs; exact ⟨_, _, _, hcs, by omega⟩
          · simp at hcs; exact ⟨_, _, _, hcs, hl⟩
        obtain ⟨ad, k, c, rfl, hkc⟩ := shape
        obtain ⟨l, _, hs, hn⟩ := open_sb (d := D i) (p := Pl i) he hq hcq ⟨n, ht'⟩ (fun e2 s2 e => hsi e2 s2 e)
        exact ⟨ad, k, c, l, hcell, hs, hkc, hn⟩
    have hone' : ∀ i, ∃ l : List Int, i < len → ∃ (ad : Option Addr) (k c : Nat), w.cell? (x.add i) = some (.slice ad k c) ∧ SB w (.slice ad k c) l ∧ k ≤ c ∧ (ad = none → c = 0) := by
      intro i
      by_cases hil : i < len
      · obtain ⟨ad, k, c, l, h⟩ := hone i hil
        exact ⟨l, fun _ => ⟨ad, k, c, h⟩⟩
      · exact ⟨[], fun h => absurd h hil⟩
    obtain ⟨F, hF⟩ := Classical.axiomOfChoice hone'
    refine ⟨(List.range len).map F, by simp, some x, cap, by simp, by simp; omega, by simp; omega, (fun h => by cases h), ?_⟩
    by_cases h0 : len = 0
    · subst h0; exact .inl rfl
    · obtain ⟨b, off, spot⟩ := x
      obtain ⟨ad, k, c, hc0, _⟩ := hF 0 (by omega)
      have hspot : spot = none := by simpa [Addr.add] using World.cell?_spot hc0
      subst hspot
      refine .inr ⟨b, off, rfl, fun i hi' => ?_⟩
      have hil : i < len := by simpa using hi'
      obtain ⟨ad, k, c, g1, g2, g3⟩ := hF i hil
      rw [show (⟨b, off, none⟩ : Addr).add i = ⟨b, off + i, none⟩ by simp [Addr.add]] at g1
      refine ⟨ad, k, c, g1, ?_, g3⟩
      rw [List.getElem?_map, List.getElem?_range hil]
      exact g2
end
end Go.Proofs.Ytaeiijncklmfdaa

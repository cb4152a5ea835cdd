/-
  What class.Atoms tells are the atoms by definition.
-/
import Derived.Test.YtcdoliinemafaaaAtomsR
namespace Go.Proofs.Ytcdoliinemafaaa
open Go.RowKit

/-- Two rows that rise strictly and have the same elements are one. -/
theorem eq_of_rise {α : Type} (key : α → Nat) : ∀ (A B : List α), A.Pairwise (fun a b => key a < key b) → B.Pairwise (fun a b => key a < key b) → (∀ z, z ∈ A ↔ z ∈ B) → A = B
  | [], [], _, _, _ => rfl
  | [], b :: B, _, _, h => absurd ((h b).2 List.mem_cons_self) (by simp)
  | a :: A, [], _, _, h => absurd ((h a).1 List.mem_cons_self) (by simp)
  | a :: A, b :: B, hA, hB, h => by
    rw [List.pairwise_cons] at hA hB
    have hab : a = b := by
      rcases List.mem_cons.1 ((h a).1 List.mem_cons_self) with e | e
      · exact e
      · rcases List.mem_cons.1 ((h b).2 List.mem_cons_self) with e2 | e2
        · exact e2.symm
        · have := hB.1 a e; have := hA.1 b e2; omega
    subst hab
    have hn : ∀ z, z ∈ A ↔ z ∈ B := fun z => by
      constructor
      · intro hz
        rcases List.mem_cons.1 ((h z).1 (List.mem_cons_of_mem _ hz)) with e | e
        · subst e; have := hA.1 z hz; omega
        · exact e
      · intro hz
        rcases List.mem_cons.1 ((h z).2 (List.mem_cons_of_mem _ hz)) with e | e
        · subst e; have := hB.1 z hz; omega
        · exact e
    rw [eq_of_rise key A B hA.2 hB.2 hn]

theorem alike_of {cs : List Cl} {x y : Nat} (h : ∀ c ∈ cs, hasC c x = hasC c y) : alikeL cs x y = true := by
  unfold alikeL; rw [List.all_eq_true]; intro c hc; simpa using h c hc
theorem alike_at {cs : List Cl} {x y : Nat} (h : alikeL cs x y = true) (c : Cl) (hc : c ∈ cs) : hasC c x = hasC c y := by
  unfold alikeL at h; rw [List.all_eq_true] at h; simpa using h c hc
/-- Two bytes of an atom are alike. -/
theorem atom_alike {cs ts : List Cl} (h : AtomC cs ts) {a : Cl} (ha : a ∈ ts) {x y : Nat} (hx : x < 256) (hy : y < 256) (h1 : hasC a x = true) (h2 : hasC a y = true) : alikeL cs x y = true :=
  alike_of fun c hc => by
    rcases h.uni.uni a ha c hc with hi | ho
    · rw [hi x hx h1, hi y hy h2]
    · rw [ho x hx h1, ho y hy h2]
theorem pair_of {α : Type} {R : α → α → Prop} (hs : ∀ a b, R a b → R b a) {l : List α} (h : l.Pairwise R) {a b : α} (ha : a ∈ l) (hb : b ∈ l) (hne : a ≠ b) : R a b := by
  obtain ⟨i, hi, rfl⟩ := List.mem_iff_getElem.1 ha
  obtain ⟨j, hj, rfl⟩ := List.mem_iff_getElem.1 hb
  rcases Nat.lt_trichotomy i j with hij | hij | hij
  · exact List.pairwise_iff_getElem.1 h i j hi hj hij
  · subst hij; exact absurd rfl hne
  · exact hs _ _ (List.pairwise_iff_getElem.1 h j i hj hi hij)
/-- Alike bytes lie in one atom. -/
theorem atom_same {cs ts : List Cl} (h : AtomC cs ts) {a : Cl} (ha : a ∈ ts) {x y : Nat} (hx : x < 256) (hy : y < 256) (h1 : hasC a x = true) (h2 : alikeL cs x y = true) : hasC a y = true := by
  obtain ⟨b, hb, hby⟩ := h.part.cov y hy
  by_cases hab : a = b
  · rw [hab]; exact hby
  · obtain ⟨c, hc, hs⟩ := pair_of (fun _ _ h => Sep.symm h) h.uni.sep ha hb hab
    have hcc := alike_at h2 c hc
    rcases hs with ⟨hi, ho⟩ | ⟨ho, hi⟩
    · rw [hi x hx h1, ho y hy hby] at hcc; cases hcc
    · rw [ho x hx h1, hi y hy hby] at hcc; cases hcc
theorem atom_is {cs ts : List Cl} (h : AtomC cs ts) {a : Cl} (ha : a ∈ ts) {x : Nat} (hx : x < 256) (h1 : hasC a x = true) : a = clsU cs x 256 :=
  ext_cl _ _ fun y hy => by
    rw [has_clsU cs x y 256 (Nat.le_refl _), decide_eq_true hy, Bool.true_and]
    cases h2 : alikeL cs x y with
    | true => exact atom_same h ha hx hy h1 h2
    | false =>
      cases h3 : hasC a y with
      | false => rfl
      | true => rw [atom_alike h ha hx hy h1 h3] at h2; cases h2
theorem alike_self (cs : List Cl) (x : Nat) : alikeL cs x x = true := alike_of fun _ _ => rfl
theorem mem_atomsU {cs : List Cl} {z : Cl} (k : Nat) : z ∈ atomsU cs k ↔ ∃ x, x < k ∧ firstU cs x 256 = true ∧ clsU cs x 256 = z := by
  unfold atomsU
  rw [List.mem_filterMap]
  constructor
  · rintro ⟨x, hx, h⟩
    rw [List.mem_range] at hx
    split at h
    · rename_i hf
      exact ⟨x, hx, hf, by simpa using h⟩
    · cases h
  · rintro ⟨x, hx, hf, rfl⟩
    exact ⟨x, List.mem_range.2 hx, by rw [if_pos hf]⟩
/-- The least byte of the class of a first byte is it. -/
theorem least_first {cs : List Cl} {x : Nat} (hx : x < 256) (hf : firstU cs x 256 = true) : leastL (clsU cs x 256).1 = x := by
  have hin : hasL (clsU cs x 256).1 x = true := by
    have := has_clsU cs x x 256 (Nat.le_refl _)
    unfold hasC at this
    rw [this, decide_eq_true hx, alike_self]
    rfl
  obtain ⟨h1, h2, h3, -⟩ := least_some _ x hx hin
  have h4 : hasC (clsU cs x 256) (leastL (clsU cs x 256).1) = true := h2
  rw [has_clsU cs x _ 256 (Nat.le_refl _), Bool.and_eq_true] at h4
  have := (firstU_is cs x 256).1 hf _ h1 h4.2
  omega
theorem atomsU_rise (cs : List Cl) : (atomsU cs 256).Pairwise fun a b => leastL a.1 < leastL b.1 := by
  have : ∀ k, k ≤ 256 → (atomsU cs k).Pairwise fun a b => leastL a.1 < leastL b.1 := by
    intro k
    induction k with
    | zero => intro _; exact List.Pairwise.nil
    | succ k ih =>
      intro hk
      cases hf : firstU cs k 256 with
      | false => rw [atomsU_no cs k hf]; exact ih (by omega)
      | true =>
        rw [atomsU_yes cs k hf, List.pairwise_append]
        refine ⟨ih (by omega), List.pairwise_singleton _ _, fun a ha b hb => ?_⟩
        rw [List.mem_singleton] at hb
        subst hb
        obtain ⟨x, hx, hfx, rfl⟩ := (mem_atomsU k).1 ha
        rw [least_first (by omega) hfx, least_first (by omega) hf]
        exact hx
  exact this 256 (Nat.le_refl _)
theorem least_at {cs ts : List Cl} (h : AtomC cs ts) {a : Cl} (ha : a ∈ ts) : leastL a.1 < 256 ∧ hasC a (leastL a.1) = true ∧ ∀ y, y < leastL a.1 → hasC a y = false := by
  obtain ⟨x, hx, hax⟩ := h.part.ne a ha
  obtain ⟨h1, h2, -, h4⟩ := least_some a.1 x hx hax
  exact ⟨h1, h2, h4⟩
theorem mem_atoms {cs ts : List Cl} (h : AtomC cs ts) (z : Cl) : z ∈ ts ↔ z ∈ atomsU cs 256 := by
  rw [mem_atomsU]
  constructor
  · intro hz
    obtain ⟨h1, h2, h3⟩ := least_at h hz
    refine ⟨leastL z.1, h1, (firstU_is cs _ 256).2 fun y hy ha => ?_, (atom_is h hz h1 h2).symm⟩
    have h5 := atom_same h hz h1 hy h2 ha
    rcases Nat.lt_or_ge y (leastL z.1) with hlt | hge
    · rw [h3 y hlt] at h5; cases h5
    · exact hge
  · rintro ⟨x, hx, hf, rfl⟩
    obtain ⟨a, ha, hax⟩ := h.part.cov x hx
    rw [← atom_is h ha hx hax]
    exact ha
theorem atoms_rise {cs ts : List Cl} (h : AtomC cs ts) (hr : RiseC ts) : ts.Pairwise fun a b => leastL a.1 < leastL b.1 := by
  rw [List.pairwise_iff_getElem]
  intro i j hi hj hij
  have h1 : leastL ts[i].1 ≤ leastL ts[j].1 := List.pairwise_iff_getElem.1 hr i j hi hj hij
  have h2 := List.pairwise_iff_getElem.1 h.part.dis i j hi hj hij
  obtain ⟨k1, k2, -⟩ := least_at h (List.getElem_mem hi)
  obtain ⟨-, k4, -⟩ := least_at h (List.getElem_mem hj)
  rcases Nat.lt_or_ge (leastL ts[i].1) (leastL ts[j].1) with hlt | hge
  · exact hlt
  · have he : leastL ts[i].1 = leastL ts[j].1 := by omega
    have := h2 _ k1 k2
    rw [he, k4] at this
    cases this
/-- THE ATOMS ARE THE DOCUMENT'S. -/
theorem atoms_doc {cs ts : List Cl} (hp : ts.Perm (foldL cs)) (hr : RiseC ts) : ts = atomsU cs 256 := by
  have h := atom_perm hp
  exact eq_of_rise (fun a : Cl => leastL a.1) _ _ (atoms_rise h hr) (atomsU_rise cs) (mem_atoms h)
end Go.Proofs.Ytcdoliinemafaaa

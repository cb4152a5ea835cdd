/-
  The atoms of classes: what parts of all bytes they are.
-/
import Derived.Test.YtakimaceohfpcaaSplit
namespace Go.Proofs.Ytakimaceohfpcaa
open Go.RowKit

def hasC (c : Cl) (x : Nat) : Bool := hasL c.1 x
theorem hasC_and (a c : Cl) (x : Nat) (h : x < 256) : hasC (andC a c) x = (hasC a x && hasC c x) := has_and a.1 c.1 x h
theorem hasC_not (c : Cl) (x : Nat) (h : x < 256) : hasC (notC c) x = !hasC c x := has_not c.1 c.2 x h
theorem ext_cl (a b : Cl) (h : ∀ x, x < 256 → hasC a x = hasC b x) : a = b := Subtype.ext (ext_c a.1 b.1 a.2 b.2 h)
def allC : Cl := ⟨rangeL 0 255, isC_fromL _ _⟩
theorem hasC_all (x : Nat) (h : x < 256) : hasC allC x = true := by
  unfold hasC allC rangeL
  simp only
  rw [has_fromL _ _ _ (by omega)]
  exact decide_eq_true (by omega)
theorem hasC_none (x : Nat) : hasC noneC x = false := has_none x

/-! ### The least byte -/
theorem elems_first (c : List Nat) : ∀ k : Nat, k ≤ 256 → (elemsU c k = [] ∧ ∀ y, y < k → hasL c y = false) ∨ ∃ (x : Byt) (t : List Byt), elemsU c k = x :: t ∧ hasL c x.1 = true ∧ ∀ y, y < x.1 → hasL c y = false
  | 0, _ => .inl ⟨rfl, fun y hy => by omega⟩
  | k + 1, hk => by
    cases hx : hasL c k
    · rw [elemsU_no c k hx]
      rcases elems_first c k (by omega) with ⟨h1, h2⟩ | h
      · refine .inl ⟨h1, fun y hy => ?_⟩
        by_cases e : y = k
        · rw [e]; exact hx
        · exact h2 y (by omega)
      · exact .inr h
    · rw [elemsU_yes c k (by omega) hx]
      rcases elems_first c k (by omega) with ⟨h1, h2⟩ | ⟨x, t, h1, h2⟩
      · rw [h1]; exact .inr ⟨⟨k, by omega⟩, [], rfl, hx, h2⟩
      · rw [h1]; exact .inr ⟨x, t ++ [⟨k, by omega⟩], rfl, h2⟩
theorem least_none (c : List Nat) (h : ∀ y, y < 256 → hasL c y = false) : leastL c = 256 := by
  unfold leastL
  rcases elems_first c 256 (Nat.le_refl _) with ⟨h1, _⟩ | ⟨x, t, _, h2, _⟩
  · unfold elemsL; rw [h1]; rfl
  · rw [h x.1 x.2] at h2; cases h2
theorem least_some (c : List Nat) (x : Nat) (hx : x < 256) (h : hasL c x = true) : leastL c < 256 ∧ hasL c (leastL c) = true ∧ leastL c ≤ x ∧ ∀ y, y < leastL c → hasL c y = false := by
  unfold leastL
  rcases elems_first c 256 (Nat.le_refl _) with ⟨_, h2⟩ | ⟨z, t, h1, h2, h3⟩
  · rw [h2 x hx] at h; cases h
  · have e : leastOf (elemsL c) = z.1 := by unfold elemsL; rw [h1]; rfl
    rw [e]
    refine ⟨z.2, h2, ?_, h3⟩
    rcases Nat.lt_or_ge x z.1 with hlt | hge
    · rw [h3 x hlt] at h; cases h
    · exact hge

/-! ### Atoms part all bytes -/
structure PartC (ts : List Cl) : Prop where
  ne : ∀ a ∈ ts, ∃ x, x < 256 ∧ hasC a x = true
  dis : ts.Pairwise fun a b => ∀ x, x < 256 → hasC a x = true → hasC b x = false
  cov : ∀ x, x < 256 → ∃ a ∈ ts, hasC a x = true

theorem PartC.all : PartC [allC] :=
  ⟨fun a ha => ⟨0, by omega, by rw [List.mem_singleton.1 ha]; exact hasC_all 0 (by omega)⟩, List.pairwise_singleton _ _, fun x hx => ⟨allC, List.mem_singleton.2 rfl, hasC_all x hx⟩⟩
theorem partL_in {c a b : Cl} (h : b ∈ partL c a) (x : Nat) (hx : x < 256) (hb : hasC b x = true) : hasC a x = true := by
  unfold partL at h
  split at h
  · rw [List.mem_singleton.1 h] at hb; exact hb
  · simp only [List.mem_cons, List.not_mem_nil, or_false] at h
    rcases h with rfl | rfl
    · rw [hasC_and _ _ x hx] at hb; simp at hb; exact hb.1
    · rw [hasC_and _ _ x hx] at hb; simp at hb; exact hb.1
theorem cl_ne {a b : Cl} (h : a ≠ b) : ∃ x, x < 256 ∧ hasC a x ≠ hasC b x :=
  Classical.byContradiction fun hn => h (ext_cl a b fun x hx => Classical.byContradiction fun e => hn ⟨x, hx, e⟩)
theorem part_split {ts : List Cl} (h : PartC ts) (c : Cl) : PartC (splitL ts c) := by
  refine ⟨fun b hb => ?_, ?_, fun x hx => ?_⟩
  · obtain ⟨a, ha, hb⟩ := List.mem_flatMap.1 hb
    by_cases h1 : andL a.1 c.1 = a.1 ∨ andL a.1 c.1 = noneL
    · rw [partL_one h1] at hb
      rw [List.mem_singleton.1 hb]; exact h.ne a ha
    · rw [partL_two h1] at hb
      simp only [List.mem_cons, List.not_mem_nil, or_false] at hb
      rcases hb with rfl | rfl
      · obtain ⟨x, hx, hd⟩ := cl_ne (a := andC a c) (b := noneC) (fun e => h1 (.inr (congrArg Subtype.val e)))
        rw [hasC_none] at hd
        exact ⟨x, hx, by simpa using hd⟩
      · obtain ⟨x, hx, hd⟩ := cl_ne (a := andC a c) (b := a) (fun e => h1 (.inl (congrArg Subtype.val e)))
        refine ⟨x, hx, ?_⟩
        rw [hasC_and _ _ x hx] at hd ⊢
        rw [hasC_not _ x hx]
        cases h2 : hasC a x <;> cases h3 : hasC c x <;> simp_all
  · refine List.pairwise_flatMap.2 ⟨fun a ha => ?_, h.dis.imp fun {a b} hab x hx y hy z hz hxz => ?_⟩
    · unfold partL
      split
      · exact List.pairwise_singleton _ _
      · refine List.pairwise_cons.2 ⟨fun b hb x hx hax => ?_, List.pairwise_singleton _ _⟩
        rw [List.mem_singleton.1 hb]
        rw [hasC_and _ _ x hx] at hax ⊢
        rw [hasC_not _ x hx]
        simp at hax
        simp [hax.2]
    · have h1 := hab z hz (partL_in hx z hz hxz)
      cases h2 : hasC y z
      · rfl
      · rw [partL_in hy z hz h2] at h1; cases h1
  · obtain ⟨a, ha, hax⟩ := h.cov x hx
    by_cases h1 : andL a.1 c.1 = a.1 ∨ andL a.1 c.1 = noneL
    · exact ⟨a, List.mem_flatMap.2 ⟨a, ha, by rw [partL_one h1]; exact List.mem_singleton.2 rfl⟩, hax⟩
    · cases h3 : hasC c x
      · exact ⟨andC a (notC c), List.mem_flatMap.2 ⟨a, ha, by rw [partL_two h1]; simp⟩, by rw [hasC_and _ _ x hx, hasC_not _ x hx, hax, h3]; rfl⟩
      · exact ⟨andC a c, List.mem_flatMap.2 ⟨a, ha, by rw [partL_two h1]; simp⟩, by rw [hasC_and _ _ x hx, hax, h3]; rfl⟩
theorem PartC.few {ts : List Cl} (h : PartC ts) : ts.length ≤ 256 := by
  have hn : (ts.map fun a => leastL a.1).Nodup := by
    unfold List.Nodup
    rw [List.pairwise_map]
    refine h.dis.imp_of_mem fun {a b} ha hb hab e => ?_
    obtain ⟨x, hx, hax⟩ := h.ne a ha
    obtain ⟨y, hy, hby⟩ := h.ne b hb
    obtain ⟨l1, l2, -⟩ := least_some a.1 x hx hax
    obtain ⟨m1, m2, -⟩ := least_some b.1 y hy hby
    have := hab _ l1 l2
    rw [e] at this
    have m2 : hasC b (leastL b.1) = true := m2
    rw [this] at m2; cases m2
  have hs : (ts.map fun a => leastL a.1) ⊆ List.range 256 := by
    intro x hx
    obtain ⟨a, ha, rfl⟩ := List.mem_map.1 hx
    obtain ⟨y, hy, hay⟩ := h.ne a ha
    exact List.mem_range.2 (least_some a.1 y hy hay).1
  have := List.Nodup.length_le_of_subset hn hs
  simpa using this
def foldL (cs : List Cl) : List Cl := cs.foldl splitL [allC]
theorem foldL_take (cs : List Cl) (k : Nat) (h : k < cs.length) : foldL (cs.take (k + 1)) = splitL (foldL (cs.take k)) cs[k] := by
  unfold foldL
  rw [List.take_succ_eq_append_getElem h, List.foldl_append]
  rfl
theorem part_fold (cs : List Cl) : PartC (foldL cs) := by
  have : ∀ (cs ts : List Cl), PartC ts → PartC (cs.foldl splitL ts) := by
    intro cs
    induction cs with
    | nil => intro ts h; exact h
    | cons c t ih => intro ts h; exact ih _ (part_split h c)
  exact this cs _ PartC.all
theorem PartC.pos {ts : List Cl} (h : PartC ts) : 0 < ts.length := by
  obtain ⟨a, ha, _⟩ := h.cov 0 (by omega)
  exact List.length_pos_of_mem ha
end Go.Proofs.Ytakimaceohfpcaa

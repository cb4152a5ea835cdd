/-
  What the atoms of classes have to do with these.
-/
import Derived.Test.YtcdoliinemafaaaAtomsM
namespace Go.Proofs.Ytcdoliinemafaaa
open Go.RowKit

def Inn (a c : Cl) : Prop := ∀ x, x < 256 → hasC a x = true → hasC c x = true
def Out (a c : Cl) : Prop := ∀ x, x < 256 → hasC a x = true → hasC c x = false
def Sep (l : List Cl) (a b : Cl) : Prop := ∃ c ∈ l, (Inn a c ∧ Out b c) ∨ (Out a c ∧ Inn b c)
theorem Sep.symm {l : List Cl} {a b : Cl} (h : Sep l a b) : Sep l b a := by
  obtain ⟨c, hc, h⟩ := h
  exact ⟨c, hc, h.symm.imp And.symm And.symm⟩
def Sub (b a : Cl) : Prop := ∀ x, x < 256 → hasC b x = true → hasC a x = true
theorem Sep.sub {l : List Cl} {a b a' b' : Cl} (h : Sep l a b) (ha : Sub a' a) (hb : Sub b' b) : Sep l a' b' := by
  obtain ⟨c, hc, h⟩ := h
  refine ⟨c, hc, h.imp (fun h => ⟨fun x hx e => h.1 x hx (ha x hx e), fun x hx e => h.2 x hx (hb x hx e)⟩) (fun h => ⟨fun x hx e => h.1 x hx (ha x hx e), fun x hx e => h.2 x hx (hb x hx e)⟩)⟩
theorem Sep.more {l m : List Cl} {a b : Cl} (h : Sep l a b) (hs : l ⊆ m) : Sep m a b := by
  obtain ⟨c, hc, h⟩ := h
  exact ⟨c, hs hc, h⟩
theorem inn_and (a c : Cl) : Inn (andC a c) c := fun x hx h => by rw [hasC_and _ _ x hx] at h; simp at h; exact h.2
theorem out_and (a c : Cl) : Out (andC a (notC c)) c := fun x hx h => by rw [hasC_and _ _ x hx, hasC_not _ x hx] at h; simp at h; exact h.2
structure UniC (l ts : List Cl) : Prop where
  uni : ∀ a ∈ ts, ∀ c ∈ l, Inn a c ∨ Out a c
  sep : ts.Pairwise (Sep l)
theorem uni_split {l ts : List Cl} (h : UniC l ts) (c : Cl) : UniC (l ++ [c]) (splitL ts c) := by
  refine ⟨fun b hb d hd => ?_, List.pairwise_flatMap.2 ⟨fun a ha => ?_, h.sep.imp fun {a b} hab x hx y hy => ?_⟩⟩
  · obtain ⟨a, ha, hb⟩ := List.mem_flatMap.1 hb
    have hsub : Sub b a := fun x hx e => partL_in hb x hx e
    rcases List.mem_append.1 hd with hd | hd
    · exact (h.uni a ha d hd).imp (fun k x hx e => k x hx (hsub x hx e)) (fun k x hx e => k x hx (hsub x hx e))
    · rw [List.mem_singleton.1 hd]
      by_cases h1 : andL a.1 c.1 = a.1 ∨ andL a.1 c.1 = noneL
      · rw [partL_one h1] at hb
        rw [List.mem_singleton.1 hb]
        rcases h1 with h1 | h1
        · have e : andC a c = a := Subtype.ext h1
          left; rw [← e]; intro x hx k; rw [e] at k; rw [← e] at k; exact inn_and a c x hx k
        · have e : andC a c = noneC := Subtype.ext h1
          right; intro x hx k
          have := hasC_and a c x hx
          rw [e, hasC_none, k] at this
          simpa using this.symm
      · rw [partL_two h1] at hb
        simp only [List.mem_cons, List.not_mem_nil, or_false] at hb
        rcases hb with rfl | rfl
        · exact .inl (inn_and a c)
        · exact .inr (out_and a c)
  · unfold partL
    split
    · exact List.pairwise_singleton _ _
    · refine List.pairwise_cons.2 ⟨fun b hb => ?_, List.pairwise_singleton _ _⟩
      rw [List.mem_singleton.1 hb]
      exact ⟨c, List.mem_append.2 (.inr (by simp)), .inl ⟨inn_and a c, out_and a c⟩⟩
  · exact (hab.sub (fun z hz e => partL_in hx z hz e) (fun z hz e => partL_in hy z hz e)).more (List.subset_append_left _ _)
theorem uni_fold (l : List Cl) : UniC l (foldL l) := by
  have : ∀ (cs done ts : List Cl), UniC done ts → UniC (done ++ cs) (cs.foldl splitL ts) := by
    intro cs
    induction cs with
    | nil => intro done ts h; rw [List.append_nil]; exact h
    | cons c t ih =>
      intro done ts h
      have := ih (done ++ [c]) (splitL ts c) (uni_split h c)
      rw [List.append_assoc] at this
      exact this
  have h := this l [] [allC] ⟨fun a _ c hc => (by cases hc), List.pairwise_singleton _ _⟩
  simpa [foldL] using h

/-! ### Of the atoms in their order -/
structure AtomC (l ts : List Cl) : Prop where
  part : PartC ts
  uni : UniC l ts
theorem atom_perm {l ts : List Cl} (h : ts.Perm (foldL l)) : AtomC l ts := by
  have hp := part_fold l
  have hu := uni_fold l
  refine ⟨⟨fun a ha => hp.ne a (h.subset ha), ?_, fun x hx => ?_⟩, ⟨fun a ha => hu.uni a (h.subset ha), ?_⟩⟩
  · refine (h.pairwise_iff (fun {a b} hab x hx hb => ?_)).2 hp.dis
    cases e : hasC a x
    · rfl
    · rw [hab x hx e] at hb; cases hb
  · obtain ⟨a, ha, k⟩ := hp.cov x hx
    exact ⟨a, h.symm.subset ha, k⟩
  · exact (h.pairwise_iff (fun hab => hab.symm)).2 hu.sep
def orC (a b : Cl) : Cl := ⟨orL a.1 b.1, isC_or _ _ a.2 b.2⟩
theorem hasC_or (a b : Cl) (x : Nat) (h : x < 256) : hasC (orC a b) x = (hasC a x || hasC b x) := has_or a.1 b.1 x h
/-- The first i atoms together. -/
def accU (ts : List Cl) (i : Nat) : Cl := (ts.take i).foldl orC noneC
theorem accU_next (ts : List Cl) (i : Nat) (h : i < ts.length) : accU ts (i + 1) = orC (accU ts i) ts[i] := by
  unfold accU
  rw [List.take_succ_eq_append_getElem h, List.foldl_append]
  rfl
theorem hasC_accU (ts : List Cl) (x : Nat) (hx : x < 256) : ∀ i : Nat, i ≤ ts.length → hasC (accU ts i) x = (ts.take i).any fun a => hasC a x
  | 0, _ => by simp [accU, hasC_none]
  | i + 1, h => by
    rw [accU_next ts i (by omega), hasC_or _ _ x hx, hasC_accU ts x hx i (by omega), List.take_succ_eq_append_getElem (by omega), List.any_append]
    simp
theorem AtomC.none {l ts : List Cl} (h : AtomC l ts) (i : Nat) (hi : i < ts.length) : ts[i].1 ≠ noneL := by
  obtain ⟨x, hx, k⟩ := h.part.ne ts[i] (List.getElem_mem hi)
  intro e
  have : hasL ts[i].1 x = true := k
  rw [e, has_none] at this
  cases this
theorem AtomC.apart {l ts : List Cl} (h : AtomC l ts) (i : Nat) (hi : i < ts.length) : andL (accU ts i).1 ts[i].1 = noneL := by
  refine congrArg Subtype.val (ext_cl (andC (accU ts i) ts[i]) noneC fun x hx => ?_)
  rw [hasC_and _ _ x hx, hasC_none, hasC_accU ts x hx i (by omega)]
  cases hi2 : hasC ts[i] x
  · simp
  · rw [Bool.and_true]
    rw [List.any_eq_false]
    intro a ha
    obtain ⟨k, hk, rfl⟩ := List.mem_iff_getElem.1 ha
    rw [List.length_take] at hk
    rw [List.getElem_take]
    have := List.pairwise_iff_getElem.1 h.part.dis k i (by omega) hi (by omega) x hx
    intro e
    rw [this e] at hi2; cases hi2
theorem AtomC.whole {l ts : List Cl} (h : AtomC l ts) : (accU ts ts.length).1 = rangeL 0 255 := by
  have e : accU ts ts.length = allC := ext_cl _ _ fun x hx => by
    rw [hasC_accU ts x hx _ (Nat.le_refl _), hasC_all x hx, List.take_length, List.any_eq_true]
    exact h.part.cov x hx
  rw [e]
  simp only [allC]
/-- Does c meet a? -/
def meetB (c a : Cl) : Bool := !decide (andL c.1 a.1 = noneL)
theorem meet_of (c a : Cl) : (meetB c a = true ↔ ∃ x, x < 256 ∧ hasC c x = true ∧ hasC a x = true) := by
  unfold meetB
  constructor
  · intro h
    have hne : andC c a ≠ noneC := fun e => by
      have e2 := congrArg Subtype.val e
      have e3 : andL c.1 a.1 = noneL := e2
      rw [decide_eq_true e3] at h; cases h
    obtain ⟨x, hx, hd⟩ := cl_ne hne
    rw [hasC_none, hasC_and _ _ x hx] at hd
    refine ⟨x, hx, ?_⟩
    cases h1 : hasC c x <;> cases h2 : hasC a x <;> simp_all
  · rintro ⟨x, hx, h1, h2⟩
    have hne : andL c.1 a.1 ≠ noneL := fun e => by
      have := hasC_and c a x hx
      rw [h1, h2] at this
      have e3 : hasC (andC c a) x = false := by show hasL (andL c.1 a.1) x = false; rw [e, has_none]
      rw [e3] at this; cases this
    rw [decide_eq_false hne]; rfl
theorem AtomC.told {l ts : List Cl} (h : AtomC l ts) (k i : Nat) (hki : k < i) (hi : i < ts.length) : ∃ (j : Nat) (hj : j < l.length), meetB l[j] ts[i] ≠ meetB l[j] ts[k] := by
  obtain ⟨c, hc, hs⟩ := List.pairwise_iff_getElem.1 h.uni.sep k i (by omega) hi hki
  obtain ⟨j, hj, rfl⟩ := List.mem_iff_getElem.1 hc
  obtain ⟨x, hx, hkx⟩ := h.part.ne ts[k] (List.getElem_mem (by omega))
  obtain ⟨y, hy, hiy⟩ := h.part.ne ts[i] (List.getElem_mem hi)
  refine ⟨j, hj, ?_⟩
  have out : ∀ a : Cl, Out a l[j] → meetB l[j] a = false := fun a ho => by
    cases hm : meetB l[j] a
    · rfl
    · obtain ⟨z, hz, h1, h2⟩ := (meet_of _ _).1 hm
      rw [ho z hz h2] at h1; cases h1
  rcases hs with ⟨h1, h2⟩ | ⟨h1, h2⟩
  · rw [out _ h2, (meet_of _ _).2 ⟨x, hx, h1 x hx hkx, hkx⟩]; decide
  · rw [out _ h1, (meet_of _ _).2 ⟨y, hy, h2 y hy hiy, hiy⟩]; decide
/-- Of the first i atoms those that c meets, together. -/
def partU (c : Cl) (ts : List Cl) (i : Nat) : Cl := (ts.take i).foldl (fun d a => if meetB c a = true then orC d a else d) noneC
theorem partU_next (c : Cl) (ts : List Cl) (i : Nat) (h : i < ts.length) : partU c ts (i + 1) = if meetB c ts[i] = true then orC (partU c ts i) ts[i] else partU c ts i := by
  unfold partU
  rw [List.take_succ_eq_append_getElem h, List.foldl_append]
  rfl
theorem hasC_partU (c : Cl) (ts : List Cl) (x : Nat) (hx : x < 256) : ∀ i : Nat, i ≤ ts.length → hasC (partU c ts i) x = (ts.take i).any fun a => meetB c a && hasC a x
  | 0, _ => by simp [partU, hasC_none]
  | i + 1, h => by
    rw [partU_next c ts i (by omega), List.take_succ_eq_append_getElem (by omega), List.any_append, ← hasC_partU c ts x hx i (by omega)]
    cases hm : meetB c ts[i]
    · simp [hm]
    · simp [hm, hasC_or _ _ x hx]
theorem AtomC.again {l ts : List Cl} (h : AtomC l ts) (c : Cl) (hc : c ∈ l) : partU c ts ts.length = c := ext_cl _ _ fun x hx => by
  rw [hasC_partU c ts x hx _ (Nat.le_refl _), List.take_length]
  cases hcx : hasC c x
  · rw [List.any_eq_false]
    intro a ha
    cases hax : hasC a x
    · simp
    · rcases h.uni.uni a ha c hc with h1 | h1
      · rw [h1 x hx hax] at hcx; cases hcx
      · have : meetB c a = false := by
          cases hm : meetB c a
          · rfl
          · obtain ⟨z, hz, k1, k2⟩ := (meet_of _ _).1 hm
            rw [h1 z hz k2] at k1; cases k1
        rw [this]; simp
  · obtain ⟨a, ha, hax⟩ := h.part.cov x hx
    rw [List.any_eq_true]
    exact ⟨a, ha, by rw [(meet_of c a).2 ⟨x, hx, hcx, hax⟩, hax]; rfl⟩
end Go.Proofs.Ytcdoliinemafaaa

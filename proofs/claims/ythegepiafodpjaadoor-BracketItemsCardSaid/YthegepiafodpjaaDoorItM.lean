/-
  Plain mathematics of layer 4: items that are written beyond doubt.
-/
import Derived.Test.YthegepiafodpjaaDoorBrP
import Derived.Test.YthegepiafodpjaaDoorStructs
namespace Go.Proofs.YthegepiafodpjaaDoor

def ks04 : List FK := [.int .i64, .int .u8, .int .u8, .int .i64]
def withinM (n m : Int) : Int := if n.tmod m < 0 then n.tmod m + m else n.tmod m
theorem withinM_b (n m : Int) (h : 0 < m) : 0 ≤ withinM n m ∧ withinM n m < m := by
  unfold withinM
  have h1 := Int.tmod_lt_of_pos n h
  have h2 : -m < n.tmod m := by
    have := Int.lt_tmod_of_pos n h
    omega
  split <;> omega
/-- The twelve names. -/
def nmT (k : Nat) : ByteArray := match k with
  | 0 => ⟨#[97, 108, 110, 117, 109]⟩ | 1 => ⟨#[97, 108, 112, 104, 97]⟩ | 2 => ⟨#[98, 108, 97, 110, 107]⟩ | 3 => ⟨#[99, 110, 116, 114, 108]⟩ | 4 => ⟨#[100, 105, 103, 105, 116]⟩ | 5 => ⟨#[103, 114, 97, 112, 104]⟩
  | 6 => ⟨#[108, 111, 119, 101, 114]⟩ | 7 => ⟨#[112, 114, 105, 110, 116]⟩ | 8 => ⟨#[112, 117, 110, 99, 116]⟩ | 9 => ⟨#[115, 112, 97, 99, 101]⟩ | 10 => ⟨#[117, 112, 112, 101, 114]⟩ | _ => ⟨#[120, 100, 105, 103, 105, 116]⟩
def nmI (k : Nat) : List Int := (nmT k).data.toList.map fun b => (b.toNat : Int)
def encM (y x : Int) : List Mk := [(91, false), (y, false), (x, false), (y, false), (93, false)]
def itK (x : El) : Int := withinM (x.i 0) 5
def itN (x : El) : Nat := (withinM (x.i 3) 12).toNat
def itLo (x : El) : Int := if x.i 2 < x.i 1 then x.i 2 else x.i 1
def itHi (x : El) : Int := if x.i 2 < x.i 1 then x.i 1 else x.i 2
def nmMk (k : Nat) : List Mk := sg (91 :: 58 :: (nmI k ++ [58, 93]))
def itMk (x : El) : List Mk :=
  if itK x = 0 then [(x.i 1, true)] else if itK x = 1 then encM 46 (x.i 1) else if itK x = 2 then encM 61 (x.i 1) else if itK x = 3 then encM 46 (itLo x) ++ (45, false) :: encM 46 (itHi x) else nmMk (itN x)
def itC (x : El) : List Nat :=
  if itK x = 0 then ofL [x.i 1] else if itK x = 1 then ofL [x.i 1] else if itK x = 2 then ofL [x.i 1] else if itK x = 3 then rangeL (itLo x).toNat (itHi x).toNat else namedL (nmT (itN x))
theorem isC_it (x : El) : IsC (itC x) := by
  unfold itC
  split
  · exact isC_ofL _
  · split
    · exact isC_ofL _
    · split
      · exact isC_ofL _
      · split
        · exact isC_rangeL _ _
        · exact isC_named _ 23
theorem nm_ok4 (k : Nat) (h : k < 12) : namedL (nmT k) ≠ noneL ∧ strI (nmI k) = nmT k ∧ (nmI k).all (fun b => decide (b ≠ 58)) = true ∧ (nmI k).length ≤ 6 := by
  have h : k = 0 ∨ k = 1 ∨ k = 2 ∨ k = 3 ∨ k = 4 ∨ k = 5 ∨ k = 6 ∨ k = 7 ∨ k = 8 ∨ k = 9 ∨ k = 10 ∨ k = 11 := by omega
  rcases h with rfl | rfl | rfl | rfl | rfl | rfl | rfl | rfl | rfl | rfl | rfl | rfl
  all_goals exact ⟨by decide +kernel, rfl, rfl, by decide⟩

/-- The marks X stand in l from i on. -/
def AtM (l : List Mk) (i : Nat) (X : List Mk) : Prop := ∀ j, j < X.length → i + j < l.length ∧ l[i + j]?.getD (0, false) = X[j]?.getD (0, false)
theorem AtM.left {l : List Mk} {i : Nat} {X Y : List Mk} (h : AtM l i (X ++ Y)) : AtM l i X := fun j hj => by
  have := h j (by rw [List.length_append]; omega)
  rwa [List.getElem?_append_left hj] at this
theorem AtM.right {l : List Mk} {i : Nat} {X Y : List Mk} (h : AtM l i (X ++ Y)) : AtM l (i + X.length) Y := fun j hj => by
  have := h (X.length + j) (by rw [List.length_append]; omega)
  rw [List.getElem?_append_right (by omega), Nat.add_sub_cancel_left, ← Nat.add_assoc] at this
  exact this
theorem AtM.tail {l : List Mk} {i : Nat} {x : Mk} {Y : List Mk} (h : AtM l i (x :: Y)) : AtM l (i + 1) Y := AtM.right (X := [x]) h
theorem AtM.sgn {l : List Mk} {i : Nat} {X : List Mk} (h : AtM l i X) (j : Nat) (hj : j < X.length) (b : Int) : sgn l (i + j) b = decide (X[j]?.getD (0, false) = (b, false)) := by
  obtain ⟨h1, h2⟩ := h j hj
  unfold Go.Proofs.YthegepiafodpjaaDoor.sgn
  rw [decide_eq_true h1, h2, Bool.true_and]
theorem AtM.byte {l : List Mk} {i : Nat} {X : List Mk} (h : AtM l i X) (j : Nat) (hj : j < X.length) : byteM l (i + j) = (X[j]?.getD (0, false)).1 := by unfold byteM; rw [(h j hj).2]
theorem AtM.over {l : List Mk} {i : Nat} {X : List Mk} (h : AtM l i X) (j : Nat) (hj : j < X.length) : over l (i + j) = false := decide_eq_false (by have := (h j hj).1; omega)
theorem AtM.self (l : List Mk) : AtM l 0 l := fun j hj => ⟨by omega, by rw [Nat.zero_add]⟩
theorem AtM.sgn0 {l : List Mk} {i : Nat} {x : Mk} {Y : List Mk} (h : AtM l i (x :: Y)) (b : Int) : Go.Proofs.YthegepiafodpjaaDoor.sgn l i b = decide (x = (b, false)) := h.sgn 0 (by simp) b
theorem thing_enc {l : List Mk} {i : Nat} (op : Nat) (y x : Int) (hy : y = 46 ∨ y = 61) (h : AtM l i (encM y x)) : thingM l op i = .ok (ofL [x]) (decide (y = 46)) x (i + 5) := by
  unfold encM at h
  have s0 := fun b => h.sgn 0 (by simp) b
  have s1 := fun b => h.sgn 1 (by simp) b
  have s3 := fun b => h.sgn 3 (by simp) b
  have s4 := fun b => h.sgn 4 (by simp) b
  have o0 := h.over 0 (by simp)
  have o3 := h.over 3 (by simp)
  have o4 := h.over 4 (by simp)
  have b2 := h.byte 2 (by simp)
  simp only [Nat.add_zero, List.getElem?_cons_zero, List.getElem?_cons_succ, Option.getD_some] at s0 s1 s3 s4 o0 o3 o4 b2
  have hk : kindM l i = y := by unfold kindM; rw [s0, s1, s1, s1]; rcases hy with rfl | rfl <;> rfl
  unfold thingM
  rw [o0, hk, o3, s3, o4, s4, b2]
  rcases hy with rfl | rfl <;> rfl
theorem name_read {l : List Mk} (op i : Nat) : ∀ (bs : List Int) (f k : Nat) (text : List Int), bs.all (fun b => decide (b ≠ 58)) = true → AtM l k (sg (bs ++ [58, 93])) → bs.length < f →
    nameM l op i f k text = if namedL (strI (text ++ bs)) = noneL then .bad 31 i else .ok (namedL (strI (text ++ bs))) false 0 (k + bs.length + 2)
  | [], f, k, text, _, h, hf => by
    obtain ⟨f, rfl⟩ : ∃ g, f = g + 1 := ⟨f - 1, by simp at hf; omega⟩
    have h : AtM l k [(58, false), (93, false)] := h
    have s0 := h.sgn 0 (by simp) 58
    have s1 := h.sgn 1 (by simp) 93
    have o0 := h.over 0 (by simp)
    simp only [Nat.add_zero, List.getElem?_cons_zero, List.getElem?_cons_succ, Option.getD_some] at s0 s1 o0
    unfold nameM
    rw [o0, s0, s1, List.append_nil]
    rfl
  | b :: bs, f, k, text, hb, h, hf => by
    obtain ⟨f, rfl⟩ : ∃ g, f = g + 1 := ⟨f - 1, by simp at hf; omega⟩
    rw [List.all_cons, Bool.and_eq_true, decide_eq_true_eq] at hb
    have h : AtM l k ((b, false) :: sg (bs ++ [58, 93])) := h
    have s0 := h.sgn0 58
    have o0 := h.over 0 (by simp)
    have b0 := h.byte 0 (by simp)
    simp only [Nat.add_zero, List.getElem?_cons_zero, Option.getD_some] at o0 b0
    unfold nameM
    rw [o0, s0, b0, if_neg (by decide), if_neg (by simp [hb.1]), name_read op i bs f (k + 1) (text ++ [b]) hb.2 h.tail (by simp at hf; omega)]
    rw [List.append_assoc, List.length_cons, show k + 1 + bs.length + 2 = k + (bs.length + 1) + 2 by omega]
    rfl
theorem thing_nm {l : List Mk} {i : Nat} (op k : Nat) (hk : k < 12) (h : AtM l i (nmMk k)) : thingM l op i = .ok (namedL (nmT k)) false 0 (i + (nmMk k).length) := by
  obtain ⟨h1, h2, h3, h4⟩ := nm_ok4 k hk
  have hn : (nmMk k).length = (nmI k).length + 4 := by unfold nmMk sg; simp
  have h : AtM l i ((91, false) :: (58, false) :: sg (nmI k ++ [58, 93])) := h
  have s0 := h.sgn0 91
  have s1 := h.tail.sgn0 58
  have o0 := h.over 0 (by simp)
  simp only [Nat.add_zero] at o0
  have hkk : kindM l i = 58 := by unfold kindM; rw [s0, s1]; rfl
  have hlt : i + ((nmI k).length + 3) < l.length := by
    have := (h ((nmI k).length + 3) (by unfold sg; simp)).1
    exact this
  unfold thingM
  rw [o0, hkk, if_neg (by decide), if_pos rfl, name_read op i (nmI k) (l.length + 1) (i + 2) [] h3 h.tail.tail (by omega), List.nil_append, h2, if_neg h1, hn]
  congr 1
  omega
/-- How an item begins. -/
theorem it_head (x : El) : ∃ m Y, itMk x = m :: Y ∧ (∀ b, b = 45 ∨ b = 93 ∨ b = 94 → m ≠ (b, false)) := by
  unfold itMk
  split
  · exact ⟨_, _, rfl, fun b _ h => by cases h⟩
  · split
    · exact ⟨_, _, rfl, fun b hb h => by simp only [Prod.mk.injEq] at h; omega⟩
    · split
      · exact ⟨_, _, rfl, fun b hb h => by simp only [Prod.mk.injEq] at h; omega⟩
      · split
        · exact ⟨_, _, rfl, fun b hb h => by simp only [Prod.mk.injEq] at h; omega⟩
        · exact ⟨_, _, rfl, fun b hb h => by simp only [Prod.mk.injEq] at h; omega⟩
theorem item_mk {l : List Mk} {i : Nat} (op : Nat) (first : Bool) (x : El) (z : Mk) (h : AtM l i (itMk x ++ [z])) (hz : z ≠ (45, false)) : ∃ fin v, itemM l op i first = .ok (itC x) fin v (i + (itMk x).length) := by
  have hzn : sgn l (i + (itMk x).length) 45 = false := by rw [h.right.sgn0]; exact decide_eq_false hz
  obtain ⟨m, Y, hm, hh⟩ := it_head x
  have hs0 : sgn l i 45 = false := by
    have := h.left
    rw [hm] at this
    rw [this.sgn0]
    exact decide_eq_false (hh 45 (.inl rfl))
  have hdone : ∀ set fin v, thingM l op i = .ok set fin v (i + (itMk x).length) → itemM l op i first = .ok set fin v (i + (itMk x).length) := fun set fin v hT => by
    unfold itemM
    rw [hs0, hT]
    simp only [Bool.false_and, Bool.false_eq_true, if_false]
    rw [hzn]
    simp
  have hK := withinM_b (x.i 0) 5 (by omega)
  have hA := h.left
  have hK : 0 ≤ itK x ∧ itK x < 5 := hK
  unfold itC
  by_cases k0 : itK x = 0
  · have hmk : itMk x = [(x.i 1, true)] := by unfold itMk; rw [if_pos k0]
    rw [if_pos k0]
    refine ⟨true, x.i 1, hdone _ _ _ ?_⟩
    rw [hmk] at hA ⊢
    have s0 := hA.sgn0 91
    have o0 := hA.over 0 (by simp)
    have b0 := hA.byte 0 (by simp)
    simp only [Nat.add_zero, List.getElem?_cons_zero, Option.getD_some] at o0 b0
    have hk : kindM l i = 0 := by unfold kindM; rw [s0]; simp
    unfold thingM
    rw [o0, hk, b0]
    rfl
  · rw [if_neg k0]
    by_cases k1 : itK x = 1
    · have hmk : itMk x = encM 46 (x.i 1) := by unfold itMk; rw [if_neg k0, if_pos k1]
      rw [if_pos k1]
      refine ⟨decide ((46 : Int) = 46), x.i 1, hdone _ _ _ ?_⟩
      rw [hmk] at hA ⊢
      exact thing_enc op 46 _ (.inl rfl) hA
    · rw [if_neg k1]
      by_cases k2 : itK x = 2
      · have hmk : itMk x = encM 61 (x.i 1) := by unfold itMk; rw [if_neg k0, if_neg k1, if_pos k2]
        rw [if_pos k2]
        refine ⟨decide ((61 : Int) = 46), x.i 1, hdone _ _ _ ?_⟩
        rw [hmk] at hA ⊢
        exact thing_enc op 61 _ (.inr rfl) hA
      · rw [if_neg k2]
        by_cases k3 : itK x = 3
        · have hmk : itMk x = encM 46 (itLo x) ++ (45, false) :: encM 46 (itHi x) := by unfold itMk; rw [if_neg k0, if_neg k1, if_neg k2, if_pos k3]
          rw [if_pos k3]
          rw [hmk] at hA ⊢
          have hT := thing_enc op 46 _ (.inl rfl) hA.left
          have hR : AtM l (i + 5) ((45, false) :: encM 46 (itHi x)) := hA.right
          have hT2 := thing_enc op 46 _ (.inl rfl) hR.tail
          have t0 := hR.sgn0 45
          have t1 : sgn l (i + 5 + 1) 93 = false := by have := hR.tail; unfold encM at this; rw [this.sgn0]; rfl
          have t2 : over l (i + 5 + 1) = false := by have := hR.tail.over 0 (by simp [encM]); exact this
          have hle : ¬ (itHi x < itLo x) := by unfold itHi itLo; split <;> omega
          refine ⟨false, 0, ?_⟩
          unfold itemM
          rw [hs0, hT]
          simp only [Bool.false_and, Bool.false_eq_true, if_false]
          rw [t0, t1, t2, hT2]
          simp only [decide_true, Bool.not_true, Bool.or_self, Bool.false_eq_true, if_false, Bool.true_eq_false]
          rw [if_neg (by simp; omega)]
          rfl
        · have hmk : itMk x = nmMk (itN x) := by unfold itMk; rw [if_neg k0, if_neg k1, if_neg k2, if_neg k3]
          rw [if_neg k3]
          refine ⟨false, 0, hdone _ _ _ ?_⟩
          rw [hmk] at hA ⊢
          have hN := withinM_b (x.i 3) 12 (by omega)
          exact thing_nm op (itN x) (by unfold itN; omega) hA
theorem it_len (x : El) : 1 ≤ (itMk x).length ∧ (itMk x).length ≤ 11 := by
  obtain ⟨m, Y, hm, _⟩ := it_head x
  refine ⟨by rw [hm]; simp, ?_⟩
  have hN := withinM_b (x.i 3) 12 (by omega)
  have h4 := (nm_ok4 (itN x) (by unfold itN; omega)).2.2.2
  unfold itMk encM nmMk sg
  split
  · simp
  · split
    · simp
    · split
      · simp
      · split
        · simp
        · simp; omega
def itsMk (xs : List El) : List Mk := xs.flatMap itMk
def itsC (xs : List El) : List Nat := xs.foldl (fun s x => orL s (itC x)) noneL
theorem isC_its (xs : List El) : IsC (itsC xs) := by
  have : ∀ (xs : List El) (s : List Nat), IsC s → IsC (xs.foldl (fun s x => orL s (itC x)) s) := fun xs => by
    induction xs with
    | nil => exact fun s h => h
    | cons x xs ih => exact fun s h => ih _ (isC_or _ _ h (isC_it x))
  exact this xs _ isC_none
theorem items_its {l : List Mk} (op first : Nat) : ∀ (xs : List El) (f i : Nat) (set : List Nat), AtM l i (itsMk xs ++ [(93, false)]) → xs.length < f → (xs ≠ [] ∨ i ≠ first) → first ≤ i →
    itemsM l op first f i set = .ok (xs.foldl (fun s x => orL s (itC x)) set) false 0 (i + (itsMk xs).length)
  | [], f, i, set, h, hf, hne, _ => by
    obtain ⟨f, rfl⟩ : ∃ g, f = g + 1 := ⟨f - 1, by simp at hf; omega⟩
    have hi : i ≠ first := hne.resolve_left (fun h => h rfl)
    have h : AtM l i [(93, false)] := h
    have hs := h.sgn0 93
    unfold itemsM
    rw [hs, decide_eq_false hi]
    rfl
  | x :: xs, f, i, set, h, hf, _, hfi => by
    obtain ⟨f, rfl⟩ : ∃ g, f = g + 1 := ⟨f - 1, by simp at hf; omega⟩
    have h : AtM l i (itMk x ++ itsMk xs ++ [(93, false)]) := h
    rw [List.append_assoc] at h
    obtain ⟨z, Z, hzz, hz⟩ : ∃ z Z, itsMk xs ++ [(93, false)] = z :: Z ∧ z ≠ (45, false) := by
      cases xs with
      | nil => exact ⟨(93, false), [], rfl, by decide⟩
      | cons s xs =>
        obtain ⟨m, Y, hm, hh⟩ := it_head s
        exact ⟨m, Y ++ itsMk xs ++ [(93, false)], by unfold itsMk; rw [List.flatMap_cons, hm]; simp, hh 45 (.inl rfl)⟩
    have hA : AtM l i (itMk x ++ [z]) := by
      rw [hzz] at h
      rw [show itMk x ++ z :: Z = (itMk x ++ [z]) ++ Z by simp] at h
      exact h.left
    obtain ⟨fin, v, hit⟩ := item_mk op (decide (i = first)) x z hA hz
    have hs : sgn l i 93 = false := by
      obtain ⟨m, Y, hm, hh⟩ := it_head x
      have := h.left
      rw [hm] at this
      rw [this.sgn0]
      exact decide_eq_false (hh 93 (.inr (.inl rfl)))
    have hlen := (it_len x).1
    unfold itemsM
    rw [hs, Bool.and_false, if_neg (by decide), hit]
    simp only
    rw [items_its op first xs f (i + (itMk x).length) _ h.right (by simp at hf; omega) (.inr (by omega)) (by omega)]
    rw [List.foldl_cons]
    unfold itsMk
    rw [List.flatMap_cons, List.length_append, Nat.add_assoc]
def brIt (nt : Bool) (xs : List El) : List Mk := (91, false) :: ((if nt = true then [(94, false)] else []) ++ itsMk xs) ++ [(93, false)]
theorem its_len (xs : List El) : xs.length ≤ (itsMk xs).length ∧ (itsMk xs).length ≤ 11 * xs.length := by
  unfold itsMk
  induction xs with
  | nil => simp
  | cons x xs ih =>
    have := it_len x
    rw [List.flatMap_cons, List.length_append, List.length_cons]
    omega
theorem parse_its (nt : Bool) (xs : List El) (hne : xs ≠ []) : parseB (brIt nt xs) 0 = (if nt = true then notL (itsC xs) else itsC xs, ((brIt nt xs).length : Int), 0) := by
  have hl := its_len xs
  have hself := AtM.self (brIt nt xs)
  have hlen : (brIt nt xs).length = (itsMk xs).length + (if nt = true then 3 else 2) := by unfold brIt; cases nt <;> simp
  obtain ⟨L, hL⟩ : ∃ L, brIt nt xs = L := ⟨_, rfl⟩
  have h : AtM L 0 (brIt nt xs) := by rw [← hL]; exact hself
  rw [hL] at hlen ⊢
  clear hL hself
  unfold brIt at h
  rw [List.cons_append] at h
  have h0 : sgn L 0 91 = true := by rw [h.sgn0]; rfl
  unfold parseB
  rw [if_neg (by simp [h0])]
  simp only [Int.toNat_zero, Nat.zero_add]
  have hT := h.tail
  rw [Nat.zero_add] at hT
  cases nt with
  | true =>
    have hT : AtM L 1 ((94, false) :: (itsMk xs ++ [(93, false)])) := hT
    have hs : sgn L 1 94 = true := by rw [hT.sgn0]; rfl
    rw [hs]
    simp only [if_true]
    rw [items_its 0 2 xs (L.length + 1) 2 noneL hT.tail (by omega) (.inl hne) (Nat.le_refl _)]
    simp only
    rw [if_pos rfl] at hlen
    simp only [Prod.mk.injEq, and_true]
    exact ⟨rfl, by omega⟩
  | false =>
    have hT : AtM L 1 (itsMk xs ++ [(93, false)]) := hT
    have hs : sgn L 1 94 = false := by
      obtain ⟨x, xs', rfl⟩ : ∃ x xs', xs = x :: xs' := by cases xs with | nil => exact absurd rfl hne | cons x xs => exact ⟨x, xs, rfl⟩
      obtain ⟨m, Y, hm, hh⟩ := it_head x
      have h2 : AtM L 1 (m :: (Y ++ itsMk xs' ++ [(93, false)])) := by
        have e : itsMk (x :: xs') ++ [(93, false)] = m :: (Y ++ itsMk xs' ++ [(93, false)]) := by unfold itsMk; rw [List.flatMap_cons, hm]; simp
        rw [e] at hT
        exact hT
      rw [h2.sgn0]
      exact decide_eq_false (hh 94 (.inr (.inr rfl)))
    rw [hs]
    simp only [Bool.false_eq_true, if_false]
    rw [items_its 0 1 xs (L.length + 1) 1 noneL hT (by omega) (.inl hne) (Nat.le_refl _)]
    simp only
    rw [if_neg (by decide)] at hlen
    simp only [Prod.mk.injEq, and_true]
    exact ⟨rfl, by omega⟩
end Go.Proofs.YthegepiafodpjaaDoor

/-
  ClassJoins' mathematics: the runs of a class rise and do not touch; joined they are the class; so are its bytes.
-/
import Derived.Test.YthegepiafodpjaaDoorRunsM
import Derived.Test.YthegepiafodpjaaDoorOf
import Derived.Test.YthegepiafodpjaaDoorCls2
namespace Go.Proofs.YthegepiafodpjaaDoor
open Go.RowKit

theorem has_rangeL (lo hi y : Nat) (h : hi < 256) : hasL (rangeL lo hi) y = decide (lo ≤ y ∧ y ≤ hi) := by
  unfold rangeL
  by_cases hl : lo ≤ hi
  · rw [has_fromL _ _ _ (by omega), Bool.eq_iff_iff]
    simp only [decide_eq_true_eq]
    omega
  · rw [show hi + 1 - lo = 0 by omega, fromL, has_none]
    symm
    exact decide_eq_false (by omega)
/-- What the runs rs of the bytes of c below k keep. -/
def RunsGood (c : List Nat) (k : Nat) (rs : List (Nat × Nat)) : Prop :=
  (∀ r ∈ rs, r.1 ≤ r.2 ∧ r.2 < k) ∧ rs.Pairwise (fun r s => r.2 + 1 < s.1) ∧
  (∀ y : Nat, y < 256 → ((∃ r ∈ rs, r.1 ≤ y ∧ y ≤ r.2) ↔ (y < k ∧ hasL c y = true))) ∧ (rs.map fun r => r.2 + 1 - r.1).sum = cntL c k
theorem runsGood_zero (c : List Nat) : RunsGood c 0 [] :=
  ⟨fun r hr => (by cases hr), List.Pairwise.nil, fun y _ => ⟨fun ⟨r, hr, _⟩ => (by cases hr), fun h => absurd h.1 (by omega)⟩, rfl⟩
theorem runsGood_no (c : List Nat) (k : Nat) (rs : List (Nat × Nat)) (h : RunsGood c k rs) (hx : hasL c k = false) : RunsGood c (k + 1) rs := by
  obtain ⟨h1, h2, h3, h4⟩ := h
  refine ⟨fun r hr => ⟨(h1 r hr).1, by have := (h1 r hr).2; omega⟩, h2, fun y hy => (h3 y hy).trans ⟨fun ⟨a, b⟩ => ⟨by omega, b⟩, fun ⟨a, b⟩ => ⟨?_, b⟩⟩, ?_⟩
  · rcases Nat.lt_or_ge y k with g | g
    · exact g
    · obtain rfl : y = k := by omega
      rw [hx] at b; cases b
  · rw [h4, cnt_step, hx]; rfl
theorem runsGood_yes (c : List Nat) (k : Nat) (rs : List (Nat × Nat)) (h : RunsGood c k rs) (hx : hasL c k = true) : RunsGood c (k + 1) (runStep rs k) := by
  obtain ⟨h1, h2, h3, h4⟩ := h
  have hc : cntL c (k + 1) = cntL c k + 1 := by rw [cnt_step, hx]; rfl
  have hy : ∀ y : Nat, (y < k + 1 ∧ hasL c y = true) ↔ ((y < k ∧ hasL c y = true) ∨ y = k) := fun y =>
    ⟨fun ⟨a, b⟩ => by rcases Nat.lt_or_ge y k with g | g; exact .inl ⟨g, b⟩; exact .inr (by omega), fun g => by
      rcases g with ⟨a, b⟩ | rfl
      · exact ⟨by omega, b⟩
      · exact ⟨by omega, hx⟩⟩
  rcases List.eq_nil_or_concat rs with rfl | ⟨L, b, rfl⟩
  · rw [runStep_nil]
    refine ⟨fun r hr => ?_, List.pairwise_singleton _ _, fun y hy2 => ?_, ?_⟩
    · rw [List.mem_singleton.1 hr]; exact ⟨Nat.le_refl _, Nat.lt_succ_self _⟩
    · rw [hy, ← h3 y hy2]
      constructor
      · rintro ⟨r, hr, a, b⟩
        rw [List.mem_singleton.1 hr] at a b
        exact .inr (by omega)
      · rintro (⟨r, hr, _⟩ | rfl)
        · cases hr
        · exact ⟨_, List.mem_singleton.2 rfl, Nat.le_refl _, Nat.le_refl _⟩
    · rw [hc, ← h4]
      simp only [List.map_cons, List.map_nil, List.sum_cons, List.sum_nil]
      omega
  · rw [List.concat_eq_append] at h1 h2 h3 h4 ⊢
    have hb := h1 b (List.mem_append.2 (.inr (by simp)))
    have hp := List.pairwise_append.1 h2
    have hL : ∀ r ∈ L, r.1 ≤ r.2 ∧ r.2 < k := fun r hr => h1 r (List.mem_append.2 (.inl hr))
    have hLb : ∀ r ∈ L, r.2 + 1 < b.1 := fun r hr => hp.2.2 r hr b (by simp)
    rw [List.map_append, List.sum_append] at h4
    simp only [List.map_cons, List.map_nil, List.sum_cons, List.sum_nil] at h4
    by_cases e : b.2 + 1 = k
    · rw [runStep_ext _ _ _ e]
      refine ⟨fun r hr => ?_, ?_, fun y hy2 => ?_, ?_⟩
      · rcases List.mem_append.1 hr with hr | hr
        · exact ⟨(hL r hr).1, by have := (hL r hr).2; omega⟩
        · rw [List.mem_singleton.1 hr]; exact ⟨by show b.1 ≤ k; omega, Nat.lt_succ_self _⟩
      · refine List.pairwise_append.2 ⟨hp.1, List.pairwise_singleton _ _, fun r hr s hs => ?_⟩
        rw [List.mem_singleton.1 hs]
        exact hLb r hr
      · rw [hy, ← h3 y hy2]
        constructor
        · rintro ⟨r, hr, p, q⟩
          rcases List.mem_append.1 hr with hr | hr
          · exact .inl ⟨r, List.mem_append.2 (.inl hr), p, q⟩
          · rw [List.mem_singleton.1 hr] at p q
            have p : b.1 ≤ y := p
            have q : y ≤ k := q
            rcases Nat.lt_or_ge y k with g | g
            · exact .inl ⟨b, List.mem_append.2 (.inr (by simp)), p, by omega⟩
            · exact .inr (by omega)
        · rintro (⟨r, hr, p, q⟩ | rfl)
          · rcases List.mem_append.1 hr with hr | hr
            · exact ⟨r, List.mem_append.2 (.inl hr), p, q⟩
            · rw [List.mem_singleton.1 hr] at p q
              exact ⟨(b.1, k), List.mem_append.2 (.inr (by simp)), p, by show y ≤ k; omega⟩
          · exact ⟨(b.1, y), List.mem_append.2 (.inr (by simp)), by show b.1 ≤ y; omega, Nat.le_refl _⟩
      · rw [hc, ← h4, List.map_append, List.sum_append]
        simp only [List.map_cons, List.map_nil, List.sum_cons, List.sum_nil]
        omega
    · rw [runStep_new _ _ _ e]
      refine ⟨fun r hr => ?_, ?_, fun y hy2 => ?_, ?_⟩
      · rcases List.mem_append.1 hr with hr | hr
        · exact ⟨(h1 r hr).1, by have := (h1 r hr).2; omega⟩
        · rw [List.mem_singleton.1 hr]; exact ⟨Nat.le_refl _, Nat.lt_succ_self _⟩
      · refine List.pairwise_append.2 ⟨h2, List.pairwise_singleton _ _, fun r hr s hs => ?_⟩
        rw [List.mem_singleton.1 hs]
        show r.2 + 1 < k
        rcases List.mem_append.1 hr with hr | hr
        · have := hLb r hr; omega
        · rw [List.mem_singleton.1 hr]; omega
      · rw [hy, ← h3 y hy2]
        constructor
        · rintro ⟨r, hr, p, q⟩
          rcases List.mem_append.1 hr with hr | hr
          · exact .inl ⟨r, hr, p, q⟩
          · rw [List.mem_singleton.1 hr] at p q
            have p : k ≤ y := p
            have q : y ≤ k := q
            exact .inr (by omega)
        · rintro (⟨r, hr, p, q⟩ | rfl)
          · exact ⟨r, List.mem_append.2 (.inl hr), p, q⟩
          · exact ⟨_, List.mem_append.2 (.inr (List.mem_singleton.2 rfl)), Nat.le_refl _, Nat.le_refl _⟩
      · rw [hc, List.map_append, List.sum_append, List.map_append, List.sum_append]
        simp only [List.map_cons, List.map_nil, List.sum_cons, List.sum_nil]
        omega
theorem runsGood_upto (c : List Nat) (k : Nat) (hk : k ≤ 256) : RunsGood c k (runsOf (elemsU c k)) := by
  induction k with
  | zero => exact runsGood_zero c
  | succ k ih =>
    have ih := ih (by omega)
    cases h : hasL c k
    · rw [elemsU_no c k h]; exact runsGood_no c k _ ih h
    · rw [elemsU_yes c k (by omega) h, runsOf_snoc]; exact runsGood_yes c k _ ih h
theorem runs_good (c : List Nat) : RunsGood c 256 (runsOf (elemsL c)) := runsGood_upto c 256 (Nat.le_refl _)

/-- Runs, joined. -/
def joinR (rs : List (Nat × Nat)) : List Nat := rs.foldl (fun d r => orL d (rangeL r.1 r.2)) noneL
theorem joinR_snoc (rs : List (Nat × Nat)) (r : Nat × Nat) : joinR (rs ++ [r]) = orL (joinR rs) (rangeL r.1 r.2) := by unfold joinR; rw [List.foldl_append]; rfl
theorem isC_rangeL (lo hi : Nat) : IsC (rangeL lo hi) := isC_fromL _ _
theorem joinR_both (rs : List (Nat × Nat)) (hr : IsR rs) : IsC (joinR rs) ∧ ∀ y : Nat, y < 256 → (hasL (joinR rs) y = true ↔ ∃ r ∈ rs, r.1 ≤ y ∧ y ≤ r.2) := by
  have : ∀ (l : List (Nat × Nat)) (d : List Nat), IsR l → IsC d → IsC (l.foldl (fun d r => orL d (rangeL r.1 r.2)) d) ∧ ∀ y : Nat, y < 256 → (hasL (l.foldl (fun d r => orL d (rangeL r.1 r.2)) d) y = true ↔ (hasL d y = true ∨ ∃ r ∈ l, r.1 ≤ y ∧ y ≤ r.2)) := by
    intro l
    induction l with
    | nil => intro d _ hd; exact ⟨hd, fun y _ => ⟨.inl, fun h => h.elim id (fun ⟨r, hr, _⟩ => by cases hr)⟩⟩
    | cons x t ih =>
      intro d hl hd
      rw [List.foldl_cons]
      have hx := hl x List.mem_cons_self
      obtain ⟨h1, h2⟩ := ih (orL d (rangeL x.1 x.2)) (fun r hr => hl r (List.mem_cons_of_mem _ hr)) (isC_or _ _ hd (isC_rangeL _ _))
      refine ⟨h1, fun y hy => (h2 y hy).trans ?_⟩
      rw [has_or _ _ y hy, has_rangeL _ _ _ hx.2]
      simp only [Bool.or_eq_true, decide_eq_true_eq, List.mem_cons, exists_eq_or_imp]
      exact or_assoc
  obtain ⟨h1, h2⟩ := this rs noneL hr isC_none
  refine ⟨h1, fun y hy => (h2 y hy).trans ⟨fun h => h.elim (fun g => by rw [has_none] at g; cases g) id, .inr⟩⟩
theorem joinR_all (c : List Nat) (hc : IsC c) : joinR (runsOf (elemsL c)) = c := by
  obtain ⟨h1, h2⟩ := joinR_both _ (isR_of (elemsL c))
  refine ext_c _ _ h1 hc fun x hx => ?_
  rw [Bool.eq_iff_iff, h2 x hx, (runs_good c).2.2.1 x hx]
  exact ⟨fun h => h.2, fun h => ⟨hx, h⟩⟩
/-- How many bytes runs have. -/
def sumR (rs : List (Nat × Nat)) : Nat := (rs.map fun r => r.2 + 1 - r.1).sum
theorem sumR_snoc (rs : List (Nat × Nat)) (r : Nat × Nat) : sumR (rs ++ [r]) = sumR rs + (r.2 + 1 - r.1) := by unfold sumR; rw [List.map_append, List.sum_append]; simp
theorem sumR_all (c : List Nat) : sumR (runsOf (elemsL c)) = cntL c 256 := (runs_good c).2.2.2

/-- Bytes, joined. -/
def joinE (l : List Byt) : List Nat := l.foldl (fun d x => orL d (ofL [(x.1 : Int)])) noneL
theorem joinE_snoc (l : List Byt) (x : Byt) : joinE (l ++ [x]) = orL (joinE l) (ofL [(x.1 : Int)]) := by unfold joinE; rw [List.foldl_append]; rfl
theorem has_of1 (x y : Nat) (hx : x < 256) : hasL (ofL [(x : Int)]) y = decide (y = x) := by
  show hasL (withL noneL ((x : Int)).toNat) y = _
  rw [Int.toNat_natCast, has_with _ _ _ isC_none hx, has_none, Bool.false_or]
theorem joinE_both (l : List Byt) : IsC (joinE l) ∧ ∀ y : Nat, y < 256 → (hasL (joinE l) y = true ↔ ∃ x ∈ l, x.1 = y) := by
  have : ∀ (l : List Byt) (d : List Nat), IsC d → IsC (l.foldl (fun d x => orL d (ofL [(x.1 : Int)])) d) ∧ ∀ y : Nat, y < 256 → (hasL (l.foldl (fun d x => orL d (ofL [(x.1 : Int)])) d) y = true ↔ (hasL d y = true ∨ ∃ x ∈ l, x.1 = y)) := by
    intro l
    induction l with
    | nil => intro d hd; exact ⟨hd, fun y _ => ⟨.inl, fun h => h.elim id (fun ⟨r, hr, _⟩ => by cases hr)⟩⟩
    | cons x t ih =>
      intro d hd
      rw [List.foldl_cons]
      obtain ⟨h1, h2⟩ := ih (orL d (ofL [(x.1 : Int)])) (isC_or _ _ hd (isC_ofL _))
      refine ⟨h1, fun y hy => (h2 y hy).trans ?_⟩
      rw [has_or _ _ y hy, has_of1 _ _ x.2]
      simp only [Bool.or_eq_true, decide_eq_true_eq, List.mem_cons, exists_eq_or_imp]
      rw [eq_comm (a := y)]
      exact or_assoc
  obtain ⟨h1, h2⟩ := this l noneL isC_none
  refine ⟨h1, fun y hy => (h2 y hy).trans ⟨fun h => h.elim (fun g => by rw [has_none] at g; cases g) id, .inr⟩⟩
theorem elems_mem (c : List Nat) (k : Nat) (x : Byt) : x ∈ elemsU c k ↔ (x.1 < k ∧ hasL c x.1 = true) := by
  unfold elemsU
  rw [List.mem_filterMap]
  constructor
  · rintro ⟨a, ha, he⟩
    rw [List.mem_range] at ha
    split at he
    · split at he
      · rename_i h1 h2
        obtain rfl := (Option.some.inj he)
        exact ⟨ha, h2⟩
      · cases he
    · cases he
  · rintro ⟨h1, h2⟩
    refine ⟨x.1, List.mem_range.2 h1, ?_⟩
    rw [dif_pos x.2, if_pos h2]
theorem joinE_all (c : List Nat) (hc : IsC c) : joinE (elemsL c) = c := by
  obtain ⟨h1, h2⟩ := joinE_both (elemsL c)
  refine ext_c _ _ h1 hc fun y hy => ?_
  rw [Bool.eq_iff_iff, h2 y hy]
  constructor
  · rintro ⟨x, hx, rfl⟩; exact ((elems_mem c 256 x).1 hx).2
  · intro h; exact ⟨⟨y, hy⟩, (elems_mem c 256 ⟨y, hy⟩).2 ⟨hy, h⟩, rfl⟩
theorem elems_cnt (c : List Nat) (k : Nat) (hk : k ≤ 256) : (elemsU c k).length = cntL c k := by
  induction k with
  | zero => rfl
  | succ k ih =>
    have ih := ih (by omega)
    cases h : hasL c k
    · rw [elemsU_no c k h, cnt_step, h, ih]; rfl
    · rw [elemsU_yes c k (by omega) h, cnt_step, h, List.length_append, ih]; rfl
theorem elems_size (c : List Nat) : (elemsL c).length = cntL c 256 := elems_cnt c 256 (Nat.le_refl _)
/-- Two runs beside each other do not touch. -/
theorem runs_gap (c : List Nat) (i : Nat) (r s : Nat × Nat) (hr : (runsOf (elemsL c))[i]? = some r) (hs : (runsOf (elemsL c))[i + 1]? = some s) : r.2 + 1 < s.1 := by
  obtain ⟨h1, e1⟩ := List.getElem?_eq_some_iff.1 hr
  obtain ⟨h2, e2⟩ := List.getElem?_eq_some_iff.1 hs
  have := List.pairwise_iff_getElem.1 (runs_good c).2.1 i (i + 1) h1 h2 (by omega)
  rw [e1, e2] at this
  exact this
theorem run_is (c : List Nat) (i : Nat) (r : Nat × Nat) (hr : (runsOf (elemsL c))[i]? = some r) : r.1 ≤ r.2 ∧ r.2 < 256 :=
  (runs_good c).1 r (List.mem_of_getElem? hr)
end Go.Proofs.YthegepiafodpjaaDoor

/-
  Plain mathematics of layer 4: how a class is written, and that it is read back.
-/
import Derived.Test.YthegepiafodpjaaDoorBrM
import Derived.Test.YthegepiafodpjaaDoorJoinsM
namespace Go.Proofs.YthegepiafodpjaaDoor

def oddB (b : Nat) : Bool := decide (b = 91) || decide (b = 93) || decide (b = 45) || decide (b = 94)
def wrI (b : Nat) : List Int := if oddB b = true then [91, 46, (b : Int), 46, 93] else [(b : Int)]
def runI (r : Nat × Nat) : List Int := wrI r.1 ++ (if r.1 = r.2 then [] else 45 :: wrI r.2)
def sg (l : List Int) : List Mk := l.map fun b => (b, false)
def notP (c : List Nat) : Bool := decide (c = noneL) || (hasL c 10 && !decide (notL c = noneL))
def inP (c : List Nat) : List Nat := if notP c = true then notL c else c
def runsP (c : List Nat) : List (Nat × Nat) := runsOf (elemsL (inP c))
def printI (c : List Nat) : List Int := 91 :: ((if notP c = true then [94] else []) ++ (runsP c).flatMap runI ++ [93])

/-- The signs X stand in l from i on. -/
def At (l : List Mk) (i : Nat) (X : List Int) : Prop := ∀ j, j < X.length → i + j < l.length ∧ l[i + j]?.getD (0, false) = (X[j]?.getD 0, false)
theorem At.left {l : List Mk} {i : Nat} {X Y : List Int} (h : At l i (X ++ Y)) : At l i X := fun j hj => by
  have := h j (by rw [List.length_append]; omega)
  rwa [List.getElem?_append_left hj] at this
theorem At.right {l : List Mk} {i : Nat} {X Y : List Int} (h : At l i (X ++ Y)) : At l (i + X.length) Y := fun j hj => by
  have := h (X.length + j) (by rw [List.length_append]; omega)
  rw [List.getElem?_append_right (by omega), Nat.add_sub_cancel_left, ← Nat.add_assoc] at this
  exact this
theorem At.tail {l : List Mk} {i : Nat} {x : Int} {Y : List Int} (h : At l i (x :: Y)) : At l (i + 1) Y := At.right (X := [x]) h
theorem At.lt {l : List Mk} {i : Nat} {X : List Int} (h : At l i X) (j : Nat) (hj : j < X.length) : i + j < l.length := (h j hj).1
theorem At.sgn {l : List Mk} {i : Nat} {X : List Int} (h : At l i X) (j : Nat) (hj : j < X.length) (b : Int) : sgn l (i + j) b = decide (X[j]?.getD 0 = b) := by
  obtain ⟨h1, h2⟩ := h j hj
  unfold Go.Proofs.YthegepiafodpjaaDoor.sgn
  rw [decide_eq_true h1, h2, Bool.true_and]
  simp
theorem At.byte {l : List Mk} {i : Nat} {X : List Int} (h : At l i X) (j : Nat) (hj : j < X.length) : byteM l (i + j) = X[j]?.getD 0 := by unfold byteM; rw [(h j hj).2]
theorem At.over {l : List Mk} {i : Nat} {X : List Int} (h : At l i X) (j : Nat) (hj : j < X.length) : over l (i + j) = false := decide_eq_false (by have := h.lt j hj; omega)
theorem At.mk (A B : List Mk) (X : List Int) : At (A ++ sg X ++ B) A.length X := fun j hj => by
  have hs : (sg X).length = X.length := by simp [sg]
  refine ⟨by simp [hs]; omega, ?_⟩
  rw [List.append_assoc, List.getElem?_append_right (by omega), Nat.add_sub_cancel_left, List.getElem?_append_left (by omega)]
  simp [sg, hj]
theorem At.sgn0 {l : List Mk} {i : Nat} {x : Int} {Y : List Int} (h : At l i (x :: Y)) (b : Int) : Go.Proofs.YthegepiafodpjaaDoor.sgn l i b = decide (x = b) := h.sgn 0 (by simp) b

theorem thing_wr {l : List Mk} {i b : Nat} (op : Nat) (h : At l i (wrI b)) : thingM l op i = .ok (ofL [(b : Int)]) true (b : Int) (i + (wrI b).length) := by
  unfold wrI at h ⊢
  by_cases ho : oddB b = true
  · rw [if_pos ho] at h ⊢
    have s0 := fun b => h.sgn 0 (by simp) b
    have s1 := fun b => h.sgn 1 (by simp) b
    have s3 := fun b => h.sgn 3 (by simp) b
    have s4 := fun b => h.sgn 4 (by simp) b
    have o0 := h.over 0 (by simp)
    have o3 := h.over 3 (by simp)
    have o4 := h.over 4 (by simp)
    have b2 := h.byte 2 (by simp)
    simp only [Nat.add_zero, List.getElem?_cons_zero, List.getElem?_cons_succ, Option.getD_some] at s0 s1 s3 s4 o0 o3 o4 b2
    have hk : kindM l i = 46 := by unfold kindM; rw [s0, s1, s1, s1]; rfl
    unfold thingM
    rw [o0, hk, o3, s3, o4, s4, b2]
    rfl
  · rw [if_neg ho] at h ⊢
    have s0 := fun b => h.sgn 0 (by simp) b
    have o0 := h.over 0 (by simp)
    have b0 := h.byte 0 (by simp)
    simp only [Nat.add_zero, List.getElem?_cons_zero, Option.getD_some] at s0 o0 b0
    have h91 : ((b : Int) = 91) = False := by
      simp only [eq_iff_iff, iff_false]
      intro e
      have : b = 91 := by omega
      subst this
      exact ho rfl
    have hk : kindM l i = 0 := by unfold kindM; rw [s0]; simp [h91]
    unfold thingM
    rw [o0, hk, b0]
    rfl
/-- What is written never begins so. -/
theorem wr_head (b : Nat) : ∃ x Y, wrI b = x :: Y ∧ x ≠ 45 ∧ x ≠ 93 ∧ x ≠ 94 := by
  unfold wrI
  by_cases ho : oddB b = true
  · rw [if_pos ho]; exact ⟨91, _, rfl, by decide, by decide, by decide⟩
  · rw [if_neg ho]
    unfold oddB at ho
    simp only [Bool.or_eq_true, decide_eq_true_eq, not_or] at ho
    exact ⟨(b : Int), [], rfl, by omega, by omega, by omega⟩
theorem wr_len (b : Nat) : 1 ≤ (wrI b).length := by unfold wrI; split <;> simp
theorem of_range (b : Nat) (hb : b < 256) : ofL [(b : Int)] = rangeL b b := ext_c _ _ (isC_ofL _) (isC_rangeL _ _) fun x _ => by
  rw [has_of1 b x hb, has_rangeL b b x hb]
  simp only [decide_eq_decide]
  omega
theorem item_run {l : List Mk} {i z : Nat} {r : Nat × Nat} (op : Nat) (first : Bool) (zi : Int) (_ : z = z) (h : At l i (runI r ++ [zi])) (hz : zi ≠ 45) (h1 : r.1 ≤ r.2) (h2 : r.2 < 256) : ∃ fin v, itemM l op i first = .ok (rangeL r.1 r.2) fin v (i + (runI r).length) := by
  obtain ⟨x, Y, hw, hx, -, -⟩ := wr_head r.1
  have hlo := h.left
  unfold runI at hlo
  have ht := thing_wr op hlo.left
  have hs0 : sgn l i 45 = false := by
    have := hlo.left
    rw [hw] at this
    rw [this.sgn0]
    exact decide_eq_false hx
  unfold itemM
  rw [hs0, ht]
  simp only [Bool.false_and, Bool.false_eq_true, if_false]
  by_cases he : r.1 = r.2
  · have hr : runI r = wrI r.1 := by unfold runI; rw [if_pos he, List.append_nil]
    rw [hr] at h ⊢
    have hn := h.right.sgn0 45
    rw [hn, decide_eq_false hz]
    simp only [Bool.not_false, Bool.true_or, if_true]
    exact ⟨_, _, by rw [← he, of_range r.1 (by omega)]⟩
  · have hr : runI r = wrI r.1 ++ 45 :: wrI r.2 := by unfold runI; rw [if_neg he]
    rw [hr] at h ⊢
    have h45 := h.left.right
    obtain ⟨x2, Y2, hw2, -, hx2, -⟩ := wr_head r.2
    have hn := h45.sgn0 45
    have hn2 : sgn l (i + (wrI r.1).length + 1) 93 = false := by
      have := h45.tail
      rw [hw2] at this
      rw [this.sgn0]
      exact decide_eq_false hx2
    have ho : over l (i + (wrI r.1).length + 1) = false := h45.tail.over 0 (wr_len r.2)
    have ht2 := thing_wr op h45.tail
    rw [hn, hn2, ho, ht2]
    simp only [decide_true, Bool.not_true, Bool.or_self, Bool.false_eq_true, if_false, Bool.true_eq_false]
    rw [if_neg (by simp; omega)]
    refine ⟨false, 0, ?_⟩
    congr 1
    simp only [List.length_append, List.length_cons]
    omega
theorem items_runs {l : List Mk} (op first : Nat) : ∀ (rs : List (Nat × Nat)) (f i : Nat) (set : List Nat), (∀ r ∈ rs, r.1 ≤ r.2 ∧ r.2 < 256) → At l i (rs.flatMap runI ++ [93]) → rs.length < f → (rs ≠ [] ∨ i ≠ first) → first ≤ i →
    itemsM l op first f i set = .ok (rs.foldl (fun s r => orL s (rangeL r.1 r.2)) set) false 0 (i + (rs.flatMap runI).length)
  | [], f, i, set, _, h, hf, hne, _ => by
    obtain ⟨f, rfl⟩ : ∃ g, f = g + 1 := ⟨f - 1, by simp at hf; omega⟩
    have hi : i ≠ first := hne.resolve_left (fun h => h rfl)
    have hs := h.sgn0 93
    unfold itemsM
    rw [hs, decide_eq_false hi]
    rfl
  | r :: rs, f, i, set, hr, h, hf, _, hfi => by
    obtain ⟨f, rfl⟩ : ∃ g, f = g + 1 := ⟨f - 1, by simp at hf; omega⟩
    rw [List.flatMap_cons, List.append_assoc] at h
    obtain ⟨zi, Z, hzz, hz⟩ : ∃ zi Z, rs.flatMap runI ++ [93] = zi :: Z ∧ zi ≠ 45 := by
      cases rs with
      | nil => exact ⟨93, [], rfl, by decide⟩
      | cons s rs =>
        obtain ⟨x, Y, hw, hx, -, -⟩ := wr_head s.1
        exact ⟨x, _, by rw [List.flatMap_cons, runI, hw]; rfl, hx⟩
    obtain ⟨h1, h2⟩ := hr r (List.mem_cons_self ..)
    have hA : At l i (runI r ++ [zi]) := by
      rw [hzz] at h
      rw [show runI r ++ zi :: Z = (runI r ++ [zi]) ++ Z by simp] at h
      exact h.left
    obtain ⟨fin, v, hit⟩ := item_run (z := 0) op (decide (i = first)) zi rfl hA hz h1 h2
    have hs : sgn l i 93 = false := by
      obtain ⟨x, Y, hw, -, hx, -⟩ := wr_head r.1
      have := h.left
      unfold runI at this
      have := this.left
      rw [hw] at this
      rw [this.sgn0]
      exact decide_eq_false hx
    have hlen : 1 ≤ (runI r).length := by unfold runI; have := wr_len r.1; rw [List.length_append]; omega
    unfold itemsM
    rw [hs, Bool.and_false, if_neg (by decide), hit]
    simp only
    rw [items_runs op first rs f (i + (runI r).length) _ (fun s hs => hr s (List.mem_cons_of_mem _ hs)) h.right (by simp at hf; omega) (.inr (by omega)) (by omega)]
    rw [List.foldl_cons, List.flatMap_cons, List.length_append, Nat.add_assoc]
theorem none_has {c : List Nat} (hc : IsC c) (h : ∀ x, x < 256 → hasL c x = false) : c = noneL := ext_c _ _ hc isC_none fun x hx => by rw [h x hx, has_none]
theorem inP_isC (c : List Nat) (hc : IsC c) : IsC (inP c) := by
  unfold inP
  split
  · exact isC_not _ hc
  · exact hc
theorem inP_ne (c : List Nat) (hc : IsC c) : inP c ≠ noneL := by
  unfold inP
  by_cases h : notP c = true
  · rw [if_pos h]
    unfold notP at h
    rw [Bool.or_eq_true, Bool.and_eq_true] at h
    rcases h with h | ⟨_, h⟩
    · have := of_decide_eq_true h
      subst this
      intro e
      have h2 := has_not noneL isC_none 0 (by omega)
      rw [e, has_none] at h2
      cases h2
    · simpa using h
  · rw [if_neg h]
    intro e
    subst e
    exact h rfl
theorem runsP_ne (c : List Nat) (hc : IsC c) : runsP c ≠ [] := by
  intro e
  have := joinR_all (inP c) (inP_isC c hc)
  unfold runsP at e
  rw [e] at this
  exact inP_ne c hc this.symm
theorem runsP_ok (c : List Nat) : ∀ r ∈ runsP c, r.1 ≤ r.2 ∧ r.2 < 256 := fun r hr => by
  obtain ⟨i, hi, e⟩ := List.mem_iff_getElem.1 hr
  exact run_is (inP c) i r (by rw [show runsOf (elemsL (inP c)) = runsP c from rfl, List.getElem?_eq_getElem hi, e])
theorem notL_twice (c : List Nat) (hc : IsC c) : notL (notL c) = c := ext_c _ _ (isC_not _ (isC_not _ hc)) hc fun x hx => by rw [has_not _ (isC_not _ hc) x hx, has_not _ hc x hx, Bool.not_not]
/-- P4.3: what is written is read back, among any marks. -/
theorem back_print (c : List Nat) (hc : IsC c) (A B : List Mk) : parseB (A ++ sg (printI c) ++ B) (A.length : Int) = (c, (A.length : Int) + ((printI c).length : Int), 0) := by
  have h := At.mk A B (printI c)
  obtain ⟨L, hL⟩ : ∃ L, A ++ sg (printI c) ++ B = L := ⟨_, rfl⟩
  have hlen : (printI c).length ≤ L.length := by rw [← hL]; simp [sg]; omega
  rw [hL] at h ⊢
  obtain ⟨n, hn⟩ : ∃ n, A.length = n := ⟨_, rfl⟩
  rw [hn] at h ⊢
  clear hL hn
  have h0 : sgn L n 91 = true := by unfold printI at h; rw [h.sgn0]; rfl
  unfold parseB
  rw [if_neg (by simp [h0]), show ((n : Int)).toNat = n by simp]
  simp only
  have hT : At L (n + 1) ((if notP c = true then [94] else []) ++ (runsP c).flatMap runI ++ [93]) := h.tail
  have hne := runsP_ne c hc
  obtain ⟨r, rs, hrs⟩ : ∃ r rs, runsP c = r :: rs := by cases hh : runsP c with | nil => exact absurd hh hne | cons r rs => exact ⟨r, rs, rfl⟩
  have hjoin : (runsP c).foldl (fun s r => orL s (rangeL r.1 r.2)) noneL = inP c := joinR_all (inP c) (inP_isC c hc)
  have hrl : (runsP c).length ≤ ((runsP c).flatMap runI).length := by
    have : ∀ l : List (Nat × Nat), l.length ≤ (l.flatMap runI).length := fun l => by
      induction l with
      | nil => exact Nat.le_refl _
      | cons r l ih =>
        have h1 : 1 ≤ (runI r).length := by
          unfold runI
          have := wr_len r.1
          rw [List.length_append]
          omega
        rw [List.flatMap_cons, List.length_append, List.length_cons]
        omega
    exact this _
  by_cases hp : notP c = true
  · rw [if_pos hp] at hT
    have hs : sgn L (n + 1) 94 = true := by rw [show [(94 : Int)] ++ (runsP c).flatMap runI ++ [93] = 94 :: ((runsP c).flatMap runI ++ [93]) from rfl] at hT; rw [hT.sgn0]; rfl
    have hpl : (printI c).length = ((runsP c).flatMap runI).length + 3 := by unfold printI; rw [if_pos hp]; simp
    rw [hs]
    simp only [if_true]
    have hT2 : At L (n + 2) ((runsP c).flatMap runI ++ [93]) := by
      rw [show [(94 : Int)] ++ (runsP c).flatMap runI ++ [93] = 94 :: ((runsP c).flatMap runI ++ [93]) from rfl] at hT
      exact hT.tail
    rw [items_runs n (n + 2) (runsP c) (L.length + 1) (n + 2) noneL (runsP_ok c) hT2 (by omega) (.inl hne) (Nat.le_refl _), hjoin]
    simp only
    rw [hpl, show inP c = notL c by unfold inP; rw [if_pos hp], notL_twice c hc]
    simp only [Prod.mk.injEq, true_and, and_true]
    omega
  · rw [if_neg hp] at hT
    have hs : sgn L (n + 1) 94 = false := by
      obtain ⟨x, Y, hw, -, -, hx⟩ := wr_head r.1
      rw [List.nil_append, hrs, List.flatMap_cons, runI, hw] at hT
      have hT3 := hT.left.left.left
      rw [hT3.sgn0]
      exact decide_eq_false hx
    have hpl : (printI c).length = ((runsP c).flatMap runI).length + 2 := by unfold printI; rw [if_neg hp]; simp
    rw [hs]
    simp only [Bool.false_eq_true, if_false]
    rw [List.nil_append] at hT
    rw [items_runs n (n + 1) (runsP c) (L.length + 1) (n + 1) noneL (runsP_ok c) hT (by omega) (.inl hne) (Nat.le_refl _), hjoin]
    simp only
    rw [hpl, show inP c = c by unfold inP; rw [if_neg hp]]
    simp only [Prod.mk.injEq, true_and, and_true]
    omega
theorem run_has (c : List Nat) (hc : IsC c) (r : Nat × Nat) (hr : r ∈ runsP c) : hasL (inP c) r.1 = true ∧ hasL (inP c) r.2 = true := by
  obtain ⟨h1, h2⟩ := runsP_ok c r hr
  have hj := (joinR_both (runsP c) (fun r hr => by have := runsP_ok c r hr; exact ⟨by omega, this.2⟩)).2
  have he : joinR (runsP c) = inP c := joinR_all (inP c) (inP_isC c hc)
  rw [he] at hj
  exact ⟨(hj r.1 (by omega)).2 ⟨r, hr, Nat.le_refl _, h1⟩, (hj r.2 h2).2 ⟨r, hr, h1, Nat.le_refl _⟩⟩
theorem all_runs : runsOf (elemsL (notL noneL)) = [(0, 255)] := by decide +kernel
theorem inP_ten (c : List Nat) (hc : IsC c) (h : hasL (inP c) 10 = true) : inP c = notL noneL := by
  unfold inP at h ⊢
  by_cases hp : notP c = true
  · rw [if_pos hp] at h ⊢
    rw [has_not c hc 10 (by omega)] at h
    unfold notP at hp
    rw [Bool.or_eq_true, Bool.and_eq_true] at hp
    rcases hp with hp | ⟨hp, _⟩
    · rw [of_decide_eq_true hp]
    · rw [hp] at h; cases h
  · rw [if_neg hp] at h ⊢
    unfold notP at hp
    rw [h] at hp
    simp only [Bool.true_and, Bool.or_eq_true, Bool.not_eq_true', decide_eq_true_eq, decide_eq_false_iff_not, not_or, Classical.not_not] at hp
    rw [← hp.2, notL_twice c hc]
theorem run_ten (c : List Nat) (hc : IsC c) (r : Nat × Nat) (hr : r ∈ runsP c) : r.1 ≠ 10 ∧ r.2 ≠ 10 := by
  by_cases h : hasL (inP c) 10 = true
  · have := inP_ten c hc h
    unfold runsP at hr
    rw [this, all_runs, List.mem_singleton] at hr
    subst hr
    exact ⟨by decide, by decide⟩
  · obtain ⟨h1, h2⟩ := run_has c hc r hr
    exact ⟨fun e => h (e ▸ h1), fun e => h (e ▸ h2)⟩
theorem wr_ten (b : Nat) (hb : b < 256) (h : b ≠ 10) : ∀ x ∈ wrI b, x ≠ 10 ∧ 0 ≤ x ∧ x ≤ 255 := by
  intro x hx
  unfold wrI at hx
  split at hx
  · simp only [List.mem_cons, List.not_mem_nil, or_false] at hx
    rcases hx with rfl | rfl | rfl | rfl | rfl
    all_goals exact ⟨by omega, by omega, by omega⟩
  · rw [List.mem_singleton] at hx
    subst hx
    exact ⟨by omega, by omega, by omega⟩
/-- None of its marks is a line end. -/
theorem print_no10 (c : List Nat) (hc : IsC c) : ∀ x ∈ printI c, x ≠ 10 ∧ 0 ≤ x ∧ x ≤ 255 := by
  intro x hx
  unfold printI at hx
  rcases List.mem_cons.1 hx with rfl | hx
  · exact ⟨by decide, by decide, by decide⟩
  · rcases List.mem_append.1 hx with hx | hx
    · rcases List.mem_append.1 hx with hx | hx
      · split at hx
        · rw [List.mem_singleton] at hx; subst hx; exact ⟨by decide, by decide, by decide⟩
        · cases hx
      · obtain ⟨r, hr, hx⟩ := List.mem_flatMap.1 hx
        obtain ⟨h1, h2⟩ := runsP_ok c r hr
        obtain ⟨t1, t2⟩ := run_ten c hc r hr
        unfold runI at hx
        rcases List.mem_append.1 hx with hx | hx
        · exact wr_ten r.1 (by omega) t1 x hx
        · split at hx
          · cases hx
          · rcases List.mem_cons.1 hx with rfl | hx
            · exact ⟨by decide, by decide, by decide⟩
            · exact wr_ten r.2 h2 t2 x hx
    · rw [List.mem_singleton] at hx; subst hx; exact ⟨by decide, by decide, by decide⟩
end Go.Proofs.YthegepiafodpjaaDoor

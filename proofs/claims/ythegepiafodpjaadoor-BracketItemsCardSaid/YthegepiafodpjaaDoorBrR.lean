/-
  galleyref04: byteOf, Print: the canonical bracket by definition.
-/
import Derived.Test.YthegepiafodpjaaDoorBrX0
import Derived.Test.YthegepiafodpjaaDoorRefSize
import Derived.Test.YthegepiafodpjaaDoorMakesR
import Derived.BigQuiet
namespace Go.Proofs.YthegepiafodpjaaDoor
open Go.RowKit

/-- Some marks, just laid. -/
theorem OwnM.lit (w : World) (l : List Mk) (cs : Array Value) (n : Nat) (hcs : cs = (mkCells l).toArray) (hn : n = l.length) (hs : n ≤ 1000) (base : Nat) (hb : base ≤ w.heap.size) : OwnM (w.alloc (.cells cs 35)) base (.slice (some ⟨w.heap.size, 0, none⟩) n n) l := by
  subst hcs hn
  have hl := mkCells_len l
  refine ⟨hl, .inr ⟨w.heap.size, l.length, (mkCells l).toArray, rfl, hb, heap_alloc_new w _, Nat.le_refl _, by unfold maxLen; omega, by simp [hl], ?_⟩⟩
  simp only
  rw [List.take_of_length_le (by rw [hl]; exact Nat.le_refl _)]
def ByteOfPost (w : World) (l : List Int) (e : Ending) (w' : World) : Prop := ∃ ad, e = .returned (.slice (some ad) l.length l.length) ∧ OwnM w' w.heap.size (.slice (some ad) l.length l.length) (sg l) ∧ Below w.heap.size w w'
theorem byteOf_post (w : World) (l : List Int) (n : Nat) (cs : Array Value) (e : Ending) (he : e = .returned (.slice (some ⟨w.heap.size, 0, none⟩) n n)) (hn : n = l.length) (hs : n ≤ 1000) (h : cs = (mkCells (sg l)).toArray) :
    ByteOfPost w l e (w.alloc (.cells cs 35)) := by
  have ho := OwnM.lit w (sg l) cs n h (by rw [hn, sg_len]) hs w.heap.size (Nat.le_refl _)
  subst hn
  exact ⟨_, he, ho, box1 _ _⟩

set_option maxHeartbeats 1000000 in
set_option maxRecDepth 100000 in
theorem byteOf_any (w : World) (b : Nat) (h1 : b ≤ 255) : Calls Tryd.prog 42 #[.int .u8 (b : Int)] w (ByteOfPost w (wrI b)) := by
  have HO : Hid (oddB b = true → wrI b = [91, 46, (b : Int), 46, 93]) := Lib.hid (fun h => by unfold wrI; rw [if_pos h])
  have HN : Hid ((b : Int) ≠ 91 → (b : Int) ≠ 93 → (b : Int) ≠ 45 → (b : Int) ≠ 94 → wrI b = [(b : Int)]) := Lib.hid (fun a1 a2 a3 a4 => by
    unfold wrI
    rw [if_neg (by unfold oddB; simp; omega)])
  obtain ⟨x, hx⟩ : ∃ x : Int, (b : Int) = x := ⟨_, rfl⟩
  have HX : Hid (x = 91 ∨ x = 93 ∨ x = 45 ∨ x = 94 → oddB b = true) := Lib.hid (fun h => by unfold oddB; simp; omega)
  rw [hx] at HO HN ⊢
  clear hx h1
  go_enter Tryd.func42, Tryd.ntmps42
  by_cases h1 : x = 91
  · have HE := Lib.hid (HO.out (HX.out (.inl h1)))
    subst h1
    go_wp2_with fail
    go_ret
    rw [HE.out]
    exact byteOf_post w _ 5 _ _ rfl rfl (by decide) rfl
  · have e1 : (x == 91) = false := beq_eq_false_iff_ne.2 h1
    by_cases h2 : x = 93
    · have HE := Lib.hid (HO.out (HX.out (.inr (.inl h2))))
      subst h2
      clear h1
      go_wp2_with fail
      go_ret
      rw [HE.out]
      exact byteOf_post w _ 5 _ _ rfl rfl (by decide) rfl
    · have e2 : (x == 93) = false := beq_eq_false_iff_ne.2 h2
      by_cases h3 : x = 45
      · have HE := Lib.hid (HO.out (HX.out (.inr (.inr (.inl h3)))))
        subst h3
        clear h1 h2
        go_wp2_with fail
        go_ret
        rw [HE.out]
        exact byteOf_post w _ 5 _ _ rfl rfl (by decide) rfl
      · have e3 : (x == 45) = false := beq_eq_false_iff_ne.2 h3
        by_cases h4 : x = 94
        · have HE := Lib.hid (HO.out (HX.out (.inr (.inr (.inr h4)))))
          subst h4
          clear h1 h2 h3
          go_wp2_with fail
          go_ret
          rw [HE.out]
          exact byteOf_post w _ 5 _ _ rfl rfl (by decide) rfl
        · have e4 : (x == 94) = false := beq_eq_false_iff_ne.2 h4
          have HE := Lib.hid (HN.out h1 h2 h3 h4)
          clear h1 h2 h3 h4
          go_wp2_with fail
          go_ret
          rw [HE.out]
          exact byteOf_post w _ 1 _ _ rfl rfl (by decide) rfl

theorem isM_sg4 (l : List Int) (h : l.all (fun x => decide (0 ≤ x ∧ x ≤ 255)) = true) : IsM (sg l) := by
  intro i
  unfold sg
  rw [List.getElem?_map]
  by_cases hi : i < l.length
  · rw [List.all_eq_true] at h
    have := h l[i] (List.getElem_mem hi)
    rw [List.getElem?_eq_getElem hi]
    simpa using this
  · rw [List.getElem?_eq_none (by omega)]
    exact ⟨by decide, by decide⟩
theorem cnt_zero (a : List Nat) : ∀ k, cntL a k = 0 → ∀ x, x < k → hasL a x = false
  | 0, _, x, hx => absurd hx (Nat.not_lt_zero _)
  | k + 1, h, x, hx => by
    rw [cnt_step] at h
    by_cases e : x = k
    · subst e
      cases hh : hasL a x with
      | false => rfl
      | true => rw [hh] at h; simp at h
    · exact cnt_zero a k (by omega) x (by omega)
theorem cnt_full (a : List Nat) : ∀ k, cntL a k = k → ∀ x, x < k → hasL a x = true
  | 0, _, x, hx => absurd hx (Nat.not_lt_zero _)
  | k + 1, h, x, hx => by
    have hl := cnt_le a k
    rw [cnt_step] at h
    by_cases e : x = k
    · subst e
      cases hh : hasL a x with
      | true => rfl
      | false => rw [hh] at h; simp at h; omega
    · exact cnt_full a k (by split at h <;> omega) x (by omega)
theorem cnt_none : cntL noneL 256 = 0 := by decide +kernel
theorem cnt_all : cntL (notL noneL) 256 = 256 := by decide +kernel
theorem size_zero (c : List Nat) (hc : IsC c) : cntL c 256 = 0 ↔ c = noneL := by
  constructor
  · intro h
    exact none_has hc (cnt_zero c 256 h)
  · rintro rfl
    exact cnt_none
theorem size_full (c : List Nat) (hc : IsC c) : cntL c 256 = 256 ↔ notL c = noneL := by
  constructor
  · intro h
    refine none_has (isC_not _ hc) fun x hx => ?_
    rw [has_not _ hc x hx, cnt_full c 256 h x hx]
    rfl
  · intro h
    have : c = notL noneL := by rw [← h, notL_twice c hc]
    rw [this]
    exact cnt_all
theorem range_all : rangeL 0 255 = notL noneL := by decide +kernel
end Go.Proofs.YthegepiafodpjaaDoor

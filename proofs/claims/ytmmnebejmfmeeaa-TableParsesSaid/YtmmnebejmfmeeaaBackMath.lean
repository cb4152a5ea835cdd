/-
  Plain facts on tables, the bytes that do not stay, and what undoes a table.
-/
import Derived.Test.YtmmnebejmfmeeaaPrint
import Derived.Test.YtmmnebejmfmeeaaNew
namespace Go.Proofs.Ytmmnebejmfmeeaa

/-- What newT reads of longer rows. -/
theorem newT_snoc (a b : List Int) (x y : Int) (hl : a.length = b.length) : ∀ k, k ≤ a.length → newT (a ++ [x]) (b ++ [y]) k = newT a b k
  | 0, _ => rfl
  | k + 1, h => by
    rw [newT, newT, newT_snoc a b x y hl k (by omega), List.getElem?_append_left (by omega), List.getElem?_append_left (by omega)]

theorem newT_last (a b : List Int) (x y : Int) (hl : a.length = b.length) : newT (a ++ [x]) (b ++ [y]) (a ++ [x]).length = (newT a b a.length).set x.toNat y := by
  rw [List.length_append, List.length_singleton, newT, newT_snoc a b x y hl _ (Nat.le_refl _)]
  rw [List.getElem?_append_right (Nat.le_refl _), List.getElem?_append_right (by omega), Nat.sub_self, hl, Nat.sub_self]
  rfl

theorem pf_lt (t : List Int) : ∀ k, ∀ x ∈ pfTo t k, 0 ≤ x ∧ x < k
  | 0, x, h => by simp [pfTo] at h
  | k + 1, x, h => by
    rw [pfTo] at h
    split at h
    · have := pf_lt t k x h; omega
    · rw [List.mem_append, List.mem_singleton] at h
      rcases h with h | h
      · have := pf_lt t k x h; omega
      · omega

theorem pf_nodup (t : List Int) : ∀ k, (pfTo t k).Nodup
  | 0 => by simp [pfTo]
  | k + 1 => by
    rw [pfTo]
    split
    · exact pf_nodup t k
    · exact nodup_snoc _ _ (pf_nodup t k) fun h => by have := pf_lt t k _ h; omega

/-- Behind k bytes: those below k go where t says, the others stay. -/
theorem new_print (t : List Int) : ∀ k, k ≤ 256 → ∀ j, j < 256 → (newT (pfTo t k) (ptTo t k) (pfTo t k).length)[j]?.getD 0 = if j < k then t[j]?.getD 0 else (j : Int)
  | 0, _, j, hj => by
    rw [if_neg (by omega)]
    exact iden_get j hj
  | k + 1, h, j, hj => by
    have ih := new_print t k (by omega)
    rw [pfTo, ptTo]
    by_cases hs : t[k]?.getD 0 = (k : Int)
    · rw [if_pos hs, if_pos hs, ih j hj]
      by_cases hjk : j = k
      · subst hjk; rw [if_neg (by omega), if_pos (by omega), hs]
      · by_cases hlt : j < k
        · rw [if_pos hlt, if_pos (by omega)]
        · rw [if_neg hlt, if_neg (by omega)]
    · rw [if_neg hs, if_neg hs, newT_last _ _ _ _ (ptTo_len t k).symm, List.getElem?_set]
      split
      · rename_i e
        have hjk : j = k := by omega
        subst hjk
        rw [if_pos (by rw [newT_len]; omega), if_pos (by omega)]; rfl
      · rename_i e
        rw [ih j hj]
        have hjk : j ≠ k := by omega
        by_cases hlt : j < k
        · rw [if_pos hlt, if_pos (by omega)]
        · rw [if_neg hlt, if_neg (by omega)]

theorem newT_print (t : List Int) (ht : t.length = 256) : newT (pfTo t 256) (ptTo t 256) (pfTo t 256).length = t :=
  ext_of _ _ (by rw [newT_len, ht]) fun j hj => by
    rw [newT_len] at hj
    rw [new_print t 256 (Nat.le_refl _) j hj, if_pos hj]

theorem newOut_print (t : List Int) (ht : t.length = 256) : newOut (pfTo t 256) (ptTo t 256) = .tuple #[.agg (row t), .int .i64 0] := by
  rw [newOut_ok _ _ (ptTo_len t 256).symm (pf_nodup t 256), newT_print t ht]

/-- The rows rise, and have nothing that stays. -/
theorem pf_rises (t : List Int) : ∀ k, (∀ i : Nat, i < (pfTo t k).length → (pfTo t k)[i]?.getD 0 ≠ (ptTo t k)[i]?.getD 0) ∧ (∀ i : Nat, 0 < i → i < (pfTo t k).length → (pfTo t k)[i - 1]?.getD 0 < (pfTo t k)[i]?.getD 0)
  | 0 => ⟨fun i h => by simp [pfTo] at h, fun i _ h => by simp [pfTo] at h⟩
  | k + 1 => by
    obtain ⟨h1, h2⟩ := pf_rises t k
    have hl := ptTo_len t k
    by_cases hs : t[k]?.getD 0 = (k : Int)
    · have e1 : pfTo t (k + 1) = pfTo t k := by rw [pfTo, if_pos hs]
      have e2 : ptTo t (k + 1) = ptTo t k := by rw [ptTo, if_pos hs]
      rw [e1, e2]; exact ⟨h1, h2⟩
    · have e1 : pfTo t (k + 1) = pfTo t k ++ [(k : Int)] := by rw [pfTo, if_neg hs]
      have e2 : ptTo t (k + 1) = ptTo t k ++ [t[k]?.getD 0] := by rw [ptTo, if_neg hs]
      rw [e1, e2]
      refine ⟨fun i hi => ?_, fun i h0 hi => ?_⟩
      · rw [List.length_append, List.length_singleton] at hi
        by_cases hlt : i < (pfTo t k).length
        · rw [List.getElem?_append_left hlt, List.getElem?_append_left (by omega)]
          exact h1 i hlt
        · have hi' : i = (pfTo t k).length := by omega
          rw [List.getElem?_append_right (by omega), List.getElem?_append_right (by omega), hi', hl, Nat.sub_self]
          simpa using fun e => hs e.symm
      · rw [List.length_append, List.length_singleton] at hi
        by_cases hlt : i < (pfTo t k).length
        · rw [List.getElem?_append_left hlt, List.getElem?_append_left (by omega)]
          exact h2 i h0 hlt
        · have hi' : i = (pfTo t k).length := by omega
          rw [List.getElem?_append_left (by omega), List.getElem?_append_right (by omega), hi', Nat.sub_self]
          have hm : (pfTo t k)[(pfTo t k).length - 1]?.getD 0 ∈ pfTo t k := by
            rw [List.getElem?_eq_getElem (by omega)]
            exact List.getElem_mem _
          have := pf_lt t k _ hm
          simpa using this.2

theorem pt_sub (t : List Int) (ht : t.length = 256) : ∀ k, k ≤ 256 → (ptTo t k).Sublist (t.take k)
  | 0, _ => by simp [ptTo]
  | k + 1, h => by
    rw [ptTo, take_snoc t k (by omega)]
    split
    · exact (pt_sub t ht k (by omega)).trans (List.sublist_append_left _ _)
    · exact List.Sublist.append (pt_sub t ht k (by omega)) (List.Sublist.refl _)

theorem nodup_at (t : List Int) (hn : t.Nodup) (i j : Nat) (hi : i < t.length) (hj : j < t.length) (hne : i ≠ j) : t[i]?.getD 0 ≠ t[j]?.getD 0 := by
  rw [List.getElem?_eq_getElem hi, List.getElem?_eq_getElem hj]
  rcases Nat.lt_or_gt_of_ne hne with h | h
  · exact List.pairwise_iff_getElem.1 hn i j hi hj h
  · exact fun e => List.pairwise_iff_getElem.1 hn j i hj hi h e.symm

theorem pt_mem (t : List Int) : ∀ k, ∀ x ∈ ptTo t k, ∃ i : Nat, i < k ∧ x = t[i]?.getD 0 ∧ t[i]?.getD 0 ≠ (i : Int)
  | 0, x, h => by simp [ptTo] at h
  | k + 1, x, h => by
    rw [ptTo] at h
    split at h
    · obtain ⟨i, h1, h2⟩ := pt_mem t k x h
      exact ⟨i, by omega, h2⟩
    · rename_i hs
      rw [List.mem_append, List.mem_singleton] at h
      rcases h with h | h
      · obtain ⟨i, h1, h2⟩ := pt_mem t k x h
        exact ⟨i, by omega, h2⟩
      · exact ⟨k, by omega, h, hs⟩

/-- New answers some table, with OK or ErrTable. -/
theorem newOut_any (a b : List Int) : ∃ l f, newOut a b = .tuple #[.agg (row l), .int .i64 f] ∧ l.length = 256 ∧ (f = 0 ∨ f = 60) := by
  by_cases h : a.length = b.length ∧ a.Nodup
  · exact ⟨_, 0, newOut_ok a b h.1 h.2, newT_len _ _ _, .inl rfl⟩
  · exact ⟨zrow, 60, if_neg h, zrow_len, .inr rfl⟩

/-- The rows exchanged undo a table in which no two bytes become one. -/
theorem back_step (t : List Int) (ht : t.length = 256) (hT : IsB t) (hn : t.Nodup) : ∀ k, k ≤ 256 →
    (∀ i : Nat, i < k → t[i]?.getD 0 ≠ (i : Int) → (newT (ptTo t k) (pfTo t k) (ptTo t k).length)[(t[i]?.getD 0).toNat]?.getD 0 = (i : Int)) ∧
    (∀ j : Nat, j < 256 → (j : Int) ∉ ptTo t k → (newT (ptTo t k) (pfTo t k) (ptTo t k).length)[j]?.getD 0 = (j : Int))
  | 0, _ => ⟨fun i h => by omega, fun j hj _ => iden_get j hj⟩
  | k + 1, h => by
    obtain ⟨h1, h2⟩ := back_step t ht hT hn k (by omega)
    by_cases hs : t[k]?.getD 0 = (k : Int)
    · have e1 : pfTo t (k + 1) = pfTo t k := by rw [pfTo, if_pos hs]
      have e2 : ptTo t (k + 1) = ptTo t k := by rw [ptTo, if_pos hs]
      rw [e1, e2]
      refine ⟨fun i hi hne => ?_, h2⟩
      have : i ≠ k := fun e => hne (e ▸ hs)
      exact h1 i (by omega) hne
    · have e1 : pfTo t (k + 1) = pfTo t k ++ [(k : Int)] := by rw [pfTo, if_neg hs]
      have e2 : ptTo t (k + 1) = ptTo t k ++ [t[k]?.getD 0] := by rw [ptTo, if_neg hs]
      rw [e1, e2, newT_last _ _ _ _ (ptTo_len t k)]
      have hk := hT k
      refine ⟨fun i hi hne => ?_, fun j hj hni => ?_⟩
      · rw [List.getElem?_set]
        by_cases hik : i = k
        · subst hik
          rw [if_pos rfl, if_pos (by rw [newT_len]; omega)]; rfl
        · have hd := nodup_at t hn i k (by omega) (by omega) hik
          have hb := hT i
          rw [if_neg (by omega)]
          exact h1 i (by omega) hne
      · rw [List.mem_append, List.mem_singleton] at hni
        rw [List.getElem?_set, if_neg (fun e => hni (.inr (by omega)))]
        exact h2 j hj (fun hm => hni (.inl hm))

/-- The table that undoes t. -/
def undo (t : List Int) : List Int := newT (ptTo t 256) (pfTo t 256) (ptTo t 256).length
theorem undo_len (t : List Int) : (undo t).length = 256 := newT_len _ _ _

theorem undo_at (t : List Int) (ht : t.length = 256) (hT : IsB t) (hn : t.Nodup) (i : Nat) (hi : i < 256) : (undo t)[(t[i]?.getD 0).toNat]?.getD 0 = (i : Int) := by
  obtain ⟨h1, h2⟩ := back_step t ht hT hn 256 (Nat.le_refl _)
  by_cases hs : t[i]?.getD 0 = (i : Int)
  · rw [hs]
    refine h2 i hi fun hm => ?_
    obtain ⟨j, hj, e, hne⟩ := pt_mem t 256 _ hm
    by_cases hij : i = j
    · subst hij; exact hne (e.symm)
    · exact nodup_at t hn i j (by omega) (by omega) hij (by rw [hs, ← e])
  · exact h1 i hi hs

theorem app_undo (t b : List Int) (ht : t.length = 256) (hT : IsB t) (hn : t.Nodup) (hb : IsB b) : app (undo t) (app t b) = b :=
  ext_of _ _ (by rw [app_len, app_len]) fun j hj => by
    rw [app_len, app_len] at hj
    rw [app_get _ _ j (by rw [app_len]; exact hj), app_get t b j hj]
    have h := hb j
    rw [undo_at t ht hT hn _ (by omega)]
    omega

theorem newOut_undo (t : List Int) (ht : t.length = 256) (hn : t.Nodup) : newOut (ptTo t 256) (pfTo t 256) = .tuple #[.agg (row (undo t)), .int .i64 0] := by
  rw [newOut_ok _ _ (ptTo_len t 256) ?_]
  · rfl
  · have := pt_sub t ht 256 (Nat.le_refl _)
    rw [List.take_of_length_le (by omega)] at this
    exact List.Nodup.sublist this hn
end Go.Proofs.Ytmmnebejmfmeeaa

/-
  QuoteUnlike: the walk.
-/
import Derived.Test.YtboikhalfffioaaDoorWk2
namespace Go.Proofs.YtboikhalfffioaaDoor
open Go.RowKit

/-- The number that digits say. -/
def dval (l : List UInt8) : Nat := l.foldl (fun a c => a * 10 + (c.toNat - 48)) 0
theorem dval_dec (u : Nat) : dval (Lib.decDigits u) = u ∧ ∀ c ∈ Lib.decDigits u, 48 ≤ c.toNat := by
  induction u using Nat.strongRecOn with
  | ind u ih =>
    rw [Lib.decDigits]
    split
    · next h =>
      refine ⟨?_, fun c hc => ?_⟩
      · simp [dval]; omega
      · simp at hc; subst hc; simp; omega
    · next h =>
      obtain ⟨h1, h2⟩ := ih (u / 10) (by omega)
      refine ⟨?_, fun c hc => ?_⟩
      · unfold dval at h1 ⊢
        rw [List.foldl_append, h1]
        simp
        omega
      · rcases List.mem_append.1 hc with hc | hc
        · exact h2 c hc
        · simp at hc; subst hc; simp; omega
theorem dec_inj {u v : Nat} (h : Lib.decDigits u = Lib.decDigits v) : u = v := by rw [← (dval_dec u).1, h, (dval_dec v).1]
theorem itoa_inj {a b : Int} (h : Lib.itoa a = Lib.itoa b) : a = b := by
  unfold Lib.itoa at h
  have no45 : ∀ (u v : Nat), 45 :: Lib.decDigits u ≠ Lib.decDigits v := fun u v e => by
    have := (dval_dec v).2 45 (by rw [← e]; simp)
    simp at this
  split at h
  · split at h
    · have := dec_inj (List.cons.inj h).2
      omega
    · exact absurd h (no45 _ _)
  · split at h
    · exact absurd h.symm (no45 _ _)
    · have := dec_inj h
      omega
theorem words_inj : wordsL.all (fun p => wordsL.all fun q => !decide (p.2 = q.2) || decide (p.1 = q.1)) = true := by decide +kernel
theorem words_pre : wordsL.all (fun p => !decide (p.2.data.toList.take 6 = [101, 114, 114, 111, 114, 32]) && !decide (p.2.data.toList = [])) = true := by decide +kernel
/-- What a word is. -/
theorem word_is (e : Int) : (∃ p ∈ wordsL, p.1 = e ∧ wordB e = p.2) ∨ wordB e = ⟨#[101, 114, 114, 111, 114, 32]⟩ ++ ⟨(Lib.itoa e).toArray⟩ := by
  unfold wordB
  split
  · next p hp => exact .inl ⟨p, List.mem_of_find?_eq_some hp, by simpa using List.find?_some hp, rfl⟩
  · exact .inr rfl
theorem err_list (t : List UInt8) : ((⟨#[101, 114, 114, 111, 114, 32]⟩ : ByteArray) ++ ⟨t.toArray⟩).data.toList = [101, 114, 114, 111, 114, 32] ++ t := by
  rw [ByteArray.data_append]
  simp
theorem word_inj (a b : Int) (h : wordB a = wordB b) : a = b := by
  rcases word_is a with ⟨p, hp, rfl, h1⟩ | h1
  · rcases word_is b with ⟨q, hq, rfl, h2⟩ | h2
    · have := List.all_eq_true.1 (List.all_eq_true.1 words_inj p hp) q hq
      rw [h1, h2] at h
      simpa [h] using this
    · exfalso
      have := List.all_eq_true.1 words_pre p hp
      rw [h1, h2] at h
      rw [h, err_list] at this
      simp at this
  · rcases word_is b with ⟨q, hq, rfl, h2⟩ | h2
    · exfalso
      have := List.all_eq_true.1 words_pre q hq
      rw [h1, h2] at h
      rw [← h, err_list] at this
      simp at this
    · rw [h1, h2] at h
      have h3 := congrArg (fun b : ByteArray => b.data.toList) h
      simp only [err_list] at h3
      exact itoa_inj (List.append_cancel_left h3)
theorem word_ne (a : Int) : (wordB a).toList.isEmpty = false := by
  rw [Lib.toList_data]
  rcases word_is a with ⟨p, hp, rfl, h1⟩ | h1
  · have := List.all_eq_true.1 words_pre p hp
    rw [h1]
    rw [Bool.and_eq_true] at this
    have h2 : p.2.data.toList ≠ [] := fun e => by have h3 := this.2; rw [e] at h3; simp at h3
    cases hq : p.2.data.toList with
    | nil => exact absurd hq h2
    | cons x t => rfl
  · rw [h1, err_list]
    rfl

set_option maxHeartbeats 1000000 in
set_option maxRecDepth 100000 in
theorem unlike_any (w : World) (hw : W2 w) (a b : Int) (a0 : -9223372036854775808 ≤ a) (a1 : a ≤ 9223372036854775807) (b0 : -9223372036854775808 ≤ b) (b1 : b ≤ 9223372036854775807) :
    Calls Tryd.prog 7 #[.int .i64 a, .int .i64 b] w fun e w' => e = .returned (.bool true) ∧ Below w.heap.size w w' := by
  have HW := Lib.hid hw
  have HIJ := Lib.hid (word_inj a b)
  have HA := Lib.hid (word_any w hw.wd a a0 a1)
  have HBW := Lib.hid (fun w1 (h : W2 w1) => word_any w1 h.wd b b0 b1)
  have hne := word_ne a
  clear hw a0 a1 b0 b1
  go_enter Tryd.func7, Tryd.ntmps7
  obtain ⟨x, hx⟩ : ∃ x, wordB a = x := ⟨_, rfl⟩
  obtain ⟨y, hy⟩ : ∃ y, wordB b = y := ⟨_, rfl⟩
  have HX := Lib.hid (And.intro hx hy)
  rw [hx, hy] at HIJ
  rw [hx] at HA hne
  rw [hy] at HBW
  clear hx hy
  go_wp2_with (go_at_call 16; refine HA.out.mono ?_)
  rintro e w1 ⟨rfl, b1⟩
  have HB1 := Lib.hid b1
  clear b1 HA
  go_wp2_with (go_at_call 16; refine (HBW.out w1 (HW.out.below HB1.out)).mono ?_)
  rintro e w2 ⟨rfl, b2⟩
  have HB2 := Lib.hid (HB1.out.trans (b2.mono HB1.out.size))
  clear b2
  by_cases hab : a = b
  · have hxy : x = y := by rw [← HX.out.1, ← HX.out.2, hab]
    subst hab
    subst hxy
    have e1 : (x.toList == x.toList) = true := beq_self_eq_true _
    have HWK := Lib.hid (works_any w2 (HW.out.below HB2.out))
    go_wp2_with (go_at_call 15; refine HWK.out.mono ?_)
    rintro e w3 ⟨rfl, b3⟩
    have HB3 := Lib.hid (HB2.out.trans (b3.mono HB2.out.size))
    clear b3
    go_wp2_with fail
    go_ret
    exact ⟨rfl, HB3.out⟩
  · have e1 : (x.toList == y.toList) = false := by
      rw [Lib.toList_data, Lib.toList_data]
      refine beq_eq_false_iff_ne.2 fun h => hab (HIJ.out ?_)
      cases x with
      | mk d => cases y with
        | mk d' => simp at h; rw [h]
    have e2 : (a == b) = false := beq_eq_false_iff_ne.2 hab
    have HWK := Lib.hid (works_any w2 (HW.out.below HB2.out))
    clear hab
    go_wp2_with (go_at_call 15; refine HWK.out.mono ?_)
    rintro e w3 ⟨rfl, b3⟩
    have HB3 := Lib.hid (HB2.out.trans (b3.mono HB2.out.size))
    clear b3
    go_wp2_with fail
    go_ret
    exact ⟨rfl, HB3.out⟩
end Go.Proofs.YtboikhalfffioaaDoor

/-
  galleylaw02.plain: its walk; galleyref02.Unshow.
-/
import Derived.Test.YtboikhalfffioaaDoorGu
import Derived.Test.YtboikhalfffioaaDoorUn
namespace Go.Proofs.YtboikhalfffioaaDoor
open Go.RowKit

theorem plain_step (s : Bool) (x : UInt8) (t : List UInt8) (h : ¬ (x.toNat < 32 ∨ x.toNat = 127 ∨ (x.toNat = 34 ∧ s = false))) : plainF s (x :: t) = plainF (decide (x.toNat = 92) && !s) t := by
  rw [plainF, if_neg h]
theorem plain_bad (s : Bool) (x : UInt8) (t : List UInt8) (h : x.toNat < 32 ∨ x.toNat = 127 ∨ (x.toNat = 34 ∧ s = false)) : plainF s (x :: t) = false := by
  rw [plainF, if_pos h]
/-- The loop of plain. -/
structure PlI (body : List UInt8) (n k : Nat) (sl : Bool) : Prop where
  le : 1 ≤ k ∧ k + 1 ≤ n
  eq : plainF sl (body.drop (k - 1)) = true
  ln : body.length + 2 = n
theorem PlI.step {body : List UInt8} {n k : Nat} {sl : Bool} (h : PlI body n k sl) (hk : k + 1 < n) : ¬ ((body.getD (k - 1) 0).toNat < 32 ∨ (body.getD (k - 1) 0).toNat = 127 ∨ ((body.getD (k - 1) 0).toNat = 34 ∧ sl = false)) ∧ PlI body n (k + 1) (decide ((body.getD (k - 1) 0).toNat = 92) && !sl) := by
  have he := h.eq
  have hl := h.le
  have hn := h.ln
  rw [drop_cons body (k - 1) (by omega)] at he
  by_cases hb : (body.getD (k - 1) 0).toNat < 32 ∨ (body.getD (k - 1) 0).toNat = 127 ∨ ((body.getD (k - 1) 0).toNat = 34 ∧ sl = false)
  · rw [plain_bad _ _ _ hb] at he; cases he
  · rw [plain_step _ _ _ hb] at he
    exact ⟨hb, by omega, by rw [show k + 1 - 1 = k - 1 + 1 by omega]; exact he, hn⟩
theorem PlI.done {body : List UInt8} {n k : Nat} {sl : Bool} (h : PlI body n k sl) (hk : ¬ k + 1 < n) : sl = false := by
  have he := h.eq
  have hl := h.le
  have hn := h.ln
  rw [List.drop_eq_nil_of_le (by omega)] at he
  simpa [plainF] using he

set_option maxHeartbeats 2000000 in
set_option maxRecDepth 100000 in
theorem plain_any (w : World) (s : ByteArray) (body : List UInt8) (hs : s.data.toList = 34 :: (body ++ [34])) (hp : plainF false body = true) (hb : s.size ≤ 140737488351232) :
    Calls Tryd.prog 22 #[.string s] w fun e w' => e = .returned (.bool true) ∧ w = w' := by
  have hlen : s.size = body.length + 2 := by rw [← dataL, hs]; simp
  have h2 : 2 ≤ s.size := by omega
  have h0 : 0 < s.size := by omega
  have hl1 : s.size - 1 < s.size := by omega
  have a0 : s[0] = 34 := by rw [← at_byte s 0 h0, hs]; rfl
  have a1 : s[s.size - 1] = 34 := by
    rw [← at_byte s (s.size - 1) hl1, hs, hlen]
    simp [List.getD]
  have ak : ∀ k (hk : k < s.size), 1 ≤ k → k + 1 < s.size → s[k] = body.getD (k - 1) 0 := fun k hk k1 k2 => by
    rw [← at_byte s k hk, hs]
    obtain ⟨j, rfl⟩ : ∃ j, k = j + 1 := ⟨k - 1, by omega⟩
    rw [List.getD_cons_succ, Nat.add_sub_cancel, List.getD, List.getD, List.getElem?_append_left (by omega)]
  have HI : Hid (PlI body s.size 1 false) := Lib.hid ⟨by omega, hp, by omega⟩
  have HK := Lib.hid ak
  have d1 : decide ((s.size : Int) < 2) = false := decide_eq_false (by omega)
  have e0 : ((s[0].toNat : Int) != 34) = false := by rw [a0]; rfl
  have e1 : ((s[s.size - 1].toNat : Int) != 34) = false := by rw [a1]; rfl
  have t1 : ((s.size : Int) - 1).toNat = s.size - 1 := by omega
  clear hs hp a0 a1 ak hlen
  go_enter Tryd.func22, Tryd.ntmps22
  go_wp2_with fail
  go_loopw [3, 4] (fun v3 v4 wr => ∃ (k : Nat) (sl : Bool), v3 = .bool sl ∧ v4 = .int .i64 (k : Int) ∧ wr = w ∧ PlI body s.size k sl) (fun _ v4 _ => s.size - (intOf v4).toNat)
  case atStart => exact ⟨1, false, rfl, rfl, rfl, HI.out⟩
  case round =>
    clear HI
    obtain ⟨k, sl, rfl, rfl, rfl, hI⟩ := hrel
    have HI := Lib.hid hI
    have hle := hI.le
    clear hI
    by_cases hk : k + 1 < s.size
    · have d1 : decide ((k : Int) < (s.size : Int) - 1) = true := decide_eq_true (by omega)
      have hks : k < s.size := by omega
      have hst := HI.out.step hk
      rw [← HK.out k hks (by omega) hk] at hst
      obtain ⟨hb1, hN⟩ := hst
      have HN := Lib.hid hN
      clear hN HI
      generalize hx : s[k].toNat = x at hb1 HN
      have hxi : (s[k].toNat : Int) = (x : Int) := by rw [hx]
      clear hx
      have f1 : decide ((x : Int) < 32) = false := decide_eq_false (by omega)
      have f2 : ((x : Int) == 127) = false := by simp; omega
      by_cases h34 : x = 34
      · have f3 : ((x : Int) == 34) = true := by simp; omega
        have f4 : ((x : Int) == 92) = false := by simp; omega
        have hsl : sl = true := by cases sl with
          | true => rfl
          | false => exact absurd (.inr (.inr ⟨h34, rfl⟩)) hb1
        have HN2 : Hid (PlI body s.size (k + 1) false) := Lib.hid (by have := HN.out; rw [decide_eq_false (by omega), Bool.false_and] at this; exact this)
        clear HN hb1
        subst hsl
        go_wp2_with fail
        go_roundw
        case rel => exact ⟨k + 1, _, rfl, rfl, trivial, HN2.out⟩
        case measure => simp only [intOf]; omega
      · have f3 : ((x : Int) == 34) = false := by simp; omega
        by_cases h92 : x = 92
        · have f4 : ((x : Int) == 92) = true := by simp; omega
          have HN2 : Hid (PlI body s.size (k + 1) (!sl)) := Lib.hid (by have := HN.out; rw [decide_eq_true h92, Bool.true_and] at this; exact this)
          clear HN hb1
          cases sl with
          | true =>
            go_wp2_with fail
            go_roundw
            case rel => exact ⟨k + 1, _, rfl, rfl, trivial, HN2.out⟩
            case measure => simp only [intOf]; omega
          | false =>
            go_wp2_with fail
            go_roundw
            case rel => exact ⟨k + 1, _, rfl, rfl, trivial, HN2.out⟩
            case measure => simp only [intOf]; omega
        · have f4 : ((x : Int) == 92) = false := by simp; omega
          have HN2 : Hid (PlI body s.size (k + 1) false) := Lib.hid (by have := HN.out; rw [decide_eq_false h92, Bool.false_and] at this; exact this)
          clear HN hb1
          go_wp2_with fail
          go_roundw
          case rel => exact ⟨k + 1, _, rfl, rfl, trivial, HN2.out⟩
          case measure => simp only [intOf]; omega
    · have d1 : decide ((k : Int) < (s.size : Int) - 1) = false := decide_eq_false (by omega)
      have hsl := HI.out.done hk
      subst hsl
      go_wp2_with fail
      go_ret
      exact ⟨rfl, rfl⟩

/-- What galleyref02.Unshow hands back: what quote.Unshow does. -/
def ansL (s : List UInt8) : List UInt8 := (readL s).getD []
def ansT (s : List UInt8) : Bool := (readL s).isSome
def AnsPost (s : List UInt8) (w : World) (e : Ending) (w' : World) : Prop := ∃ v, e = .returned (.tuple #[v, .bool (ansT s)]) ∧ OwnB w' w.heap.size v (bI (ansL s)) ∧ Below w.heap.size w w'
theorem ans_of {s : List UInt8} {w w' : World} {e : Ending} (h : UnPost s w e w') : AnsPost s w e w' := by
  obtain ⟨hb, ⟨hn, rfl⟩ | ⟨b, v, hs, rfl, ho⟩⟩ := h
  · exact ⟨_, by rw [ansT, hn]; rfl, by rw [ansL, hn]; exact OwnB.nil _ _, hb⟩
  · exact ⟨v, by rw [ansT, hs]; rfl, by rw [ansL, hs]; exact ho, hb⟩
theorem guess_len (s : List UInt8) : (guessL s).length ≤ s.length := by
  unfold guessL
  generalize s.drop 1 = u
  have : ∀ n (u : List UInt8), (guessF n u).length ≤ n := fun n => by
    induction n with
    | zero => intro u; simp [guessF]
    | succ n ih =>
      intro u
      unfold guessF
      have h1 := ih (u.drop 1)
      have h2 := ih (u.drop 2)
      have h4 := ih (u.drop 4)
      repeat' split
      all_goals (simp only [List.length_cons, List.length_append, List.length_nil]; omega)
  exact this _ _

set_option maxHeartbeats 1000000 in
set_option maxRecDepth 100000 in
theorem refUnshow_any (w : World) (s : ByteArray) (hb : s.size ≤ 8796093022000) : Calls Tryd.prog 11 #[.string s] w (AnsPost s.data.toList w) := by
  have HG := Lib.hid (guess_any w s hb)
  have hgl := guess_len s.data.toList
  rw [dataL] at hgl
  have HRG := Lib.hid (read_guess s.data.toList)
  go_enter Tryd.func11, Tryd.ntmps11
  go_wp2_with (go_at_call 26; refine HG.out.mono ?_)
  rintro e w1 ⟨v, rfl, ho, hb1⟩
  obtain ⟨ad, cap, rfl, hlc, hN, hsb⟩ := ho.sbn (bI_isB _) (by rw [bI_len]; omega)
  have HO := Lib.hid ho
  have HB1 := Lib.hid hb1
  have hsh := refShow_any w1 ad _ cap (guessL s.data.toList) hsb hlc hN (by rw [bI_len]; omega)
  have HSH := Lib.hid hsh
  clear hsh ho hb1 hN hlc hsb
  generalize hm : (bI (guessL s.data.toList)).length = m at HSH HO ⊢
  go_wp2_with (go_at_call 27; refine HSH.out.mono ?_)
  rintro e w2 ⟨rfl, b2⟩
  have HO2 := Lib.hid (HO.out.below b2)
  have HB2 := Lib.hid (HB1.out.trans (b2.mono HB1.out.size))
  clear b2 HSH hm
  by_cases hq : showL (guessL s.data.toList) = s.data.toList
  · have hx : (⟨(showL (guessL s.data.toList)).toArray⟩ : ByteArray) = s := by
      cases s with
      | mk d => simp at hq ⊢; rw [hq]
    have HR := Lib.hid (HRG.out.trans (if_pos hq))
    rw [hx]
    clear hx hq HRG
    go_wp2_with fail
    go_ret2
    exact ⟨_, by rw [ansT, HR.out]; rfl, by rw [ansL, HR.out]; exact HO2.out, HB2.out⟩
  · have HR := Lib.hid (HRG.out.trans (if_neg hq))
    have hq2 : (showL (guessL s.data.toList) == s.toList) = false := by rw [Lib.toList_data]; exact beq_eq_false_iff_ne.2 hq
    clear hq HRG
    go_wp2_with fail
    go_ret2
    exact ⟨_, by rw [ansT, HR.out]; rfl, by rw [ansL, HR.out]; exact OwnB.nil _ _, HB2.out⟩
end Go.Proofs.YtboikhalfffioaaDoor

/-
  Plain mathematics of the document's options: a letter is what stands where a character begins.
-/
import Derived.Test.YtgepjjpcokbpjaaDoorParseO
namespace Go.Proofs.YtgepjjpcokbpjaaDoor
open Go.RowKit

theorem get_off (s : Str) (p j : Nat) (hp : p ≤ s.size) : (s.extract p s.size).get! j = s.get! (p + j) := by
  by_cases h : p + j < s.size
  · have h1 : j < (s.extract p s.size).size := by rw [ByteArray.size_extract]; omega
    have e1 : (s.extract p s.size).get! j = (s.extract p s.size)[j]'h1 := get_at _ j h1
    have e2 : s.get! (p + j) = s[p + j]'h := get_at s (p + j) h
    rw [e1, e2, ByteArray.getElem_extract]
  · have h1 : ¬ j < (s.extract p s.size).size := by rw [ByteArray.size_extract]; omega
    have key : ∀ (x : Str) (i : Nat), ¬ i < x.size → x.get! i = default := fun x i hi => by
      show x.data[i]! = default
      exact getElem!_neg x.data i (by intro h; exact hi h)
    rw [key _ _ h1, key _ _ h]
theorem dec_off (s : Str) (p : Nat) (hp : p ≤ s.size) : Utf8.decode (s.extract p s.size) 0 = Utf8.decode s p := by
  rw [Lib.decode_at, Lib.decode_at, get_off s p 0 hp, get_off s p (0 + 1) hp, get_off s p (0 + 2) hp, get_off s p (0 + 3) hp, ByteArray.size_extract]
  simp only [Nat.zero_add, Nat.add_zero, Nat.sub_zero, Nat.min_self]
/-- One byte at the head. -/
theorem one_iff (t : Str) (c : UInt8) (h : 0 < t.size) (hc : c.toNat < 128) : t.extract 0 (Utf8.decode t 0).2 = str [c] ↔ (Utf8.decode t 0).1 = c.toNat := by
  obtain ⟨d1, d2, -⟩ := dec_fact t 0 h
  have hg : t.get! 0 = t[0]'h := get_at t 0 h
  constructor
  · intro e
    obtain ⟨k1, g⟩ := one_str t _ c e (by omega) (by omega)
    have := decode_ascii t 0 h (by rw [← hg, g]; exact hc)
    rw [this, ← hg, g]
  · intro e
    have hlow : (t[0]'h).toNat < 128 := by
      by_cases hl : (t[0]'h).toNat < 128
      · exact hl
      · have := (decode_high t 0 h (by omega)).1
        omega
    have hd := decode_ascii t 0 h hlow
    rw [hd] at e ⊢
    have hcc : t[0]'h = c := UInt8.toNat_inj.1 e
    apply ByteArray.ext_getElem
    · rw [ByteArray.size_extract]; show _ = 1; omega
    · intro i hi hi2
      have hi0 : i = 0 := by
        have : (str [c]).size = 1 := rfl
        omega
      subst hi0
      rw [ByteArray.getElem_extract]
      exact hcc
theorem pre3 (t : Str) : hasPre t (str [239, 191, 189]) = true ↔ 3 ≤ t.size ∧ t.get! 0 = 239 ∧ t.get! (0 + 1) = 191 ∧ t.get! (0 + 2) = 189 := by
  have hs3 : (str [239, 191, 189]).size = 3 := rfl
  unfold hasPre
  rw [decide_eq_true_iff, hs3]
  constructor
  · rintro ⟨h, e⟩
    have key : ∀ i (hi : i < 3), t.get! i = (str [239, 191, 189]).get! i := fun i hi => by
      rw [← e]
      have h1 : i < (t.extract 0 3).size := by rw [ByteArray.size_extract]; omega
      have e1 : (t.extract 0 3).get! i = (t.extract 0 3)[i]'h1 := get_at _ i h1
      have e2 : t.get! i = t[i]'(by omega) := get_at t i (by omega)
      rw [e1, e2, ByteArray.getElem_extract]
      simp only [Nat.zero_add]
    exact ⟨h, key 0 (by decide), key 1 (by decide), key 2 (by decide)⟩
  · rintro ⟨h, e0, e1, e2⟩
    refine ⟨h, ?_⟩
    apply ByteArray.ext_getElem
    · rw [ByteArray.size_extract, hs3]; omega
    · intro i hi hi2
      rw [ByteArray.getElem_extract]
      rw [hs3] at hi2
      have g : t.get! i = t[i]'(by omega) := get_at t i (by omega)
      simp only [Nat.zero_add]
      rw [← g]
      rcases (by omega : i = 0 ∨ i = 1 ∨ i = 2) with rfl | rfl | rfl
      · exact e0
      · exact e1
      · exact e2
theorem let_wid (t : Str) (h : 0 < t.size) : letOf t (Utf8.decode t 0).1 = t.extract 0 (Utf8.decode t 0).2 := by
  obtain ⟨d1, d2, d3⟩ := dec_fact t 0 h
  by_cases hr : (Utf8.decode t 0).1 = 65533
  · have hw : (Utf8.decode t 0).2 = 1 ∨ (Utf8.decode t 0).2 = 3 := by
      rcases d3 with d3 | d3
      · left; rw [d3]
      · right
        rw [hr] at d3
        have : Lib.runeLen ((65533 : Nat) : Int) = 3 := by decide
        omega
    by_cases hpre : hasPre t (str [239, 191, 189]) = true
    · have h3 := (pre3 t).1 hpre
      have hd : Utf8.decode t 0 = (65533, 3) := by
        rw [Lib.decode_at, h3.2.1, h3.2.2.1, h3.2.2.2]
        have h30 := h3.1
        have hn : 3 ≤ t.size - 0 := by omega
        generalize t.size - 0 = n at hn
        have a1 : (239 : UInt8).toNat = 239 := rfl
        have a2 : (191 : UInt8).toNat = 191 := rfl
        have a3 : (189 : UInt8).toNat = 189 := rfl
        rw [a1, a2, a3]
        unfold Lib.decodeN
        rw [if_neg (by omega), if_neg (by omega), if_pos (by omega), if_pos (by omega)]
      rw [hd]
      unfold letOf
      rw [if_neg (by simp [hpre])]
      rfl
    · have hw1 : (Utf8.decode t 0).2 = 1 := by
        rcases hw with hw | hw
        · exact hw
        · exfalso
          apply hpre
          rw [pre3]
          have c0 : ∀ x : UInt8, x.toNat = 239 → x = 239 := fun x e => UInt8.toNat_inj.1 e
          have c1 : ∀ x : UInt8, x.toNat = 191 → x = 191 := fun x e => UInt8.toNat_inj.1 e
          have c2 : ∀ x : UInt8, x.toNat = 189 → x = 189 := fun x e => UInt8.toNat_inj.1 e
          have key : ∀ n b0 b1 b2 b3 : Nat, b0 < 256 → b1 < 256 → b2 < 256 → (Lib.decodeN n b0 b1 b2 b3).1 = 65533 → (Lib.decodeN n b0 b1 b2 b3).2 = 3 → b0 = 239 ∧ b1 = 191 ∧ b2 = 189 := by
            intro n b0 b1 b2 b3 g0 g1 g2 u v
            unfold Lib.decodeN at u v
            (repeat' split at u) <;> simp_all <;> omega
          rw [Lib.decode_at] at hr hw
          obtain ⟨q0, q1, q2⟩ := key _ _ _ _ _ (t.get! 0).toNat_lt (t.get! (0 + 1)).toNat_lt (t.get! (0 + 2)).toNat_lt hr hw
          rw [← Lib.decode_at] at hw
          exact ⟨by omega, c0 _ q0, c1 _ q1, c2 _ q2⟩
      unfold letOf
      rw [hw1, hr, if_pos ⟨rfl, by simpa using hpre⟩]
  · have hd3 : Lib.runeLen (Utf8.decode t 0).1 = (Utf8.decode t 0).2 := by
      rcases d3 with d3 | d3
      · rw [d3] at hr; exact absurd rfl hr
      · exact d3
    unfold letOf
    rw [if_neg (by omega), hd3]
    rfl
/-- What one letter does. -/
def ltrR (o : Opt) (l : Str) : Opt × Bool :=
  if l = str [110] then ({ o with q := true }, true)
  else if l = str [69] then ({ o with e := true }, true)
  else if l = str [115] then ({ o with a := true }, true)
  else if l = str [105] then ({ o with i := true, a := true }, true)
  else (o, false)
theorem ltr_parts (o : Opt) (l : Str) : (ltrR o l).1.parts = o.parts ∧ (ltrR o l).1.files = o.files := by
  unfold ltrR
  repeat' split
  all_goals exact ⟨rfl, rfl⟩
theorem let_stepR (s : Str) (f pos : Nat) (o : Opt) (h : pos < s.size) (l : Str) (hl : (s.extract pos s.size).extract 0 (Utf8.decode s pos).2 = l) :
    letF s (f + 1) pos o = if l = str [101] ∨ l = str [102] then .arg o (decide (l = str [102])) pos
      else if (ltrR o l).2 = true then letF s f (pos + (Utf8.decode s pos).2) (ltrR o l).1 else .bad (Utf8.decode s pos).1 pos := by
  have ht : 0 < (s.extract pos s.size).size := by rw [ByteArray.size_extract]; omega
  have key : ∀ c : UInt8, c.toNat < 128 → (l = str [c] ↔ (Utf8.decode s pos).1 = c.toNat) := fun c hc => by
    have := one_iff _ c ht hc
    rw [dec_off s pos (by omega), hl] at this
    exact this
  have k1 := key 110 (by decide)
  have k2 := key 69 (by decide)
  have k3 := key 105 (by decide)
  have k4 := key 115 (by decide)
  have k5 := key 101 (by decide)
  have k6 := key 102 (by decide)
  rw [letF, if_pos h]
  unfold ltrR
  generalize (Utf8.decode s pos).1 = r at *
  have e1 : (110 : UInt8).toNat = 110 := rfl
  have e2 : (69 : UInt8).toNat = 69 := rfl
  have e3 : (105 : UInt8).toNat = 105 := rfl
  have e4 : (115 : UInt8).toNat = 115 := rfl
  have e5 : (101 : UInt8).toNat = 101 := rfl
  have e6 : (102 : UInt8).toNat = 102 := rfl
  rw [e1] at k1; rw [e2] at k2; rw [e3] at k3; rw [e4] at k4; rw [e5] at k5; rw [e6] at k6
  simp only [k1, k2, k3, k4, k5, k6]
  clear key k1 k2 k3 k4 k5 k6 hl
  by_cases h1 : r = 110
  · subst h1; simp
  by_cases h2 : r = 69
  · subst h2; simp
  by_cases h3 : r = 105
  · subst h3; simp
  by_cases h4 : r = 115
  · subst h4; simp
  simp only [h1, h2, h3, h4, if_false, Bool.false_eq_true]
end Go.Proofs.YtgepjjpcokbpjaaDoor

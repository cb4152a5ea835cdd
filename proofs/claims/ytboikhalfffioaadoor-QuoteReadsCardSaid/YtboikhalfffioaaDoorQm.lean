/-
  Show in plain mathematics, and its small functions: fair, width, escape.
-/
import Derived.Test.YtboikhalfffioaaDoorBld
import Derived.Lib.MapLaws
import Derived.Lib.RuneCount
import Derived.Test.YtboikhalfffioaaDoorShelf
namespace Go.Proofs.YtboikhalfffioaaDoor
open Go.RowKit

/-- May the rune stand as it is? -/
def fairR (r : Int) : Bool := decide (32 ≤ r) && (decide (r < 127) || decide (159 < r)) && !decide (r = 34) && !decide (r = 92)
/-- The width of the character at the head; 0: none begins there. -/
def wid (l : List UInt8) : Nat := if (Lib.decodeL l).1 = 65533 ∧ (Lib.decodeL l).2 = 1 then 0 else (Lib.decodeL l).2
def hexB (n : Nat) : UInt8 := if n < 10 then UInt8.ofNat (48 + n) else UInt8.ofNat (87 + n)
/-- A byte that does not stand as it is. -/
def escL (x : UInt8) : List UInt8 :=
  if x = 34 then [92, 34] else if x = 92 then [92, 92] else if x = 10 then [92, 110] else if x = 9 then [92, 116] else if x = 13 then [92, 114] else [92, 120, hexB (x.toNat / 16), hexB (x.toNat % 16)]
/-- What the character at the head is shown as. -/
def oneL (l : List UInt8) : List UInt8 := if 0 < wid l ∧ fairR ((Lib.decodeL l).1 : Int) = true then l.take (wid l) else (l.take (max (wid l) 1)).flatMap escL
def bodyL : Nat → List UInt8 → List UInt8
  | 0, _ => []
  | n + 1, l => if l = [] then [] else oneL l ++ bodyL n (l.drop (Lib.decodeL l).2)
def showL (l : List UInt8) : List UInt8 := 34 :: (bodyL l.length l ++ [34])

set_option maxRecDepth 100000 in
theorem fair_any (r : Int) (w : World) : Calls Tryd.prog 50 #[.int .i32 r] w fun e w' => e = .returned (.bool (fairR r)) ∧ w' = w := by
  go_enter Tryd.func50, Tryd.ntmps50
  by_cases h1 : 32 ≤ r
  · have d1 : decide (32 ≤ r) = true := decide_eq_true h1
    by_cases h2 : r < 127
    · have d2 : decide (r < 127) = true := decide_eq_true h2
      by_cases h3 : r = 34
      · subst h3
        go_wp2
        go_ret
        exact ⟨rfl, rfl⟩
      · by_cases h4 : r = 92
        · subst h4
          go_wp2
          go_ret
          exact ⟨rfl, rfl⟩
        · go_wp2
          go_ret
          exact ⟨by simp [fairR, h1, h2, h3, h4], rfl⟩
    · have d2 : decide (r < 127) = false := decide_eq_false h2
      by_cases h3 : 159 < r
      · have d3 : decide (159 < r) = true := decide_eq_true h3
        have n3 : ¬ r = 34 := by omega
        have n4 : ¬ r = 92 := by omega
        go_wp2
        go_ret
        exact ⟨by simp [fairR, h1, h3, n3, n4], rfl⟩
      · have d3 : decide (159 < r) = false := decide_eq_false h3
        go_wp2
        go_ret
        exact ⟨by simp [fairR]; omega, rfl⟩
  · have d1 : decide (32 ≤ r) = false := decide_eq_false h1
    go_wp2
    go_ret
    exact ⟨by simp [fairR]; omega, rfl⟩
theorem wid_pos {l : List UInt8} (h : ¬ ((Lib.decodeL l).1 = 65533 ∧ (Lib.decodeL l).2 = 1)) : wid l = (Lib.decodeL l).2 := if_neg h
theorem bad_three (l : List UInt8) (h : (Lib.decodeL l).1 = 65533) (h1 : ¬ (Lib.decodeL l).2 = 1) : (Lib.decodeL l).2 = 3 ∧ 2 < l.length ∧ (l.getD 0 0).toNat = 239 ∧ (l.getD 1 0).toNat = 191 ∧ (l.getD 2 0).toNat = 189 := by
  rw [Lib.decodeL_N] at h h1 ⊢
  have k0 := (l.getD 0 0).toNat_lt
  have k1 := (l.getD 1 0).toNat_lt
  have k2 := (l.getD 2 0).toNat_lt
  have k3 := (l.getD 3 0).toNat_lt
  rcases Lib.decodeN_shape l.length (l.getD 0 0).toNat (l.getD 1 0).toNat (l.getD 2 0).toNat (l.getD 3 0).toNat with ⟨c, e⟩ | ⟨c1, c2, c3, cv, e⟩ | ⟨c1, c2, c3, c4, cv, cs, e⟩ | ⟨c1, c2, c3, c4, c5, cv, cw, e⟩ | e
  all_goals (rw [e] at h h1 ⊢; dsimp only at h h1 ⊢; omega)
theorem take_three (l : List UInt8) (h : 2 < l.length) : l = l.getD 0 0 :: l.getD 1 0 :: l.getD 2 0 :: l.drop 3 := by
  match l, h with
  | _ :: _ :: _ :: _, _ => rfl
/-- U+FFFD's three bytes stand at the head iff it was decoded so. -/
theorem bad_head (l : List UInt8) (h : (Lib.decodeL l).1 = 65533) : Lib.hasPrefix l [239, 191, 189] = !decide ((Lib.decodeL l).2 = 1) := by
  by_cases h1 : (Lib.decodeL l).2 = 1
  · rw [decide_eq_true h1]
    cases hp : Lib.hasPrefix l [239, 191, 189] with
    | false => rfl
    | true =>
      exfalso
      obtain ⟨t, rfl⟩ := List.isPrefixOf_iff_prefix.1 hp
      rw [Lib.decodeL_N] at h1
      simp [Lib.decodeN] at h1
  · obtain ⟨-, hl, e0, e1, e2⟩ := bad_three l h h1
    rw [decide_eq_false h1]
    have f0 : l.getD 0 0 = 239 := UInt8.toNat_inj.1 e0
    have f1 : l.getD 1 0 = 191 := UInt8.toNat_inj.1 e1
    have f2 : l.getD 2 0 = 189 := UInt8.toNat_inj.1 e2
    rw [take_three l hl, f0, f1, f2]
    rfl
theorem hex_at : ∀ k : Nat, k < 16 → (⟨#[48, 49, 50, 51, 52, 53, 54, 55, 56, 57, 97, 98, 99, 100, 101, 102]⟩ : ByteArray).extract k (k + 1) = ⟨#[hexB k]⟩ := by decide
set_option maxRecDepth 100000 in
theorem width_any (s : ByteArray) (w : World) : Calls Tryd.prog 49 #[.string s, .int .i32 ((Lib.decodeL s.data.toList).1 : Int)] w fun e w' => e = .returned (.int .i64 (wid s.data.toList : Int)) ∧ w' = w := by
  have hrune := Lib.decodeL_rune s.data.toList
  have hrl := Lib.runeLen_decode s.data.toList
  have hbad := bad_head s.data.toList
  have h3 := bad_three s.data.toList
  unfold wid
  generalize Lib.decodeL s.data.toList = d at hrune hrl hbad h3 ⊢
  obtain ⟨r, k⟩ := d
  dsimp only at hrune hrl hbad h3 ⊢
  go_enter Tryd.func49, Tryd.ntmps49
  by_cases h1 : r = 65533
  · subst h1
    have hp : ∀ w1, Calls Tryd.prog 67 #[.string s, .string ⟨#[239, 191, 189]⟩] w1 fun e w' => e = .returned (.bool (!decide (k = 1))) ∧ w' = w1 := fun w1 => by
      rw [← hbad rfl]
      exact Tryd.strings_HasPrefix s ⟨#[239, 191, 189]⟩ w1
    have hl : ∀ w1, Calls Tryd.prog 68 #[.int .i32 65533] w1 fun e w' => e = .returned (.int .i64 3) ∧ w' = w1 := fun w1 => Tryd.utf8_RuneLen 65533 w1
    by_cases hk : k = 1
    · rw [if_pos ⟨rfl, hk⟩]
      have hd : (!decide (k = 1)) = false := by simp [hk]
      rw [hd] at hp
      go_wp2_with (go_at_call 67; refine (hp _).mono ?_)
      go_wp2
      go_ret
      exact ⟨rfl, rfl⟩
    · have hk3 : k = 3 := (h3 rfl hk).1
      subst hk3
      rw [if_neg (by omega)]
      have hd : (!decide (3 = 1)) = true := by decide
      rw [hd] at hp
      go_wp2_with (first | (go_at_call 67; refine (hp _).mono ?_) | (go_at_call 68; refine (hl _).mono ?_))
      rintro e w1 ⟨rfl, rfl⟩
      go_wp2
      go_ret
      exact ⟨rfl, rfl⟩
  · have hl : ∀ w1, Calls Tryd.prog 68 #[.int .i32 (r : Int)] w1 fun e w' => e = .returned (.int .i64 (k : Int)) ∧ w' = w1 := fun w1 => by
      rw [← hrl h1]
      exact Tryd.utf8_RuneLen r w1
    rw [if_neg (by omega)]
    have hz : ((r : Int) == 65533) = false := by simp; omega
    go_wp2_with (go_at_call 68; refine (hl _).mono ?_)
    rintro e w1 ⟨rfl, rfl⟩
    go_wp2
    go_ret
    exact ⟨rfl, rfl⟩
set_option maxRecDepth 100000 in
theorem escape_any (x : UInt8) (w : World) : Calls Tryd.prog 52 #[.int .u8 (x.toNat : Int)] w fun e w' => e = .returned (.string ⟨(escL x).toArray⟩) ∧ ∃ q, w' = w.drewN q := by
  go_enter Tryd.func52, Tryd.ntmps52
  by_cases h1 : x = 34
  · subst h1
    have he : (⟨#[92]⟩ : ByteArray) ++ Utf8.encode 34 = ⟨(escL 34).toArray⟩ := by rfl
    go_wp2
    go_ret
    exact ⟨rfl, 0, rfl⟩
  · by_cases h2 : x = 92
    · subst h2
      have he : (⟨#[92]⟩ : ByteArray) ++ Utf8.encode 92 = ⟨(escL 92).toArray⟩ := by rfl
      go_wp2
      go_ret
      exact ⟨rfl, 0, rfl⟩
    · by_cases h3 : x = 10
      · subst h3
        go_wp2
        go_ret
        exact ⟨rfl, 0, rfl⟩
      · by_cases h4 : x = 9
        · subst h4
          go_wp2
          go_ret
          exact ⟨rfl, 0, rfl⟩
        · by_cases h5 : x = 13
          · subst h5
            go_wp2
            go_ret
            exact ⟨rfl, 0, rfl⟩
          · have hx := x.toNat_lt
            have g1 : ((x.toNat : Int) == 34) = false := beq_eq_false_iff_ne.2 (fun e => h1 (UInt8.toNat_inj.1 (show x.toNat = 34 by omega)))
            have g2 : ((x.toNat : Int) == 92) = false := beq_eq_false_iff_ne.2 (fun e => h2 (UInt8.toNat_inj.1 (show x.toNat = 92 by omega)))
            have g3 : ((x.toNat : Int) == 10) = false := beq_eq_false_iff_ne.2 (fun e => h3 (UInt8.toNat_inj.1 (show x.toNat = 10 by omega)))
            have g4 : ((x.toNat : Int) == 9) = false := beq_eq_false_iff_ne.2 (fun e => h4 (UInt8.toNat_inj.1 (show x.toNat = 9 by omega)))
            have g5 : ((x.toNat : Int) == 13) = false := beq_eq_false_iff_ne.2 (fun e => h5 (UInt8.toNat_inj.1 (show x.toNat = 13 by omega)))
            go_wp2
            have he : escL x = [92, 120, hexB (x.toNat / 16), hexB (x.toNat % 16)] := by rw [escL, if_neg h1, if_neg h2, if_neg h3, if_neg h4, if_neg h5]
            generalize x.toNat = n at hx he ⊢
            go_quiet (fail)
            go_wp2
            go_ret
            refine ⟨?_, ⟨_, rfl⟩⟩
            show Ending.returned (Value.string _) = _
            rw [he, hex_at (n / 16) (by omega), hex_at (n % 16) (by omega)]
            rfl
end Go.Proofs.YtboikhalfffioaaDoor

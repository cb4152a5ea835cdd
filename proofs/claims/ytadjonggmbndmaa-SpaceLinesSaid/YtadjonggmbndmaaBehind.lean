/-
  words.Words.behind: the place behind the bytes that are taken.
-/
import Derived.Test.YtadjonggmbndmaaHas
namespace Go.Proofs.Ytadjonggmbndmaa
open Go.RowKit

theorem runL_cons (p : Int → Bool) (l : List Int) (b : Nat) (h : b < l.length) : runL p l b = if p (l[b]?.getD 0) then (l[b]?.getD 0) :: runL p l (b + 1) else [] := by
  unfold runL
  rw [List.drop_eq_getElem_cons h, List.takeWhile_cons]
  simp [h]
theorem runL_end (p : Int → Bool) (l : List Int) (b : Nat) (h : l.length ≤ b) : runL p l b = [] := by
  unfold runL
  rw [List.drop_of_length_le h]
  rfl
theorem runL_len (p : Int → Bool) (l : List Int) (k : Nat) (hk : k ≤ l.length) (he : k < l.length → p (l[k]?.getD 0) = false) : ∀ (n b : Nat), b + n = k → (∀ j : Nat, b ≤ j → j < k → p (l[j]?.getD 0) = true) → b + (runL p l b).length = k
  | 0, b, hb, _ => by
    have e : b = k := by omega
    subst e
    by_cases h : b < l.length
    · rw [runL_cons p l b h, he h]; simp
    · rw [runL_end p l b (by omega)]; simp
  | n + 1, b, hb, h => by
    have hlt : b < l.length := by omega
    have ih := runL_len p l k hk he n (b + 1) (by omega) fun j h1 h2 => h j (by omega) h2
    rw [runL_cons p l b hlt, h b (Nat.le_refl _) (by omega)]
    simp only [if_true, List.length_cons]
    omega

def BehindPost (w : World) (n : Nat) (e : Ending) (w' : World) : Prop := e = .returned (.int .i64 n) ∧ Below w.heap.size w w'
def BehindInv (w : World) (p : Int → Bool) (l : List Int) (b : Nat) (i : Value) (wr : World) : Prop := ∃ k : Nat, k ≤ l.length ∧ i = .int .i64 k ∧ b ≤ k ∧ (∀ j : Nat, b ≤ j → j < k → p (l[j]?.getD 0) = true) ∧ Below w.heap.size w wr

set_option maxHeartbeats 1000000 in
theorem behind_any (s : ByteArray) (hs : ∀ (i : Nat) (h : i < s.size), (s[i]'h).toNat < 128) (w : World) (g : Nat) (l : List Int) (a : Nat) (h : Wd w g l a) (b : Nat) (hb : b ≤ l.length) :
    Calls Try.prog 61 #[.pointer (some ⟨g, 0, none⟩), .int .i64 b, .func (Fn.func 62) #[.string s] #[]] w (BehindPost w (b + (runL (hasS s) l b).length)) := by
  have HS := Lib.hid hs
  obtain ⟨_, hl, _, _, _, _⟩ := h.cells
  clear hs
  go_enter Try.func61, Try.ntmps61
  go_wp2
  go_loopw [1] (fun i wr => BehindInv w (hasS s) l b i wr) (fun i _ => l.length - (intOf i).toNat)
  case atStart => exact ⟨b, hb, rfl, Nat.le_refl _, fun j _ _ => by omega, Below.refl _ _⟩
  case round =>
    obtain ⟨k, hk, rfl, hbk, hp, rb⟩ := hrel
    obtain ⟨_, _, _, _, _, ad, cap, h1, hcap, hsb⟩ := (h.below rb).cells
    have hB := hsb.1 k
    have HP := Lib.hid hp
    clear hp
    by_cases hlt : k < l.length
    · obtain ⟨bb, o, rfl, hc⟩ := hsb.read k hlt
      have hck := hc k hlt
      clear hc hsb
      by_cases hx : hasS s (l[k]?.getD 0) = true
      · have HX := Lib.hid hx
        have hall : ∀ j : Nat, b ≤ j → j < k + 1 → hasS s (l[j]?.getD 0) = true := fun j h1 h2 => by
          by_cases e : j = k
          · rw [e]; exact HX.out
          · exact HP.out j h1 (by omega)
        have HA := Lib.hid hall
        have hhas := has_any s HS.out (l[k]?.getD 0) hB.1 hB.2 wr
        rw [hx] at hhas
        have HH := Lib.hid hhas
        clear hall hx hhas HX
        generalize l[k]?.getD 0 = x at hck HH
        go_wp2_with fail
        refine HH.out.mono ?_
        rintro e w1 ⟨rfl, hb1⟩
        have rb1 := rb.trans (hb1.mono rb.size)
        clear hck h1
        go_wp2_with fail
        go_roundw
        case rel => exact ⟨k + 1, by omega, by go_num, by omega, HA.out, rb1⟩
        case measure => simp [intOf]; omega
      · have hx' : hasS s (l[k]?.getD 0) = false := by simpa using hx
        have HE := Lib.hid (runL_len (hasS s) l k hk (fun _ => hx') (k - b) b (by omega) HP.out)
        have hhas := has_any s HS.out (l[k]?.getD 0) hB.1 hB.2 wr
        rw [hx'] at hhas
        have HH := Lib.hid hhas
        clear hx hhas hx'
        generalize l[k]?.getD 0 = x at hck HH
        go_wp2_with fail
        refine HH.out.mono ?_
        rintro e w1 ⟨rfl, hb1⟩
        have rb1 := rb.trans (hb1.mono rb.size)
        clear hck h1
        go_wp2_with fail
        go_ret
        exact ⟨by rw [HE.out]; rfl, rb1⟩
    · have HE := Lib.hid (runL_len (hasS s) l k hk (fun h => absurd h hlt) (k - b) b (by omega) HP.out)
      go_wp2_with fail
      go_ret
      exact ⟨by rw [HE.out]; rfl, rb⟩
end Go.Proofs.Ytadjonggmbndmaa

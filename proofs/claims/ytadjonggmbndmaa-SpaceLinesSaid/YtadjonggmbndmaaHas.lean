/-
  words.set.has: is the byte among those of an ASCII text?
-/
import Derived.Test.YtadjonggmbndmaaWords0
import Derived.Laws.RangeAny
import Derived.Laws.RangeString
namespace Go.Proofs.Ytadjonggmbndmaa
open Go.RowKit

/-- Is x one of the bytes? -/
def hasS (s : ByteArray) (x : Int) : Bool := s.data.toList.any fun c => ((c.toNat : Int) == x)
theorem hasS_no (s : ByteArray) (x : Int) (h : ∀ (i : Nat) (hi : i < s.size), ((s[i]'hi).toNat : Int) ≠ x) : hasS s x = false := by
  unfold hasS
  rw [List.any_eq_false]
  intro c hc
  obtain ⟨i, hi, rfl⟩ := List.mem_iff_getElem.1 hc
  have hi' : i < s.size := by simpa using hi
  have h1 := h i hi'
  have e : s.data.toList[i] = s[i]'hi' := rfl
  rw [e]
  simpa using h1
theorem hasS_yes (s : ByteArray) (x : Int) (i : Nat) (hi : i < s.size) (h : ((s[i]'hi).toNat : Int) = x) : hasS s x = true := by
  unfold hasS
  rw [List.any_eq_true]
  have hi' : i < s.data.toList.length := by simpa using hi
  exact ⟨s.data.toList[i], List.getElem_mem hi', by have e : s.data.toList[i] = s[i]'hi := rfl; rw [e]; simpa using h⟩

def HasPost (w : World) (b : Bool) (e : Ending) (w' : World) : Prop := e = .returned (.bool b) ∧ Below w.heap.size w w'
def HasInv (w : World) (s : ByteArray) (x : Int) (wr : World) : Prop := ∃ pos, wr = w.iter s pos ∧ pos ≤ s.size ∧ ∀ (i : Nat) (hi : i < s.size), i < pos → ((s[i]'hi).toNat : Int) ≠ x

set_option maxHeartbeats 400000 in
theorem has_any (s : ByteArray) (hs : ∀ (i : Nat) (h : i < s.size), (s[i]'h).toNat < 128) (x : Int) (hx0 : 0 ≤ x) (hx1 : x ≤ 255) (w : World) :
    Calls Try.prog 62 #[.string s, .int .u8 x] w (HasPost w (hasS s x)) := by
  have HS := Lib.hid hs
  clear hs
  go_enter Try.func62, Try.ntmps62
  go_wp2
  go_loopw [6] (fun _ wr => HasInv w s x wr) (fun _ wr => s.size - wr.iterPos w.heap.size)
  case atStart => exact ⟨0, rfl, Nat.zero_le _, fun i _ h => absurd h (Nat.not_lt_zero _)⟩
  case round =>
    obtain ⟨pos, rfl, hpos, hno⟩ := hrel
    have HN := Lib.hid hno
    clear hno
    by_cases hp : pos < s.size
    · have hd := decode_ascii s pos hp (HS.out pos hp)
      have hnx : ∀ ty, (Instr.next (.pointer (some ⟨w.heap.size, 0, none⟩)) true ty).run Try.prog (w.iter s pos) = .ok (.tuple #[.bool true, .int .i64 pos, .int .i32 ((s[pos]'hp).toNat : Int)]) (w.iter s (pos + 1)) := fun ty => by
        rw [run_next_any w s pos ty hp, hd]
      have hb := HS.out pos hp
      by_cases he : ((s[pos]'hp).toNat : Int) = x
      · have HE := Lib.hid (hasS_yes s x pos hp he)
        have heq : (((s[pos]'hp).toNat : Int) == x) = true := by rw [beq_iff_eq]; exact he
        clear hd
        generalize ((s[pos]'hp).toNat : Int) = y at hnx heq
        clear he
        go_wp2
        go_ret
        exact ⟨by rw [HE.out]; rfl, (Below.refl _ w).alloc (Nat.le_refl _) _⟩
      · have hne : (((s[pos]'hp).toNat : Int) == x) = false := by rw [beq_eq_false_iff_ne]; exact he
        have HR : HasInv w s x (w.iter s (pos + 1)) := ⟨pos + 1, rfl, hp, fun i hi hlt => by
          by_cases e : i = pos
          · subst e; exact he
          · exact HN.out i hi (by omega)⟩
        clear hd
        generalize ((s[pos]'hp).toNat : Int) = y at hnx hne
        clear he
        go_wp2
        go_roundw
        case rel => exact HR
        case measure => simp; omega
    · have hnx : ∀ ty, (Instr.next (.pointer (some ⟨w.heap.size, 0, none⟩)) true ty).run Try.prog (w.iter s pos) = _ := fun ty => run_next_end w s pos ty hp
      have HE := Lib.hid (hasS_no s x fun i hi => HN.out i hi (by omega))
      go_wp2
      go_ret
      exact ⟨by rw [HE.out]; rfl, (Below.refl _ w).alloc (Nat.le_refl _) _⟩

/-- The two sets. -/
def digS : ByteArray := { data := #[48, 49, 50, 51, 52, 53, 54, 55, 56, 57] }
def blS : ByteArray := { data := #[32, 9] }
theorem dig_ascii : ∀ (i : Nat) (h : i < digS.size), (digS[i]'h).toNat < 128 := by decide
theorem bl_ascii : ∀ (i : Nat) (h : i < blS.size), (blS[i]'h).toNat < 128 := by decide
theorem hasS_dig (x : Int) : hasS digS x = digB x := by
  unfold hasS digB digS
  rw [Bool.eq_iff_iff]
  simp
  omega
theorem hasS_bl (x : Int) : hasS blS x = blB x := by
  unfold hasS blB blS
  rw [Bool.eq_iff_iff]
  simp
  omega
end Go.Proofs.Ytadjonggmbndmaa

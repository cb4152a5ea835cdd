/-
  galleylaw25.plain: a row without its line ends.
-/
import Derived.Test.YtadjonggmbndmaaBytes
import Derived.Test.YtadjonggmbndmaaBytes2
namespace Go.Proofs.Ytadjonggmbndmaa
open Go.RowKit

def plainL (l : List Int) : List Int := l.filter fun x => !(x == 10)
theorem plainL_take (l : List Int) (k : Nat) (h : k < l.length) (x : Int) (hx : l[k]?.getD 0 = x) : plainL (l.take (k + 1)) = if x = 10 then plainL (l.take k) else plainL (l.take k) ++ [x] := by
  rw [take_snoc l k h, hx]
  unfold plainL
  rw [List.filter_append]
  by_cases h10 : x = 10
  · simp [h10]
  · simp [h10]
theorem plainL_le (l : List Int) : (plainL l).length ≤ l.length := List.length_filter_le _ _
theorem isB_iff (l : List Int) : IsB l ↔ ∀ x ∈ l, 0 ≤ x ∧ x ≤ 255 := by
  refine ⟨fun h x hx => ?_, fun h k => ?_⟩
  · obtain ⟨k, hk, rfl⟩ := List.mem_iff_getElem.1 hx
    have := h k
    rw [List.getElem?_eq_getElem hk] at this
    exact this
  · by_cases hk : k < l.length
    · rw [List.getElem?_eq_getElem hk]
      exact h _ (List.getElem_mem hk)
    · rw [List.getElem?_eq_none (by omega)]
      decide
theorem plainL_isB {l : List Int} (h : IsB l) : IsB (plainL l) := (isB_iff _).2 fun x hx => (isB_iff l).1 h x (List.mem_filter.1 hx).1

set_option maxHeartbeats 1000000 in
theorem plain_any (w : World) (v : Value) (l : List Int) (hb : SB w v l) : Calls Try.prog 37 #[v] w (TwinPost w (plainL l)) := by
  obtain ⟨hB, a, c, rfl, hl, hc⟩ := id hb
  rcases hc with rfl | ⟨b, o, rfl, hc⟩
  · clear hb
    go_enter Try.func37, Try.ntmps37
    go_wp2
    go_loop [3, 4] (fun v i => v = .slice none 0 0 ∧ i = .int .i64 0) (fun _ _ => 0)
    case atStart => exact ⟨rfl, rfl⟩
    case round =>
      obtain ⟨rfl, rfl⟩ := hrel
      go_wp2
      go_ret
      exact ⟨_, rfl, OwnB.nil _ _, Below.refl _ _⟩
  · have HC := Lib.hid hc
    have HB := Lib.hid hB
    clear hc hb hB
    go_enter Try.func37, Try.ntmps37
    go_wp2
    go_loopw [3, 4] (fun v i wr => ∃ k : Nat, k ≤ l.length ∧ i = .int .i64 k ∧ OwnB wr w.heap.size v (plainL (l.take k)) ∧ Below w.heap.size w wr) (fun _ i _ => l.length - (intOf i).toNat)
    case atStart => exact ⟨0, by omega, rfl, OwnB.nil _ _, Below.refl _ _⟩
    case round =>
      obtain ⟨k, hk, rfl, ho, rb⟩ := hrel
      have hbs := rb.size
      by_cases hlt : k < l.length
      · have h1 := HC.out k hlt
        have h1 : wr.cell? ⟨b, o + k, none⟩ = some (.int .u8 (l[k]?.getD 0)) := by rw [rb.cell (World.block_lt_of_cell? w _ h1)]; exact h1
        have hst := plainL_take l k hlt _ rfl
        have hle := plainL_le (l.take k)
        rw [List.length_take] at hle
        generalize l[k]?.getD 0 = x at h1 hst
        by_cases h10 : x = 10
        · subst h10
          rw [if_pos rfl] at hst
          have Hst := Lib.hid hst
          clear hst hle
          go_wp2_with fail
          go_roundw
          case rel => exact ⟨k + 1, by omega, by go_num, by rw [Hst.out]; exact ho, rb⟩
          case measure => simp [intOf]; omega
        · rw [if_neg h10] at hst
          have hne : (x != 10) = true := by rw [bne_iff_ne]; exact h10
          have Hst := Lib.hid hst
          generalize plainL (l.take k) = z at ho hle Hst
          clear hst h10
          go_wp2_with (at_builtin; refine append_b1 rfl (.tmp 16) (.tmp 21) rfl w.heap.size _ z x rfl ho rfl (by omega) hbs ?_)
          intro v' w2 ho' hA
          have hb2 := hA.bel _ _ rb (Nat.le_refl _)
          clear ho rb hA h1
          go_wp2_with fail
          go_roundw
          case rel => exact ⟨k + 1, by omega, by go_num, by rw [Hst.out]; exact ho', hb2⟩
          case measure => simp [intOf]; omega
      · have e : l.take k = l := List.take_of_length_le (by omega)
        rw [e] at ho
        have HO := Lib.hid ho
        clear ho e
        go_wp2_with fail
        go_ret
        exact ⟨_, rfl, HO.out, rb⟩
end Go.Proofs.Ytadjonggmbndmaa

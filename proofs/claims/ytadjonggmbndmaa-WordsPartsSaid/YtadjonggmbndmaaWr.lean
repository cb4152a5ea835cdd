/-
  galleylaw19.written, right.
-/
import Derived.Test.YtadjonggmbndmaaOwnM
import Derived.Test.YtadjonggmbndmaaWMath
namespace Go.Proofs.Ytadjonggmbndmaa
open Go.RowKit

theorem dropm_at (l : List Mk) (k : Nat) (h : k < l.length) : l.drop k = (l[k]?.getD (0, false)) :: l.drop (k + 1) := by
  rw [List.drop_eq_getElem_cons h]
  simp [h]
theorem wrL_append (a b : List Mk) : wrL (a ++ b) = wrL a ++ wrL b := by
  induction a with
  | nil => rfl
  | cons m t ih =>
    obtain ⟨x, p⟩ := m
    cases p <;> simp [wrL, ih]
theorem wrL_snoc (l : List Mk) (k : Nat) (h : k < l.length) (x : Int) (p : Bool) (e : l[k]?.getD (0, false) = (x, p)) : wrL (l.take (k + 1)) = if p then (wrL (l.take k) ++ [92]) ++ [x] else wrL (l.take k) ++ [x] := by
  rw [takem_snoc l k h, e, wrL_append]
  cases p <;> simp [wrL]
theorem wrL_len (l : List Mk) : (wrL l).length ≤ 2 * l.length := by
  induction l with
  | nil => simp [wrL]
  | cons m t ih =>
    obtain ⟨x, p⟩ := m
    cases p <;> simp [wrL] <;> omega
theorem wrL_isB (l : List Mk) (h : IsM l) : IsB (wrL l) := by
  induction l with
  | nil => exact isB_nil
  | cons m t ih =>
    obtain ⟨x, p⟩ := m
    have h0 := h 0
    simp only [List.getElem?_cons_zero, Option.getD_some] at h0
    have ht : IsM t := fun i => by have := h (i + 1); simpa using this
    cases p
    · exact isB_append [x] _ (isB_one x h0.1 h0.2) (ih ht)
    · exact isB_append [92, x] _ (isB_append [92] [x] (isB_one 92 (by omega) (by omega)) (isB_one x h0.1 h0.2)) (ih ht)

set_option maxHeartbeats 1000000 in
theorem written_any (w : World) (v : Value) (l : List Mk) (hb : SM w v l) (hl40 : l.length ≤ 1099511627776) : Calls Try.prog 25 #[v] w (TwinPost w (wrL l)) := by
  obtain ⟨hM, a, c, rfl, hl, hc⟩ := hb
  have HM := Lib.hid hM
  have HC := Lib.hid hc
  clear hM hc
  go_enter Try.func25, Try.ntmps25
  go_wp2_with fail
  go_loopw [3, 4] (fun v i wr => ∃ k : Nat, k ≤ l.length ∧ i = .int .i64 k ∧ OwnB wr w.heap.size v (wrL (l.take k)) ∧ Below w.heap.size w wr) (fun _ i _ => l.length - (intOf i).toNat)
  case atStart => exact ⟨0, Nat.zero_le _, rfl, OwnB.nil _ _, Below.refl _ _⟩
  case round =>
    obtain ⟨k, hk, rfl, ho, rb⟩ := hrel
    have hbs := rb.size
    by_cases hlt : k < l.length
    · obtain ⟨b, o, rfl, hc⟩ := HC.out.resolve_left (by intro e; rw [e] at hlt; exact absurd hlt (Nat.not_lt_zero _))
      obtain ⟨h1, h2⟩ := hc k hlt
      have hlb := World.block_lt_of_cell? w _ h1
      rw [← rb.cell (p := ⟨b, o + k * 2, none⟩) hlb] at h1
      rw [← rb.cell (p := ⟨b, o + k * 2 + 1, none⟩) hlb] at h2
      have hsn := wrL_snoc l k hlt
      have hwl := wrL_len (l.take k)
      rw [List.length_take] at hwl
      clear hc
      generalize l[k]?.getD (0, false) = m at h1 h2 hsn
      obtain ⟨x, p⟩ := m
      dsimp only at h1 h2
      have HS := Lib.hid (hsn x p rfl)
      clear hsn
      cases p
      · go_wp2_with (at_builtin; refine append_b1 rfl (.tmp 19) (.tmp 25) rfl w.heap.size _ _ x rfl ho rfl (by omega) hbs ?_)
        intro v' w2 ho' hA
        have hb2 := hA.bel _ _ rb (Nat.le_refl _)
        have ho' : OwnB w2 w.heap.size v' (wrL (l.take (k + 1))) := by rw [HS.out]; exact ho'
        clear ho rb hA h1 h2
        go_wp2_with fail
        go_roundw
        case rel => exact ⟨k + 1, by omega, by go_num, ho', hb2⟩
        case measure => simp [intOf]; omega
      · go_wp2_with (at_builtin; refine append_b1 rfl (.tmp 16) (.tmp 17) rfl w.heap.size _ _ 92 rfl ho rfl (by omega) hbs ?_)
        intro v' w2 ho' hA
        have hb2 := hA.bel _ _ rb (Nat.le_refl _)
        have hbs2 := hb2.size
        have h1 : w2.cell? ⟨b, o + k * 2, none⟩ = some (.int .u8 x) := by
          rw [← h1, rb.cell (p := ⟨b, o + k * 2, none⟩) hlb, hb2.cell (p := ⟨b, o + k * 2, none⟩) hlb]
        have hlw : (wrL (l.take k) ++ [92]).length ≤ 2 * k + 1 := by rw [List.length_append]; simp; omega
        clear ho rb hA h2 hbs
        generalize hwz : wrL (l.take k) ++ [92] = z at ho' hlw
        rw [hwz] at HS
        have HZ := Lib.hid hwz
        clear hwz
        go_wp2_with (at_builtin; refine append_b1 rfl (.tmp 19) (.tmp 25) rfl w.heap.size _ _ x rfl ho' rfl (by omega) hbs2 ?_)
        intro v2 w3 ho2 hA
        have hb3 := hA.bel _ _ hb2 (Nat.le_refl _)
        have ho2 : OwnB w3 w.heap.size v2 (wrL (l.take (k + 1))) := by rw [HS.out]; exact ho2
        clear ho' hb2 hA h1
        go_wp2_with fail
        go_roundw
        case rel => exact ⟨k + 1, by omega, by go_num, ho2, hb3⟩
        case measure => simp [intOf]; omega
    · rw [List.take_of_length_le (by omega)] at ho
      go_wp2_with fail
      go_ret
      exact ⟨_, rfl, ho, rb⟩
end Go.Proofs.Ytadjonggmbndmaa

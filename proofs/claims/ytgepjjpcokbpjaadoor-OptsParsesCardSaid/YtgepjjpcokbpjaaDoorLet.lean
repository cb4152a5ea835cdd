/-
  opts.isOption, letterAt; utf8.RuneLen, strings.HasPrefix, slices.Clone.
-/
import Derived.Test.YtgepjjpcokbpjaaDoorOptM
import Derived.Test.YtgepjjpcokbpjaaDoorEqT
namespace Go.Proofs.YtgepjjpcokbpjaaDoor
open Go.RowKit

theorem str_eqd (x y : Str) : (ByteArray.toList x == ByteArray.toList y) = decide (x = y) := by
  by_cases h : x = y
  · subst h; simp
  · rw [str_ne h]; simp [h]
theorem get_first (s : Str) (h : 0 < s.size) : (((s[0]'h).toNat : Int) == 45) = decide (s.get! 0 = 45) := by
  have e : s.get! 0 = s[0]'h := get_at s 0 h
  rw [e]
  by_cases h1 : s[0]'h = 45
  · rw [h1]; rfl
  · have : ¬ ((s[0]'h).toNat : Int) = 45 := fun e2 => h1 (UInt8.toNat_inj.1 (by have : (45 : UInt8).toNat = 45 := rfl; omega))
    simp [h1, this]
theorem isOption_any (w : World) (s : Str) (hs : s.size ≤ 9223372036854775807) : Calls Tryd.prog 27 #[.string s] w fun e w' => e = .returned (.bool (isOpt s)) ∧ w = w' := by
  go_enter Tryd.func27, Tryd.ntmps27
  by_cases h : 1 < s.size
  · have hd : decide (1 < s.size) = true := by simpa using h
    have he := Lib.hid (get_first s (by omega))
    go_wp2_with fail
    go_ret
    refine ⟨?_, rfl⟩
    show Ending.returned (Value.bool ((((s[0]'(by omega)).toNat : Int) == 45))) = _
    rw [he.out]
    unfold isOpt
    simp [h]
  · have hd : decide (1 < s.size) = false := by simpa using h
    go_wp2_with fail
    go_ret
    refine ⟨?_, rfl⟩
    unfold isOpt
    simp [h]
theorem runeLen_any (w : World) (r : Int) : Calls Tryd.prog 59 #[.int .i32 r] w fun e w' => e = .returned (.int .i64 (Lib.runeLen r)) ∧ w = w' := by
  go_enter Tryd.func59, Tryd.ntmps59
  go_wp2
  all_goals (go_ret; refine ⟨?_, rfl⟩; unfold Lib.runeLen; (repeat' split) <;> first | rfl | (exfalso; omega))
theorem hasPrefix_any (w : World) (s p : Str) : Calls Tryd.prog 58 #[.string s, .string p] w fun e w' => e = .returned (.bool (hasPre s p)) ∧ w = w' := by
  have he := Lib.hid (str_eqd (s.extract 0 p.size) p)
  unfold hasPre
  go_enter Tryd.func58, Tryd.ntmps58
  by_cases h : p.size ≤ s.size
  · go_wp2
    all_goals
      go_ret
      refine ⟨?_, rfl⟩
      show Ending.returned (Value.bool _) = _
      rw [he.out]
      simp [h]
  · go_wp2
    all_goals
      go_ret
      refine ⟨?_, rfl⟩
      simp [h]
theorem letterAt_any (w : World) (t : Str) (r : Int) (hs : t.size ≤ 9223372036854775807) (h1 : 1 ≤ t.size) (h2 : ¬ (r = 65533 ∧ hasPre t (str [239, 191, 189]) = false) → 0 ≤ Lib.runeLen r ∧ Lib.runeLen r ≤ t.size) :
    Calls Tryd.prog 28 #[.string t, .int .i32 r] w fun e w' => e = .returned (.string (letOf t r)) ∧ w = w' := by
  have HP := Lib.hid (hasPrefix_any w t (str [239, 191, 189]))
  have HR := Lib.hid (runeLen_any w r)
  have HD : Hid (letOf t r = if r = 65533 ∧ hasPre t (str [239, 191, 189]) = false then t.extract 0 1 else t.extract 0 (Lib.runeLen r).toNat) := Lib.hid rfl
  generalize letOf t r = x at HD ⊢
  by_cases hr : r = 65533
  · subst hr
    cases hp : hasPre t (str [239, 191, 189]) with
    | false =>
      rw [hp] at HP HD
      have HX : Hid (x = t.extract 0 1) := Lib.hid (by have := HD.out; rw [if_pos ⟨rfl, rfl⟩] at this; exact this)
      clear HD h2
      go_enter Tryd.func28, Tryd.ntmps28
      go_wp2_with fail
      refine HP.out.mono ?_
      rintro e w' ⟨rfl, rfl⟩
      go_wp2_with fail
      go_ret
      exact ⟨by rw [HX.out]; rfl, rfl⟩
    | true =>
      have h3 := h2 (fun h => by rw [hp] at h; exact absurd h.2 (by decide))
      rw [hp] at HP HD
      have HX : Hid (x = t.extract 0 (Lib.runeLen 65533).toNat) := Lib.hid (by have := HD.out; rw [if_neg (by decide)] at this; exact this)
      clear HD h2
      obtain ⟨m, hm⟩ : ∃ m, Lib.runeLen 65533 = m := ⟨_, rfl⟩
      rw [hm] at HX HR h3
      clear hm
      obtain ⟨k, rfl⟩ : ∃ k : Nat, m = k := ⟨m.toNat, by omega⟩
      have hk : k ≤ t.size := by omega
      clear h3
      go_enter Tryd.func28, Tryd.ntmps28
      go_wp2_with fail
      refine HP.out.mono ?_
      rintro e w' ⟨rfl, rfl⟩
      go_wp2_with fail
      refine HR.out.mono ?_
      rintro e w' ⟨rfl, rfl⟩
      go_wp2_with fail
      go_ret
      exact ⟨by rw [HX.out]; rfl, rfl⟩
  · have h3 := h2 (fun h => hr h.1)
    have hq : (r == 65533) = false := beq_eq_false_iff_ne.2 hr
    have HX : Hid (x = t.extract 0 (Lib.runeLen r).toNat) := Lib.hid (by have := HD.out; rw [if_neg (fun h => hr h.1)] at this; exact this)
    clear HD h2 HP
    generalize Lib.runeLen r = m at HX HR h3
    obtain ⟨k, rfl⟩ : ∃ k : Nat, m = k := ⟨m.toNat, by omega⟩
    have hk : k ≤ t.size := by omega
    clear h3
    go_enter Tryd.func28, Tryd.ntmps28
    go_wp2_with fail
    refine HR.out.mono ?_
    rintro e w' ⟨rfl, rfl⟩
    go_wp2_with fail
    go_ret
    exact ⟨by rw [HX.out]; rfl, rfl⟩

theorem TS.news {w : World} {ad : Addr} {n c : Nat} {l : List Str} (h : TS w (.slice (some ad) n c) l) : l.length = n ∧ ∀ j u, (l.map Value.string)[j]? = some u → w.cell? (ad.add j) = some u := by
  obtain ⟨hl, -⟩ := h.len
  refine ⟨hl, fun j u hj => ?_⟩
  have hlt : j < n := by have := (List.getElem?_eq_some_iff.1 hj).1; simp at this; omega
  obtain ⟨b, o, e, hc⟩ := h.read j hlt
  simp only [Option.some.injEq] at e
  subst e
  rw [show (⟨b, o, none⟩ : Addr).add j = ⟨b, o + j, none⟩ by simp [Addr.add], hc j hlt]
  have hj2 : j < l.length := by omega
  simpa [hj2] using hj
def TwinT (w : World) (l : List Str) (e : Ending) (w' : World) : Prop := ∃ a c, e = .returned (.slice a l.length c) ∧ OwnT w' w.heap.size (.slice a l.length c) l ∧ Below w.heap.size w w'
theorem eqNilT (w : World) (b : Addr) (n c : Nat) : Sem.run Tryd.prog (binOp .eql 22 (.slice (some b) n c) (.slice none 0 0)) w = .ok (.bool false) w := by kernel_rfl
theorem eqNilN (w : World) : Sem.run Tryd.prog (binOp .eql 22 (.slice none 0 0) (.slice none 0 0)) w = .ok (.bool true) w := by kernel_rfl
set_option maxRecDepth 100000 in
theorem clone_anyT (w : World) (a : Option Addr) (n c : Nat) (l : List Str) (hb : TS w (.slice a n c) l) : Calls Tryd.prog 29 #[.slice a n c] w fun e w' => TwinT w l e w' := by
  obtain ⟨i0, hi, hz0, hz1, hz2⟩ := info_parts infoT
  obtain ⟨hl, hn, hnc, hN⟩ := hb.len
  cases a with
  | none =>
    have hc := hN rfl
    subst hc
    have hn0 : n = 0 := by omega
    subst hn0
    have : l = [] := List.eq_nil_of_length_eq_zero hl
    subst this
    have heq := eqNilN w
    clear hb hN
    go_enter Tryd.func29, Tryd.ntmps29
    go_wp2_with fail
    go_ret
    exact ⟨none, 0, rfl, OwnT.nil _ _, Below.refl _ _⟩
  | some ad =>
    obtain ⟨-, hnews⟩ := hb.news
    have HB := Lib.hid hnews
    have HL := Lib.hid hl
    have hml : (l.map Value.string).length = n * 1 := by rw [List.length_map, hl, Nat.mul_one]
    have heq := eqNilT w ad n c
    have HZ : Hid ((w.alloc (.cells #[] 9)).ownsRow w.heap.size 9 1 (.slice (some ⟨w.heap.size, 0, none⟩) 0 0) 0 []) := Lib.hid (World.ownsRow_made w #[] 0 (Nat.le_refl _) (Nat.zero_le _) rfl)
    have HB1 : Hid (∀ j u, (l.map Value.string)[j]? = some u → (w.alloc (.cells #[] 9)).cell? (ad.add j) = some u) := Lib.hid fun j u hj => by
      have := HB.out j u hj
      exact ((Below.refl w.heap.size w).alloc (Nat.le_refl _) (.cells #[] 9)).cell (World.block_lt_of_cell? w _ this) |>.trans this
    clear hb hN hnews hl
    go_enter Tryd.func29, Tryd.ntmps29
    go_wp2_with (at_builtin; refine wpList_append_own_at _ rfl (.tmp 5) (.tmp 6) 22 rfl w.heap.size 9 i0 (.string ByteArray.empty) 1 16 Tryd.underlying22 hi hz0 hz1 hz2 rfl (by decide) _ 0 [] rfl HZ.out ad n c (l.map Value.string) rfl hml HB1.out (strs_one l) (by unfold maxLen; omega) (by omega) (by simp) ?_)
    intro v' w1 hown hgrow _ _
    have HO : Hid (OwnT w1 w.heap.size v' l) := Lib.hid (by
      unfold OwnT
      rw [HL.out]
      simpa using hown)
    have HB2 := Lib.hid ((((Below.refl _ w).alloc (Nat.le_refl _) _).grown hgrow (by simp) (fun k h => by simp [Value.ownBlock] at h; omega)))
    obtain ⟨av, cv, hv⟩ := own_shape hown
    subst hv
    clear hown hgrow hml heq
    go_wp2_with fail
    go_ret
    refine ⟨av, cv, ?_, ?_, HB2.out⟩
    · rw [HL.out]; simp
    · rw [HL.out]; simpa using HO.out
end Go.Proofs.YtgepjjpcokbpjaaDoor

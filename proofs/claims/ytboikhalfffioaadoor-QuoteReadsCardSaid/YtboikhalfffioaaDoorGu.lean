/-
  galleyref02.digit, guess, Unshow: their walks.
-/
import Derived.Test.YtboikhalfffioaaDoorRs
import Derived.Test.YtboikhalfffioaaDoorGsM
import Derived.Deep.RegionHeld3
import Derived.OwnWalk
namespace Go.Proofs.YtboikhalfffioaaDoor
open Go.RowKit

theorem digit_range : ∀ c : UInt8, -1 ≤ digitI c ∧ digitI c < 16 := by
  intro c
  unfold digitI
  repeat' split
  all_goals omega
set_option maxRecDepth 100000 in
theorem digit_any (c : UInt8) (w : World) : Calls Tryd.prog 58 #[.int .u8 (c.toNat : Int)] w fun e w' => e = .returned (.int .i64 (digitI c)) ∧ w = w' := by
  have hc := c.toNat_lt
  have HD : Hid (digitI c = if 48 ≤ c.toNat ∧ c.toNat ≤ 57 then (c.toNat : Int) - 48 else if 97 ≤ c.toNat ∧ c.toNat ≤ 102 then (c.toNat : Int) - 97 + 10 else -1) := Lib.hid rfl
  generalize digitI c = D at HD ⊢
  generalize c.toNat = x at hc HD ⊢
  go_enter Tryd.func58, Tryd.ntmps58
  by_cases h1 : 48 ≤ x
  · have d1 : decide ((48 : Int) ≤ (x : Int)) = true := decide_eq_true (by omega)
    by_cases h2 : x ≤ 57
    · have d2 : decide ((x : Int) ≤ 57) = true := decide_eq_true (by omega)
      have HE := Lib.hid (HD.out.trans (if_pos ⟨h1, h2⟩))
      go_wp2_with fail
      go_ret
      exact ⟨by rw [HE.out]; rfl, rfl⟩
    · have d2 : decide ((x : Int) ≤ 57) = false := decide_eq_false (by omega)
      have HE := Lib.hid (HD.out.trans (if_neg (by omega)))
      by_cases h3 : 97 ≤ x
      · have d3 : decide ((97 : Int) ≤ (x : Int)) = true := decide_eq_true (by omega)
        by_cases h4 : x ≤ 102
        · have d4 : decide ((x : Int) ≤ 102) = true := decide_eq_true (by omega)
          have HE := Lib.hid (HE.out.trans (if_pos ⟨h3, h4⟩))
          go_wp2_with fail
          go_ret
          exact ⟨by rw [HE.out]; rfl, rfl⟩
        · have d4 : decide ((x : Int) ≤ 102) = false := decide_eq_false (by omega)
          have HE := Lib.hid (HE.out.trans (if_neg (by omega)))
          go_wp2_with fail
          go_ret
          exact ⟨by rw [HE.out]; rfl, rfl⟩
      · have d3 : decide ((97 : Int) ≤ (x : Int)) = false := decide_eq_false (by omega)
        have HE := Lib.hid (HE.out.trans (if_neg (by omega)))
        go_wp2_with fail
        go_ret
        exact ⟨by rw [HE.out]; rfl, rfl⟩
  · have d1 : decide ((48 : Int) ≤ (x : Int)) = false := decide_eq_false (by omega)
    have d3 : decide ((97 : Int) ≤ (x : Int)) = false := decide_eq_false (by omega)
    have HE := Lib.hid (HD.out.trans (if_neg (by omega)))
    have HE := Lib.hid (HE.out.trans (if_neg (by omega)))
    go_wp2_with fail
    go_ret
    exact ⟨by rw [HE.out]; rfl, rfl⟩
/-- The loop of guess. -/
structure GuI (w wr : World) (B : Nat) (v : Value) (s : List UInt8) (p f : Nat) (acc : List UInt8) : Prop where
  own : OwnB wr B v (bI acc)
  bel : Below B w wr
  eq : acc ++ guessF f (s.drop p) = guessL s
  fu : s.length ≤ p + f
  len : acc.length ≤ p
  le : p ≤ s.length + 4
  one : 1 ≤ p
theorem guess_cons (f : Nat) (s : List UInt8) (p : Nat) (h : p + 1 < s.length) : guessF (f + 1) (s.drop p) =
    if s.getD p 0 ≠ 92 ∨ s.length ≤ p + 2 then s.getD p 0 :: guessF f (s.drop (p + 1))
    else if s.getD (p + 1) 0 = 110 then 10 :: guessF f (s.drop (p + 2))
    else if s.getD (p + 1) 0 = 116 then 9 :: guessF f (s.drop (p + 2))
    else if s.getD (p + 1) 0 = 114 then 13 :: guessF f (s.drop (p + 2))
    else if s.getD (p + 1) 0 = 120 then (if p + 3 < s.length ∧ 0 ≤ digitI (s.getD (p + 2) 0) ∧ 0 ≤ digitI (s.getD (p + 3) 0) then [UInt8.ofNat (16 * digitI (s.getD (p + 2) 0) + digitI (s.getD (p + 3) 0)).toNat] else []) ++ guessF f (s.drop (p + 4))
    else s.getD (p + 1) 0 :: guessF f (s.drop (p + 2)) := by
  have g : ∀ k, (s.drop p).getD k 0 = s.getD (p + k) 0 := fun k => by simp [List.getD]
  have hl : (s.drop p).length = s.length - p := List.length_drop
  rw [guessF, if_pos (by omega), hl, g 0, g 1, g 2, g 3, List.drop_drop, List.drop_drop, List.drop_drop]
  congr 1
  · rw [Nat.add_zero, eq_iff_iff]
    constructor <;> (rintro (h | h); exact .inl h; exact .inr (by omega))
  · congr 1
    congr 1
    congr 1
    congr 1
    congr 1
    congr 1
    rw [eq_iff_iff]
    constructor <;> (rintro ⟨h1, h2⟩; exact ⟨by omega, h2⟩)
theorem guess_end (f : Nat) (s : List UInt8) (p : Nat) (h : ¬ p + 1 < s.length) : guessF f (s.drop p) = [] := by
  cases f with
  | zero => rfl
  | succ f => rw [guessF, if_neg (by rw [List.length_drop]; omega)]
/-! ### the walk of guess -/
/-- append of one byte at a step of a region. -/
theorem wp_app1 {o : Oper} {a : Act} {w : World} {K : Act → World → Prop} {Q : Exit → Act → World → Prop} (s x : Operand)
    (ho : o.op = .call { callee := .builtin .append, args := #[s, x], argTypes := #[23, 23] })
    (base : Nat) (v : Value) (xs : List Int) (y : Int) (hs : a.eval s = v) (hown : OwnB w base v xs) (hx : a.eval x = .slice (some ⟨w.heap.size, 0, none⟩) 1 1) (hsum : xs.length + 1 ≤ 140737488355328) (hbase : base ≤ w.heap.size)
    (h : ∀ v' w', OwnB w' base v' (xs ++ [y]) → (∀ w0, Below base w0 w → Below base w0 w') → K (a.put o.dst v') w') :
    o.wp Tryd.prog a (w.alloc (.cells #[.int .u8 y] 5)) K Q := by
  obtain ⟨i0, hi, hz0, hz1, hz2⟩ := info_parts infoB
  refine wp_append_own (P := Tryd.prog) (w := w.alloc (.cells #[.int .u8 y] 5)) s x 23 ho base 5 i0 (.int .u8 0) 1 1 Tryd.underlying23 hi hz0 hz1 hz2 rfl (by decide) v xs.length (xs.map (Value.int .u8)) hs (World.ownsRow.alloc hown _) ⟨w.heap.size, 0, none⟩ 1 1 [.int .u8 y] hx rfl (one_cell _ _) (one_one _) (by unfold maxLen; omega) (by omega) (by rw [World.size_alloc]; omega) ?_
  intro v' w' hown' hgrow _
  exact h v' w' (own_step hown') fun w0 hb => (hb.alloc (by have := hb.size; omega) _).grown hgrow (by have := hb.size; rw [World.size_alloc]; omega) fun k hk => (World.ownsRow.lt hown k hk).1

set_option maxHeartbeats 2000000 in
set_option maxRecDepth 100000 in
theorem guess_any (w : World) (s : ByteArray) (hb : s.size ≤ 8796093022000) : Calls Tryd.prog 26 #[.string s] w fun e w' => ∃ v, e = .returned v ∧ OwnB w' w.heap.size v (bI (guessL s.data.toList)) ∧ Below w.heap.size w w' := by
  have HL := Lib.hid (dataL s)
  go_enter Tryd.func26, Tryd.ntmps26
  go_wp2_with fail
  have HI : Hid (GuI w w w.heap.size (.slice none 0 0) s.data.toList 1 s.data.toList.length []) := Lib.hid
    ⟨OwnB.nil _ _, Below.refl _ _, by simp [guessL], by omega, by simp, by omega, Nat.le_refl _⟩
  go_loopw [3, 4] (fun v3 v4 wr => ∃ (p f : Nat) (acc : List UInt8), v4 = .int .i64 (p : Int) ∧ GuI w wr w.heap.size v3 s.data.toList p f acc) (fun _ v4 _ => s.size + 4 - (intOf v4).toNat)
  case atStart => exact ⟨1, _, _, rfl, HI.out⟩
  case round =>
    clear HI
    obtain ⟨p, f, acc, rfl, hI⟩ := hrel
    have HI := Lib.hid hI
    have hone := hI.one
    have hle := hI.le
    have hfu := hI.fu
    have hln := hI.len
    rw [HL.out] at hle hfu
    clear hI
    by_cases hp : p + 1 < s.size
    · have d1 : decide ((p : Int) < (s.size : Int) - 1) = true := decide_eq_true (by omega)
      obtain ⟨f', hf⟩ : ∃ f', f = f' + 1 := ⟨f - 1, by omega⟩
      subst hf
      have hps : p < s.size := by omega
      have hps1 : p + 1 < s.size := by omega
      have hx := at_byte s p hps
      have hy := at_byte s (p + 1) hps1
      have HG := Lib.hid (guess_cons f' s.data.toList p (by rw [HL.out]; exact hp))
      rw [hx, hy, HL.out] at HG
      have HSZ : Hid (w.heap.size ≤ wr.heap.size) := Lib.hid HI.out.bel.size
      clear hx hy
      go_upto_region 4 with fail
      go_cut [21] (fun v wx => v = .bool (decide (s[p] ≠ 92) || decide (s.size ≤ p + 2)) ∧ wx = wr)
      case first =>
        by_cases h9 : s[p] = 92
        · have e0 : ((s[p].toNat : Int) != 92) = false := by rw [h9]; rfl
          by_cases h2 : s.size ≤ p + 2
          · have d2 : decide ((s.size : Int) - 1 ≤ (p : Int) + 1) = true := decide_eq_true (by omega)
            go_wp2_with fail
            go_meet
            case rel => exact ⟨by rw [decide_eq_true h2, Bool.or_true], rfl⟩
          · have d2 : decide ((s.size : Int) - 1 ≤ (p : Int) + 1) = false := decide_eq_false (by omega)
            go_wp2_with fail
            go_meet
            case rel => exact ⟨by rw [decide_eq_false h2, h9]; rfl, rfl⟩
        · have e0 : ((s[p].toNat : Int) != 92) = true := by
            rw [bne_iff_ne]
            exact fun e => h9 (UInt8.toNat_inj.1 (by rw [show (92 : UInt8).toNat = 92 from rfl]; omega))
          go_wp2_with fail
          go_meet
          case rel => exact ⟨by rw [decide_eq_true h9, Bool.true_or], rfl⟩
      case rest =>
        obtain ⟨rfl, rfl⟩ := hcut
        by_cases hA : s[p] ≠ 92 ∨ s.size ≤ p + 2
        · have hd : (decide (s[p] ≠ 92) || decide (s.size ≤ p + 2)) = true := by
            rcases hA with h | h
            · rw [decide_eq_true h, Bool.true_or]
            · rw [decide_eq_true h, Bool.or_true]
          have HEQ := Lib.hid (HG.out.trans (if_pos hA))
          rw [hd]
          clear hd hA HG
          generalize hgx : s[p] = x at HEQ
          have hgi : (s[p].toNat : Int) = (x.toNat : Int) := by rw [hgx]

          have hl3 : (bI acc).length + 1 ≤ 140737488355328 := by rw [bI_len]; omega
          go_wp2_with (at_builtin; refine append_b1 rfl (.tmp 22) (.tmp 26) rfl w.heap.size _ (bI acc) (x.toNat : Int) rfl HI.out.own rfl hl3 HSZ.out ?_)
          intro v5 w5 ho hA5
          have HI5 : Hid (GuI w w5 w.heap.size v5 s.data.toList (p + 1) f' (acc ++ [x])) := Lib.hid ⟨by rw [bI_append]; exact ho, hA5.bel _ _ HI.out.bel (Nat.le_refl _), by rw [← HI.out.eq, HEQ.out]; simp, by rw [HL.out]; omega, by rw [List.length_append, List.length_singleton]; omega, by rw [HL.out]; omega, by omega⟩
          clear ho hA5
          go_wp2_with fail
          go_roundw
          case rel => exact ⟨p + 1, _, _, rfl, HI5.out⟩
          case measure => simp only [intOf]; omega
        · have hd : (decide (s[p] ≠ 92) || decide (s.size ≤ p + 2)) = false := by
            rw [Bool.or_eq_false_iff]
            exact ⟨decide_eq_false fun h => hA (.inl h), decide_eq_false fun h => hA (.inr h)⟩
          have HEQ := Lib.hid (HG.out.trans (if_neg hA))
          rw [hd]
          clear hd hA HG
          obtain ⟨hy0, hy1⟩ : (p : Int) + 1 < (s.size : Int) ∧ True := ⟨by omega, trivial⟩
          by_cases h110 : s[p + 1] = 110
          · have f110 : ((s[p + 1].toNat : Int) == 110) = true := by rw [h110]; rfl
            have HE2 := Lib.hid (HEQ.out.trans (if_pos h110))
            clear HEQ h110
            have hl3 : (bI acc).length + 1 ≤ 140737488355328 := by rw [bI_len]; omega
            go_wp2_with (at_builtin; refine append_b1 rfl (.tmp 43) (.tmp 44) rfl w.heap.size _ (bI acc) 10 rfl HI.out.own rfl hl3 HSZ.out ?_)
            intro v5 w5 ho hA5
            have HI5 : Hid (GuI w w5 w.heap.size v5 s.data.toList (p + 2) f' (acc ++ [10])) := Lib.hid ⟨by rw [bI_append]; exact ho, hA5.bel _ _ HI.out.bel (Nat.le_refl _), by rw [← HI.out.eq, HE2.out]; simp, by rw [HL.out]; omega, by rw [List.length_append, List.length_singleton]; omega, by rw [HL.out]; omega, by omega⟩
            clear ho hA5
            go_wp2_with fail
            go_roundw
            case rel => exact ⟨p + 2, _, _, rfl, HI5.out⟩
            case measure => simp only [intOf]; omega
          · have HEQ := Lib.hid (HEQ.out.trans (if_neg h110))
            by_cases h116 : s[p + 1] = 116
            · have f110 : ((s[p + 1].toNat : Int) == 110) = false := by rw [beq_eq_false_iff_ne]; exact fun e => h110 (UInt8.toNat_inj.1 (by rw [show (110 : UInt8).toNat = 110 from rfl]; omega))
              have f116 : ((s[p + 1].toNat : Int) == 116) = true := by rw [h116]; rfl
              have HE2 := Lib.hid (HEQ.out.trans (if_pos h116))
              clear HEQ h116
              have hl3 : (bI acc).length + 1 ≤ 140737488355328 := by rw [bI_len]; omega
              go_wp2_with (at_builtin; refine append_b1 rfl (.tmp 48) (.tmp 49) rfl w.heap.size _ (bI acc) 9 rfl HI.out.own rfl hl3 HSZ.out ?_)
              intro v5 w5 ho hA5
              have HI5 : Hid (GuI w w5 w.heap.size v5 s.data.toList (p + 2) f' (acc ++ [9])) := Lib.hid ⟨by rw [bI_append]; exact ho, hA5.bel _ _ HI.out.bel (Nat.le_refl _), by rw [← HI.out.eq, HE2.out]; simp, by rw [HL.out]; omega, by rw [List.length_append, List.length_singleton]; omega, by rw [HL.out]; omega, by omega⟩
              clear ho hA5
              go_wp2_with fail
              go_roundw
              case rel => exact ⟨p + 2, _, _, rfl, HI5.out⟩
              case measure => simp only [intOf]; omega
            · have HEQ := Lib.hid (HEQ.out.trans (if_neg h116))
              by_cases h114 : s[p + 1] = 114
              · have f110 : ((s[p + 1].toNat : Int) == 110) = false := by rw [beq_eq_false_iff_ne]; exact fun e => h110 (UInt8.toNat_inj.1 (by rw [show (110 : UInt8).toNat = 110 from rfl]; omega))
                have f116 : ((s[p + 1].toNat : Int) == 116) = false := by rw [beq_eq_false_iff_ne]; exact fun e => h116 (UInt8.toNat_inj.1 (by rw [show (116 : UInt8).toNat = 116 from rfl]; omega))
                have f114 : ((s[p + 1].toNat : Int) == 114) = true := by rw [h114]; rfl
                have HE2 := Lib.hid (HEQ.out.trans (if_pos h114))
                clear HEQ h114
                have hl3 : (bI acc).length + 1 ≤ 140737488355328 := by rw [bI_len]; omega
                go_wp2_with (at_builtin; refine append_b1 rfl (.tmp 53) (.tmp 54) rfl w.heap.size _ (bI acc) 13 rfl HI.out.own rfl hl3 HSZ.out ?_)
                intro v5 w5 ho hA5
                have HI5 : Hid (GuI w w5 w.heap.size v5 s.data.toList (p + 2) f' (acc ++ [13])) := Lib.hid ⟨by rw [bI_append]; exact ho, hA5.bel _ _ HI.out.bel (Nat.le_refl _), by rw [← HI.out.eq, HE2.out]; simp, by rw [HL.out]; omega, by rw [List.length_append, List.length_singleton]; omega, by rw [HL.out]; omega, by omega⟩
                clear ho hA5
                go_wp2_with fail
                go_roundw
                case rel => exact ⟨p + 2, _, _, rfl, HI5.out⟩
                case measure => simp only [intOf]; omega
              · have HEQ := Lib.hid (HEQ.out.trans (if_neg h114))
                by_cases h120 : s[p + 1] = 120
                · have f110 : ((s[p + 1].toNat : Int) == 110) = false := by rw [beq_eq_false_iff_ne]; exact fun e => h110 (UInt8.toNat_inj.1 (by rw [show (110 : UInt8).toNat = 110 from rfl]; omega))
                  have f116 : ((s[p + 1].toNat : Int) == 116) = false := by rw [beq_eq_false_iff_ne]; exact fun e => h116 (UInt8.toNat_inj.1 (by rw [show (116 : UInt8).toNat = 116 from rfl]; omega))
                  have f114 : ((s[p + 1].toNat : Int) == 114) = false := by rw [beq_eq_false_iff_ne]; exact fun e => h114 (UInt8.toNat_inj.1 (by rw [show (114 : UInt8).toNat = 114 from rfl]; omega))
                  have f120 : ((s[p + 1].toNat : Int) == 120) = true := by rw [h120]; rfl
                  have HEQ := Lib.hid (HEQ.out.trans (if_pos h120))
                  clear h120
                  go_upto_region 16 with fail
                  go_cut [78] (fun v wx => v = .bool (decide (p + 3 < s.size ∧ 0 ≤ digitI (s.data.toList.getD (p + 2) 0) ∧ 0 ≤ digitI (s.data.toList.getD (p + 3) 0))) ∧ wx = wc)
                  case first =>
                    by_cases hp3 : p + 3 < s.size
                    · have d5 : decide ((p : Int) + 3 < (s.size : Int)) = true := decide_eq_true (by omega)
                      have hp2 : p + 2 < s.size := by omega
                      have hp2i : (p : Int) + 2 < (s.size : Int) := by omega
                      have hp3i : (p : Int) + 3 < (s.size : Int) := by omega
                      have HX2 := Lib.hid (at_byte s (p + 2) hp2)
                      have HX3 := Lib.hid (at_byte s (p + 3) hp3)
                      have HD2 := Lib.hid (digit_any s[p + 2] wc)
                      have HD3 := Lib.hid (digit_any s[p + 3] wc)
                      by_cases q2 : 0 ≤ digitI s[p + 2]
                      · have e2 : decide (0 ≤ digitI s[p + 2]) = true := decide_eq_true q2
                        by_cases q3 : 0 ≤ digitI s[p + 3]
                        · have e3 : decide (0 ≤ digitI s[p + 3]) = true := decide_eq_true q3
                          go_wp2_with (go_at_call 58; refine HD2.out.mono ?_)
                          rintro e w3 ⟨rfl, rfl⟩
                          go_wp2_with (go_at_call 58; refine HD3.out.mono ?_)
                          rintro e w3 ⟨rfl, rfl⟩
                          go_wp2_with fail
                          go_meet
                          case rel => exact ⟨by rw [decide_eq_true ⟨hp3, by rw [HX2.out]; exact q2, by rw [HX3.out]; exact q3⟩], rfl⟩
                        · have e3 : decide (0 ≤ digitI s[p + 3]) = false := decide_eq_false q3
                          go_wp2_with (go_at_call 58; refine HD2.out.mono ?_)
                          rintro e w3 ⟨rfl, rfl⟩
                          go_wp2_with (go_at_call 58; refine HD3.out.mono ?_)
                          rintro e w3 ⟨rfl, rfl⟩
                          go_wp2_with fail
                          go_meet
                          case rel => exact ⟨by rw [decide_eq_false (fun h => by have := h.2.2; rw [HX3.out] at this; omega)], rfl⟩
                      · have e2 : decide (0 ≤ digitI s[p + 2]) = false := decide_eq_false q2
                        go_wp2_with (go_at_call 58; refine HD2.out.mono ?_)
                        rintro e w3 ⟨rfl, rfl⟩
                        go_wp2_with fail
                        go_meet
                        case rel => exact ⟨by rw [decide_eq_false (fun h => by have := h.2.1; rw [HX2.out] at this; omega)], rfl⟩
                    · have d5 : decide ((p : Int) + 3 < (s.size : Int)) = false := decide_eq_false (by omega)
                      go_wp2_with fail
                      go_meet
                      case rel => exact ⟨by rw [decide_eq_false (fun h => by have := h.1; omega)], rfl⟩
                  case rest =>
                    obtain ⟨rfl, rfl⟩ := hcut
                    by_cases hC : p + 3 < s.size ∧ 0 ≤ digitI (s.data.toList.getD (p + 2) 0) ∧ 0 ≤ digitI (s.data.toList.getD (p + 3) 0)
                    · rw [decide_eq_true hC]
                      have hp3 := hC.1
                      have hp2 : p + 2 < s.size := by omega
                      have hp2i : (p : Int) + 2 < (s.size : Int) := by omega
                      have hp3i : (p : Int) + 3 < (s.size : Int) := by omega
                      have HE2 := Lib.hid (HEQ.out.trans (by rw [if_pos hC, at_byte s (p + 2) hp2, at_byte s (p + 3) hp3]))
                      have q2 : 0 ≤ digitI s[p + 2] := by rw [← at_byte s (p + 2) hp2]; exact hC.2.1
                      have q3 : 0 ≤ digitI s[p + 3] := by rw [← at_byte s (p + 3) hp3]; exact hC.2.2
                      have r2 := digit_range s[p + 2]
                      have r3 := digit_range s[p + 3]
                      have HD2 := Lib.hid (digit_any s[p + 2])
                      have HD3 := Lib.hid (digit_any s[p + 3])
                      clear HEQ hC
                      generalize digitI s[p + 2] = D2 at HD2 HE2 q2 r2
                      generalize digitI s[p + 3] = D3 at HD3 HE2 q3 r3
                      have z2 : (0 : Int) ≤ (p : Int) + 2 := by omega
                      have z3 : (0 : Int) ≤ (p : Int) + 3 := by omega
                      have y2 : IntKind.i64.wrap ((p : Int) + 2) = (p : Int) + 2 := IntWalk.i64_in _ (by omega)
                      have y3 : IntKind.i64.wrap ((p : Int) + 3) = (p : Int) + 3 := IntWalk.i64_in _ (by omega)
                      have x2 : ((p : Int) + 2).toNat = p + 2 := by omega
                      have x3 : ((p : Int) + 3).toNat = p + 3 := by omega
                      have v2 : IntKind.i64.wrap (16 * D2) = 16 * D2 := IntWalk.i64_in _ (by omega)
                      have v3 : IntKind.i64.wrap (16 * D2 + D3) = 16 * D2 + D3 := IntWalk.i64_in _ (by omega)
                      have v4 : IntKind.u8.wrap (16 * D2 + D3) = 16 * D2 + D3 := IntWalk.u8_in _ (by omega)
                      go_upto_region 17 with fail
                      have HOW : Hid (OwnB wc.drew w.heap.size _ (bI acc)) := Lib.hid (HI.out.own.below (below_drewN (Below.refl _ wc) 1))
                      have HSZ2 : Hid (w.heap.size ≤ wc.drew.heap.size) := HSZ
                      have HBW : Hid (Below w.heap.size w wc.drew) := Lib.hid (below_drewN HI.out.bel 1)
                      have hl3 : (bI acc).length + 1 ≤ 140737488355328 := by rw [bI_len]; omega
                      have hst : True := trivial
                      refine wp_region_held_drew (S := fun w' => True) (by kernel_rfl) hst (fun hHeld => ?_)
                      refine wpAnyH_take (i := 0) (v := u3) rfl (by kernel_rfl) (by kernel_rfl) (by kernel_rfl) (fun _ _ _ h => h) (Or.inl ⟨by rfl, by intro w hSw; clear hSw; go_simp⟩) (by assumption) ?_
                      simp only [Act.put, List.getElem_toArray, List.getElem_cons_zero, List.setIfInBounds_toArray, List.set_cons_zero, List.set_cons_succ]
                      refine wpAnyH_take (i := 1) (v := .string s) rfl (by kernel_rfl) (by kernel_rfl) (by kernel_rfl) (fun _ _ _ h => h) (Or.inl ⟨by rfl, by intro w hSw; clear hSw; go_simp⟩) (by assumption) ?_
                      simp only [Act.put, List.getElem_toArray, List.getElem_cons_zero, List.getElem_cons_succ, List.setIfInBounds_toArray, List.set_cons_zero, List.set_cons_succ]
                      refine wpAnyH_take (i := 2) (v := .int .i64 (p : Int)) rfl (by kernel_rfl) (by kernel_rfl) (by kernel_rfl) (fun _ _ _ h => h) (Or.inl ⟨by rfl, by intro w hSw; clear hSw; go_simp⟩) (by assumption) ?_
                      simp only [Act.put, List.getElem_toArray, List.getElem_cons_zero, List.getElem_cons_succ, List.setIfInBounds_toArray, List.set_cons_zero, List.set_cons_succ]
                      refine wpAnyH_take (i := 3) (v := .int .i64 ((p : Int) + 2)) rfl (by kernel_rfl) (by kernel_rfl) (by kernel_rfl) (fun _ _ _ h => h) (Or.inl ⟨by rfl, by intro w hSw; clear hSw; go_simp⟩) (by assumption) ?_
                      simp only [Act.put, List.getElem_toArray, List.getElem_cons_zero, List.getElem_cons_succ, List.setIfInBounds_toArray, List.set_cons_zero, List.set_cons_succ]
                      refine wpAnyH_take (i := 4) (v := .int .u8 (s[p + 2].toNat : Int)) rfl (by kernel_rfl) (by kernel_rfl) (by kernel_rfl) (fun _ _ _ h => h) (Or.inl ⟨by rfl, by intro w hSw; clear hSw; go_simp⟩) (by assumption) ?_
                      simp only [Act.put, List.getElem_toArray, List.getElem_cons_zero, List.getElem_cons_succ, List.setIfInBounds_toArray, List.set_cons_zero, List.set_cons_succ]
                      refine wpAnyH_take (i := 7) (v := .string s) rfl (by kernel_rfl) (by kernel_rfl) (by kernel_rfl) (fun _ _ _ h => h) (Or.inl ⟨by rfl, by intro w hSw; clear hSw; go_simp⟩) (by assumption) ?_
                      simp only [Act.put, List.getElem_toArray, List.getElem_cons_zero, List.getElem_cons_succ, List.setIfInBounds_toArray, List.set_cons_zero, List.set_cons_succ]
                      refine wpAnyH_take (i := 8) (v := .int .i64 (p : Int)) rfl (by kernel_rfl) (by kernel_rfl) (by kernel_rfl) (fun _ _ _ h => h) (Or.inl ⟨by rfl, by intro w hSw; clear hSw; go_simp⟩) (by assumption) ?_
                      simp only [Act.put, List.getElem_toArray, List.getElem_cons_zero, List.getElem_cons_succ, List.setIfInBounds_toArray, List.set_cons_zero, List.set_cons_succ]
                      refine wpAnyH_take (i := 9) (v := .int .i64 ((p : Int) + 3)) rfl (by kernel_rfl) (by kernel_rfl) (by kernel_rfl) (fun _ _ _ h => h) (Or.inl ⟨by rfl, by intro w hSw; clear hSw; go_simp⟩) (by assumption) ?_
                      simp only [Act.put, List.getElem_toArray, List.getElem_cons_zero, List.getElem_cons_succ, List.setIfInBounds_toArray, List.set_cons_zero, List.set_cons_succ]
                      refine wpAnyH_take (i := 10) (v := .int .u8 (s[p + 3].toNat : Int)) rfl (by kernel_rfl) (by kernel_rfl) (by kernel_rfl) (fun _ _ _ h => h) (Or.inl ⟨by rfl, by intro w hSw; clear hSw; go_simp⟩) (by assumption) ?_
                      simp only [Act.put, List.getElem_toArray, List.getElem_cons_zero, List.getElem_cons_succ, List.setIfInBounds_toArray, List.set_cons_zero, List.set_cons_succ]
                      refine wpAnyH_ready (rs := [5]) (by kernel_rfl) (by simp) ?_
                      refine AllReadyH.cons rfl (fun K hK => ?_) AllReadyH.nil
                      go_simp
                      refine (HD2.out _).mono ?_
                      rintro e w3 ⟨rfl, rfl⟩
                      refine hK.out _ _ hHeld (fun hHeld => ?_)
                      clear hK K
                      refine wpAnyH_take (i := 6) (v := .int .i64 (16 * D2)) rfl (by kernel_rfl) (by kernel_rfl) (by kernel_rfl) (fun _ _ _ h => h) (Or.inl ⟨by rfl, by intro w hSw; clear hSw; go_simp⟩) (by assumption) ?_
                      simp only [Act.put, List.getElem_toArray, List.getElem_cons_zero, List.getElem_cons_succ, List.setIfInBounds_toArray, List.set_cons_zero, List.set_cons_succ]
                      refine wpAnyH_ready (rs := [11]) (by kernel_rfl) (by simp) ?_
                      refine AllReadyH.cons rfl (fun K hK => ?_) AllReadyH.nil
                      go_simp
                      refine (HD3.out _).mono ?_
                      rintro e w3 ⟨rfl, rfl⟩
                      refine hK.out _ _ hHeld (fun hHeld => ?_)
                      clear hK K
                      refine wpAnyH_take (i := 12) (v := .int .i64 (16 * D2 + D3)) rfl (by kernel_rfl) (by kernel_rfl) (by kernel_rfl) (fun _ _ _ h => h) (Or.inl ⟨by rfl, by intro w hSw; clear hSw; go_simp⟩) (by assumption) ?_
                      simp only [Act.put, List.getElem_toArray, List.getElem_cons_zero, List.getElem_cons_succ, List.setIfInBounds_toArray, List.set_cons_zero, List.set_cons_succ]
                      refine wpAnyH_take (i := 13) (v := .int .u8 (16 * D2 + D3)) rfl (by kernel_rfl) (by kernel_rfl) (by kernel_rfl) (fun _ _ _ h => h) (Or.inl ⟨by rfl, by intro w hSw; clear hSw; go_simp⟩) (by assumption) ?_
                      simp only [Act.put, List.getElem_toArray, List.getElem_cons_zero, List.getElem_cons_succ, List.setIfInBounds_toArray, List.set_cons_zero, List.set_cons_succ]
                      refine wpAnyH_ready (rs := [14]) (by kernel_rfl) (by simp) ?_
                      refine AllReadyH.cons rfl (fun K hK => ?_) AllReadyH.nil
                      go_simp
                      refine hK.out _ _ hHeld (fun hHeld => ?_)
                      clear hK K
                      refine wpAnyH_ready (rs := [15]) (by kernel_rfl) (by simp) ?_
                      refine AllReadyH.cons rfl (fun K hK => ?_) AllReadyH.nil
                      refine wp_app1 (w := wc.drew) (.tmp 79) (.tmp 93) rfl w.heap.size _ (bI acc) (16 * D2 + D3) rfl HOW.out rfl hl3 HSZ2.out ?_
                      intro v5 w5 ho hb5
                      refine hK.out _ _ hHeld (fun hHeld => ?_)
                      clear hK K
                      simp only [Act.put, List.getElem_toArray, List.getElem_cons_zero, List.getElem_cons_succ, List.setIfInBounds_toArray, List.set_cons_zero, List.set_cons_succ]
                      refine wpAnyH_take (i := 16) (v := v5) rfl (by kernel_rfl) (by kernel_rfl) (by kernel_rfl) (fun _ _ _ h => h) (Or.inl ⟨by rfl, by intro w hSw; clear hSw; go_simp⟩) (by assumption) ?_
                      simp only [Act.put, List.getElem_toArray, List.getElem_cons_zero, List.getElem_cons_succ, List.setIfInBounds_toArray, List.set_cons_zero, List.set_cons_succ]
                      refine wpAnyH_done (by kernel_rfl) ?_ _
                      have hbI : bI [UInt8.ofNat (16 * D2 + D3).toNat] = [16 * D2 + D3] := by
                        have : (UInt8.ofNat (16 * D2 + D3).toNat).toNat = (16 * D2 + D3).toNat := by rw [UInt8.toNat_ofNat']; omega
                        show [((UInt8.ofNat (16 * D2 + D3).toNat).toNat : Int)] = _
                        rw [this]
                        congr 1
                        omega
                      have HI5 : Hid (GuI w w5 w.heap.size v5 s.data.toList (p + 4) f' (acc ++ [UInt8.ofNat (16 * D2 + D3).toNat])) := Lib.hid ⟨by rw [bI_append, hbI]; exact ho, hb5 _ HBW.out, by rw [← HI.out.eq, HE2.out]; simp, by rw [HL.out]; omega, by rw [List.length_append, List.length_singleton]; omega, by rw [HL.out]; omega, by omega⟩
                      clear ho hb5 hbI y2 y3 x2 x3 v2 v3 v4 hl3
                      go_wp2_with fail
                      go_roundw
                      case rel => exact ⟨p + 4, _, _, by congr 1, HI5.out⟩
                      case measure => simp only [intOf]; omega
                    · rw [decide_eq_false hC]
                      have HE2 := Lib.hid (HEQ.out.trans (by rw [if_neg hC, List.nil_append]))
                      clear HEQ hC
                      have HI5 : Hid (GuI w wc w.heap.size _ s.data.toList (p + 4) f' acc) := Lib.hid ⟨HI.out.own, HI.out.bel, by rw [← HI.out.eq, HE2.out], by rw [HL.out]; omega, by omega, by rw [HL.out]; omega, by omega⟩
                      go_wp2_with fail
                      go_roundw
                      case rel => exact ⟨p + 4, _, _, by congr 1, HI5.out⟩
                      case measure => simp only [intOf]; omega
                · have f110 : ((s[p + 1].toNat : Int) == 110) = false := by rw [beq_eq_false_iff_ne]; exact fun e => h110 (UInt8.toNat_inj.1 (by rw [show (110 : UInt8).toNat = 110 from rfl]; omega))
                  have f116 : ((s[p + 1].toNat : Int) == 116) = false := by rw [beq_eq_false_iff_ne]; exact fun e => h116 (UInt8.toNat_inj.1 (by rw [show (116 : UInt8).toNat = 116 from rfl]; omega))
                  have f114 : ((s[p + 1].toNat : Int) == 114) = false := by rw [beq_eq_false_iff_ne]; exact fun e => h114 (UInt8.toNat_inj.1 (by rw [show (114 : UInt8).toNat = 114 from rfl]; omega))
                  have f120 : ((s[p + 1].toNat : Int) == 120) = false := by rw [beq_eq_false_iff_ne]; exact fun e => h120 (UInt8.toNat_inj.1 (by rw [show (120 : UInt8).toNat = 120 from rfl]; omega))
                  have HEQ := Lib.hid (HEQ.out.trans (if_neg h120))
                  generalize hgy : s[p + 1] = y at HEQ
                  have hgj : (s[p + 1].toNat : Int) = (y.toNat : Int) := by rw [hgy]
                  have hl3 : (bI acc).length + 1 ≤ 140737488355328 := by rw [bI_len]; omega
                  go_wp2_with (at_builtin; refine append_b1 rfl (.tmp 34) (.tmp 39) rfl w.heap.size _ (bI acc) (y.toNat : Int) rfl HI.out.own rfl hl3 HSZ.out ?_)
                  intro v5 w5 ho hA5
                  have HI5 : Hid (GuI w w5 w.heap.size v5 s.data.toList (p + 2) f' (acc ++ [y])) := Lib.hid ⟨by rw [bI_append]; exact ho, hA5.bel _ _ HI.out.bel (Nat.le_refl _), by rw [← HI.out.eq, HEQ.out]; simp, by rw [HL.out]; omega, by rw [List.length_append, List.length_singleton]; omega, by rw [HL.out]; omega, by omega⟩
                  clear ho hA5
                  go_wp2_with fail
                  go_roundw
                  case rel => exact ⟨p + 2, _, _, rfl, HI5.out⟩
                  case measure => simp only [intOf]; omega
    · have d1 : decide ((p : Int) < (s.size : Int) - 1) = false := decide_eq_false (by omega)
      have HE : Hid (acc = guessL s.data.toList) := Lib.hid (by rw [← HI.out.eq, guess_end _ _ _ (by rw [HL.out]; exact hp), List.append_nil])
      go_wp2_with fail
      go_ret
      exact ⟨_, rfl, by rw [← HE.out]; exact HI.out.own, HI.out.bel⟩
end Go.Proofs.YtboikhalfffioaaDoor

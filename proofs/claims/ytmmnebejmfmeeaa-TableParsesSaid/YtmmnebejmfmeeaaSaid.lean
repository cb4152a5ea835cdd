/-
  table.said and galleyref15.Row: the bytes that a row of marks says.
-/
import Derived.Test.YtmmnebejmfmeeaaMarks2
import Derived.Test.YtmmnebejmfmeeaaPrint
namespace Go.Proofs.Ytmmnebejmfmeeaa
open Go.RowKit

/-- The bytes that marks say, or none. -/
def saidL : List Mk → Option (List Int)
  | [] => some []
  | (b, p) :: r =>
    if b = 92 ∧ p = false then
      match r with
      | [] => none
      | (y, q) :: r2 => if q = true then none else if y = 92 then (saidL r2).map (92 :: ·) else if y = 110 then (saidL r2).map (10 :: ·) else none
    else (saidL r).map (b :: ·)

theorem saidL_other (x : Int) (p : Bool) (r : List Mk) (h : ¬ (x = 92 ∧ p = false)) : saidL ((x, p) :: r) = (saidL r).map (x :: ·) := by
  rw [saidL.eq_def]
  simp only [if_neg h]

/-- What the two functions answer. -/
def SaidPost (w : World) (l : List Mk) (e : Ending) (w' : World) : Prop :=
  ∃ (v : Value) (ok : Bool), e = .returned (.tuple #[v, .bool ok]) ∧ (match saidL l with
    | some t => ok = true ∧ SB w' v t
    | none => ok = false ∧ v = .slice none 0 0) ∧ Below w.heap.size w w'

set_option maxHeartbeats 1000000 in
theorem said_any (w : World) (v : Value) (l : List Mk) (hb : SM w v l) :
    Calls Try.prog 26 #[v] w (SaidPost w l) := by
  obtain ⟨i0, hi, hz0, hz1, hz2⟩ := info_parts infoB
  obtain ⟨hM, a, c, rfl, hl, hc⟩ := hb
  have HM := Lib.hid hM
  have HC := Lib.hid hc
  clear hM hc
  go_enter Try.func26, Try.ntmps26
  go_wp2
  go_loopw [4, 5] (fun va i wr => ∃ (k : Nat) (acc : List Int), k ≤ l.length ∧ i = .int .i64 k ∧ OwnB wr w.heap.size va acc ∧ Hid (saidL l = (saidL (l.drop k)).map (acc ++ ·)) ∧ Hid (acc.length ≤ k) ∧ Hid (IsB acc) ∧ Below w.heap.size w wr) (fun _ i _ => l.length - (intOf i).toNat)
  case atStart => exact ⟨0, [], Nat.zero_le _, rfl, OwnB.nil _ _, Lib.hid (by simp), Lib.hid (by simp), Lib.hid isB_nil, Below.refl _ _⟩
  case round =>
    obtain ⟨k, acc, hk, rfl, ho, HS, hal, HB, rb⟩ := hrel
    have hbs := rb.size
    by_cases hlt : k < l.length
    · obtain ⟨b, o, rfl, hcc⟩ := HC.out.resolve_left (by intro e; rw [e] at hlt; exact absurd hlt (Nat.not_lt_zero _))
      obtain ⟨hk1, hk2⟩ := hcc k hlt
      have hbl := World.block_lt_of_cell? w _ hk1
      rw [← rb.cell hbl] at hk1
      rw [← rb.cell (p := ⟨b, o + k * 2 + 1, none⟩) hbl] at hk2
      obtain ⟨hx0, hx1⟩ := HM.out k
      have hdrop := List.drop_eq_getElem_cons hlt
      have hg : l[k]?.getD (0, false) = l[k] := by rw [List.getElem?_eq_getElem hlt]; rfl
      rw [hg] at hk1 hk2 hx0 hx1
      clear hg
      generalize l[k] = m at hk1 hk2 hx0 hx1 hdrop
      obtain ⟨x, p⟩ := m
      dsimp only at hk1 hk2 hx0 hx1
      by_cases hx : x = 92
      · subst hx
        cases p
        · by_cases hlt2 : k + 1 < l.length
          · obtain ⟨hk3, hk4⟩ := hcc (k + 1) hlt2
            rw [← rb.cell (p := ⟨b, o + (k + 1) * 2, none⟩) hbl] at hk3
            rw [← rb.cell (p := ⟨b, o + (k + 1) * 2 + 1, none⟩) hbl] at hk4
            have hdrop2 := List.drop_eq_getElem_cons hlt2
            have hg : l[k + 1]?.getD (0, false) = l[k + 1] := by rw [List.getElem?_eq_getElem hlt2]; rfl
            rw [hg] at hk3 hk4
            clear hg hcc
            generalize l[k + 1] = m at hk3 hk4 hdrop2
            obtain ⟨y, q⟩ := m
            dsimp only at hk3 hk4
            have hne : ((k : Int) + 1 == (l.length : Int)) = false := beq_eq_false_iff_ne.2 (by omega)
            have hlt3 : (k : Int) + 1 < (l.length : Int) := by omega
            rw [hdrop2] at hdrop
            have HD := Lib.hid hdrop
            clear hdrop hdrop2
            cases q
            · by_cases hy : y = 92
              · subst hy
                have HE : Hid (saidL (l.drop k) = (saidL (l.drop (k + 2))).map (92 :: ·)) := Lib.hid (by rw [HD.out]; rfl)
                go_wp2_with (at_builtin; refine wpList_append_own _ rfl _ _ 22 rfl w.heap.size 5 i0 (.int .u8 0) 1 1 Try.underlying22 hi hz0 hz1 hz2 rfl (by decide) _ _ _ rfl (World.ownsRow.alloc ho _) ⟨wr.heap.size, 0, none⟩ 1 1 [.int .u8 92] rfl rfl (one_cell _ _) (one_one _) (by have := hal.out; unfold maxLen; omega) (by have := hal.out; omega) (by rw [World.size_alloc]; omega) ?_)
                intro v' w1 hown' hgrow _
                have ho1 := own_step hown'
                have rb1 := (rb.alloc hbs (.cells #[.int .u8 92] 5)).grown hgrow (by rw [World.size_alloc]; omega) (ho.from (Nat.le_refl _))
                clear hown' hgrow
                go_wp2
                go_roundw
                case rel => exact ⟨k + 2, acc ++ [92], by omega, by go_num, ho1, Lib.hid (by rw [HS.out, HE.out]; simp [Option.map_map, Function.comp_def]), Lib.hid (by simp; have := hal.out; omega), Lib.hid (isB_snoc _ _ HB.out (by omega) (by omega)), rb1⟩
                case measure => simp [intOf]; omega

              · by_cases hy2 : y = 110
                · subst hy2
                  have HE : Hid (saidL (l.drop k) = (saidL (l.drop (k + 2))).map (10 :: ·)) := Lib.hid (by rw [HD.out]; rfl)
                  go_wp2_with (at_builtin; refine wpList_append_own _ rfl _ _ 22 rfl w.heap.size 5 i0 (.int .u8 0) 1 1 Try.underlying22 hi hz0 hz1 hz2 rfl (by decide) _ _ _ rfl (World.ownsRow.alloc ho _) ⟨wr.heap.size, 0, none⟩ 1 1 [.int .u8 10] rfl rfl (one_cell _ _) (one_one _) (by have := hal.out; unfold maxLen; omega) (by have := hal.out; omega) (by rw [World.size_alloc]; omega) ?_)
                  intro v' w1 hown' hgrow _
                  have ho1 := own_step hown'
                  have rb1 := (rb.alloc hbs (.cells #[.int .u8 10] 5)).grown hgrow (by rw [World.size_alloc]; omega) (ho.from (Nat.le_refl _))
                  clear hown' hgrow
                  go_wp2
                  go_roundw
                  case rel => exact ⟨k + 2, acc ++ [10], by omega, by go_num, ho1, Lib.hid (by rw [HS.out, HE.out]; simp [Option.map_map, Function.comp_def]), Lib.hid (by simp; have := hal.out; omega), Lib.hid (isB_snoc _ _ HB.out (by omega) (by omega)), rb1⟩
                  case measure => simp [intOf]; omega

                · have HN : Hid (saidL l = none) := Lib.hid (by rw [HS.out, HD.out]; simp [saidL, hy, hy2])
                  have h1 : (y == 92) = false := beq_eq_false_iff_ne.2 hy
                  have h2 : (y == 110) = false := beq_eq_false_iff_ne.2 hy2
                  go_wp2
                  go_ret2
                  exact ⟨_, false, rfl, by rw [HN.out]; exact ⟨rfl, rfl⟩, rb⟩

            · have HN : Hid (saidL l = none) := Lib.hid (by rw [HS.out, HD.out]; simp [saidL])
              go_wp2
              go_ret2
              exact ⟨_, false, rfl, by rw [HN.out]; exact ⟨rfl, rfl⟩, rb⟩

          · have hd1 : l.drop (k + 1) = [] := List.drop_eq_nil_of_le (by omega)
            have HN : Hid (saidL l = none) := Lib.hid (by rw [HS.out, hdrop, hd1]; rfl)
            have hne : ((k : Int) + 1 == (l.length : Int)) = true := beq_iff_eq.2 (by omega)
            clear hdrop hd1 hcc
            go_wp2
            go_ret2
            exact ⟨_, false, rfl, by rw [HN.out]; exact ⟨rfl, rfl⟩, rb⟩

        · have HE : Hid (saidL (l.drop k) = (saidL (l.drop (k + 1))).map (92 :: ·)) := Lib.hid (by rw [hdrop, saidL_other _ _ _ (by simp)])
          clear hdrop hcc
          go_wp2_with (at_builtin; refine wpList_append_own _ rfl _ _ 22 rfl w.heap.size 5 i0 (.int .u8 0) 1 1 Try.underlying22 hi hz0 hz1 hz2 rfl (by decide) _ _ _ rfl (World.ownsRow.alloc ho _) ⟨wr.heap.size, 0, none⟩ 1 1 [.int .u8 92] rfl rfl (one_cell _ _) (one_one _) (by have := hal.out; unfold maxLen; omega) (by have := hal.out; omega) (by rw [World.size_alloc]; omega) ?_)
          intro v' w1 hown' hgrow _
          have ho1 := own_step hown'
          have rb1 := (rb.alloc hbs (.cells #[.int .u8 92] 5)).grown hgrow (by rw [World.size_alloc]; omega) (ho.from (Nat.le_refl _))
          clear hown' hgrow
          go_wp2
          go_roundw
          case rel => exact ⟨k + 1, acc ++ [92], by omega, by go_num, ho1, Lib.hid (by rw [HS.out, HE.out]; simp [Option.map_map, Function.comp_def]), Lib.hid (by simp; have := hal.out; omega), Lib.hid (isB_snoc _ _ HB.out (by omega) (by omega)), rb1⟩
          case measure => simp [intOf]; omega

      · have hxb : (x == 92) = false := beq_eq_false_iff_ne.2 hx
        have hxb2 : (x != 92) = true := by rw [bne_iff_ne]; exact hx
        have HE : Hid (saidL (l.drop k) = (saidL (l.drop (k + 1))).map (x :: ·)) := Lib.hid (by rw [hdrop, saidL_other _ _ _ (fun h => hx h.1)])
        clear hdrop hcc hx
        cases p
        all_goals
          go_wp2_with (at_builtin; refine wpList_append_own _ rfl _ _ 22 rfl w.heap.size 5 i0 (.int .u8 0) 1 1 Try.underlying22 hi hz0 hz1 hz2 rfl (by decide) _ _ _ rfl (World.ownsRow.alloc ho _) ⟨wr.heap.size, 0, none⟩ 1 1 [.int .u8 x] rfl rfl (one_cell _ _) (one_one _) (by have := hal.out; unfold maxLen; omega) (by have := hal.out; omega) (by rw [World.size_alloc]; omega) ?_)
          intro v' w1 hown' hgrow _
          have ho1 := own_step hown'
          have rb1 := (rb.alloc hbs (.cells #[.int .u8 x] 5)).grown hgrow (by rw [World.size_alloc]; omega) (ho.from (Nat.le_refl _))
          clear hown' hgrow
          go_wp2
          go_roundw
          case rel => exact ⟨k + 1, acc ++ [x], by omega, by go_num, ho1, Lib.hid (by rw [HS.out, HE.out]; simp [Option.map_map, Function.comp_def]), Lib.hid (by simp; have := hal.out; omega), Lib.hid (isB_snoc _ _ HB.out (by omega) (by omega)), rb1⟩
          case measure => simp [intOf]; omega

    · have hd1 : l.drop k = [] := List.drop_eq_nil_of_le (by omega)
      have HN : Hid (saidL l = some acc) := Lib.hid (by rw [HS.out, hd1]; simp [saidL])
      clear hd1
      go_wp2
      go_ret2
      exact ⟨_, true, rfl, by rw [HN.out]; exact ⟨rfl, ho.sb HB.out (by have := hal.out; omega)⟩, rb⟩
end Go.Proofs.Ytmmnebejmfmeeaa

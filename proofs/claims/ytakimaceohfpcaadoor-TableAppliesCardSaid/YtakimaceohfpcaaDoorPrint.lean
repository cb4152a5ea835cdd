/-
  table.Print: the bytes that do not stay, and what they become.
-/
import Derived.Test.YtakimaceohfpcaaDoorApply
import Derived.Test.YtakimaceohfpcaaDoorEqRow
import Derived.Maps.AppendAt
import Derived.Test.YtakimaceohfpcaaDoorHeld
namespace Go.Proofs.YtakimaceohfpcaaDoor
open Go.RowKit

/-- Of the first k bytes those that do not stay. -/
def pfTo (t : List Int) : Nat → List Int
  | 0 => []
  | k + 1 => if t[k]?.getD 0 = (k : Int) then pfTo t k else pfTo t k ++ [(k : Int)]
/-- What they become. -/
def ptTo (t : List Int) : Nat → List Int
  | 0 => []
  | k + 1 => if t[k]?.getD 0 = (k : Int) then ptTo t k else ptTo t k ++ [t[k]?.getD 0]
theorem pfTo_len (t : List Int) : ∀ k, (pfTo t k).length ≤ k
  | 0 => by simp [pfTo]
  | k + 1 => by
    have := pfTo_len t k
    rw [pfTo]
    split
    · omega
    · simp; omega
theorem ptTo_len (t : List Int) : ∀ k, (ptTo t k).length = (pfTo t k).length
  | 0 => by simp [pfTo, ptTo]
  | k + 1 => by
    have := ptTo_len t k
    rw [pfTo, ptTo]
    split
    · omega
    · simp; omega

theorem pfTo_iden : ∀ k, k ≤ 256 → pfTo iden k = []
  | 0, _ => rfl
  | k + 1, h => by rw [pfTo, if_pos (iden_get k (by omega)), pfTo_iden k (by omega)]
theorem ptTo_iden : ∀ k, k ≤ 256 → ptTo iden k = []
  | 0, _ => rfl
  | k + 1, h => by rw [ptTo, if_pos (iden_get k (by omega)), ptTo_iden k (by omega)]
theorem pfTo_isB (t : List Int) : ∀ k, k ≤ 256 → IsB (pfTo t k)
  | 0, _ => isB_nil
  | k + 1, h => by
    rw [pfTo]
    split
    · exact pfTo_isB t k (by omega)
    · exact isB_snoc _ _ (pfTo_isB t k (by omega)) (by omega) (by omega)
theorem ptTo_isB (t : List Int) (hT : IsB t) : ∀ k, IsB (ptTo t k)
  | 0 => isB_nil
  | k + 1 => by
    rw [ptTo]
    split
    · exact ptTo_isB t hT k
    · exact isB_snoc _ _ (ptTo_isB t hT k) (hT k).1 (hT k).2

/-- What Print answers. -/
def PrintPost (w : World) (t : List Int) (e : Ending) (w' : World) : Prop :=
  ∃ va vb, e = .returned (.tuple #[va, vb]) ∧ OwnB w' w.heap.size va (pfTo t 256) ∧ OwnB w' w.heap.size vb (ptTo t 256) ∧ Apart va vb ∧ Below w.heap.size w w'

set_option maxHeartbeats 1000000 in
set_option maxRecDepth 100000 in
theorem print_any (w : World) (g : Nat) (T : TypeId) (t : List Int) (ht : Arr w g T t) (htl : t.length = 256) (hT : IsB t) :
    Calls Tryd.prog 33 #[.pointer (some ⟨g, 0, none⟩)] w (PrintPost w t) := by
  have hr := ht.range
  have b0 := Below.refl w.heap.size w
  have hu := Tryd.underlying73
  have hi : (Tryd.prog.info? 73).map (·.size) = some (row t).toList.length := by rw [Array.length_toList, row_size, htl]; exact infoT
  have hgu := fun w op x y xs ys => run_guardT w op x y xs ys
  have HTL := Lib.hid htl
  have HT := Lib.hid hT
  clear htl hT
  by_cases hid : t = iden
  · have heq : ∀ w, (binOp .eql 73 (.agg (row t)) (.agg (row iden))).run Tryd.prog w = .ok (.bool true) w := fun w => by
      rw [run_eql_row w _ _ HTL.out iden_len, decide_eq_true hid]
    have Hid' := Lib.hid hid
    clear hid
    go_enter Tryd.func33, Tryd.ntmps33
    go_wp2
    go_region_held3 (fun w' => w'.rangeAt g 0 (row t).toList ∧ Below w.heap.size w w') (first | exact ⟨hr, b0.drew⟩ | assumption | exact keepS (by assumption) (by assumption))
      (first | (go_at_call 97; refine (staying_any _).mono ?_; rintro e w' ⟨rfl, hb'⟩))
    have hfin := (by assumption : w'.rangeAt g 0 (row t).toList ∧ Below w.heap.size w w').2
    clear hb'
    go_wp2
    go_ret2
    refine ⟨_, _, rfl, ?_, ?_, (fun k h _ => by simp [Value.ownBlock] at h), hfin⟩
    · rw [Hid'.out, pfTo_iden 256 (Nat.le_refl _)]; exact OwnB.nil _ _
    · rw [Hid'.out, ptTo_iden 256 (Nat.le_refl _)]; exact OwnB.nil _ _
  · have heq : ∀ w, (binOp .eql 73 (.agg (row t)) (.agg (row iden))).run Tryd.prog w = .ok (.bool false) w := fun w => by
      rw [run_eql_row w _ _ HTL.out iden_len, decide_eq_false hid]
    obtain ⟨i0, hi0, hz0, hz1, hz2⟩ := info_parts infoB
    clear hid
    go_enter Tryd.func33, Tryd.ntmps33
    go_wp2
    go_region_held3 (fun w' => w'.rangeAt g 0 (row t).toList ∧ Below w.heap.size w w') (first | exact ⟨hr, b0.drew⟩ | assumption | exact keepS (by assumption) (by assumption))
      (first | (go_at_call 97; refine (staying_any _).mono ?_; rintro e w' ⟨rfl, hb'⟩))
    have hfin := (by assumption : w'.rangeAt g 0 (row t).toList ∧ Below w.heap.size w w').2
    have ha := ht.below hfin ht.lt
    clear hb' hu hi heq hgu hr b0
    go_wp2
    go_loopw [4, 5, 18] (fun va vb i wr => ∃ k : Nat, k ≤ 256 ∧ i = .int .i64 k ∧ OwnB wr w.heap.size va (pfTo t k) ∧ OwnB wr w.heap.size vb (ptTo t k) ∧ Apart va vb ∧ Below w.heap.size w wr) (fun _ _ i _ => 256 - (intOf i).toNat)
    case atStart => exact ⟨0, Nat.zero_le _, rfl, OwnB.nil _ _, OwnB.nil _ _, fun k h _ => by simp [Value.ownBlock] at h, hfin⟩
    case round =>
      obtain ⟨k, hk, rfl, ho4, ho5, hap, rb⟩ := hrel
      by_cases hlt : k < 256
      · have hlt' : (k : Int) < 256 := by omega
        have hc := (ht.below rb ht.lt).cell k (by rw [HTL.out]; exact hlt)
        obtain ⟨hx0, hx1⟩ := HT.out k
        by_cases hst : t[k]?.getD 0 = (k : Int)
        · have hp := Lib.hid (show pfTo t (k + 1) = pfTo t k by rw [pfTo, if_pos hst])
          have hq := Lib.hid (show ptTo t (k + 1) = ptTo t k by rw [ptTo, if_pos hst])
          rw [hst] at hc hx0 hx1
          clear hst
          go_wp2
          go_quiet (fail)
          go_wp2
          go_roundw
          case rel => exact ⟨k + 1, by omega, by go_num, by rw [hp.out]; exact ho4, by rw [hq.out]; exact ho5, hap, below_drewN rb _⟩
          case measure => simp [intOf]; omega
        · have hp := Lib.hid (show pfTo t (k + 1) = pfTo t k ++ [(k : Int)] by rw [pfTo, if_neg hst])
          have hq := Lib.hid (show ptTo t (k + 1) = ptTo t k ++ [t[k]?.getD 0] by rw [ptTo, if_neg hst])
          have hl4 := Lib.hid (pfTo_len t k)
          have hl5 := Lib.hid (ptTo_len t k)
          have hne : (t[k]?.getD 0 != (k : Int)) = true := by rw [bne_iff_ne]; exact hst
          generalize t[k]?.getD 0 = x at hc hx0 hx1 hq hne
          clear hst
          go_wp2
          go_quiet (fail)
          rename_i nq
          have rb : Below w.heap.size w (wr.drewN nq) := below_drewN rb nq
          have ho4 : OwnB (wr.drewN nq) w.heap.size u4 (pfTo t k) := ho4
          have ho5 : OwnB (wr.drewN nq) w.heap.size u5 (ptTo t k) := ho5
          generalize wr.drewN nq = W at rb ho4 ho5 ⊢
          have hbs := rb.size
          clear hc
          go_wp2_with (at_builtin; refine wpList_append_own_at _ rfl (.tmp 28) (.tmp 31) 48 rfl w.heap.size 5 i0 (.int .u8 0) 1 1 Tryd.underlying48 hi0 hz0 hz1 hz2 rfl (by decide) _ _ _ rfl (World.ownsRow.alloc ho4 _) ⟨W.heap.size, 0, none⟩ 1 1 [.int .u8 k] rfl rfl (one_cell _ _) (one_one _) ?c3 ?c4 ?c5 ?_)
          case c3 => have := hl4.out; unfold maxLen; omega
          case c4 => have := hl4.out; omega
          case c5 => rw [World.size_alloc]; omega
          intro v' w1 hown' hgrow _ hat
          obtain ⟨hn4, hn5, hnap⟩ := two_step ho5 hap hown' hgrow hat
          have rb1 := (rb.alloc hbs (.cells #[.int .u8 k] 5)).grown hgrow (by rw [World.size_alloc]; omega) (ho4.from (Nat.le_refl _))
          have hbs1 := rb1.size
          clear hown' hgrow hat ho4 ho5 hap rb hbs
          go_wp2_with (at_builtin; refine wpList_append_own_at _ rfl (.tmp 33) (.tmp 35) 48 rfl w.heap.size 5 i0 (.int .u8 0) 1 1 Tryd.underlying48 hi0 hz0 hz1 hz2 rfl (by decide) _ _ _ rfl (World.ownsRow.alloc hn5 _) ⟨w1.heap.size, 0, none⟩ 1 1 [.int .u8 x] rfl rfl (one_cell _ _) (one_one _) ?d3 ?d4 ?d5 ?_)
          case d3 => have := hl4.out; have := hl5.out; unfold maxLen; omega
          case d4 => have := hl4.out; have := hl5.out; omega
          case d5 => rw [World.size_alloc]; omega
          intro v'' w2 hown' hgrow _ hat
          obtain ⟨hm5, hm4, hmap⟩ := two_step hn4 hnap.symm hown' hgrow hat
          have rb2 := (rb1.alloc hbs1 (.cells #[.int .u8 x] 5)).grown hgrow (by rw [World.size_alloc]; omega) (hn5.from (Nat.le_refl _))
          clear hown' hgrow hat hn4 hn5 hnap rb1 hbs1
          go_wp2
          go_roundw
          case rel => exact ⟨k + 1, by omega, by go_num, by rw [hp.out]; exact hm4, by rw [hq.out]; exact hm5, hmap.symm, rb2⟩
          case measure => simp [intOf]; omega
      · have hk' : k = 256 := by omega
        subst hk'
        go_wp2
        go_ret2
        exact ⟨_, _, rfl, ho4, ho5, hap, rb⟩
end Go.Proofs.YtakimaceohfpcaaDoor

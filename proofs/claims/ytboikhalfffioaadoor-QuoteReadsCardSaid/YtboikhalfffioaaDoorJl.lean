/-
  QuoteJoins: its walk.
-/
import Derived.Test.YtboikhalfffioaaDoorPl
import Derived.Test.YtboikhalfffioaaDoorWk2
import Derived.Test.YtboikhalfffioaaDoorCopy
import Derived.Test.YtboikhalfffioaaDoorLl
namespace Go.Proofs.YtboikhalfffioaaDoor
open Go.RowKit

theorem bI_of (l : List Int) (h : IsB l) : ∃ m : List UInt8, l = bI m := by
  refine ⟨(strI l).data.toList, ?_⟩
  unfold strI bI
  apply List.ext_getElem?
  intro i
  simp only [List.map_map, List.getElem?_map]
  cases hi : l[i]? with
  | none => rfl
  | some x =>
    have := h i
    rw [hi] at this
    simp at this
    simp only [Option.map_some, Function.comp]
    congr 1
    have e : (UInt8.ofNat x.toNat).toNat = x.toNat := by rw [UInt8.toNat_ofNat']; omega
    rw [e]; omega
theorem bI_inj {a b : List UInt8} (h : bI a = bI b) : a = b := by
  have h1 := bI_str a
  rw [h, bI_str b] at h1
  exact h1.symm
/-- quote.Show of a copy. -/
theorem showCopy (w : World) (v : Value) (l : List UInt8) (hb : OwnB w w.heap.size v (bI l) ∨ SB w v (bI l)) (hl : l.length ≤ 8796093022000) : Calls Tryd.prog 20 #[v] w fun e w' => e = .returned (.string ⟨(showL l).toArray⟩) ∧ Below w.heap.size w w' := by
  have hs : SB w v (bI l) := hb.elim (fun h => h.sb (bI_isB _) (by rw [bI_len]; omega)) id
  obtain ⟨hB, a, c, rfl, h3, h4⟩ := id hs
  have := show_any w a _ c (bI l) hs (by rw [bI_len]; omega)
  rw [bI_str] at this
  exact this
theorem show_size (l : List UInt8) : (⟨(showL l).toArray⟩ : ByteArray).size = (showL l).length := by simp [ByteArray.size]
theorem show_two (l : List UInt8) : 2 ≤ (showL l).length := by simp [showL]

set_option maxHeartbeats 2000000 in
set_option maxRecDepth 100000 in
theorem joins_any (w : World) (hw : W2 w) (a b : Option Addr) (n c m d : Nat) (x y : List UInt8) (hA : SB w (.slice a n c) (bI x)) (hB : SB w (.slice b m d) (bI y)) (hNa : a = none → c = 0) (hNb : b = none → d = 0) :
    Calls Tryd.prog 8 #[.slice a n c, .slice b m d] w fun r w' => r = .returned (.bool true) ∧ Below w.heap.size w w' := by
  have HW := Lib.hid hw
  have hxl := hA.len
  have hyl := hB.len
  rw [bI_len] at hxl hyl
  have HXL := Lib.hid hxl.1
  have HYL := Lib.hid hyl.1
  have HA := Lib.hid hA
  have HB := Lib.hid hB
  have HNa := Lib.hid hNa
  have HNb := Lib.hid hNb
  have hnb := hxl.2
  have hmb := hyl.2
  have HLO := Lib.hid (long_nat w (n + m))
  rw [Int.natCast_add] at HLO
  have HWH := Lib.hid (refWhole_any w a n c x hA)
  clear hw hA hB hNa hNb hxl hyl
  go_enter Tryd.func8, Tryd.ntmps8
  by_cases hlo : 2147483647 < n + m
  · rw [decide_eq_true hlo] at HLO
    go_wp2_with (go_at_call 9; refine HLO.out.mono ?_)
    rintro e w1 ⟨rfl, rfl⟩
    go_wp2_with fail
    go_ret
    exact ⟨rfl, Below.refl _ _⟩
  · rw [decide_eq_false hlo] at HLO
    cases hwh : wholeF x.length x with
    | false =>
      rw [hwh] at HWH
      go_wp2_with (first | (go_at_call 9; refine HLO.out.mono ?_) | (go_at_call 23; refine HWH.out.mono ?_))
      rintro e w1 ⟨rfl, rfl⟩
      go_wp2_with (first | (go_at_call 9; refine HLO.out.mono ?_) | (go_at_call 23; refine HWH.out.mono ?_))
      rintro e w1 ⟨rfl, hww⟩
      obtain rfl : w = w1 := hww.symm
      go_wp2_with fail
      go_ret
      exact ⟨rfl, Below.refl _ _⟩
    | true =>
      rw [hwh] at HWH
      have HSJ := Lib.hid (show_join x y hwh)
      clear hwh
      go_wp2_with (first | (go_at_call 9; refine HLO.out.mono ?_) | (go_at_call 23; refine HWH.out.mono ?_))
      rintro e w1 ⟨rfl, rfl⟩
      go_wp2_with (first | (go_at_call 9; refine HLO.out.mono ?_) | (go_at_call 23; refine HWH.out.mono ?_))
      rintro e w1 ⟨rfl, hww⟩
      obtain rfl : w = w1 := hww.symm
      have hs1 : (bI ([] : List UInt8)).length + n ≤ 140737488355328 := by rw [bI_len, List.length_nil]; omega
      go_upto_region 4 with fail
      go_wp2_with (at_builtin; refine append_sbp rfl (.tmp 20) (.tmp 21) rfl w.heap.size _ (bI []) (bI x) a n c rfl (OwnB.nil _ _) rfl HNa.out HA.out hs1 (Nat.le_refl _) ?_)
      intro v5 w5 ho hA5
      have HO5 : Hid (OwnB w5 w.heap.size v5 (bI x)) := Lib.hid ho
      have HB5 : Hid (Below w.heap.size w w5) := Lib.hid (hA5.bel _ _ (Below.refl _ _) (Nat.le_refl _))
      have HBB := Lib.hid (HB.out.below HB5.out)
      clear ho hA5
      have hs2 : (bI x).length + m ≤ 140737488355328 := by rw [bI_len, HXL.out]; omega
      have HZ5 : Hid (w.heap.size ≤ w5.heap.size) := Lib.hid HB5.out.size
      go_upto_region 5 with fail
      go_wp2_with (at_builtin; refine append_sbp rfl (.tmp 23) (.tmp 24) rfl w.heap.size _ (bI x) (bI y) b m d rfl HO5.out rfl HNb.out HBB.out hs2 HZ5.out ?_)
      intro v6 w6 ho hA6
      have HO6 : Hid (OwnB w6 w.heap.size v6 (bI (x ++ y))) := Lib.hid (by rw [bI_append]; exact ho)
      have HB6 : Hid (Below w.heap.size w w6) := Lib.hid (hA6.bel _ _ HB5.out (Nat.le_refl _))
      clear ho hA6
      have HS6 := Lib.hid (showCopy w6 v6 (x ++ y) (.inr (HO6.out.sb (bI_isB _) (by rw [bI_len, List.length_append, HXL.out, HYL.out]; omega))) (by rw [List.length_append, HXL.out, HYL.out]; omega))
      go_wp2_with (go_at_call 20; refine HS6.out.mono ?_)
      rintro e w7 ⟨rfl, b7⟩
      have HB7 := Lib.hid (HB6.out.trans (b7.mono HB6.out.size))
      clear b7 HS6
      have HC7 := Lib.hid (copy_any w7 _ _ (HA.out.below HB7.out))
      go_wp2_with (go_at_call 21; refine HC7.out.mono ?_)
      rintro e w8 ⟨v8, rfl, o8, b8⟩
      have HB8 := Lib.hid (HB7.out.trans (b8.mono HB7.out.size))
      have HS8 := Lib.hid (showCopy w8 v8 x (.inr (o8.sb (bI_isB _) (by rw [bI_len, HXL.out]; omega))) (by rw [HXL.out]; omega))
      clear b8 o8 HC7
      go_wp2_with (go_at_call 20; refine HS8.out.mono ?_)
      rintro e w9 ⟨rfl, b9⟩
      have HB9 := Lib.hid (HB8.out.trans (b9.mono HB8.out.size))
      clear b9 HS8
      have HC9 := Lib.hid (copy_any w9 _ _ (HB.out.below HB9.out))
      go_wp2_with (go_at_call 21; refine HC9.out.mono ?_)
      rintro e w10 ⟨v10, rfl, o10, b10⟩
      have HB10 := Lib.hid (HB9.out.trans (b10.mono HB9.out.size))
      have HS10 := Lib.hid (showCopy w10 v10 y (.inr (o10.sb (bI_isB _) (by rw [bI_len, HYL.out]; omega))) (by rw [HYL.out]; omega))
      clear b10 o10 HC9
      go_wp2_with (go_at_call 20; refine HS10.out.mono ?_)
      rintro e w11 ⟨rfl, b11⟩
      have HB11 := Lib.hid (HB10.out.trans (b11.mono HB10.out.size))
      clear b11 HS10
      have hTs := show_size x
      have hUs := show_size y
      have hT2 := show_two x
      have hU2 := show_two y
      have hTl := show_len x
      have hUl := show_len y
      rw [HXL.out] at hTl
      rw [HYL.out] at hUl
      obtain ⟨S, hS⟩ : ∃ S : ByteArray, ⟨(showL (x ++ y)).toArray⟩ = S := ⟨_, rfl⟩
      obtain ⟨T, hT⟩ : ∃ T : ByteArray, ⟨(showL x).toArray⟩ = T := ⟨_, rfl⟩
      obtain ⟨U, hU⟩ : ∃ U : ByteArray, ⟨(showL y).toArray⟩ = U := ⟨_, rfl⟩
      have heq : (S.toList == (T.extract 0 (T.size - 1) ++ U.extract 1 U.size).toList) = true := by
        rw [beq_iff_eq, Lib.toList_data, Lib.toList_data, ByteArray.data_append, Array.toList_append, extract_list, extract_list, ← hS, ← hT, ← hU, List.drop_zero]
        show showL (x ++ y) = _
        rw [HSJ.out, show_size, show_size]
        show _ = List.take ((showL x).length - 1 - 0) (showL x) ++ List.take ((showL y).length - 1) (List.drop 1 (showL y))
        rw [List.take_of_length_le (l := List.drop 1 (showL y)) (by rw [List.length_drop]; omega)]
        rfl
      have g1 : decide ((1 : Int) < (T.size : Int)) = true := decide_eq_true (by rw [← hT, hTs]; omega)
      have g2 : decide ((1 : Int) < (U.size : Int)) = true := decide_eq_true (by rw [← hU, hUs]; omega)
      have t1 : (1 : Int) ≤ (T.size : Int) - 1 ∧ (T.size : Int) - 1 ≤ (T.size : Int) := ⟨by rw [← hT, hTs]; omega, by omega⟩
      have q1 : (0 : Int) ≤ (T.size : Int) - 1 := by omega
      have q2 : (T.size : Int) - 1 ≤ (T.size : Int) := by omega
      have q3 : (1 : Int) ≤ (U.size : Int) := by rw [← hU, hUs]; omega
      have q4 : ((T.size : Int) - 1).toNat = T.size - 1 := by omega
      have q5 : T.size ≤ 10000000000000 := by rw [← hT, hTs]; omega
      have q6 : U.size ≤ 10000000000000 := by rw [← hU, hUs]; omega
      have q7 : IntKind.i64.wrap ((T.size : Int) - 1) = (T.size : Int) - 1 := IntWalk.i64_in _ (by omega)
      have q8 : ¬ 9223372036854775807 < (T.extract 0 (T.size - 1)).size + (U.extract 1 U.size).size := by rw [ByteArray.size_extract, ByteArray.size_extract]; omega
      have q9 : ¬ 9223372036854775807 < (T.extract 0 (T.size - 1) ++ U.extract 1 U.size).size := by rw [ByteArray.size_append]; exact q8
      have HWK : Hid (∀ w1, Below w11.heap.size w11 w1 → Calls Tryd.prog 15 #[] w1 fun r w' => r = .returned (.bool true) ∧ Below w1.heap.size w1 w') := Lib.hid fun w1 hb => works_any w1 ((HW.out.below HB11.out).below hb)
      rw [hS, hT, hU]
      clear hS hT hU hTs hUs hTl hUl hT2 hU2 HSJ
      go_upto_region 9 with fail
      have hst : Hid (Below w11.heap.size w11 w11.drew) := Lib.hid (below_drewN (Below.refl _ w11) 1)
      refine wp_region_held_drew (S := fun w' => Hid (Below w11.heap.size w11 w')) (by kernel_rfl) hst (fun hHeld => ?_)
      refine wpAnyH_take (i := 0) (v := .string T) rfl (by kernel_rfl) (by kernel_rfl) (by kernel_rfl) (fun _ _ _ h => h) (Or.inl ⟨by rfl, by intro w hSw; clear hSw; go_simp; all_goals (first | omega | (intro h; exfalso; omega))⟩) (by assumption) ?_
      simp only [Act.put, List.getElem_toArray, List.getElem_cons_zero, List.setIfInBounds_toArray, List.set_cons_zero, List.set_cons_succ]
      refine wpAnyH_take (i := 1) (v := .int .i64 (T.size : Int)) rfl (by kernel_rfl) (by kernel_rfl) (by kernel_rfl) (fun _ _ _ h => h) (Or.inl ⟨by rfl, by intro w hSw; clear hSw; go_simp; all_goals (first | omega | (intro h; exfalso; omega))⟩) (by assumption) ?_
      simp only [Act.put, List.getElem_toArray, List.getElem_cons_zero, List.getElem_cons_succ, List.setIfInBounds_toArray, List.set_cons_zero, List.set_cons_succ]
      refine wpAnyH_take (i := 2) (v := .bool true) rfl (by kernel_rfl) (by kernel_rfl) (by kernel_rfl) (fun _ _ _ h => h) (Or.inl ⟨by rfl, by intro w hSw; clear hSw; go_simp; all_goals (first | omega | (intro h; exfalso; omega))⟩) (by assumption) ?_
      simp only [Act.put, List.getElem_toArray, List.getElem_cons_zero, List.getElem_cons_succ, List.setIfInBounds_toArray, List.set_cons_zero, List.set_cons_succ]
      refine wpAnyH_take (i := 3) (v := .bool true) rfl (by kernel_rfl) (by kernel_rfl) (by kernel_rfl) (fun _ _ _ h => h) (Or.inl ⟨by rfl, by intro w hSw; clear hSw; go_simp; all_goals (first | omega | (intro h; exfalso; omega))⟩) (by assumption) ?_
      simp only [Act.put, List.getElem_toArray, List.getElem_cons_zero, List.getElem_cons_succ, List.setIfInBounds_toArray, List.set_cons_zero, List.set_cons_succ]
      refine wpAnyH_take (i := 4) (v := .string U) rfl (by kernel_rfl) (by kernel_rfl) (by kernel_rfl) (fun _ _ _ h => h) (Or.inl ⟨by rfl, by intro w hSw; clear hSw; go_simp; all_goals (first | omega | (intro h; exfalso; omega))⟩) (by assumption) ?_
      simp only [Act.put, List.getElem_toArray, List.getElem_cons_zero, List.getElem_cons_succ, List.setIfInBounds_toArray, List.set_cons_zero, List.set_cons_succ]
      refine wpAnyH_take (i := 5) (v := .int .i64 (U.size : Int)) rfl (by kernel_rfl) (by kernel_rfl) (by kernel_rfl) (fun _ _ _ h => h) (Or.inl ⟨by rfl, by intro w hSw; clear hSw; go_simp; all_goals (first | omega | (intro h; exfalso; omega))⟩) (by assumption) ?_
      simp only [Act.put, List.getElem_toArray, List.getElem_cons_zero, List.getElem_cons_succ, List.setIfInBounds_toArray, List.set_cons_zero, List.set_cons_succ]
      refine wpAnyH_take (i := 6) (v := .bool true) rfl (by kernel_rfl) (by kernel_rfl) (by kernel_rfl) (fun _ _ _ h => h) (Or.inl ⟨by rfl, by intro w hSw; clear hSw; go_simp; all_goals (first | omega | (intro h; exfalso; omega))⟩) (by assumption) ?_
      simp only [Act.put, List.getElem_toArray, List.getElem_cons_zero, List.getElem_cons_succ, List.setIfInBounds_toArray, List.set_cons_zero, List.set_cons_succ]
      refine wpAnyH_take (i := 7) (v := .bool true) rfl (by kernel_rfl) (by kernel_rfl) (by kernel_rfl) (fun _ _ _ h => h) (Or.inl ⟨by rfl, by intro w hSw; clear hSw; go_simp; all_goals (first | omega | (intro h; exfalso; omega))⟩) (by assumption) ?_
      simp only [Act.put, List.getElem_toArray, List.getElem_cons_zero, List.getElem_cons_succ, List.setIfInBounds_toArray, List.set_cons_zero, List.set_cons_succ]
      refine wpAnyH_take (i := 8) (v := .bool true) rfl (by kernel_rfl) (by kernel_rfl) (by kernel_rfl) (fun _ _ _ h => h) (Or.inl ⟨by rfl, by intro w hSw; clear hSw; go_simp; all_goals (first | omega | (intro h; exfalso; omega))⟩) (by assumption) ?_
      simp only [Act.put, List.getElem_toArray, List.getElem_cons_zero, List.getElem_cons_succ, List.setIfInBounds_toArray, List.set_cons_zero, List.set_cons_succ]
      refine wpAnyH_take (i := 9) (v := .string S) rfl (by kernel_rfl) (by kernel_rfl) (by kernel_rfl) (fun _ _ _ h => h) (Or.inl ⟨by rfl, by intro w hSw; clear hSw; go_simp; all_goals (first | omega | (intro h; exfalso; omega))⟩) (by assumption) ?_
      simp only [Act.put, List.getElem_toArray, List.getElem_cons_zero, List.getElem_cons_succ, List.setIfInBounds_toArray, List.set_cons_zero, List.set_cons_succ]
      refine wpAnyH_take (i := 10) (v := .string T) rfl (by kernel_rfl) (by kernel_rfl) (by kernel_rfl) (fun _ _ _ h => h) (Or.inl ⟨by rfl, by intro w hSw; clear hSw; go_simp; all_goals (first | omega | (intro h; exfalso; omega))⟩) (by assumption) ?_
      simp only [Act.put, List.getElem_toArray, List.getElem_cons_zero, List.getElem_cons_succ, List.setIfInBounds_toArray, List.set_cons_zero, List.set_cons_succ]
      refine wpAnyH_take (i := 11) (v := .string T) rfl (by kernel_rfl) (by kernel_rfl) (by kernel_rfl) (fun _ _ _ h => h) (Or.inl ⟨by rfl, by intro w hSw; clear hSw; go_simp; all_goals (first | omega | (intro h; exfalso; omega))⟩) (by assumption) ?_
      simp only [Act.put, List.getElem_toArray, List.getElem_cons_zero, List.getElem_cons_succ, List.setIfInBounds_toArray, List.set_cons_zero, List.set_cons_succ]
      refine wpAnyH_take (i := 12) (v := .int .i64 (T.size : Int)) rfl (by kernel_rfl) (by kernel_rfl) (by kernel_rfl) (fun _ _ _ h => h) (Or.inl ⟨by rfl, by intro w hSw; clear hSw; go_simp; all_goals (first | omega | (intro h; exfalso; omega))⟩) (by assumption) ?_
      simp only [Act.put, List.getElem_toArray, List.getElem_cons_zero, List.getElem_cons_succ, List.setIfInBounds_toArray, List.set_cons_zero, List.set_cons_succ]
      refine wpAnyH_take (i := 13) (v := .int .i64 ((T.size : Int) - 1)) rfl (by kernel_rfl) (by kernel_rfl) (by kernel_rfl) (fun _ _ _ h => h) (Or.inl ⟨by rfl, by intro w hSw; clear hSw; go_simp; all_goals (first | omega | (intro h; exfalso; omega))⟩) (by assumption) ?_
      simp only [Act.put, List.getElem_toArray, List.getElem_cons_zero, List.getElem_cons_succ, List.setIfInBounds_toArray, List.set_cons_zero, List.set_cons_succ]
      refine wpAnyH_take (i := 14) (v := .string (T.extract 0 (T.size - 1))) rfl (by kernel_rfl) (by kernel_rfl) (by kernel_rfl) (fun _ _ _ h => h) (Or.inl ⟨by rfl, by intro w hSw; clear hSw; go_simp; all_goals (first | omega | (intro h; exfalso; omega))⟩) (by assumption) ?_
      simp only [Act.put, List.getElem_toArray, List.getElem_cons_zero, List.getElem_cons_succ, List.setIfInBounds_toArray, List.set_cons_zero, List.set_cons_succ]
      refine wpAnyH_take (i := 15) (v := .string U) rfl (by kernel_rfl) (by kernel_rfl) (by kernel_rfl) (fun _ _ _ h => h) (Or.inl ⟨by rfl, by intro w hSw; clear hSw; go_simp; all_goals (first | omega | (intro h; exfalso; omega))⟩) (by assumption) ?_
      simp only [Act.put, List.getElem_toArray, List.getElem_cons_zero, List.getElem_cons_succ, List.setIfInBounds_toArray, List.set_cons_zero, List.set_cons_succ]
      refine wpAnyH_take (i := 16) (v := .string (U.extract 1 U.size)) rfl (by kernel_rfl) (by kernel_rfl) (by kernel_rfl) (fun _ _ _ h => h) (Or.inl ⟨by rfl, by intro w hSw; clear hSw; go_simp; all_goals (first | omega | (intro h; exfalso; omega))⟩) (by assumption) ?_
      simp only [Act.put, List.getElem_toArray, List.getElem_cons_zero, List.getElem_cons_succ, List.setIfInBounds_toArray, List.set_cons_zero, List.set_cons_succ]
      refine wpAnyH_take (i := 17) (v := .string (T.extract 0 (T.size - 1) ++ U.extract 1 U.size)) rfl (by kernel_rfl) (by kernel_rfl) (by kernel_rfl) (fun _ _ _ h => h) (Or.inl ⟨by rfl, by intro w hSw; clear hSw; go_simp; all_goals (first | omega | (intro h; exfalso; omega))⟩) (by assumption) ?_
      simp only [Act.put, List.getElem_toArray, List.getElem_cons_zero, List.getElem_cons_succ, List.setIfInBounds_toArray, List.set_cons_zero, List.set_cons_succ]
      refine wpAnyH_take (i := 18) (v := .bool true) rfl (by kernel_rfl) (by kernel_rfl) (by kernel_rfl) (fun _ _ _ h => h) (Or.inl ⟨by rfl, by intro w hSw; clear hSw; go_simp; all_goals (first | omega | (intro h; exfalso; omega))⟩) (by assumption) ?_
      simp only [Act.put, List.getElem_toArray, List.getElem_cons_zero, List.getElem_cons_succ, List.setIfInBounds_toArray, List.set_cons_zero, List.set_cons_succ]
      refine wpAnyH_take (i := 19) (v := .bool true) rfl (by kernel_rfl) (by kernel_rfl) (by kernel_rfl) (fun _ _ _ h => h) (Or.inl ⟨by rfl, by intro w hSw; clear hSw; go_simp; all_goals (first | omega | (intro h; exfalso; omega))⟩) (by assumption) ?_
      simp only [Act.put, List.getElem_toArray, List.getElem_cons_zero, List.getElem_cons_succ, List.setIfInBounds_toArray, List.set_cons_zero, List.set_cons_succ]
      refine wpAnyH_take (i := 20) (v := .bool true) rfl (by kernel_rfl) (by kernel_rfl) (by kernel_rfl) (fun _ _ _ h => h) (Or.inl ⟨by rfl, by intro w hSw; clear hSw; go_simp; all_goals (first | omega | (intro h; exfalso; omega))⟩) (by assumption) ?_
      simp only [Act.put, List.getElem_toArray, List.getElem_cons_zero, List.getElem_cons_succ, List.setIfInBounds_toArray, List.set_cons_zero, List.set_cons_succ]
      refine wpAnyH_ready (rs := [21]) (by kernel_rfl) (by simp) ?_
      refine AllReadyH.cons rfl (fun K hK => ?_) AllReadyH.nil
      go_simp
      refine (HWK.out _ hHeld.out).mono ?_
      rintro r wn ⟨rfl, hbn⟩
      replace hHeld := Lib.hid (hHeld.out.trans (hbn.mono hHeld.out.size))
      refine hK.out _ _ hHeld (fun hHeld => ?_)
      clear hK K hbn
      refine wpAnyH_take (i := 22) (v := .bool true) rfl (by kernel_rfl) (by kernel_rfl) (by kernel_rfl) (fun _ _ _ h => h) (Or.inl ⟨by rfl, by intro w hSw; clear hSw; go_simp; all_goals (first | omega | (intro h; exfalso; omega))⟩) (by assumption) ?_
      simp only [Act.put, List.getElem_toArray, List.getElem_cons_zero, List.getElem_cons_succ, List.setIfInBounds_toArray, List.set_cons_zero, List.set_cons_succ]
      refine wpAnyH_take (i := 23) (v := .bool true) rfl (by kernel_rfl) (by kernel_rfl) (by kernel_rfl) (fun _ _ _ h => h) (Or.inl ⟨by rfl, by intro w hSw; clear hSw; go_simp; all_goals (first | omega | (intro h; exfalso; omega))⟩) (by assumption) ?_
      simp only [Act.put, List.getElem_toArray, List.getElem_cons_zero, List.getElem_cons_succ, List.setIfInBounds_toArray, List.set_cons_zero, List.set_cons_succ]
      refine wpAnyH_done (by kernel_rfl) ?_ _
      go_wp2_with fail
      go_ret
      exact ⟨rfl, HB11.out.trans (hHeld.out.mono HB11.out.size)⟩

theorem joins_walk (w : World) (hw : W2 w) (a b : Option Addr) (n c m d : Nat) (x y : List Int) (hA : SB w (.slice a n c) x) (hB : SB w (.slice b m d) y) (hNa : a = none → c = 0) (hNb : b = none → d = 0) :
    Calls Tryd.prog 8 #[.slice a n c, .slice b m d] w fun r w' => r = .returned (.bool true) ∧ Below w.heap.size w w' := by
  obtain ⟨x', rfl⟩ := bI_of x hA.1
  obtain ⟨y', rfl⟩ := bI_of y hB.1
  exact joins_any w hw a b n c m d x' y' hA hB hNa hNb
end Go.Proofs.YtboikhalfffioaaDoor

/-
  BracketBack: the walk of the law.
-/
import Derived.Test.YthegepiafodpjaaDoorWorks4
import Derived.Test.YthegepiafodpjaaDoorLong
namespace Go.Proofs.YthegepiafodpjaaDoor
open Go.RowKit

theorem isM_print (c : List Nat) (hc : IsC c) : IsM (sg (printI c)) := isM_sg _ (by
  rw [List.all_eq_true]
  intro x hx
  have := print_no10 c hc x hx
  simpa using this.2)
theorem sg_get (l : List Int) (k : Nat) (h : k < l.length) : (sg l)[k]?.getD (0, false) = (l[k]?.getD 0, false) := by
  unfold sg
  rw [List.getElem?_map, List.getElem?_eq_getElem h]
  rfl
theorem printI_len (c : List Nat) : (printI c).length ≤ 3000 ∧ 0 < (printI c).length := by
  have h := upP_len (notP c) (runsP c) (runsP c).length (runsP_len c)
  rw [printI_up, List.length_append, List.length_singleton]
  omega

set_option maxHeartbeats 4000000 in
set_option maxRecDepth 100000 in
theorem backB_any (w : World) (hw : W4 w) (c : List Nat) (hc : IsC c) (a1 : Option Addr) (n1 c1 : Nat) (A : List Mk) (hA : SM w (.slice a1 n1 c1) A) (hN1 : a1 = none → c1 = 0) (a2 : Option Addr) (n2 c2 : Nat) (B : List Mk) (hB : SM w (.slice a2 n2 c2) B) (hN2 : a2 = none → c2 = 0) :
    Calls Tryd.prog 5 #[.agg (row64 c), .slice a1 n1 c1, .slice a2 n2 c2] w fun e w' => e = .returned (.bool true) ∧ Below w.heap.size w w' := by
  obtain ⟨u0, u1, u2, u3, rfl⟩ := isC_words c hc
  obtain ⟨hAl, hAn⟩ := hA.len
  obtain ⟨hBl, hBn⟩ := hB.len
  have HW := Lib.hid hw
  have HC := Lib.hid hc
  have HA := Lib.hid hA
  have HB := Lib.hid hB
  have HAL := Lib.hid hAl
  have HBL := Lib.hid hBl
  have HN1 := Lib.hid hN1
  have HN2 := Lib.hid hN2
  clear hw hc hA hB hAl hBl hN1 hN2
  rw [show row64 [u0, u1, u2, u3] = #[.int .u64 (u0 : Int), .int .u64 (u1 : Int), .int .u64 (u2 : Int), .int .u64 (u3 : Int)] from rfl]
  go_enter Tryd.func5, Tryd.ntmps5
  go_upto_region 1 with fail
  have h3 := heap_alloc_new w (.cells #[.int .u64 (u0 : Int), .int .u64 (u1 : Int), .int .u64 (u2 : Int), .int .u64 (u3 : Int)] 28)
  have b0 := box1 w (.cells #[.int .u64 (u0 : Int), .int .u64 (u1 : Int), .int .u64 (u2 : Int), .int .u64 (u3 : Int)] 28)
  obtain ⟨g, hg⟩ : ∃ g, w.heap.size = g := ⟨_, rfl⟩
  rw [hg] at h3 ⊢
  have HG := Lib.hid hg
  clear hg
  generalize w.alloc (.cells #[.int .u64 (u0 : Int), .int .u64 (u1 : Int), .int .u64 (u2 : Int), .int .u64 (u3 : Int)] 28) = w0 at h3 b0 ⊢
  go_wp2_with fail
  refine (works4_any w0 (HW.out.below b0)).mono ?_
  rintro e w1 ⟨rfl, b1⟩
  have H3 := Lib.hid (heap_b b1 h3)
  have B1 := Lib.hid (b0.trans (b1.mono b0.size))
  clear b0 b1 h3
  go_wp2_with fail
  have hcast : ((n1 : Int) + (n2 : Int)) = ((n1 + n2 : Nat) : Int) := by omega
  rw [hcast]
  refine (long_any w1 (n1 + n2) (by omega)).mono ?_
  rintro e w2 ⟨rfl, rfl⟩
  clear hcast
  by_cases hL : 2147483647 < n1 + n2
  · rw [decide_eq_true hL]
    go_wp2_with fail
    go_ret
    exact ⟨rfl, B1.out⟩
  · rw [decide_eq_false hL]
    have d0 : w1.cell? ⟨g, 0, none⟩ = some (.int .u64 (u0 : Int)) := by rw [cell_of_row _ _ _ _ _ (0, 0) H3.out]; rfl
    have d1 : w1.cell? ⟨g, 1, none⟩ = some (.int .u64 (u1 : Int)) := by rw [cell_of_row _ _ _ _ _ (0, 0) H3.out]; rfl
    have d2 : w1.cell? ⟨g, 2, none⟩ = some (.int .u64 (u2 : Int)) := by rw [cell_of_row _ _ _ _ _ (0, 0) H3.out]; rfl
    have d3 : w1.cell? ⟨g, 3, none⟩ = some (.int .u64 (u3 : Int)) := by rw [cell_of_row _ _ _ _ _ (0, 0) H3.out]; rfl
    go_wp2_with fail
    refine (print_any w1 (HW.out.below B1.out).od [u0, u1, u2, u3] HC.out).mono ?_
    rintro e w3 ⟨v3, rfl, o3, b3⟩
    have H33 := Lib.hid (heap_b b3 H3.out)
    have B3 := Lib.hid (B1.out.trans (b3.mono B1.out.size))
    have hIM := isM_print [u0, u1, u2, u3] HC.out
    have HBP := Lib.hid (back_print [u0, u1, u2, u3] HC.out A B)
    have HNT := Lib.hid (print_no10 [u0, u1, u2, u3] HC.out)
    obtain ⟨hpl, hp0⟩ := printI_len [u0, u1, u2, u3]
    generalize printI [u0, u1, u2, u3] = P at o3 hIM HBP HNT hpl hp0
    obtain ⟨a3, c3, rfl, hN3⟩ := o3.shape
    have s3 := o3.sm hIM (by rw [sg_len]; omega)
    rw [sg_len] at s3 ⊢
    obtain ⟨m, hm⟩ : ∃ m, P.length = m := ⟨_, rfl⟩
    rw [hm] at s3 hpl hp0 ⊢
    have HM := Lib.hid hm
    have HN3 := Lib.hid hN3
    have HIM := Lib.hid hIM
    have S3 := Lib.hid s3
    clear d0 d1 d2 d3 H3 B1 o3 b3 hm s3 hN3 hIM
    go_wp2_with fail
    go_loop [9] (fun i => ∃ k : Nat, k ≤ m ∧ i = .int .i64 k) (fun i => m - (intOf i).toNat)
    case atStart => exact ⟨0, by omega, rfl⟩
    case round =>
      obtain ⟨k, hk, rfl⟩ := hrel
      by_cases hlt : k < m
      · obtain ⟨bb, oo, rfl, hc⟩ := S3.out.read k hlt
        obtain ⟨hc0, hc1⟩ := hc k hlt
        rw [sg_get P k (by rw [HM.out]; exact hlt)] at hc0 hc1
        have hx := HNT.out (P[k]?.getD 0) (by rw [List.getElem?_eq_getElem (by rw [HM.out]; exact hlt)]; exact List.getElem_mem _)
        clear hc
        generalize P[k]?.getD 0 = x at hc0 hc1 hx
        dsimp only at hc0 hc1
        have hx10 : (x == 10) = false := by rw [beq_eq_false_iff_ne]; exact hx.1
        clear hx
        go_wp2_with fail
        exact ⟨⟨k + 1, by omega, by go_num⟩, by simp [intOf]; omega⟩
      · obtain rfl : k = m := by omega
        have hz : k ≤ 140737488351232 := by omega
        clear hlt hk hz
        go_wp2_with fail
        refine (copyMn_any w3 a1 n1 c1 A HN1.out (HA.out.below B3.out)).mono ?_
        rintro e w4 ⟨v4, rfl, o4, b4⟩
        have O4 := Lib.hid o4
        have S4 := Lib.hid (S3.out.below b4)
        have B4 := Lib.hid b4
        have hsz := b4.size
        have hIMA := HA.out.1
        have hIMB := HB.out.1
        have HAB := Lib.hid (isM_append _ _ (isM_append _ _ hIMA HIM.out) hIMB)
        have hAL := HAL.out
        have hBL := HBL.out
        clear o4 b4 hIMA hIMB
        go_upto_region 12 with (at_builtin; refine append_sm rfl (.tmp 45) (.tmp 46) rfl w3.heap.size _ A (sg P) a3 k c3 rfl O4.out rfl HN3.out S4.out (by omega) hsz ?_; intro v5 w5 o5 hA; have hb5 := hA.bel _ _ B4.out (Nat.le_refl _); obtain ⟨X, hX⟩ : ∃ X, A ++ sg P = X := ⟨_, rfl⟩; rw [hX] at o5 HAB HBP; have hXl : X.length = n1 + k := by { rw [← hX, List.length_append, sg_len, hAL, HM.out] }; have HO5 := Lib.hid o5; have HB5 := Lib.hid hb5; have HX := Lib.hid hX; clear o5 hA hb5 hX O4 S4 B4 hsz)
        have hs5 := HB5.out.size
        have HS5 := Lib.hid (HB.out.below (B3.out.trans (HB5.out.mono B3.out.size)))
        go_wp2_with (at_builtin; refine append_sm rfl (.tmp 48) (.tmp 49) rfl w3.heap.size _ X B a2 n2 c2 rfl HO5.out rfl HN2.out HS5.out (by omega) hs5 ?_; intro v6 w6 o6 hA; have hb6 := hA.bel _ _ HB5.out (Nat.le_refl _); obtain ⟨Y, hY⟩ : ∃ Y, X ++ B = Y := ⟨_, rfl⟩; rw [hY] at o6 HAB HBP; have hYl : Y.length = n1 + k + n2 := by { rw [← hY, List.length_append, hXl, hBL] }; obtain ⟨a6, c6, rfl, -⟩ := o6.shape; have hs6 := o6.sm HAB.out (by omega); obtain ⟨y, hy⟩ : ∃ y, Y.length = y := ⟨_, rfl⟩; rw [hy] at hs6 ⊢; have HS6 := Lib.hid hs6; have HB6 := Lib.hid hb6; clear o6 hA hb6 hY hy hs6 HO5 HB5 HS5 hs5)
        refine (parse_any w6 (HW.out.br.below (B3.out.trans (HB6.out.mono B3.out.size))) a6 y c6 (n1 : Int) Y HS6.out).mono ?_
        rintro e w7 ⟨he, b7⟩
        have hbp := HBP.out
        rw [hAL, HM.out] at hbp
        rw [hbp] at he
        have he : e = .returned (.tuple #[.agg #[.int .u64 (u0 : Int), .int .u64 (u1 : Int), .int .u64 (u2 : Int), .int .u64 (u3 : Int)], .int .i64 ((n1 : Int) + (k : Int)), .int .i64 0]) := he
        subst he
        have B7 := Lib.hid (HB6.out.trans (b7.mono HB6.out.size))
        clear hbp b7 HB6 HS6 HBP HAB hYl hXl
        go_upto_region 14 with fail
        have n8 := heap_alloc_new w7 (.cells #[.int .u64 (u0 : Int), .int .u64 (u1 : Int), .int .u64 (u2 : Int), .int .u64 (u3 : Int)] 28)
        have b8 := B7.out.trans ((box1 w7 (.cells #[.int .u64 (u0 : Int), .int .u64 (u1 : Int), .int .u64 (u2 : Int), .int .u64 (u3 : Int)] 28)).mono B7.out.size)
        generalize w7.heap.size = g8 at n8 ⊢
        generalize w7.alloc (.cells #[.int .u64 (u0 : Int), .int .u64 (u1 : Int), .int .u64 (u2 : Int), .int .u64 (u3 : Int)] 28) = w8 at n8 b8 ⊢
        have h38 := heap_b b8 H33.out
        have e0 : w8.cell? ⟨g8, 0, none⟩ = some (.int .u64 (u0 : Int)) := by rw [cell_of_row _ _ _ _ _ (0, 0) n8]; rfl
        have e1 : w8.cell? ⟨g8, 1, none⟩ = some (.int .u64 (u1 : Int)) := by rw [cell_of_row _ _ _ _ _ (0, 0) n8]; rfl
        have e2 : w8.cell? ⟨g8, 2, none⟩ = some (.int .u64 (u2 : Int)) := by rw [cell_of_row _ _ _ _ _ (0, 0) n8]; rfl
        have e3 : w8.cell? ⟨g8, 3, none⟩ = some (.int .u64 (u3 : Int)) := by rw [cell_of_row _ _ _ _ _ (0, 0) n8]; rfl
        have d0 : w8.cell? ⟨g, 0, none⟩ = some (.int .u64 (u0 : Int)) := by rw [cell_of_row _ _ _ _ _ (0, 0) h38]; rfl
        have d1 : w8.cell? ⟨g, 1, none⟩ = some (.int .u64 (u1 : Int)) := by rw [cell_of_row _ _ _ _ _ (0, 0) h38]; rfl
        have d2 : w8.cell? ⟨g, 2, none⟩ = some (.int .u64 (u2 : Int)) := by rw [cell_of_row _ _ _ _ _ (0, 0) h38]; rfl
        have d3 : w8.cell? ⟨g, 3, none⟩ = some (.int .u64 (u3 : Int)) := by rw [cell_of_row _ _ _ _ _ (0, 0) h38]; rfl
        have B8 := Lib.hid (B3.out.trans (b8.mono B3.out.size))
        have hE : ∀ w, Sem.run Tryd.prog (Op.equalIn 10000 28 (.agg #[.int .u64 (u0 : Int), .int .u64 (u1 : Int), .int .u64 (u2 : Int), .int .u64 (u3 : Int)]) (.agg #[.int .u64 (u0 : Int), .int .u64 (u1 : Int), .int .u64 (u2 : Int), .int .u64 (u3 : Int)])) w = .ok true w := fun w => (run_equalIn_rowC w 9998 [u0, u1, u2, u3] [u0, u1, u2, u3] rfl rfl).trans (by rw [decide_eq_true rfl])
        have hkk : ((n1 : Int) + (k : Int) == (n1 : Int) + (k : Int)) = true := by simp
        clear n8 b8 h38 B7
        go_wp2_with fail
        go_ret
        exact ⟨rfl, B8.out⟩
end Go.Proofs.YthegepiafodpjaaDoor

/-
  SpacePlays: every call, in every order, at two spaces in turns.
-/
import Derived.Test.YtakimaceohfpcaaPlaysM
namespace Go.Proofs.Ytakimaceohfpcaa
open Go.RowKit

set_option maxHeartbeats 4000000 in
set_option maxRecDepth 100000 in
theorem plays_walk (W : World) (x0 x1 : Int) (a : Option Addr) (n c : Nat) (r : List El) (hS : SS W ks25 (.slice a n c) r) : Calls Try.prog 4 #[.int .i64 x0, .int .i64 x1, .slice a n c] W fun e w' => e = .returned (.bool true) ∧ Below W.heap.size W w' := by
  obtain ⟨hl, hn, -⟩ := hS.len
  subst hl
  have HS := Lib.hid hS
  clear hS
  go_enter Try.func4, Try.ntmps4
  go_wp2_with fail
  refine (spWorks_any W).mono ?_
  rintro e w1 ⟨rfl, hb1⟩
  have HB1 := Lib.hid hb1
  have HBy := Lib.hid (beyond_any w1 _ _ _ _ (HS.out.below hb1))
  clear hb1
  go_wp2_with fail
  refine HBy.out.mono ?_
  rintro e w' ⟨bl, rfl, rfl, htot⟩
  have Htot := Lib.hid htot
  clear htot HBy
  cases bl with
  | true =>
    go_wp2_with fail
    go_ret
    exact ⟨rfl, HB1.out⟩
  | false =>
    have HTL := Lib.hid (Htot.out rfl)
    clear Htot
    go_upto_region 7 with fail
    have HI0 : PI W ((((w1.alloc (.cells #[.pointer none, .pointer none] TArrS)).alloc (.cells #[.pointer none, .pointer none] TArrR)).alloc (.cells #[.int .i64 x0, .int .i64 x1] 39))) w1.heap.size (w1.heap.size + 1) (m01 x0 x1) (fun _ => none) (fun _ => none) (fun _ => []) (fun _ => []) :=
      PI.start HB1.out _
    have hm0 : (((w1.alloc (.cells #[.pointer none, .pointer none] TArrS)).alloc (.cells #[.pointer none, .pointer none] TArrR)).alloc (.cells #[.int .i64 x0, .int .i64 x1] 39)).heap[w1.heap.size + 2]? = some (.cells #[.int .i64 x0, .int .i64 x1] 39 (0, 0)) := by
      have := heap_alloc_new ((w1.alloc (.cells #[.pointer none, .pointer none] TArrS)).alloc (.cells #[.pointer none, .pointer none] TArrR)) (.cells #[.int .i64 x0, .int .i64 x1] 39)
      simpa using this
    have HM0 := Lib.hid (And.intro HI0 hm0)
    have HLT : Hid (w1.heap.size ≠ w1.heap.size + 1 ∧ W.heap.size ≤ w1.heap.size ∧ W.heap.size ≤ w1.heap.size + 1) := Lib.hid ⟨by omega, HB1.out.size, by have := HB1.out.size; omega⟩
    clear HI0 hm0
    generalize ((w1.alloc (.cells #[.pointer none, .pointer none] TArrS)).alloc (.cells #[.pointer none, .pointer none] TArrR)).alloc (.cells #[.int .i64 x0, .int .i64 x1] 39) = w3 at HM0 ⊢
    go_wp2_with fail
    go_loopw [11] (fun x wr => ∃ (k : Nat) (o q : Bool → Option Ob) (p h : Bool → List Int), k ≤ 2 ∧ x = .int .i64 k ∧ PI W wr w1.heap.size (w1.heap.size + 1) (m01 x0 x1) o q p h ∧ (k ≤ 1 → o true = none ∧ q true = none) ∧ (k ≤ 0 → o false = none ∧ q false = none) ∧ wr.heap[w1.heap.size + 2]? = some (.cells #[.int .i64 x0, .int .i64 x1] 39 (0, 0))) (fun x _ => 2 - (intOf x).toNat)
    case atStart => exact ⟨0, _, _, _, _, by omega, rfl, HM0.out.1, fun _ => ⟨rfl, rfl⟩, fun _ => ⟨rfl, rfl⟩, HM0.out.2⟩
    case round =>
      obtain ⟨k, o, q, p, h, hk, rfl, hI, ho, ho0, hm⟩ := hrel
      have HI := Lib.hid hI
      have HM := Lib.hid (And.intro hm trivial)
      clear hI HM0
      rcases (by omega : k = 0 ∨ k = 1 ∨ ¬ k < 2) with rfl | rfl | hk2
      · skip
        have HO : Hid (ptO (o false) = .pointer none ∧ ptO (q false) = .pointer none) := Lib.hid ⟨by rw [(ho0 (by omega)).1]; rfl, by rw [(ho0 (by omega)).2]; rfl⟩
        have HO2 : Hid (o true = none ∧ q true = none) := Lib.hid (ho (by omega))
        have cm : wr.cell? ⟨w1.heap.size + 2, 0, none⟩ = some (.int .i64 x0) := by rw [cell_of_row wr _ 0 _ _ (0, 0) HM.out.1]; rfl
        clear ho ho0 hm
        by_cases hx : 0 ≤ x0 ∧ x0 ≤ 1048576
        · skip
          have HN := Lib.hid (new_yes wr x0 hx.1 hx.2)
          go_wp2_with fail
          refine HN.out.mono ?_
          rintro e w4 ⟨g, rfl, hs4, hb4⟩
          have HR := Lib.hid (rnew_yes w4 x0 hx.1 hx.2)
          have m4 : w4.heap[w1.heap.size + 2]? = some (.cells #[.int .i64 x0, .int .i64 x1] 39 (0, 0)) := (hb4.block _ (Array.getElem?_eq_some_iff.1 HM.out.1).1).trans HM.out.1
          have c4 : w4.cell? ⟨w1.heap.size + 2, 0, none⟩ = some (.int .i64 x0) := by rw [cell_of_row w4 _ 0 _ _ (0, 0) m4]; rfl
          have H4 := Lib.hid (And.intro hs4 hb4)
          clear hs4 hb4 cm
          go_wp2_with fail
          refine HR.out.mono ?_
          rintro e w5 ⟨g2, rfl, hs5, hb5⟩
          have hnw := two_new (HI.out.bel.size) H4.out.1 H4.out.2 hs5 hb5
          have hb45 := H4.out.2.trans (hb5.mono H4.out.2.size)
          have hP := HI.out.put HLT.out.1 HLT.out.2 false hb45 hnw.1 hnw.2
          have tb := HI.out.below hb45
          have c5 : w5.cell? ⟨w1.heap.size, 0, none⟩ = some (.pointer none) := by rw [cell_of_row w5 w1.heap.size 0 _ _ (0, 0) tb.aS, HO.out.1]; rfl
          have f5 : w5.frozen? ⟨w1.heap.size, 0, none⟩ = false := frozen_of_row w5 w1.heap.size 0 _ _ tb.aS
          have hr6 := (heap_setCell_other w5 ⟨w1.heap.size, 0, none⟩ (w1.heap.size + 1) (.pointer (some ⟨g, 0, none⟩)) (by simp)).trans tb.ar
          have c6 : (w5.setCell ⟨w1.heap.size, 0, none⟩ (.pointer (some ⟨g, 0, none⟩))).cell? ⟨w1.heap.size + 1, 0, none⟩ = some (.pointer none) := by rw [cell_of_row _ (w1.heap.size + 1) 0 _ _ (0, 0) hr6, HO.out.2]; rfl
          have f6 : (w5.setCell ⟨w1.heap.size, 0, none⟩ (.pointer (some ⟨g, 0, none⟩))).frozen? ⟨w1.heap.size + 1, 0, none⟩ = false := frozen_of_row _ (w1.heap.size + 1) 0 _ _ hr6
          have m6 : ((w5.setCell ⟨w1.heap.size, 0, none⟩ (.pointer (some ⟨g, 0, none⟩))).setCell ⟨w1.heap.size + 1, 0, none⟩ (.pointer (some ⟨g2, 0, none⟩))).heap[w1.heap.size + 2]? = some (.cells #[.int .i64 x0, .int .i64 x1] 39 (0, 0)) := by
            rw [heap_setCell_other _ ⟨w1.heap.size + 1, 0, none⟩ (w1.heap.size + 2) _ (by simp), heap_setCell_other _ ⟨w1.heap.size, 0, none⟩ (w1.heap.size + 2) _ (by simp)]
            exact (hb5.block _ (Array.getElem?_eq_some_iff.1 m4).1).trans m4
          have HF := Lib.hid (And.intro hP m6)
          clear hP m6 m4 c4 hr6 tb hb45 hnw hs5 hb5 HN HR H4
          go_wp2_with fail
          go_roundw
          case rel => exact ⟨1, _, _, _, _, by omega, rfl, HF.out.1, fun _ => ⟨(upd_other _ _ _ _ (by decide)).trans HO2.out.1, (upd_other _ _ _ _ (by decide)).trans HO2.out.2⟩, fun h => by omega, HF.out.2⟩
          case measure => simp [intOf]
        · skip
          have hx' : x0 < 0 ∨ 1048576 < x0 := by omega
          have HN := Lib.hid (new_no wr x0 hx')
          have HR := Lib.hid (rnew_no wr x0 hx')
          have hP := HI.out.put HLT.out.1 HLT.out.2 false (Below.refl _ _) (two_none wr W.heap.size (m01 x0 x1 false) [] [] HI.out.bel.size) (fun k hk => absurd hk (F2_none k))
          have tb := HI.out
          have c5 : wr.cell? ⟨w1.heap.size, 0, none⟩ = some (.pointer none) := by rw [cell_of_row wr w1.heap.size 0 _ _ (0, 0) tb.aS, HO.out.1]; rfl
          have f5 : wr.frozen? ⟨w1.heap.size, 0, none⟩ = false := frozen_of_row wr w1.heap.size 0 _ _ tb.aS
          have hr6 := (heap_setCell_other wr ⟨w1.heap.size, 0, none⟩ (w1.heap.size + 1) (.pointer none) (by simp)).trans tb.ar
          have c6 : (wr.setCell ⟨w1.heap.size, 0, none⟩ (.pointer none)).cell? ⟨w1.heap.size + 1, 0, none⟩ = some (.pointer none) := by rw [cell_of_row _ (w1.heap.size + 1) 0 _ _ (0, 0) hr6, HO.out.2]; rfl
          have f6 : (wr.setCell ⟨w1.heap.size, 0, none⟩ (.pointer none)).frozen? ⟨w1.heap.size + 1, 0, none⟩ = false := frozen_of_row _ (w1.heap.size + 1) 0 _ _ hr6
          have m6 : ((wr.setCell ⟨w1.heap.size, 0, none⟩ (.pointer none)).setCell ⟨w1.heap.size + 1, 0, none⟩ (.pointer none)).heap[w1.heap.size + 2]? = some (.cells #[.int .i64 x0, .int .i64 x1] 39 (0, 0)) := by
            rw [heap_setCell_other _ ⟨w1.heap.size + 1, 0, none⟩ (w1.heap.size + 2) _ (by simp), heap_setCell_other _ ⟨w1.heap.size, 0, none⟩ (w1.heap.size + 2) _ (by simp)]
            exact HM.out.1
          have HF := Lib.hid (And.intro hP m6)
          clear hP m6 hr6 tb hx hx'
          go_wp2_with fail
          refine HN.out.mono ?_
          rintro e w' ⟨rfl, rfl⟩
          go_wp2_with fail
          refine HR.out.mono ?_
          rintro e w' ⟨rfl, rfl⟩
          go_wp2_with fail
          go_roundw
          case rel => exact ⟨1, _, _, _, _, by omega, rfl, HF.out.1, fun _ => ⟨(upd_other _ _ _ _ (by decide)).trans HO2.out.1, (upd_other _ _ _ _ (by decide)).trans HO2.out.2⟩, fun h => by omega, HF.out.2⟩
          case measure => simp [intOf]
      · skip
        have HO : Hid (ptO (o true) = .pointer none ∧ ptO (q true) = .pointer none) := Lib.hid ⟨by rw [(ho (by omega)).1]; rfl, by rw [(ho (by omega)).2]; rfl⟩
        have cm : wr.cell? ⟨w1.heap.size + 2, 1, none⟩ = some (.int .i64 x1) := by rw [cell_of_row wr _ 1 _ _ (0, 0) HM.out.1]; rfl
        clear ho ho0 hm
        by_cases hx : 0 ≤ x1 ∧ x1 ≤ 1048576
        · skip
          have HN := Lib.hid (new_yes wr x1 hx.1 hx.2)
          go_wp2_with fail
          refine HN.out.mono ?_
          rintro e w4 ⟨g, rfl, hs4, hb4⟩
          have HR := Lib.hid (rnew_yes w4 x1 hx.1 hx.2)
          have m4 : w4.heap[w1.heap.size + 2]? = some (.cells #[.int .i64 x0, .int .i64 x1] 39 (0, 0)) := (hb4.block _ (Array.getElem?_eq_some_iff.1 HM.out.1).1).trans HM.out.1
          have c4 : w4.cell? ⟨w1.heap.size + 2, 1, none⟩ = some (.int .i64 x1) := by rw [cell_of_row w4 _ 1 _ _ (0, 0) m4]; rfl
          have H4 := Lib.hid (And.intro hs4 hb4)
          clear hs4 hb4 cm
          go_wp2_with fail
          refine HR.out.mono ?_
          rintro e w5 ⟨g2, rfl, hs5, hb5⟩
          have hnw := two_new (HI.out.bel.size) H4.out.1 H4.out.2 hs5 hb5
          have hb45 := H4.out.2.trans (hb5.mono H4.out.2.size)
          have hP := HI.out.put HLT.out.1 HLT.out.2 true hb45 hnw.1 hnw.2
          have tb := HI.out.below hb45
          have c5 : w5.cell? ⟨w1.heap.size, 1, none⟩ = some (.pointer none) := by rw [cell_of_row w5 w1.heap.size 1 _ _ (0, 0) tb.aS, HO.out.1]; rfl
          have f5 : w5.frozen? ⟨w1.heap.size, 1, none⟩ = false := frozen_of_row w5 w1.heap.size 1 _ _ tb.aS
          have hr6 := (heap_setCell_other w5 ⟨w1.heap.size, 1, none⟩ (w1.heap.size + 1) (.pointer (some ⟨g, 0, none⟩)) (by simp)).trans tb.ar
          have c6 : (w5.setCell ⟨w1.heap.size, 1, none⟩ (.pointer (some ⟨g, 0, none⟩))).cell? ⟨w1.heap.size + 1, 1, none⟩ = some (.pointer none) := by rw [cell_of_row _ (w1.heap.size + 1) 1 _ _ (0, 0) hr6, HO.out.2]; rfl
          have f6 : (w5.setCell ⟨w1.heap.size, 1, none⟩ (.pointer (some ⟨g, 0, none⟩))).frozen? ⟨w1.heap.size + 1, 1, none⟩ = false := frozen_of_row _ (w1.heap.size + 1) 1 _ _ hr6
          have m6 : ((w5.setCell ⟨w1.heap.size, 1, none⟩ (.pointer (some ⟨g, 0, none⟩))).setCell ⟨w1.heap.size + 1, 1, none⟩ (.pointer (some ⟨g2, 0, none⟩))).heap[w1.heap.size + 2]? = some (.cells #[.int .i64 x0, .int .i64 x1] 39 (0, 0)) := by
            rw [heap_setCell_other _ ⟨w1.heap.size + 1, 1, none⟩ (w1.heap.size + 2) _ (by simp), heap_setCell_other _ ⟨w1.heap.size, 1, none⟩ (w1.heap.size + 2) _ (by simp)]
            exact (hb5.block _ (Array.getElem?_eq_some_iff.1 m4).1).trans m4
          have HF := Lib.hid (And.intro hP m6)
          clear hP m6 m4 c4 hr6 tb hb45 hnw hs5 hb5 HN HR H4
          go_wp2_with fail
          go_roundw
          case rel => exact ⟨2, _, _, _, _, by omega, rfl, HF.out.1, fun h => by omega, fun h => by omega, HF.out.2⟩
          case measure => simp [intOf]
        · skip
          have hx' : x1 < 0 ∨ 1048576 < x1 := by omega
          have HN := Lib.hid (new_no wr x1 hx')
          have HR := Lib.hid (rnew_no wr x1 hx')
          have hP := HI.out.put HLT.out.1 HLT.out.2 true (Below.refl _ _) (two_none wr W.heap.size (m01 x0 x1 true) [] [] HI.out.bel.size) (fun k hk => absurd hk (F2_none k))
          have tb := HI.out
          have c5 : wr.cell? ⟨w1.heap.size, 1, none⟩ = some (.pointer none) := by rw [cell_of_row wr w1.heap.size 1 _ _ (0, 0) tb.aS, HO.out.1]; rfl
          have f5 : wr.frozen? ⟨w1.heap.size, 1, none⟩ = false := frozen_of_row wr w1.heap.size 1 _ _ tb.aS
          have hr6 := (heap_setCell_other wr ⟨w1.heap.size, 1, none⟩ (w1.heap.size + 1) (.pointer none) (by simp)).trans tb.ar
          have c6 : (wr.setCell ⟨w1.heap.size, 1, none⟩ (.pointer none)).cell? ⟨w1.heap.size + 1, 1, none⟩ = some (.pointer none) := by rw [cell_of_row _ (w1.heap.size + 1) 1 _ _ (0, 0) hr6, HO.out.2]; rfl
          have f6 : (wr.setCell ⟨w1.heap.size, 1, none⟩ (.pointer none)).frozen? ⟨w1.heap.size + 1, 1, none⟩ = false := frozen_of_row _ (w1.heap.size + 1) 1 _ _ hr6
          have m6 : ((wr.setCell ⟨w1.heap.size, 1, none⟩ (.pointer none)).setCell ⟨w1.heap.size + 1, 1, none⟩ (.pointer none)).heap[w1.heap.size + 2]? = some (.cells #[.int .i64 x0, .int .i64 x1] 39 (0, 0)) := by
            rw [heap_setCell_other _ ⟨w1.heap.size + 1, 1, none⟩ (w1.heap.size + 2) _ (by simp), heap_setCell_other _ ⟨w1.heap.size, 1, none⟩ (w1.heap.size + 2) _ (by simp)]
            exact HM.out.1
          have HF := Lib.hid (And.intro hP m6)
          clear hP m6 hr6 tb hx hx'
          go_wp2_with fail
          refine HN.out.mono ?_
          rintro e w' ⟨rfl, rfl⟩
          go_wp2_with fail
          refine HR.out.mono ?_
          rintro e w' ⟨rfl, rfl⟩
          go_wp2_with fail
          go_roundw
          case rel => exact ⟨2, _, _, _, _, by omega, rfl, HF.out.1, fun h => by omega, fun h => by omega, HF.out.2⟩
          case measure => simp [intOf]
      · clear ho ho0 hm HM
        go_wp2_with fail
        go_loopw [7, 16] (fun y x wr => ∃ (i : Nat) (o q : Bool → Option Ob) (p h : Bool → List Int), i ≤ r.length ∧ y = .bool true ∧ x = .int .i64 i ∧ PI W wr w1.heap.size (w1.heap.size + 1) (m01 x0 x1) o q p h) (fun _ x _ => r.length - (intOf x).toNat)
        case atStart => exact ⟨0, _, _, _, _, Nat.zero_le _, rfl, rfl, HI.out⟩
        case round =>
          clear HI
          obtain ⟨i, o, q, p, h, hi, rfl, rfl, hI⟩ := hrel
          have HI := Lib.hid hI
          clear hI
          by_cases hlt : i < r.length
          · obtain ⟨b, ob, rfl, hc⟩ := (HS.out.below HI.out.bel).read i hlt
            obtain ⟨e0, e1, e2, a3, n3, c3, e3, s3, hn3, hN3⟩ := El25 (hc i hlt)
            obtain ⟨on, hon⟩ : ∃ on, (r[i]?.getD El.zero).i 1 = on := ⟨_, rfl⟩
            rw [hon] at e1
            have e1 : wr.cell? ⟨b, ob + i * 4 + 1, none⟩ = some (.int .i64 on) := e1
            clear hon
            have e0 : wr.cell? ⟨b, ob + i * 4, none⟩ = some (.int .i64 ((r[i]?.getD El.zero).i 0)) := e0
            have e2 : wr.cell? ⟨b, ob + i * 4 + 2, none⟩ = some (.int .u8 ((r[i]?.getD El.zero).i 2)) := e2
            have e3 : wr.cell? ⟨b, ob + i * 4 + 3, none⟩ = some (.slice a3 n3 c3) := e3
            have h1 := tot25_one r i hlt
            have hl3 := s3.len
            have HB3 : Hid (n3 ≤ 67108863) := Lib.hid (by have := HTL.out; omega)
            have s3w : SB W (.slice a3 n3 c3) ((r[i]?.getD El.zero).l 3) := by
              obtain ⟨b', ob', hb', hc'⟩ := HS.out.read i hlt
              obtain ⟨rfl, rfl⟩ : b = b' ∧ ob = ob' := by simpa using hb'
              obtain ⟨-, -, -, a4, n4, c4, e4, s4, -⟩ := El25 (hc' i hlt)
              have : some (Value.slice a3 n3 c3) = some (.slice a4 n4 c4) := by
                rw [← e3]; exact ((HI.out.bel.cell (World.block_lt_of_cell? W _ e4)).trans e4)
              simp only [Option.some.injEq] at this
              rw [this]; exact s4
            have HS3 := Lib.hid s3w
            have HN3 := Lib.hid hN3
            obtain ⟨kd, hkd⟩ : ∃ kd, (r[i]?.getD El.zero).i 0 = kd := ⟨_, rfl⟩
            obtain ⟨nm, hnm⟩ : ∃ nm, (r[i]?.getD El.zero).i 2 = nm := ⟨_, rfl⟩
            rw [hkd] at e0
            rw [hnm] at e2
            clear hkd hnm hc s3 h1 hl3 s3w hN3 hn3
            go_upto_region 20 with fail
            obtain ⟨ib, hib⟩ : ∃ ib : Bool, bits .and .i64 on 1 = (ix ib : Nat) := by
              rcases and_one on with e | e
              · exact ⟨false, e⟩
              · exact ⟨true, e⟩
            rw [hib]
            go_cut [7] (fun v wx => v = .bool true ∧ ∃ o q p h, PI W wx w1.heap.size (w1.heap.size + 1) (m01 x0 x1) o q p h)
            case first =>
              have IA := Lib.hid (HI.out.below (Below.refl _ _).drew)
              have HD := Lib.hid (does_any wr.drew W (m01 x0 x1 ib) (o ib) (q ib) (p ib) (h ib) kd on nm a3 n3 c3 _ (IA.out.two ib) IA.out.bel HS3.out HN3.out (by have := HB3.out; omega))
              cases ib with
              | false =>
                rw [show ((ix false : Nat) : Int) = 0 from rfl]
                have c8 : wr.cell? ⟨w1.heap.size, 0, none⟩ = some (ptO (o false)) := by rw [cell_of_row wr w1.heap.size 0 _ _ (0, 0) HI.out.aS]; rfl
                have c9 : wr.cell? ⟨w1.heap.size + 1, 0, none⟩ = some (ptO (q false)) := by rw [cell_of_row wr (w1.heap.size + 1) 0 _ _ (0, 0) HI.out.ar]; rfl
                obtain ⟨op, hop⟩ : ∃ op, ptO (o false) = op := ⟨_, rfl⟩
                obtain ⟨qp, hqp⟩ : ∃ qp, ptO (q false) = qp := ⟨_, rfl⟩
                rw [hop] at c8 HD
                rw [hqp] at c9 HD
                clear hop hqp
                go_still_tail 12, (by kernel_rfl)
                change wpList _ _ _ _ _ wr.drew
                go_wp2_with fail
                refine HD.out.mono ?_
                intro e w4 hP
                obtain ⟨rfl, hR⟩ := IA.out.does false hP
                have HR := Lib.hid hR
                clear hP hR c8 c9 e0 e1 e2 e3
                go_wp2_with fail
                go_meet
                case rel => exact ⟨rfl, HR.out⟩
              | true =>
                rw [show ((ix true : Nat) : Int) = 1 from rfl]
                have c8 : wr.cell? ⟨w1.heap.size, 1, none⟩ = some (ptO (o true)) := by rw [cell_of_row wr w1.heap.size 1 _ _ (0, 0) HI.out.aS]; rfl
                have c9 : wr.cell? ⟨w1.heap.size + 1, 1, none⟩ = some (ptO (q true)) := by rw [cell_of_row wr (w1.heap.size + 1) 1 _ _ (0, 0) HI.out.ar]; rfl
                obtain ⟨op, hop⟩ : ∃ op, ptO (o true) = op := ⟨_, rfl⟩
                obtain ⟨qp, hqp⟩ : ∃ qp, ptO (q true) = qp := ⟨_, rfl⟩
                rw [hop] at c8 HD
                rw [hqp] at c9 HD
                clear hop hqp
                go_still_tail 12, (by kernel_rfl)
                change wpList _ _ _ _ _ wr.drew
                go_wp2_with fail
                refine HD.out.mono ?_
                intro e w4 hP
                obtain ⟨rfl, hR⟩ := IA.out.does true hP
                have HR := Lib.hid hR
                clear hP hR c8 c9 e0 e1 e2 e3
                go_wp2_with fail
                go_meet
                case rel => exact ⟨rfl, HR.out⟩
            case rest =>
              obtain ⟨rfl, o2, q2, p2, h2, hI2⟩ := hcut
              have HI2 := Lib.hid hI2
              clear hI2 HI e0 e1 e2 e3
              go_wp2_with fail
              go_loopw [7, 18] (fun y x wz => ∃ (j : Nat), j ≤ 2 ∧ y = .bool true ∧ x = .int .i64 j ∧ PI W wz w1.heap.size (w1.heap.size + 1) (m01 x0 x1) o2 q2 p2 h2) (fun _ x _ => 2 - (intOf x).toNat)
              case atStart => exact ⟨0, by omega, rfl, rfl, HI2.out⟩
              case round =>
                obtain ⟨j, hj, rfl, rfl, hI⟩ := hrel
                have HI := Lib.hid hI
                clear hI HI2
                by_cases hlt2 : j < 2
                · obtain ⟨jb, hjn⟩ : ∃ jb : Bool, ix jb = j := by
                    rcases (by omega : j = 0 ∨ j = 1) with e | e
                    · exact ⟨false, e.symm⟩
                    · exact ⟨true, e.symm⟩
                  have hix0 : (0 : Int) ≤ (j : Int) := by omega
                  have hix1 : (j : Int) < 2 := by omega
                  have HJN := Lib.hid hjn
                  clear hjn
                  go_upto_region 24 with fail
                  have hId := HI.out.below (Below.refl _ _).drew
                  have hS8 : ∀ w', PI W w' w1.heap.size (w1.heap.size + 1) (m01 x0 x1) o2 q2 p2 h2 → w'.cell? ⟨w1.heap.size, j, none⟩ = some (ptO (o2 jb)) := fun _ t => by rw [← HJN.out]; exact t.cellS jb
                  have hS9 : ∀ w', PI W w' w1.heap.size (w1.heap.size + 1) (m01 x0 x1) o2 q2 p2 h2 → w'.cell? ⟨w1.heap.size + 1, j, none⟩ = some (ptO (q2 jb)) := fun _ t => by rw [← HJN.out]; exact t.cellR jb
                  have HOK := Lib.hid (RpO.ok (HI.out.two jb).s)
                  have HXQ : Hid (readO (q2 jb) (p2 jb) = readO (o2 jb) (p2 jb) ∧ readO (q2 jb) (h2 jb) = readO (o2 jb) (h2 jb)) := Lib.hid (by unfold readO; rw [(HI.out.two jb).is]; exact ⟨rfl, rfl⟩)
                  have HC1 := Lib.hid (fun w' (t : PI W w' w1.heap.size (w1.heap.size + 1) (m01 x0 x1) o2 q2 p2 h2) => patternO w' W.heap.size _ _ _ _ (t.two jb).s)
                  have HC2 := Lib.hid (fun w' (t : PI W w' w1.heap.size (w1.heap.size + 1) (m01 x0 x1) o2 q2 p2 h2) => rpatternO w' W.heap.size _ _ _ _ (t.two jb).r)
                  have HC3 := Lib.hid (fun w' (t : PI W w' w1.heap.size (w1.heap.size + 1) (m01 x0 x1) o2 q2 p2 h2) => holdO w' W.heap.size _ _ _ _ (t.two jb).s)
                  have HC4 := Lib.hid (fun w' (t : PI W w' w1.heap.size (w1.heap.size + 1) (m01 x0 x1) o2 q2 p2 h2) => rholdO w' W.heap.size _ _ _ _ (t.two jb).r)
                  rw [HXQ.out.1] at HC2
                  rw [HXQ.out.2] at HC4
                  obtain ⟨op, hop⟩ : ∃ op, ptO (o2 jb) = op := ⟨_, rfl⟩
                  obtain ⟨qp, hqp⟩ : ∃ qp, ptO (q2 jb) = qp := ⟨_, rfl⟩
                  rw [hop] at hS8 HC1 HC3
                  rw [hqp] at hS9 HC2 HC4
                  obtain ⟨X, hX⟩ : ∃ X, readO (o2 jb) (p2 jb) = X := ⟨_, rfl⟩
                  obtain ⟨Y, hY⟩ : ∃ Y, readO (o2 jb) (h2 jb) = Y := ⟨_, rfl⟩
                  rw [hX] at HC1 HC2
                  rw [hY] at HC3 HC4
                  rw [hX, hY] at HOK
                  clear hop hqp hX hY HXQ
                  go_region_held3 (fun w' => PI W w' w1.heap.size (w1.heap.size + 1) (m01 x0 x1) o2 q2 p2 h2)
                    (first | exact hI | exact hId)
                    (first | (go_at_call 15; (with_reducible refine (HC1.out _ (by first | exact hI | exact hId)).mono ?_); rintro e w5 ⟨v1, rfl, ho5, hb5⟩; have hI := (by first | exact hI.below hb5 | exact hId.below hb5); have hs1 := ho5.sb HOK.out.1.1 HOK.out.1.2; (try have hs2 := hs2.below hb5)) | (go_at_call 16; (with_reducible refine (HC2.out _ (by first | exact hI | exact hId)).mono ?_); rintro e w5 ⟨v2, rfl, ho5, hb5⟩; have hI := (by first | exact hI.below hb5 | exact hId.below hb5); have hs2 := ho5.sb HOK.out.1.1 HOK.out.1.2; (try have hs1 := hs1.below hb5)) | (go_at_call 17; (with_reducible refine (HC3.out _ (by first | exact hI | exact hId)).mono ?_); rintro e w5 ⟨v3, rfl, ho5, hb5⟩; have hI := (by first | exact hI.below hb5 | exact hId.below hb5); have hs3 := ho5.sb HOK.out.2.1 HOK.out.2.2; (try have hs4 := hs4.below hb5)) | (go_at_call 18; (with_reducible refine (HC4.out _ (by first | exact hI | exact hId)).mono ?_); rintro e w5 ⟨v4, rfl, ho5, hb5⟩; have hI := (by first | exact hI.below hb5 | exact hId.below hb5); have hs4 := ho5.sb HOK.out.2.1 HOK.out.2.2; (try have hs3 := hs3.below hb5)) | (go_at_call 14; (with_reducible refine (eqBytes_self _ _ _ Y hs3 hs4).mono ?_); rintro e w7 ⟨rfl, n7, rfl⟩; have hI := hI.below (below_drewN (Below.refl _ _) n7)) | (go_at_call 14; (with_reducible refine (eqBytes_self _ _ _ X hs1 hs2).mono ?_); rintro e w7 ⟨rfl, n7, rfl⟩; have hI := hI.below (below_drewN (Below.refl _ _) n7)))
                  all_goals
                    have HF := Lib.hid hI
                    clear hI hS8 hS9
                    go_wp2_with fail
                    go_roundw
                    case rel => exact ⟨j + 1, by omega, rfl, by go_num, HF.out⟩
                    case measure => simp [intOf]; omega
                · obtain rfl : j = 2 := by omega
                  go_wp2_with fail
                  go_roundw
                  case rel => exact ⟨i + 1, _, _, _, _, by omega, rfl, by go_num, HI.out⟩
                  case measure => simp [intOf]; omega
          · obtain rfl : i = r.length := by omega
            have HP := Lib.hid HI.out.bel
            go_wp2_with fail
            go_ret
            exact ⟨rfl, HP.out⟩
end Go.Proofs.Ytakimaceohfpcaa

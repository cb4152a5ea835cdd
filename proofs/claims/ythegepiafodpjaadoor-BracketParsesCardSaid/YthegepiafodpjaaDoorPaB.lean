/-
  BracketParses: the walk of the law.
-/
import Derived.Test.YthegepiafodpjaaDoorBrH
import Derived.Test.YthegepiafodpjaaDoorBrD
import Derived.Test.YthegepiafodpjaaDoorWorks4
import Derived.Test.YthegepiafodpjaaDoorLong
import Derived.Test.YthegepiafodpjaaDoorWideM
namespace Go.Proofs.YthegepiafodpjaaDoor
open Go.RowKit

theorem parse_isC (l : List Mk) (at' : Int) : IsC (parseB l at').1 := by
  rcases parse_cases l at' with h | ⟨op, e, p, _, _, _, _, h⟩ | ⟨op, en, c, rfl, h⟩
  · rw [h]; exact isC_none
  · rw [h]; exact isC_none
  · rw [h.eq]; exact h.isc
theorem rowm_toList' (l : List Mk) : (rowm l).toList = l.flatMap fun m => [Value.int .u8 m.1, Value.bool m.2] := by simp [rowm]
theorem Arrm.setP {w : World} {g : Nat} {T : TypeId} {l : List Mk} (h : Arrm w g T l) (i : Nat) (hi : i < l.length) (p : Bool) : Arrm (w.setCell ⟨g, i * 2 + 1, none⟩ (.bool p)) g T (l.set i ((l[i]?.getD (0, false)).1, p)) := by
  unfold Arrm
  rw [heap_setCell_same w g (i * 2 + 1) _ T (.bool p) h]
  congr 2
  apply Array.ext'
  rw [Array.toList_setIfInBounds, rowm_toList', rowm_toList', ← rowm_set l i _ p]
  congr 1
  have h1 := (rowm_get l i hi).1
  obtain ⟨hlt, he⟩ := List.getElem?_eq_some_iff.1 h1
  rw [← he, List.set_getElem_self]
/-- The two boxes and the row of marks. -/
structure PZ (w0 w : World) (g7 g10 gi n : Nat) (c7 c10 : List Nat) (m : List Mk) : Prop where
  b7 : w.heap[g7]? = some (.cells (row64 c7) TCl (0, 0))
  b10 : w.heap[g10]? = some (.cells (row64 c10) TCl (0, 0))
  arr : Arrm w gi 35 m
  len : m.length = n + 64
  ism : IsM m
  bel : Below w0.heap.size w0 w
  li : w0.heap.size ≤ gi
  l7 : gi < g7
  l10 : g7 < g10
theorem PZ.below {w0 w w' : World} {g7 g10 gi n : Nat} {c7 c10 : List Nat} {m : List Mk} (h : PZ w0 w g7 g10 gi n c7 c10 m) (hb : Below w.heap.size w w') : PZ w0 w' g7 g10 gi n c7 c10 m :=
  { h with b7 := heap_b hb h.b7, b10 := heap_b hb h.b10, arr := h.arr.below hb h.arr.lt, bel := h.bel.trans (hb.mono h.bel.size) }
theorem PZ.setP {w0 w : World} {g7 g10 gi n : Nat} {c7 c10 : List Nat} {m : List Mk} (h : PZ w0 w g7 g10 gi n c7 c10 m) (i : Nat) (hi : i < n) (p : Bool) : PZ w0 (w.setCell ⟨gi, i * 2 + 1, none⟩ (.bool p)) g7 g10 gi n c7 c10 (m.set i ((m[i]?.getD (0, false)).1, p)) := by
  have l7 := h.l7
  have l10 := h.l10
  refine { h with b7 := ?_, b10 := ?_, arr := h.arr.setP i (by rw [h.len]; omega) p, len := by rw [List.length_set]; exact h.len, ism := ?_, bel := h.bel.setCell (p := ⟨gi, i * 2 + 1, none⟩) h.li _ }
  · rw [heap_setCell_other w ⟨gi, i * 2 + 1, none⟩ g7 _ (by simp; omega)]; exact h.b7
  · rw [heap_setCell_other w ⟨gi, i * 2 + 1, none⟩ g10 _ (by simp; omega)]; exact h.b10
  · intro j
    rw [List.getElem?_set]
    split
    · split
      · exact h.ism i
      · exact ⟨by decide, by decide⟩
    · exact h.ism j
theorem PZ.sm {w0 w : World} {g7 g10 gi n : Nat} {c7 c10 : List Nat} {m : List Mk} (h : PZ w0 w g7 g10 gi n c7 c10 m) (hn : n ≤ 2147483647) : SM w (.slice (some ⟨gi, 0, none⟩) n (n + 64)) (m.take n) :=
  h.arr.take_sm h.ism (by rw [h.len]; omega) (by omega) _
theorem PZ.set7 {w0 w : World} {g7 g10 gi n : Nat} {c7 c10 : List Nat} {m : List Mk} (h : PZ w0 w g7 g10 gi n c7 c10 m) (c : List Nat) : PZ w0 (w.setRow g7 (row64 c)) g7 g10 gi n c c10 m :=
  have l7 := h.l7
  have l10 := h.l10
  { h with b7 := setRow_heap _ _ _ _ _ _ h.b7, b10 := by rw [_root_.Go.setRow_other _ _ _ _ (by omega)]; exact h.b10, arr := by unfold Arrm; rw [_root_.Go.setRow_other _ _ _ _ (by omega)]; exact h.arr, bel := below_setRow h.bel (by have := h.li; omega) _ }
theorem PZ.set10 {w0 w : World} {g7 g10 gi n : Nat} {c7 c10 : List Nat} {m : List Mk} (h : PZ w0 w g7 g10 gi n c7 c10 m) (c : List Nat) : PZ w0 (w.setRow g10 (row64 c)) g7 g10 gi n c7 c m :=
  have l7 := h.l7
  have l10 := h.l10
  { h with b10 := setRow_heap _ _ _ _ _ _ h.b10, b7 := by rw [_root_.Go.setRow_other _ _ _ _ (by omega)]; exact h.b7, arr := by unfold Arrm; rw [_root_.Go.setRow_other _ _ _ _ (by omega)]; exact h.arr, bel := below_setRow h.bel (by have := h.li; omega) _ }

set_option maxHeartbeats 4000000 in
set_option maxRecDepth 100000 in
theorem paB_any (w : World) (hw : W4 w) (a1 : Option Addr) (n1 c1 : Nat) (A : List Mk) (hA : SM w (.slice a1 n1 c1) A) (at' : Int) :
    Calls Tryd.prog 3 #[.slice a1 n1 c1, .int .i64 at'] w fun e w' => e = .returned (.bool true) ∧ Below w.heap.size w w' := by
  obtain ⟨hAl, hAn⟩ := hA.len
  have HW := Lib.hid hw
  have HA := Lib.hid hA
  have HAL := Lib.hid hAl
  clear hw hA hAl
  go_enter Tryd.func3, Tryd.ntmps3
  go_wp2_with fail
  refine (works4_any w HW.out).mono ?_
  rintro e w1 ⟨rfl, b1⟩
  have B1 := Lib.hid b1
  clear b1
  go_wp2_with fail
  refine (long_any w1 n1 (by omega)).mono ?_
  rintro e w2 ⟨rfl, rfl⟩
  by_cases hL : 2147483647 < n1
  · rw [decide_eq_true hL]
    go_wp2_with fail
    go_ret
    exact ⟨rfl, B1.out⟩
  · rw [decide_eq_false hL]
    go_wp2_with fail
    refine (widem_any w1 _ A (HA.out.below B1.out) (by rw [HAL.out]; omega)).mono ?_
    rintro e w2 ⟨rfl, har, hb⟩
    rw [HAL.out]
    have hli := B1.out.size
    generalize w1.heap.size = gi at har hli ⊢
    have B2 := Lib.hid (B1.out.trans (hb.mono B1.out.size))
    have HAR := Lib.hid har
    have HWL : Hid ((widem A).length = n1 + 64) := Lib.hid (by rw [widem_len, HAL.out])
    have HWI := Lib.hid (widem_isM A HA.out.1)
    have HWT : Hid ((widem A).take n1 = A) := Lib.hid (by rw [← HAL.out]; exact widem_take A)
    clear har hb
    go_wp2_with fail
    have hTK : SM w2 (.slice (some ⟨gi, 0, none⟩) n1 (n1 + 64)) A := by
      have := HAR.out.take_sm HWI.out (n := n1) (by rw [HWL.out]; omega) (by omega) (n1 + 64)
      rw [HWT.out] at this
      exact this
    refine (parse_any w2 (HW.out.br.below B2.out) _ n1 (n1 + 64) at' A hTK).mono ?_
    rintro e w3 ⟨he, hb⟩
    have hic := parse_isC A at'
    have HRP := Lib.hid (fun w a n c (h : SM w (.slice a n c) A) => refParse_any w a n c at' A h)
    generalize parseB A at' = r at he hic HRP
    obtain ⟨cA, tA, eA⟩ := r
    obtain ⟨p0, p1, p2, p3, rfl⟩ := isC_words cA hic
    have he : e = .returned (.tuple #[.agg #[.int .u64 (p0 : Int), .int .u64 (p1 : Int), .int .u64 (p2 : Int), .int .u64 (p3 : Int)], .int .i64 tA, .int .i64 eA]) := he
    subst he
    have B3 := Lib.hid (B2.out.trans (hb.mono B2.out.size))
    have HAR3 := Lib.hid (HAR.out.below hb HAR.out.lt)
    clear hb hTK B2 HAR hic
    go_upto_region 6 with fail
    have n7 := heap_alloc_new w3 (.cells #[.int .u64 (p0 : Int), .int .u64 (p1 : Int), .int .u64 (p2 : Int), .int .u64 (p3 : Int)] TCl)
    have hbx := box1 w3 (.cells #[.int .u64 (p0 : Int), .int .u64 (p1 : Int), .int .u64 (p2 : Int), .int .u64 (p3 : Int)] TCl)
    have B4 := Lib.hid (B3.out.trans (hbx.mono B3.out.size))
    have HAR4 := Lib.hid (HAR3.out.below hbx HAR3.out.lt)
    have HL7 : Hid (gi < w3.heap.size) := Lib.hid HAR3.out.lt
    generalize w3.heap.size = g7 at n7 HL7 hbx ⊢
    generalize w3.alloc (.cells #[.int .u64 (p0 : Int), .int .u64 (p1 : Int), .int .u64 (p2 : Int), .int .u64 (p3 : Int)] TCl) = w4 at n7 hbx B4 HAR4 ⊢
    have H7 := Lib.hid n7
    clear n7 hbx B3 HAR3
    go_wp2_with fail
    refine (HRP.out w4 a1 n1 c1 (HA.out.below B4.out)).mono ?_
    rintro e w5 ⟨he, hb⟩
    have he : e = .returned (.tuple #[.agg #[.int .u64 (p0 : Int), .int .u64 (p1 : Int), .int .u64 (p2 : Int), .int .u64 (p3 : Int)], .int .i64 tA, .int .i64 eA]) := he
    subst he
    have B5 := Lib.hid (B4.out.trans (hb.mono B4.out.size))
    have HAR5 := Lib.hid (HAR4.out.below hb HAR4.out.lt)
    have H75 := Lib.hid (heap_b hb H7.out)
    clear hb B4 HAR4 H7 HRP
    go_upto_region 7 with fail
    have n10 := heap_alloc_new w5 (.cells #[.int .u64 (p0 : Int), .int .u64 (p1 : Int), .int .u64 (p2 : Int), .int .u64 (p3 : Int)] TCl)
    have hbx := box1 w5 (.cells #[.int .u64 (p0 : Int), .int .u64 (p1 : Int), .int .u64 (p2 : Int), .int .u64 (p3 : Int)] TCl)
    have HZ : Hid (PZ w (w5.alloc (.cells #[.int .u64 (p0 : Int), .int .u64 (p1 : Int), .int .u64 (p2 : Int), .int .u64 (p3 : Int)] TCl)) g7 w5.heap.size gi n1 [p0, p1, p2, p3] [p0, p1, p2, p3] (widem A)) := Lib.hid
      ⟨heap_b hbx H75.out, n10, HAR5.out.below hbx HAR5.out.lt, HWL.out, HWI.out, B5.out.trans (hbx.mono B5.out.size), hli, HL7.out, (Array.getElem?_eq_some_iff.1 H75.out).1⟩
    clear n10 hbx B5 HAR5 H75
    generalize w5.heap.size = g10 at HZ ⊢
    generalize w5.alloc (.cells #[.int .u64 (p0 : Int), .int .u64 (p1 : Int), .int .u64 (p2 : Int), .int .u64 (p3 : Int)] TCl) = w6 at HZ ⊢
    have hs6 := HZ.out.sm (by omega)
    rw [HWT.out] at hs6
    go_wp2_with fail
    refine (eqMarks_any w6 _ _ A A hs6 (HA.out.below HZ.out.bel)).mono ?_
    rw [show decide (A = A) = true by simp]
    rintro e w7 ⟨rfl, n, rfl⟩
    have HZ := Lib.hid (HZ.out.below (below_drewN (Below.refl _ _) n))
    generalize w6.drewN n = w7 at HZ ⊢
    clear hs6
    go_wp2_with fail
    refine (sparem_any w7 gi n1 35 (by omega) (widem A) HWL.out (fun j h1 h2 => widem_hi A j (by rw [HAL.out]; exact h1) (by rw [HAL.out]; exact h2)) HZ.out.arr).mono ?_
    rintro e w8 ⟨rfl, n, rfl⟩
    have HZ := Lib.hid (HZ.out.below (below_drewN (Below.refl _ _) n))
    generalize w7.drewN n = w8 at HZ ⊢
    obtain ⟨d0, d1, d2, d3⟩ := cells4n (show w8.heap[g7]? = some (.cells #[.int .u64 (p0 : Int), .int .u64 (p1 : Int), .int .u64 (p2 : Int), .int .u64 (p3 : Int)] TCl (0, 0)) from HZ.out.b7)
    obtain ⟨e0, e1, e2, e3⟩ := cells4n (show w8.heap[g10]? = some (.cells #[.int .u64 (p0 : Int), .int .u64 (p1 : Int), .int .u64 (p2 : Int), .int .u64 (p3 : Int)] TCl (0, 0)) from HZ.out.b10)
    have hE : ∀ w, Sem.run Tryd.prog (Op.equalIn 10000 28 (.agg #[.int .u64 (p0 : Int), .int .u64 (p1 : Int), .int .u64 (p2 : Int), .int .u64 (p3 : Int)]) (.agg #[.int .u64 (p0 : Int), .int .u64 (p1 : Int), .int .u64 (p2 : Int), .int .u64 (p3 : Int)])) w = .ok true w := fun w => (run_equalIn_rowC w 9998 [p0, p1, p2, p3] [p0, p1, p2, p3] rfl rfl).trans (by rw [decide_eq_true rfl])
    have ht1 : (tA != tA) = false := by simp
    have ht2 : (eA != eA) = false := by simp
    go_upto_region 10 with fail
    clear d0 d1 d2 d3 e0 e1 e2 e3 hE ht1 ht2
    have HZS := HZ
    clear HZ HWL HWI HWT
    go_wp2_with fail
    go_loopw [14] (fun v wr => ∃ (k : Nat) (m : List Mk), k ≤ n1 ∧ v = .int .i64 (k : Int) ∧ PZ w wr g7 g10 gi n1 [p0, p1, p2, p3] [p0, p1, p2, p3] m) (fun v _ => n1 - (intOf v).toNat)
    case atStart => exact ⟨0, widem A, by omega, rfl, HZS.out⟩
    case round =>
      clear HZS
      obtain ⟨k, m, hk, rfl, hZ⟩ := hrel
      have HZ := Lib.hid hZ
      clear hZ
      by_cases hlt : k < n1
      · have hd : decide ((k : Int) < (n1 : Int)) = true := decide_eq_true (by omega)
        by_cases hat : (k : Int) = at'
        · have hne : ((k : Int) != at') = false := by rw [bne_eq_false_iff_eq]; exact hat
          clear hat
          go_wp2_with fail
          go_roundw
          case rel => exact ⟨k + 1, m, by omega, by go_num, HZ.out⟩
          case measure => simp [intOf]; omega
        · have hne : ((k : Int) != at') = true := by rw [bne_iff_ne]; exact hat
          clear hat
          cases hr : ((k : Int) % 3 == 1) with
          | false =>
            go_wp2_with fail
            go_roundw
            case rel => exact ⟨k + 1, m, by omega, by go_num, HZ.out⟩
            case measure => simp [intOf]; omega
          | true =>
            have hcell := (HZ.out.arr.cell k (by rw [HZ.out.len]; omega)).2
            have hfr := HZ.out.arr.frozen (k * 2 + 1)
            have HS := Lib.hid (fun p => HZ.out.setP k hlt p)
            generalize (m[k]?.getD (0, false)).2 = pl at hcell
            clear HZ
            cases pl with
            | true =>
              go_wp2_with fail
              go_roundw
              case rel => exact ⟨k + 1, _, by omega, by go_num, HS.out false⟩
              case measure => simp [intOf]; omega
            | false =>
              go_wp2_with fail
              go_roundw
              case rel => exact ⟨k + 1, _, by omega, by go_num, HS.out true⟩
              case measure => simp [intOf]; omega
      · obtain rfl : k = n1 := by omega
        have hd : decide ((k : Int) < (k : Int)) = false := decide_eq_false (by omega)
        have hs1 := HZ.out.sm (by omega)
        have HMt : Hid ((m.take k).length = k) := Lib.hid (by rw [List.length_take, HZ.out.len]; omega)
        generalize m.take k = Z at hs1 HMt
        have HS1 := Lib.hid hs1
        clear hs1
        go_wp2_with fail
        refine (copyMn_any wr _ k (k + 64) Z (fun h => by cases h) HS1.out).mono ?_
        rintro e w9 ⟨v9, rfl, o9, b9⟩
        have HIZ := Lib.hid HS1.out.1
        have HG7 : Hid (g7 < wr.heap.size) := Lib.hid (Array.getElem?_eq_some_iff.1 HZ.out.b7).1
        have HG10 : Hid (g10 < wr.heap.size) := Lib.hid (Array.getElem?_eq_some_iff.1 HZ.out.b10).1
        obtain ⟨a9, c9, rfl, -⟩ := o9.shape
        rw [HMt.out] at o9 ⊢
        have O9 := Lib.hid o9
        have HS2 := Lib.hid (HS1.out.below b9)
        have HZ := Lib.hid (HZ.out.below b9)
        clear o9 b9 HS1
        go_wp2_with fail
        refine (parse_any w9 (HW.out.br.below HZ.out.bel) _ k (k + 64) at' Z HS2.out).mono ?_
        rintro e w10 ⟨he, hb⟩
        have hic := parse_isC Z at'
        have HRP := Lib.hid (fun w a n c (h : SM w (.slice a n c) Z) => refParse_any w a n c at' Z h)
        generalize parseB Z at' = r at he hic HRP
        obtain ⟨cZ, tZ, eZ⟩ := r
        obtain ⟨q0, q1, q2, q3, rfl⟩ := isC_words cZ hic
        have he : e = .returned (.tuple #[.agg #[.int .u64 (q0 : Int), .int .u64 (q1 : Int), .int .u64 (q2 : Int), .int .u64 (q3 : Int)], .int .i64 tZ, .int .i64 eZ]) := he
        subst he
        have HZ := Lib.hid (HZ.out.below hb)
        have O9 := Lib.hid (O9.out.below hb)
        have HZ7 : Hid (PZ w (w10.setRow g7 #[.int .u64 (q0 : Int), .int .u64 (q1 : Int), .int .u64 (q2 : Int), .int .u64 (q3 : Int)]) g7 g10 gi k [q0, q1, q2, q3] [p0, p1, p2, p3] m) := Lib.hid (HZ.out.set7 [q0, q1, q2, q3])
        have HB7 : Hid (w10.heap[g7]? = some (.cells #[.int .u64 (p0 : Int), .int .u64 (p1 : Int), .int .u64 (p2 : Int), .int .u64 (p3 : Int)] TCl (0, 0))) := Lib.hid HZ.out.b7
        have O97 := Lib.hid (own_setRow4 O9.out g7 HG7.out #[.int .u64 (q0 : Int), .int .u64 (q1 : Int), .int .u64 (q2 : Int), .int .u64 (q3 : Int)])
        clear hb HS2 hic
        go_wp2_with (refine wpList_store_row rfl TCl (.tmp 7) (.tmp 95) rfl rfl g7 TCl #[.int .u64 (p0 : Int), .int .u64 (p1 : Int), .int .u64 (p2 : Int), .int .u64 (p3 : Int)] #[.int .u64 (q0 : Int), .int .u64 (q1 : Int), .int .u64 (q2 : Int), .int .u64 (q3 : Int)] rfl rfl HB7.out rfl infoCl (by simp [Value.oneCell']) ?_)
        generalize w10.setRow g7 #[.int .u64 (q0 : Int), .int .u64 (q1 : Int), .int .u64 (q2 : Int), .int .u64 (q3 : Int)] = w11 at HZ7 O97 ⊢
        clear HZ O9 HB7
        have S11 := Lib.hid (OwnM.sm O97.out HIZ.out (by rw [HMt.out]; omega))
        refine (HRP.out w11 a9 k c9 S11.out).mono ?_
        rintro e w12 ⟨he, hb⟩
        have he : e = .returned (.tuple #[.agg #[.int .u64 (q0 : Int), .int .u64 (q1 : Int), .int .u64 (q2 : Int), .int .u64 (q3 : Int)], .int .i64 tZ, .int .i64 eZ]) := he
        subst he
        have HZ := Lib.hid (HZ7.out.below hb)
        have HB10 : Hid (w12.heap[g10]? = some (.cells #[.int .u64 (p0 : Int), .int .u64 (p1 : Int), .int .u64 (p2 : Int), .int .u64 (p3 : Int)] TCl (0, 0))) := Lib.hid HZ.out.b10
        have HZ2 : Hid (PZ w (w12.setRow g10 #[.int .u64 (q0 : Int), .int .u64 (q1 : Int), .int .u64 (q2 : Int), .int .u64 (q3 : Int)]) g7 g10 gi k [q0, q1, q2, q3] [q0, q1, q2, q3] m) := Lib.hid (HZ.out.set10 [q0, q1, q2, q3])
        obtain ⟨d0, d1, d2, d3⟩ := cells4n (show (w12.setRow g10 #[.int .u64 (q0 : Int), .int .u64 (q1 : Int), .int .u64 (q2 : Int), .int .u64 (q3 : Int)]).heap[g7]? = some (.cells #[.int .u64 (q0 : Int), .int .u64 (q1 : Int), .int .u64 (q2 : Int), .int .u64 (q3 : Int)] TCl (0, 0)) from HZ2.out.b7)
        obtain ⟨e0, e1, e2, e3⟩ := cells4n (show (w12.setRow g10 #[.int .u64 (q0 : Int), .int .u64 (q1 : Int), .int .u64 (q2 : Int), .int .u64 (q3 : Int)]).heap[g10]? = some (.cells #[.int .u64 (q0 : Int), .int .u64 (q1 : Int), .int .u64 (q2 : Int), .int .u64 (q3 : Int)] TCl (0, 0)) from HZ2.out.b10)
        have hE : ∀ w, Sem.run Tryd.prog (Op.equalIn 10000 28 (.agg #[.int .u64 (q0 : Int), .int .u64 (q1 : Int), .int .u64 (q2 : Int), .int .u64 (q3 : Int)]) (.agg #[.int .u64 (q0 : Int), .int .u64 (q1 : Int), .int .u64 (q2 : Int), .int .u64 (q3 : Int)])) w = .ok true w := fun w => (run_equalIn_rowC w 9998 [q0, q1, q2, q3] [q0, q1, q2, q3] rfl rfl).trans (by rw [decide_eq_true rfl])
        have ht1 : (tZ == tZ) = true := by simp
        have ht2 : (eZ == eZ) = true := by simp
        clear hb S11 HRP HZ7 O97
        go_wp2_with (refine wpList_store_row rfl TCl (.tmp 10) (.tmp 102) rfl rfl g10 TCl #[.int .u64 (p0 : Int), .int .u64 (p1 : Int), .int .u64 (p2 : Int), .int .u64 (p3 : Int)] #[.int .u64 (q0 : Int), .int .u64 (q1 : Int), .int .u64 (q2 : Int), .int .u64 (q3 : Int)] rfl rfl HB10.out rfl infoCl (by simp [Value.oneCell']) ?_)
        go_ret
        exact ⟨rfl, HZ2.out.bel⟩
end Go.Proofs.YthegepiafodpjaaDoor

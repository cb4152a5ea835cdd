/-
  galleyref02.Line: it answers what quote.Line answers; the law of the lines.
-/
import Derived.Test.YtboikhalfffioaaDoorRs
import Derived.Test.YtboikhalfffioaaDoorWr
namespace Go.Proofs.YtboikhalfffioaaDoor
open Go.RowKit

theorem conv_sb2 (w : World) (s : ByteArray) (hl : s.size ≤ 140737488351232) : ∃ C cs, s.size ≤ C ∧ (convert 9 23 (.string s)).run Tryd.prog w = .ok (.slice (some ⟨w.heap.size, 0, none⟩) s.size C) (w.alloc (.cells cs 5 (cs.size, cs.size + 1))).drew ∧
    SB (w.alloc (.cells cs 5 (cs.size, cs.size + 1))).drew (.slice (some ⟨w.heap.size, 0, none⟩) s.size C) (bI s.data.toList) := by
  refine ⟨_, _, grownCap_ge w s.size 0 5, run_bytes_of_string w 9 23 5 s Tryd.underlying9 Tryd.underlying23 Tryd.underlying5, conv_sb w s _ _ (fun j x hj => ?_) hl⟩
  rw [Array.getElem?_toList] at hj
  obtain ⟨h1, h2⟩ := Array.getElem?_eq_some_iff.1 hj
  rw [bytesRow_at s _ j h1, h2]

set_option maxHeartbeats 1000000 in
set_option maxRecDepth 100000 in
theorem refLine_any (w : World) (hw : WdW w) (e p : Int) (h0 : -9223372036854775808 ≤ e) (h1 : e ≤ 9223372036854775807) (p0 : -9223372036854775808 ≤ p) (p1 : p ≤ 9223372036854775807) (name : ByteArray) (hn : name.size ≤ 8796093022000) :
    Calls Tryd.prog 19 #[.agg #[.int .i64 e, .int .i64 p, .string name]] w fun r w' => r = .returned (.string (lineB e p name)) ∧ Below w.heap.size w w' := by
  have HW := Lib.hid hw
  have HE := Lib.hid (And.intro h0 h1)
  have HP := Lib.hid (And.intro p0 p1)
  have hws := word_size e h0 h1
  clear hw h0 h1 p0 p1
  go_enter Tryd.func19, Tryd.ntmps19
  have HB0 := Lib.hid (boxL w (.cells #[.int .i64 e, .int .i64 p, .string name] 55))
  have n0 := heap_alloc_new w (.cells #[.int .i64 e, .int .i64 p, .string name] 55)
  go_upto_region 1 with fail
  generalize w.heap.size = g at n0 ⊢
  generalize w.alloc (.cells #[.int .i64 e, .int .i64 p, .string name] 55) = w0 at HB0 n0 ⊢
  have HN := Lib.hid n0
  clear n0
  have hc0 := Lib.cell_of_heap HN.out 0
  have hc1 := Lib.cell_of_heap HN.out 1
  have hc2 := Lib.cell_of_heap HN.out 2
  have c0 : w0.cell? ⟨g, 0, none⟩ = some (.int .i64 e) := hc0
  have c1 : w0.cell? ⟨g, 1, none⟩ = some (.int .i64 p) := hc1
  have c2 : w0.cell? ⟨g, 2, none⟩ = some (.string name) := hc2
  clear hc0 hc1 hc2
  have HWD := Lib.hid (refWord_any w0 (HW.out.below HB0.out) e HE.out.1 HE.out.2)
  have hw2 : ¬ 9223372036854775807 < 8 + (wordB e).size := by omega
  go_wp2_with (go_at_call 17; refine HWD.out.mono ?_)
  rintro r w1 ⟨rfl, b1⟩
  replace c0 := cell_k b1 c0
  replace c1 := cell_k b1 c1
  replace c2 := cell_k b1 c2
  have HB1 := Lib.hid (HB0.out.trans (b1.mono HB0.out.size))
  clear b1 HB0 HN HWD
  go_upto_if 10 with fail
  obtain ⟨A, hA⟩ : ∃ A : ByteArray, ⟨#[103, 97, 108, 108, 101, 121, 58, 32]⟩ ++ wordB e = A := ⟨_, rfl⟩
  have hAs : A.size ≤ 108 := by
    rw [← hA, ByteArray.size_append]
    have e1 : (⟨#[103, 97, 108, 108, 101, 121, 58, 32]⟩ : ByteArray).size = 8 := rfl
    omega
  have HLA : Hid (lineA e p = if 0 ≤ p then (A ++ ⟨#[32, 97, 116, 32]⟩) ++ ⟨(Lib.itoa p).toArray⟩ else A) := Lib.hid (by rw [← hA, ByteArray.append_assoc]; rfl)
  have HLS := Lib.hid (lineA_size e p HE.out.1 HE.out.2 HP.out.1 HP.out.2)
  rw [hA]
  clear hA hw2 hws
  go_cut [3] (fun v wx => v = .string (lineA e p) ∧ Below w.heap.size w wx ∧ wx.cell? ⟨g, 2, none⟩ = some (.string name))
  case first =>
    by_cases hp : 0 ≤ p
    · have hd : decide (0 ≤ p) = true := decide_eq_true hp
      have HLA := Lib.hid (HLA.out.trans (if_pos hp))
      have hts := itoa_size p HP.out.1 HP.out.2
      have HIT := Lib.hid (itoa_any w1 (HW.out.below HB1.out) p HP.out.1 HP.out.2)
      obtain ⟨t, ht⟩ : ∃ t : ByteArray, ⟨(Lib.itoa p).toArray⟩ = t := ⟨_, rfl⟩
      rw [ht] at HIT HLA hts
      clear ht
      have s1 : ¬ 9223372036854775807 < A.size + 4 := by omega
      have s2 : ¬ 9223372036854775807 < A.size + 4 + t.size := by omega
      go_wp2_with (go_at_call 47; refine HIT.out.mono ?_)
      rintro r w2 ⟨rfl, b2⟩
      replace c2 := cell_k b2 c2
      have HB2 := Lib.hid (HB1.out.trans (b2.mono HB1.out.size))
      clear b2 c0 c1
      go_wp2_with fail
      go_meet
      case rel => exact ⟨by rw [HLA.out], HB2.out, c2⟩
    · have hd : decide (0 ≤ p) = false := decide_eq_false hp
      have HLA := Lib.hid (HLA.out.trans (if_neg hp))
      go_wp2_with fail
      go_meet
      case rel => exact ⟨by rw [HLA.out], HB1.out, c2⟩
  case rest =>
    obtain ⟨rfl, hb3, c3⟩ := hcut
    have HB3 := Lib.hid hb3
    clear hb3 c0 c1 c2
    have HLB : Hid (lineB e p name = if name.toList.isEmpty = true then lineA e p else (lineA e p ++ ⟨#[58, 32]⟩) ++ ⟨(showL name.data.toList).toArray⟩) := Lib.hid (by rw [ByteArray.append_assoc]; rfl)
    generalize lineA e p = La at HLS HLB ⊢
    cases hie : name.toList.isEmpty with
    | true =>
      have HLB := Lib.hid (HLB.out.trans (if_pos hie))
      go_wp2_with fail
      go_ret
      exact ⟨by rw [HLB.out]; rfl, HB3.out⟩
    | false =>
      have HLB := Lib.hid (HLB.out.trans (if_neg (by rw [hie]; decide)))
      obtain ⟨C, cs, hC, hcb, hsb⟩ := conv_sb2 wc name (by omega)
      have HSH := Lib.hid (refShow_any _ _ _ C _ hsb hC (fun h => by cases h) hn)
      have HBC : Hid (Below w.heap.size w (wc.alloc (.cells cs 5 (cs.size, cs.size + 1))).drew) := Lib.hid (HB3.out.alloc HB3.out.size _).drew
      have hsl : (⟨(showL name.data.toList).toArray⟩ : ByteArray).size ≤ 2 + 4 * name.size := by
        have := show_len name.data.toList
        rw [dataL] at this
        exact this
      obtain ⟨t, ht⟩ : ∃ t : ByteArray, ⟨(showL name.data.toList).toArray⟩ = t := ⟨_, rfl⟩
      rw [ht] at HSH HLB hsl
      have hls := HLS.out
      have s1 : ¬ 9223372036854775807 < La.size + 2 := by omega
      have s2 : ¬ 9223372036854775807 < La.size + 2 + t.size := by omega
      clear ht hsb hC
      go_upto_region 5 with fail
      go_wp2_with (go_at_call 27; refine HSH.out.mono ?_)
      rintro r w5 ⟨rfl, b5⟩
      have HB5 := Lib.hid (HBC.out.trans (b5.mono HBC.out.size))
      clear b5 hcb c3
      go_wp2_with fail
      go_ret
      exact ⟨by rw [HLB.out]; rfl, HB5.out⟩
end Go.Proofs.YtboikhalfffioaaDoor

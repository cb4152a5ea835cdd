/-
  quote.Line.
-/
import Derived.Test.YtboikhalfffioaaDoorUn
namespace Go.Proofs.YtboikhalfffioaaDoor
open Go.RowKit

/-- A diagnostic, as far as its place. -/
def lineA (e p : Int) : ByteArray := if 0 ≤ p then (⟨#[103, 97, 108, 108, 101, 121, 58, 32]⟩ ++ wordB e) ++ (⟨#[32, 97, 116, 32]⟩ ++ ⟨(Lib.itoa p).toArray⟩) else ⟨#[103, 97, 108, 108, 101, 121, 58, 32]⟩ ++ wordB e
/-- A diagnostic. -/
def lineB (e p : Int) (name : ByteArray) : ByteArray := if name.toList.isEmpty = true then lineA e p else lineA e p ++ (⟨#[58, 32]⟩ ++ ⟨(showL name.data.toList).toArray⟩)
theorem word_size (e : Int) (h0 : -9223372036854775808 ≤ e) (h1 : e ≤ 9223372036854775807) : (wordB e).size ≤ 100 := by
  have ht : ∀ p ∈ wordsL, p.2.size ≤ 100 := by decide
  have hi := itoa_size e h0 h1
  unfold wordB
  split
  · next p hp => exact ht p (List.mem_of_find?_eq_some hp)
  · rw [ByteArray.size_append]
    have : (⟨#[101, 114, 114, 111, 114, 32]⟩ : ByteArray).size = 6 := rfl
    omega
theorem one_len (l : List UInt8) (h : l ≠ []) : (oneL l).length ≤ 4 * (Lib.decodeL l).2 := by
  have hw := wid_le l h
  unfold oneL
  split
  · rw [List.length_take]; omega
  · have := flat_len (l.take (max (wid l) 1))
    rw [List.length_take] at this
    omega
theorem body_len (n : Nat) (l : List UInt8) : (bodyL n l).length ≤ 4 * l.length := by
  induction n generalizing l with
  | zero => simp [bodyL]
  | succ n ih =>
    unfold bodyL
    split
    · simp
    · next h =>
      have h1 := one_len l h
      have h2 := ih (l.drop (Lib.decodeL l).2)
      have h3 := wid_le l h
      rw [List.length_drop] at h2
      rw [List.length_append]
      omega
theorem show_len (l : List UInt8) : (showL l).length ≤ 2 + 4 * l.length := by
  have := body_len l.length l
  unfold showL
  rw [List.length_cons, List.length_append, List.length_singleton]
  omega
theorem lineA_size (e p : Int) (h0 : -9223372036854775808 ≤ e) (h1 : e ≤ 9223372036854775807) (p0 : -9223372036854775808 ≤ p) (p1 : p ≤ 9223372036854775807) : (lineA e p).size ≤ 200 := by
  have hw := word_size e h0 h1
  have hi := itoa_size p p0 p1
  have e1 : (⟨#[103, 97, 108, 108, 101, 121, 58, 32]⟩ : ByteArray).size = 8 := rfl
  have e2 : (⟨#[32, 97, 116, 32]⟩ : ByteArray).size = 4 := rfl
  unfold lineA
  split
  · rw [ByteArray.size_append, ByteArray.size_append, ByteArray.size_append]; omega
  · rw [ByteArray.size_append]; omega
theorem boxL (w : World) (o : Obj) : Below w.heap.size w (w.alloc o) := (Below.refl _ w).alloc (Nat.le_refl _) o
/-- The bytes of a string, made anew. -/
theorem conv_sb (w : World) (s : ByteArray) (C : Nat) (cs : Array Value) (hcc : ∀ (j : Nat) (x : UInt8), s.data.toList[j]? = some x → cs[j]? = some (.int .u8 (x.toNat : Int))) (hl : s.size ≤ 140737488351232) :
    SB (w.alloc (.cells cs 5 (cs.size, cs.size + 1))).drew (.slice (some ⟨w.heap.size, 0, none⟩) s.size C) (bI s.data.toList) := by
  refine ⟨bI_isB _, _, C, by rw [bI_len, dataL], by rw [bI_len, dataL]; exact hl, .inr ⟨w.heap.size, 0, rfl, fun i hi => ?_⟩⟩
  rw [bI_len] at hi
  have hb : (w.alloc (.cells cs 5 (cs.size, cs.size + 1))).drew.heap[w.heap.size]? = some (.cells cs 5 (cs.size, cs.size + 1)) := heap_alloc_new w _
  rw [Lib.cell_of_heap hb, Nat.zero_add, hcc i _ (List.getElem?_eq_getElem hi)]
  unfold bI
  rw [List.getElem?_map, List.getElem?_eq_getElem hi]
  rfl
/-- strconv.Itoa, in few words. -/
theorem itoa_any (w : World) (hw : WdW w) (e : Int) (h0 : -9223372036854775808 ≤ e) (h1 : e ≤ 9223372036854775807) : Calls Tryd.prog 47 #[.int .i64 e] w fun r w' => r = .returned (.string ⟨(Lib.itoa e).toArray⟩) ∧ Below w.heap.size w w' := by
  refine (Tryd.strconv_Itoa e h0 h1 w hw.pow).mono ?_
  rintro r w' ⟨rfl, q, os, rfl⟩
  exact ⟨rfl, Lib.below_grow _ _ (Nat.le_refl _) _ _⟩

set_option maxHeartbeats 1000000 in
set_option maxRecDepth 100000 in
theorem line_any (w : World) (hw : WdW w) (e p : Int) (h0 : -9223372036854775808 ≤ e) (h1 : e ≤ 9223372036854775807) (p0 : -9223372036854775808 ≤ p) (p1 : p ≤ 9223372036854775807) (name : ByteArray) (hn : name.size ≤ 8796093022000) :
    Calls Tryd.prog 18 #[.agg #[.int .i64 e, .int .i64 p, .string name]] w fun r w' => r = .returned (.string (lineB e p name)) ∧ Below w.heap.size w w' := by
  have HW := Lib.hid hw
  have HE := Lib.hid (And.intro h0 h1)
  have HP := Lib.hid (And.intro p0 p1)
  have hws := word_size e h0 h1
  clear hw h0 h1 p0 p1
  go_enter Tryd.func18, Tryd.ntmps18
  have HB0 := Lib.hid (boxL w (.cells #[.int .i64 e, .int .i64 p, .string name] 55))
  have n0 := heap_alloc_new w (.cells #[.int .i64 e, .int .i64 p, .string name] 55)
  go_upto_region 1 with fail
  generalize w.heap.size = g at n0 ⊢
  generalize w.alloc (.cells #[.int .i64 e, .int .i64 p, .string name] 55) = w0 at HB0 n0 ⊢
  have HN := Lib.hid n0
  clear n0
  have hc0 := Lib.cell_of_heap HN.out 0
  have hc1 := Lib.cell_of_heap HN.out 1
  have hc2 := Lib.cell_of_heap HN.out 2
  have c0 : w0.cell? ⟨g, 0, none⟩ = some (.int .i64 e) := hc0
  have c1 : w0.cell? ⟨g, 1, none⟩ = some (.int .i64 p) := hc1
  have c2 : w0.cell? ⟨g, 2, none⟩ = some (.string name) := hc2
  clear hc0 hc1 hc2
  have HWD := Lib.hid (word_any w0 (HW.out.below HB0.out) e HE.out.1 HE.out.2)
  have hw2 : ¬ 9223372036854775807 < 8 + (wordB e).size := by omega
  go_wp2_with (go_at_call 16; refine HWD.out.mono ?_)
  rintro r w1 ⟨rfl, b1⟩
  replace c0 := cell_k b1 c0
  replace c1 := cell_k b1 c1
  replace c2 := cell_k b1 c2
  have HB1 := Lib.hid (HB0.out.trans (b1.mono HB0.out.size))
  clear b1 HB0 HN HWD
  go_upto_if 10 with fail
  obtain ⟨A, hA⟩ : ∃ A : ByteArray, ⟨#[103, 97, 108, 108, 101, 121, 58, 32]⟩ ++ wordB e = A := ⟨_, rfl⟩
  have hAs : A.size ≤ 108 := by
    rw [← hA, ByteArray.size_append]
    have e1 : (⟨#[103, 97, 108, 108, 101, 121, 58, 32]⟩ : ByteArray).size = 8 := rfl
    omega
  have HLA : Hid (lineA e p = if 0 ≤ p then A ++ (⟨#[32, 97, 116, 32]⟩ ++ ⟨(Lib.itoa p).toArray⟩) else A) := Lib.hid (by rw [← hA]; rfl)
  have HLS := Lib.hid (lineA_size e p HE.out.1 HE.out.2 HP.out.1 HP.out.2)
  rw [hA]
  clear hA hw2 hws
  go_cut [3] (fun v wx => v = .string (lineA e p) ∧ Below w.heap.size w wx ∧ wx.cell? ⟨g, 2, none⟩ = some (.string name))
  case first =>
    by_cases hp : 0 ≤ p
    · have hd : decide (0 ≤ p) = true := decide_eq_true hp
      have HLA := Lib.hid (HLA.out.trans (if_pos hp))
      have hts := itoa_size p HP.out.1 HP.out.2
      have HIT := Lib.hid (itoa_any w1 (HW.out.below HB1.out) p HP.out.1 HP.out.2)
      obtain ⟨t, ht⟩ : ∃ t : ByteArray, ⟨(Lib.itoa p).toArray⟩ = t := ⟨_, rfl⟩
      rw [ht] at HIT HLA hts
      clear ht
      have s1 : ¬ 9223372036854775807 < 4 + t.size := by omega
      have s2 : ¬ 9223372036854775807 < A.size + (4 + t.size) := by omega
      go_wp2_with (go_at_call 47; refine HIT.out.mono ?_)
      rintro r w2 ⟨rfl, b2⟩
      replace c2 := cell_k b2 c2
      have HB2 := Lib.hid (HB1.out.trans (b2.mono HB1.out.size))
      clear b2 c0 c1
      go_wp2_with fail
      go_meet
      case rel => exact ⟨by rw [HLA.out], HB2.out, c2⟩
    · have hd : decide (0 ≤ p) = false := decide_eq_false hp
      have HLA := Lib.hid (HLA.out.trans (if_neg hp))
      go_wp2_with fail
      go_meet
      case rel => exact ⟨by rw [HLA.out], HB1.out, c2⟩
  case rest =>
    obtain ⟨rfl, hb3, c3⟩ := hcut
    have HB3 := Lib.hid hb3
    clear hb3 c0 c1 c2
    have HLB : Hid (lineB e p name = if name.toList.isEmpty = true then lineA e p else lineA e p ++ (⟨#[58, 32]⟩ ++ ⟨(showL name.data.toList).toArray⟩)) := Lib.hid rfl
    generalize lineA e p = La at HLS HLB ⊢
    cases hie : name.toList.isEmpty with
    | true =>
      have HLB := Lib.hid (HLB.out.trans (if_pos hie))
      go_wp2_with fail
      go_ret
      exact ⟨by rw [HLB.out]; rfl, HB3.out⟩
    | false =>
      have HLB := Lib.hid (HLB.out.trans (if_neg (by rw [hie]; decide)))
      obtain ⟨C, cs, hcb, hcc⟩ := conv_bytes wc name
      have HSH := Lib.hid (show_any _ _ _ C _ (conv_sb wc name C cs hcc (by omega)) (by omega))
      rw [bI_str] at HSH
      have HBC : Hid (Below w.heap.size w (wc.alloc (.cells cs 5 (cs.size, cs.size + 1))).drew) := Lib.hid (HB3.out.alloc HB3.out.size _).drew
      have hsl : (⟨(showL name.data.toList).toArray⟩ : ByteArray).size ≤ 2 + 4 * name.size := by
        have := show_len name.data.toList
        rw [dataL] at this
        exact this
      obtain ⟨t, ht⟩ : ∃ t : ByteArray, ⟨(showL name.data.toList).toArray⟩ = t := ⟨_, rfl⟩
      rw [ht] at HSH HLB hsl
      have hls := HLS.out
      have s1 : ¬ 9223372036854775807 < 2 + t.size := by omega
      have s2 : ¬ 9223372036854775807 < La.size + (2 + t.size) := by omega
      clear ht hcc
      go_upto_region 5 with fail
      go_wp2_with (go_at_call 20; refine HSH.out.mono ?_)
      rintro r w5 ⟨rfl, b5⟩
      have HB5 := Lib.hid (HBC.out.trans (b5.mono HBC.out.size))
      clear b5 hcb c3
      go_wp2_with fail
      go_ret
      exact ⟨by rw [HLB.out]; rfl, HB5.out⟩
end Go.Proofs.YtboikhalfffioaaDoor

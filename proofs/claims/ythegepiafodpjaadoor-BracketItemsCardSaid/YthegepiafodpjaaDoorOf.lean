/-
  class.Of, class.Range: classes made of bytes.
-/
import Derived.Test.YthegepiafodpjaaDoorBytes
import Derived.Test.YthegepiafodpjaaDoorCops
import Derived.StillTailTactics
namespace Go.Proofs.YthegepiafodpjaaDoor
open Go.RowKit

/-- The class of a list of bytes. -/
def ofL (l : List Int) : List Nat := l.foldl (fun c x => withL c x.toNat) noneL
theorem ofL_take (l : List Int) (k : Nat) (h : k < l.length) : ofL (l.take (k + 1)) = withL (ofL (l.take k)) (l[k]?.getD 0).toNat := by
  rw [take_snoc l k h]
  unfold ofL
  rw [List.foldl_append]
  rfl
theorem isC_ofL (l : List Int) : IsC (ofL l) := by
  have : ∀ (l : List Int) (c : List Nat), IsC c → IsC (l.foldl (fun c x => withL c x.toNat) c) := by
    intro l
    induction l with
    | nil => intro c h; exact h
    | cons x t ih => intro c h; exact ih _ (isC_with c _ h)
  exact this l _ isC_none
theorem has_ofL (l : List Int) (hB : IsB l) (y : Nat) : hasL (ofL l) y = decide ((y : Int) ∈ l) := by
  have : ∀ (l : List Int) (c : List Nat), IsC c → (∀ x ∈ l, 0 ≤ x ∧ x ≤ 255) → hasL (l.foldl (fun c x => withL c x.toNat) c) y = (hasL c y || decide ((y : Int) ∈ l)) := by
    intro l
    induction l with
    | nil => intro c _ _; simp
    | cons x t ih =>
      intro c hc hx
      have h0 := hx x (List.mem_cons_self)
      rw [List.foldl_cons, ih _ (isC_with c _ hc) (fun z hz => hx z (List.mem_cons_of_mem _ hz)), has_with c _ y hc (by omega), Bool.or_assoc]
      congr 1
      rw [Bool.eq_iff_iff]
      simp only [Bool.or_eq_true, decide_eq_true_eq, List.mem_cons]
      rw [show (y = x.toNat) = ((y : Int) = x) from propext (by omega)]
  rw [ofL, this l _ isC_none, has_none, Bool.false_or]
  intro x hx
  obtain ⟨k, hk, rfl⟩ := List.mem_iff_getElem.1 hx
  have := hB k
  rw [List.getElem?_eq_getElem hk] at this
  exact this

set_option maxHeartbeats 1000000 in
set_option maxRecDepth 100000 in
theorem of_any (w : World) (v : Value) (l : List Int) (hb : SB w v l) : Calls Tryd.prog 22 #[v] w fun e w' => e = .returned (.agg (row64 (ofL l))) ∧ Below w.heap.size w w' := by
  obtain ⟨hB, a, c, rfl, hl, hc⟩ := id hb
  have HC := Lib.hid hc
  have HB := Lib.hid hB
  clear hc hB
  go_enter Tryd.func22, Tryd.ntmps22
  go_wp2_with fail
  go_loopw [8] (fun i wr => ∃ k : Nat, k ≤ l.length ∧ i = .int .i64 k ∧ Arr64 wr (w.heap.size + 1) 28 (ofL (l.take k)) ∧ Arr64 wr w.heap.size 28 noneL ∧ Below w.heap.size w wr) (fun i _ => l.length - (intOf i).toNat)
  case atStart => exact ⟨0, by omega, rfl, heap_alloc2 _ _ _, Arr64.alloc (l := noneL) (heap_alloc_new _ _) _, below_alloc2 _ _ _⟩
  case round =>
    obtain ⟨k, hk, rfl, ra, rr, ab⟩ := hrel
    by_cases hlt : k < l.length
    · obtain ⟨b, o, rfl, hcc⟩ := HC.out.resolve_left (by intro e; rw [e] at hlt; simp at hlt)
      have h1 := hcc k hlt
      have h1 : wr.cell? ⟨b, o + k, none⟩ = some (.int .u8 (l[k]?.getD 0)) := by rw [ab.cell (World.block_lt_of_cell? w _ h1)]; exact h1
      have hx := HB.out k
      have hst := ofL_take l k hlt
      have hic := isC_ofL (l.take k)
      generalize l[k]?.getD 0 = x0 at h1 hx hst
      obtain ⟨x, rfl⟩ : ∃ x : Nat, x0 = x := ⟨x0.toNat, by omega⟩
      have hx : x < 256 := by omega
      rw [Int.toNat_natCast] at hst
      have hca := ra.cell (x / 64) (by rw [hic.1]; omega)
      have hfa := ra.frozen (x / 64)
      have hor := or_is _ x (hic.2 (x / 64))
      have hn := ra.set (x / 64) ((ofL (l.take k))[x / 64]?.getD 0 ||| 2 ^ (x % 64))
      have hw : (ofL (l.take k)).set (x / 64) ((ofL (l.take k))[x / 64]?.getD 0 ||| 2 ^ (x % 64)) = ofL (l.take (k + 1)) := hst.symm
      rw [hw] at hn
      generalize (ofL (l.take k))[x / 64]?.getD 0 ||| 2 ^ (x % 64) = y at hor hn
      generalize (ofL (l.take k))[x / 64]?.getD 0 = x1 at hca hor
      have HN := Lib.hid hn
      clear hcc hst hw hn hic
      go_wp2_with fail
      go_roundw
      case rel => exact ⟨k + 1, by omega, by go_num, HN.out, rr.other _ (by simp) _, ab.setCell (by simp) _⟩
      case measure => simp [intOf]; omega
    · have e : l.take k = l := List.take_of_length_le (by omega)
      rw [e] at ra
      have HS := Lib.hid (row64_size (ofL l))
      have H4 := Lib.hid (isC_ofL l).1
      clear e
      go_wp2_with (first | (refine wpList_load_row rfl 28 _ rfl (w.heap.size + 1) rfl 28 _ (0, 0) _ ra Tryd.underlying28 rfl (by rw [HS.out, H4.out]; exact infoC) ?_) | (refine wpList_store_cells rfl 28 _ _ rfl rfl w.heap.size 28 _ _ rfl rfl rr (by rw [HS.out, H4.out]; rfl) (by rw [HS.out, H4.out]; exact infoC) (row64_one _) ?_))
      exact ret_cls rfl rfl (setRow_heap _ _ _ _ _ _ rr) Tryd.underlying28 rfl (by rw [HS.out, H4.out]; exact infoC) rfl ⟨rfl, below_setRowC ab (by omega) _⟩

/-! ### Range -/
/-- The class of the bytes from lo up, below k. -/
def fromL (lo : Nat) : Nat → List Nat
  | 0 => noneL
  | n + 1 => withL (fromL lo n) (lo + n)
theorem isC_fromL (lo n : Nat) : IsC (fromL lo n) := by
  induction n with
  | zero => exact isC_none
  | succ n ih => exact isC_with _ _ ih
theorem has_fromL (lo n y : Nat) (h : lo + n ≤ 256) : hasL (fromL lo n) y = decide (lo ≤ y ∧ y < lo + n) := by
  induction n with
  | zero => rw [fromL, has_none]; symm; exact decide_eq_false (by omega)
  | succ n ih =>
    rw [fromL, has_with _ _ y (isC_fromL lo n) (by omega), ih (by omega), Bool.eq_iff_iff]
    simp only [Bool.or_eq_true, decide_eq_true_eq]
    omega
/-- The bytes from lo to hi. -/
def rangeL (lo hi : Nat) : List Nat := fromL lo (hi + 1 - lo)

set_option maxHeartbeats 1000000 in
set_option maxRecDepth 100000 in
theorem range_any (w : World) (lo hi : Nat) (hlo : lo < 256) (hhi : hi < 256) : Calls Tryd.prog 24 #[.int .u8 (lo : Int), .int .u8 (hi : Int)] w fun e w' => e = .returned (.agg (row64 (rangeL lo hi))) ∧ Below w.heap.size w w' := by
  go_enter Tryd.func24, Tryd.ntmps24
  go_wp2_with fail
  go_loopw [6] (fun i wr => ∃ k : Nat, k ≤ hi + 1 - lo ∧ i = .int .i64 ((lo + k : Nat) : Int) ∧ Arr64 wr (w.heap.size + 1) 28 (fromL lo k) ∧ Arr64 wr w.heap.size 28 noneL ∧ Below w.heap.size w wr) (fun i _ => 256 - (intOf i).toNat)
  case atStart => exact ⟨0, by omega, rfl, heap_alloc2 _ _ _, Arr64.alloc (l := noneL) (heap_alloc_new _ _) _, below_alloc2 _ _ _⟩
  case round =>
    obtain ⟨k, hk, rfl, ra, rr, ab⟩ := hrel
    by_cases hlt : lo + k ≤ hi
    · have hic := isC_fromL lo k
      have hst : fromL lo (k + 1) = withL (fromL lo k) (lo + k) := rfl
      obtain ⟨x, hxe⟩ : ∃ x, lo + k = x := ⟨_, rfl⟩
      have hk1 : k + 1 ≤ hi + 1 - lo := by omega
      rw [hxe] at hst hlt ⊢
      have hx : x < 256 := by omega
      have hca := ra.cell (x / 64) (by rw [hic.1]; omega)
      have hfa := ra.frozen (x / 64)
      have hor := or_is _ x (hic.2 (x / 64))
      have hn := ra.set (x / 64) ((fromL lo k)[x / 64]?.getD 0 ||| 2 ^ (x % 64))
      have hw : (fromL lo k).set (x / 64) ((fromL lo k)[x / 64]?.getD 0 ||| 2 ^ (x % 64)) = fromL lo (k + 1) := hst.symm
      rw [hw] at hn
      generalize (fromL lo k)[x / 64]?.getD 0 ||| 2 ^ (x % 64) = y at hor hn
      generalize (fromL lo k)[x / 64]?.getD 0 = x1 at hca hor
      have HN := Lib.hid hn
      have HX := Lib.hid hxe
      clear hst hw hn hic hxe
      have d1 : ((x : Int)).tdiv 64 = ((x / 64 : Nat) : Int) := by rw [Int.tdiv_eq_ediv_of_nonneg (by omega)]; rfl
      have d2 : ((x : Int)).tmod 64 = ((x % 64 : Nat) : Int) := by rw [Int.tmod_eq_emod_of_nonneg (by omega)]; rfl
      have d3 : IntKind.i64.wrap ((x : Int) / 64) = (x : Int) / 64 := IntWalk.i64_in _ (by omega)
      have d4 : IntKind.i64.wrap ((x : Int) % 64) = (x : Int) % 64 := IntWalk.i64_in _ (by omega)
      have d5 : ((x : Int) / 64).toNat = x / 64 := by omega
      have d6 : ((x : Int) % 64).toNat = x % 64 := by omega
      have d7 : (0 : Int) ≤ (x : Int) / 64 := by omega
      have d8 : (x : Int) / 64 < 4 := by omega
      have d9 : (0 : Int) ≤ (x : Int) % 64 := by omega
      go_wp2_with fail
      go_still_tail 9, (by kernel_rfl)
      have e : ({ heap := wr.heap, tape := wr.tape, drawn := wr.drawn + 1, os := wr.os, output := wr.output } : World) = wr.drewN 1 := rfl
      rw [e]
      clear e
      have rn : Arr64 ((wr.drewN 1).setCell ⟨w.heap.size + 1, x / 64, none⟩ (.int .u64 (y : Int))) (w.heap.size + 1) 28 (fromL lo (k + 1)) := HN.out
      have HRN := Lib.hid rn
      clear d1 d2 d3 d4 d5 d6 d7 d8 d9 rn
      go_wp2_with fail
      go_roundw
      case rel => exact ⟨k + 1, hk1, by rw [← Nat.add_assoc, HX.out]; go_num, HRN.out, rr.other _ (by simp) _, (below_drewN ab _).setCell (by simp) _⟩
      case measure => simp [intOf]; omega
    · obtain rfl | hk2 : k = hi + 1 - lo ∨ k < hi + 1 - lo := by omega
      · have HS := Lib.hid (row64_size (fromL lo (hi + 1 - lo)))
        have H4 := Lib.hid (isC_fromL lo (hi + 1 - lo)).1
        have HR : Hid (fromL lo (hi + 1 - lo) = rangeL lo hi) := rfl
        generalize fromL lo (hi + 1 - lo) = q at ra HS H4 HR
        go_wp2_with (first | (refine wpList_load_row rfl 28 _ rfl (w.heap.size + 1) rfl 28 _ (0, 0) _ ra Tryd.underlying28 rfl (by rw [HS.out, H4.out]; exact infoC) ?_) | (refine wpList_store_cells rfl 28 _ _ rfl rfl w.heap.size 28 _ _ rfl rfl rr (by rw [HS.out, H4.out]; rfl) (by rw [HS.out, H4.out]; exact infoC) (row64_one _) ?_))
        exact ret_cls rfl rfl (setRow_heap _ _ _ _ _ _ rr) Tryd.underlying28 rfl (by rw [HS.out, H4.out]; exact infoC) rfl ⟨by rw [HR.out], below_setRowC ab (by omega) _⟩
      · omega
end Go.Proofs.YthegepiafodpjaaDoor

/-
  table.New: the table by which the bytes of one row become those of another.
-/
import Derived.Test.YtakimaceohfpcaaDoorStay
namespace Go.Proofs.YtakimaceohfpcaaDoor
open Go.RowKit

def brow : List Bool := List.replicate 256 false
theorem brow_len : brow.length = 256 := List.length_replicate
theorem brow_get (x : Nat) : brow[x]?.getD false = false := by
  unfold brow
  rw [List.getElem?_replicate]
  split <;> rfl
theorem zeroS (w : World) : (zeroValue 202).run Tryd.prog w = .ok (.agg (rowb brow)) w := by kernel_rfl
theorem infoS : (Tryd.prog.info? 202).map (·.size) = some 256 := by kernel_rfl
theorem buildT (w : World) : (Instr.build 73 #[]).run Tryd.prog w = .ok (.agg (row zrow)) w := by kernel_rfl

set_option maxHeartbeats 400000 in
set_option maxRecDepth 100000 in
theorem new_unlike (w : World) (a b : List Int) (va vb : Value) (ha : SB w va a) (hb : SB w vb b) (hne : a.length ≠ b.length) :
    Calls Tryd.prog 96 #[va, vb] w fun e w' => e = .returned (.tuple #[.agg (row zrow), .int .i64 60]) ∧ Below w.heap.size w w' := by
  obtain ⟨hA, aa, ca, rfl, hla, hca⟩ := ha
  obtain ⟨hB, ab, cb, rfl, hlb, hcb⟩ := hb
  have hz := zeroT
  have hbu := buildT
  have hnb : ((a.length : Int) != (b.length : Int)) = true := by rw [bne_iff_ne]; omega
  have h0 : Arr (w.alloc (.cells (row zrow) 73)) w.heap.size 73 zrow := Arr.new _ _ _
  have hbe : Below w.heap.size w (w.alloc (.cells (row zrow) 73)) := (Below.refl _ w).alloc (Nat.le_refl _) _
  clear hne hca hcb
  go_enter Tryd.func96, Tryd.ntmps96
  go_wp2_with (refine wpList_store_row rfl 73 _ _ rfl rfl w.heap.size 73 _ _ rfl rfl h0 rfl (by rw [row_size]; exact infoT) (row_one _) ?_)
  exact ret_row_tmp (l := zrow) rfl rfl h0.setRow Tryd.underlying73 rfl infoT rfl ⟨rfl, below_setRow hbe (Nat.le_refl _) _⟩
/-- The table behind so many rounds. -/
def newT (a b : List Int) : Nat → List Int
  | 0 => iden
  | k + 1 => (newT a b k).set (a[k]?.getD 0).toNat (b[k]?.getD 0)
theorem newT_len (a b : List Int) : ∀ k, (newT a b k).length = 256
  | 0 => iden_len
  | k + 1 => by rw [newT, List.length_set, newT_len a b k]

theorem nodup_snoc (l : List Int) (x : Int) (h : l.Nodup) (hx : x ∉ l) : (l ++ [x]).Nodup := by
  rw [List.nodup_append]
  exact ⟨h, by simp, fun a ha b hb => by simp at hb; subst hb; intro e; exact hx (e ▸ ha)⟩

theorem not_nodup_of (l : List Int) (k : Nat) (hk : k < l.length) (hx : l[k]?.getD 0 ∈ l.take k) : ¬ l.Nodup := by
  intro h
  have := (List.nodup_append.1 (by rw [List.take_append_drop k l]; exact h : (l.take k ++ l.drop k).Nodup)).2.2 _ hx (l[k]?.getD 0) (by rw [List.drop_eq_getElem_cons hk, List.getElem?_eq_getElem hk]; exact List.mem_cons_self)
  exact this rfl

theorem seen_step (sn : List Bool) (l : List Int) (x : Int) (hx0 : 0 ≤ x) (hx1 : x ≤ 255) (hl : sn.length = 256) (h : ∀ z : Nat, z < 256 → (sn[z]?.getD false = true ↔ (z : Int) ∈ l)) :
    ∀ z : Nat, z < 256 → ((sn.set x.toNat true)[z]?.getD false = true ↔ (z : Int) ∈ l ++ [x]) := by
  intro z hz
  rw [List.getElem?_set, List.mem_append, List.mem_singleton]
  split
  · rename_i e
    have : (z : Int) = x := by omega
    rw [if_pos (by omega)]
    simp [this]
  · rename_i e
    have : ¬ (z : Int) = x := by omega
    rw [h z hz]
    simp [this]

/-- What New answers. -/
def newOut (a b : List Int) : Value := if a.length = b.length ∧ a.Nodup then .tuple #[.agg (row (newT a b a.length)), .int .i64 0] else .tuple #[.agg (row zrow), .int .i64 60]
theorem newOut_ok (a b : List Int) (h : a.length = b.length) (hn : a.Nodup) : newOut a b = .tuple #[.agg (row (newT a b a.length)), .int .i64 0] := if_pos ⟨h, hn⟩
theorem newOut_dup (a b : List Int) (hn : ¬ a.Nodup) : newOut a b = .tuple #[.agg (row zrow), .int .i64 60] := if_neg fun h => hn h.2
theorem newOut_unlike (a b : List Int) (h : a.length ≠ b.length) : newOut a b = .tuple #[.agg (row zrow), .int .i64 60] := if_neg fun k => h k.1

set_option maxHeartbeats 1000000 in
set_option maxRecDepth 100000 in
theorem new_like (w : World) (a b : List Int) (va vb : Value) (ha : SB w va a) (hb : SB w vb b) (heq : a.length = b.length) :
    Calls Tryd.prog 96 #[va, vb] w fun e w' => e = .returned (newOut a b) ∧ Below w.heap.size w w' := by
  obtain ⟨hA, aa, ca, rfl, hla, hca⟩ := ha
  obtain ⟨hB, ab, cb, rfl, hlb, hcb⟩ := hb
  have hz := zeroT
  have hz2 := zeroS
  have hbu := buildT
  have hnb : ((a.length : Int) != (b.length : Int)) = false := by rw [bne_eq_false_iff_eq]; omega
  have h0 : Arr (w.alloc (.cells (row zrow) 73)) w.heap.size 73 zrow := Arr.new _ _ _
  have hbe : Below w.heap.size w (w.alloc (.cells (row zrow) 73)) := (Below.refl _ w).alloc (Nat.le_refl _) _
  have hl1 : a.length ≤ b.length := by omega
  have hl2 : b.length ≤ a.length := by omega
  have HCA := Lib.hid hca
  have HCB := Lib.hid hcb
  clear hca hcb heq
  go_enter Tryd.func96, Tryd.ntmps96
  go_wp2_with fail
  refine (staying_any _).mono ?_
  rintro e w1 ⟨rfl, hb1⟩
  rw [World.size_alloc] at hb1
  have hs1 : w.heap.size < w1.heap.size := by have := hb1.size; rw [World.size_alloc] at this; omega
  have h0 := h0.below hb1 (by omega)
  have hbe := hbe.trans (hb1.mono (by omega))
  have h6 : Arr (w1.alloc (.cells (row zrow) 73)) w1.heap.size 73 zrow := Arr.new _ _ _
  go_wp2_with (refine wpList_store_row rfl 73 _ _ rfl rfl w1.heap.size 73 _ _ rfl rfl h6 (by rw [row_size, row_size, iden_len]; rfl) (by rw [row_size, iden_len]; exact infoT) (row_one _) ?_)
  have g0 : Arr (((w1.alloc (.cells (row zrow) 73)).setRow w1.heap.size (row iden)).alloc (.cells (rowb brow) 202)) w.heap.size 73 zrow := ((h0.alloc _).setRow_other _ (by omega)).alloc _
  have g6 : Arr (((w1.alloc (.cells (row zrow) 73)).setRow w1.heap.size (row iden)).alloc (.cells (rowb brow) 202)) w1.heap.size 73 iden := h6.setRow.alloc _
  have g7 : Arrb (((w1.alloc (.cells (row zrow) 73)).setRow w1.heap.size (row iden)).alloc (.cells (rowb brow) 202)) (w1.heap.size + 1) 202 brow := by
    have := Arrb.new ((w1.alloc (.cells (row zrow) 73)).setRow w1.heap.size (row iden)) 202 brow
    rwa [setRow_size, World.size_alloc] at this
  have gb : Below w.heap.size w (((w1.alloc (.cells (row zrow) 73)).setRow w1.heap.size (row iden)).alloc (.cells (rowb brow) 202)) :=
    (below_setRow (hbe.alloc (by omega) _) (by omega) _).alloc (by simp; omega) _
  clear h0 h6 hbe hb1
  generalize ((w1.alloc (.cells (row zrow) 73)).setRow w1.heap.size (row iden)).alloc (.cells (rowb brow) 202) = W0 at g0 g6 g7 gb ⊢
  go_loopw [19] (fun i wr => ∃ (k : Nat) (sn : List Bool), k ≤ a.length ∧ i = .int .i64 k ∧ sn.length = 256 ∧ (∀ x : Nat, x < 256 → (sn[x]?.getD false = true ↔ (x : Int) ∈ a.take k)) ∧ (a.take k).Nodup ∧
    Arr wr w.heap.size 73 zrow ∧ Arr wr w1.heap.size 73 (newT a b k) ∧ Arrb wr (w1.heap.size + 1) 202 sn ∧ Below w.heap.size w wr) (fun i _ => a.length - (intOf i).toNat)
  case atStart => exact ⟨0, brow, Nat.zero_le _, rfl, brow_len, fun x hx => by rw [brow_get]; simp, by simp, g0, g6, g7, gb⟩
  case round =>
    obtain ⟨k, sn, hk, rfl, hsl, hsn, hnd, r0, r6, r7, rb⟩ := hrel
    have HSL := Lib.hid hsl
    have HSN := Lib.hid hsn
    have HND := Lib.hid hnd
    clear hsl hsn hnd g0 g6 g7 gb
    by_cases hlt : k < a.length
    · obtain ⟨ba, oa, rfl, hc⟩ := HCA.out.resolve_left (by intro e; rw [e] at hlt; exact absurd hlt (Nat.not_lt_zero _))
      obtain ⟨bb, ob, rfl, hd⟩ := HCB.out.resolve_left (by intro e; rw [e] at hl1; simp at hl1; rw [hl1] at hlt; exact absurd hlt (Nat.not_lt_zero _))
      have hca := hc k hlt
      have hcb := hd k (by omega)
      have hbb : bb < w.heap.size := World.block_lt_of_cell? w _ hcb
      rw [← rb.cell (World.block_lt_of_cell? w _ hca)] at hca
      rw [← rb.cell (World.block_lt_of_cell? w _ hcb)] at hcb
      clear hc hd
      obtain ⟨hx0, hx1⟩ := hA k
      have hsc := r7.cell (a[k]?.getD 0).toNat (by rw [HSL.out]; omega)
      have hsf := r7.frozen (a[k]?.getD 0).toNat
      have htc := r6.cell (a[k]?.getD 0).toNat (by rw [newT_len]; omega)
      have htf := r6.frozen (a[k]?.getD 0).toNat
      have hmem := HSN.out (a[k]?.getD 0).toNat (by omega)
      rw [Int.toNat_of_nonneg hx0] at hmem
      have hts := take_snoc a k hlt
      have hno := not_nodup_of a k hlt
      generalize hxe : a[k]?.getD 0 = x at hca hx0 hx1 hsc hsf htc htf hmem hts hno
      by_cases hin : sn[x.toNat]?.getD false = true
      · have Hdup := Lib.hid (newOut_dup a b (hno (hmem.1 hin)))
        clear hno hmem hts
        go_wp2_with (refine wpList_store_row rfl 73 _ _ rfl rfl w.heap.size 73 _ _ rfl rfl r0 rfl (by rw [row_size]; exact infoT) (row_one _) ?_)
        exact ret_row_tmp (l := zrow) rfl rfl r0.setRow Tryd.underlying73 rfl infoT rfl ⟨by rw [Hdup.out]; rfl, below_setRow rb (Nat.le_refl _) _⟩
      · have hnin : x ∉ a.take k := fun h => hin (hmem.2 h)
        have Hnd := Lib.hid (nodup_snoc _ _ HND.out hnin)
        have hin' : sn[x.toNat]?.getD false = false := by simpa using hin
        have Hts := Lib.hid hts
        have Hx := Lib.hid hxe
        generalize hye : b[k]?.getD 0 = y at hcb
        have Hy := Lib.hid hye
        have hcb' := cell_setCell_far hcb (p := ⟨w1.heap.size + 1, x.toNat, none⟩) (by show bb ≠ w1.heap.size + 1; omega) (.bool true)
        have htc' := cell_setCell_far htc (p := ⟨w1.heap.size + 1, x.toNat, none⟩) (by show w1.heap.size ≠ w1.heap.size + 1; omega) (.bool true)
        clear hno hmem hts hnin hin hxe hye
        go_wp2
        go_roundw
        case rel =>
          refine ⟨k + 1, sn.set x.toNat true, by omega, by go_num, by rw [List.length_set, HSL.out], ?_, by rw [Hts.out]; exact Hnd.out, (r0.other _ (by simp; omega) _).other _ (by simp; omega) _, ?_, (r7.set _ _).other _ (by simp) _, (rb.setCell (by simp; omega) _).setCell (by simp; omega) _⟩
          · rw [Hts.out]; exact seen_step sn _ x hx0 hx1 HSL.out HSN.out
          · rw [newT, Hx.out, Hy.out]
            exact (r6.other _ (by simp) _).set _ _
        case measure => simp [intOf]; omega
    · go_wp2_with (first | (refine wpList_load_row rfl 73 _ rfl w1.heap.size rfl 73 _ (0, 0) _ r6 Tryd.underlying73 rfl (by rw [row_size, newT_len]; exact infoT) ?_) | (refine wpList_store_row rfl 73 _ _ rfl rfl w.heap.size 73 _ _ rfl rfl r0 (by rw [row_size, row_size, newT_len]; rfl) (by rw [row_size, newT_len]; exact infoT) (row_one _) ?_))
      have hk' : k = a.length := by omega
      have hN : a.Nodup := by have := HND.out; rwa [List.take_of_length_le (by omega)] at this
      exact ret_row_tmp (l := newT a b k) rfl rfl r0.setRow Tryd.underlying73 rfl (by rw [newT_len]; exact infoT) rfl ⟨by rw [newOut_ok a b (by omega) hN, hk']; rfl, below_setRow rb (Nat.le_refl _) _⟩

theorem new_any (w : World) (a b : List Int) (va vb : Value) (ha : SB w va a) (hb : SB w vb b) :
    Calls Tryd.prog 96 #[va, vb] w fun e w' => e = .returned (newOut a b) ∧ Below w.heap.size w w' := by
  by_cases h : a.length = b.length
  · exact new_like w a b va vb ha hb h
  · exact (new_unlike w a b va vb ha hb h).mono fun _ _ ⟨he, hw⟩ => ⟨by rw [he, newOut_unlike a b h], hw⟩

end Go.Proofs.YtakimaceohfpcaaDoor

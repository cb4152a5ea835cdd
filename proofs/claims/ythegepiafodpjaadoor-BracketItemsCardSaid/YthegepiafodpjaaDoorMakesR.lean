/-
  galleyref01.Of, Range: classes made of bytes, by definition.
-/
import Derived.Test.YthegepiafodpjaaDoorNamed
import Derived.Test.YthegepiafodpjaaDoorCls2
namespace Go.Proofs.YthegepiafodpjaaDoor
open Go.RowKit

set_option maxRecDepth 100000 in
set_option maxHeartbeats 1000000 in
theorem refOf_any (w : World) (v : Value) (l : List Int) (hb : SB w v l) : Calls Tryd.prog 75 #[v] w fun e w' => e = .returned (.agg (row64 (ofL l))) ∧ Below w.heap.size w w' := by
  obtain ⟨hB, a, c, rfl, hl, hc⟩ := id hb
  have HC := Lib.hid hc
  have HB := Lib.hid hB
  clear hc hB
  go_enter Tryd.func75, Tryd.ntmps75
  go_wp2_with fail
  go_loopw [4] (fun i wr => ∃ k : Nat, k ≤ l.length ∧ i = .int .i64 k ∧ Arr64 wr (w.heap.size + 1) 28 (ofL (l.take k)) ∧ Arr64 wr w.heap.size 28 noneL ∧ Below w.heap.size w wr) (fun i _ => l.length - (intOf i).toNat)
  case atStart => exact ⟨0, by omega, rfl, heap_alloc2 _ _ _, Arr64.alloc (l := noneL) (heap_alloc_new _ _) _, below_alloc2 _ _ _⟩
  case round =>
    obtain ⟨k, hk, rfl, rc, rr, ab⟩ := hrel
    by_cases hlt : k < l.length
    · obtain ⟨b, o, rfl, hcc⟩ := HC.out.resolve_left (by intro e; rw [e] at hlt; simp at hlt)
      have h1 := hcc k hlt
      have h1 : wr.cell? ⟨b, o + k, none⟩ = some (.int .u8 (l[k]?.getD 0)) := by rw [ab.cell (World.block_lt_of_cell? w _ h1)]; exact h1
      have hx := HB.out k
      have hst := ofL_take l k hlt
      have hic := isC_ofL (l.take k)
      have hin := isC_ofL (l.take (k + 1))
      generalize l[k]?.getD 0 = x0 at h1 hx hst
      obtain ⟨x, rfl⟩ : ∃ x : Nat, x0 = x := ⟨x0.toNat, by omega⟩
      have hx : x < 256 := by omega
      rw [Int.toNat_natCast] at hst
      rw [hst] at hin
      have HN := Lib.hid hst
      have HC := Lib.hid hic
      have HCN := Lib.hid hin
      clear hcc hst hic hin
      generalize ofL (l.take k) = acc at rc HN HC HCN
      obtain ⟨q0, q1, q2, q3, hq⟩ := isC_words acc HC.out
      obtain ⟨u0, u1, u2, u3, hu⟩ := isC_words (withL acc x) HCN.out
      have hwt := fun W => with_any W acc HC.out x hx
      rw [show row64 acc = #[.int .u64 (q0 : Int), .int .u64 (q1 : Int), .int .u64 (q2 : Int), .int .u64 (q3 : Int)] by rw [hq]; rfl, show row64 (withL acc x) = #[.int .u64 (u0 : Int), .int .u64 (u1 : Int), .int .u64 (u2 : Int), .int .u64 (u3 : Int)] by rw [hu]; rfl] at hwt
      have rcd := rc.below (Below.refl _ _).drew rc.lt
      have rrd := rr.below (Below.refl _ _).drew rr.lt
      have abd := ab.drew
      have h1 : wr.drew.cell? ⟨b, o + k, none⟩ = some (.int .u8 (x : Int)) := h1
      have hil : k < l.length := hlt
      obtain ⟨z0, z1, z2, z3⟩ := rcd.four hq
      have HWT := Lib.hid hwt
      have HQ := Lib.hid hq
      have HU := Lib.hid hu
      clear hwt hq hu rc rr ab
      go_wp2_with fail
      go_region_with ((go_at_call 64; (with_reducible refine (HWT.out _).mono ?_); rintro e w8 ⟨rfl, hb8⟩; have ac8 := rcd.below hb8 rcd.lt; have g0 := ac8.frozen 0; have g1 := ac8.frozen 1; have g2 := ac8.frozen 2; have g3 := ac8.frozen 3; obtain ⟨k0, k1, k2, k3⟩ := ac8.four HQ.out))
      all_goals
        have HR2 := Lib.hid (setw (acc' := withL acc x) HC.out ac8 (rrd.below hb8 rrd.lt) (abd.trans (hb8.mono abd.size)) HU.out)
        clear ac8 hb8 g0 g1 g2 g3 k0 k1 k2 k3 z0 z1 z2 z3 rcd rrd abd HWT
        go_wp2_with fail
        go_roundw
        case rel => exact ⟨k + 1, by omega, by go_num, by rw [HN.out]; exact HR2.out.2.1, HR2.out.1, HR2.out.2.2⟩
        case measure => simp [intOf]; omega
    · have e : l.take k = l := List.take_of_length_le (by omega)
      rw [e] at rc
      have HS := Lib.hid (row64_size (ofL l))
      have H4 := Lib.hid (isC_ofL l).1
      clear e
      go_wp2_with (first | (refine wpList_load_row rfl 28 _ rfl (w.heap.size + 1) rfl 28 _ (0, 0) _ rc Tryd.underlying28 rfl (by rw [HS.out, H4.out]; exact infoC) ?_) | (refine wpList_store_cells rfl 28 _ _ rfl rfl w.heap.size 28 _ _ rfl rfl rr (by rw [HS.out, H4.out]; rfl) (by rw [HS.out, H4.out]; exact infoC) (row64_one _) ?_))
      exact ret_cls rfl rfl (setRow_heap _ _ _ _ _ _ rr) Tryd.underlying28 rfl (by rw [HS.out, H4.out]; exact infoC) rfl ⟨rfl, below_setRowC ab (by omega) _⟩

set_option maxRecDepth 100000 in
set_option maxHeartbeats 1000000 in
theorem refRange_any (w : World) (lo hi : Nat) (hlo : lo < 256) (hhi : hi < 256) : Calls Tryd.prog 39 #[.int .u8 (lo : Int), .int .u8 (hi : Int)] w fun e w' => e = .returned (.agg (row64 (rangeL lo hi))) ∧ Below w.heap.size w w' := by
  go_enter Tryd.func39, Tryd.ntmps39
  go_wp2_with fail
  go_loopw [6] (fun i wr => ∃ k : Nat, k ≤ hi + 1 - lo ∧ i = .int .i64 ((lo + k : Nat) : Int) ∧ Arr64 wr (w.heap.size + 1) 28 (fromL lo k) ∧ Arr64 wr w.heap.size 28 noneL ∧ Below w.heap.size w wr) (fun i _ => 256 - (intOf i).toNat)
  case atStart => exact ⟨0, by omega, rfl, heap_alloc2 _ _ _, Arr64.alloc (l := noneL) (heap_alloc_new _ _) _, below_alloc2 _ _ _⟩
  case round =>
    obtain ⟨k, hk, rfl, rc, rr, ab⟩ := hrel
    by_cases hlt : lo + k ≤ hi
    · have hic := isC_fromL lo k
      have hin := isC_fromL lo (k + 1)
      have hst : fromL lo (k + 1) = withL (fromL lo k) (lo + k) := rfl
      obtain ⟨x, hxe⟩ : ∃ x, lo + k = x := ⟨_, rfl⟩
      have hk1 : k + 1 ≤ hi + 1 - lo := by omega
      rw [hxe] at hst hlt ⊢
      rw [hst] at hin
      have hx : x < 256 := by omega
      have HN := Lib.hid hst
      have HC := Lib.hid hic
      have HCN := Lib.hid hin
      have HXE := Lib.hid hxe
      clear hst hic hin hxe
      generalize fromL lo k = acc at rc HN HC HCN
      have hw : IntKind.u8.wrap (x : Int) = (x : Int) := by rw [IntKind.wrap_u8]; omega
      go_wp2_with (refine wpList_load_row rfl 28 _ rfl (w.heap.size + 1) rfl 28 _ (0, 0) _ rc Tryd.underlying28 rfl (by rw [row64_size, HC.out.1]; exact infoC) ?_)
      refine (with_any _ acc HC.out x hx).mono ?_
      rintro e w3 ⟨rfl, hb3⟩
      have rr := rr.below hb3 rr.lt
      have rc := rc.below hb3 rc.lt
      have ab := ab.trans (hb3.mono ab.size)
      clear hb3
      go_wp2_with (refine wpList_store_cells rfl 28 _ _ rfl rfl (w.heap.size + 1) 28 _ _ rfl rfl rc (by rw [row64_size, row64_size, HC.out.1, HCN.out.1]) (by rw [row64_size, HCN.out.1]; exact infoC) (row64_one _) ?_)
      go_roundw
      case rel => exact ⟨k + 1, by omega, by have := HXE.out; rw [show lo + (k + 1) = x + 1 by omega]; go_num, by rw [HN.out]; exact setRow_heap _ _ _ _ _ _ rc, rr.setRow_other (by omega) _, below_setRowC ab (by omega) _⟩
      case measure => simp [intOf]; omega
    · have hK : fromL lo k = rangeL lo hi := by unfold rangeL; rw [show k = hi + 1 - lo by omega]
      rw [hK] at rc
      have H4 := Lib.hid (isC_fromL lo (hi + 1 - lo)).1
      have H4 : Hid ((rangeL lo hi).length = 4) := H4
      have HS := Lib.hid (row64_size (rangeL lo hi))
      clear hK
      have hlt2 : hi < lo + k := by omega
      go_wp2_with (first | (refine wpList_load_row rfl 28 _ rfl (w.heap.size + 1) rfl 28 _ (0, 0) _ rc Tryd.underlying28 rfl (by rw [HS.out, H4.out]; exact infoC) ?_) | (refine wpList_store_cells rfl 28 _ _ rfl rfl w.heap.size 28 _ _ rfl rfl rr (by rw [HS.out, H4.out]; rfl) (by rw [HS.out, H4.out]; exact infoC) (row64_one _) ?_))
      exact ret_cls rfl rfl (setRow_heap _ _ _ _ _ _ rr) Tryd.underlying28 rfl (by rw [HS.out, H4.out]; exact infoC) rfl ⟨rfl, below_setRowC ab (by omega) _⟩
end Go.Proofs.YthegepiafodpjaaDoor

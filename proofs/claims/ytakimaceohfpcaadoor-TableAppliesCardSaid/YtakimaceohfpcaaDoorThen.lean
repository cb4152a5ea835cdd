/-
  table.Then: what one table does, and then the other.
-/
import Derived.Test.YtakimaceohfpcaaDoorApply
import Derived.Test.YtakimaceohfpcaaDoorNew
namespace Go.Proofs.YtakimaceohfpcaaDoor
open Go.RowKit

set_option maxHeartbeats 400000 in
set_option maxRecDepth 100000 in
theorem then_any (w : World) (g h : Nat) (T S : TypeId) (t u : List Int) (ht : Arr w g T t) (hu : Arr w h S u) (htl : t.length = 256) (hul : u.length = 256) (hB : IsB t) :
    Calls Tryd.prog 32 #[.pointer (some ⟨g, 0, none⟩), .pointer (some ⟨h, 0, none⟩)] w fun e w' => e = .returned (.agg (row (app u t))) ∧ Below w.heap.size w w' := by
  have hz := zeroT
  have g4 : Arr ((w.alloc (.cells (row zrow) 73)).alloc (.cells (row zrow) 73)) w.heap.size 73 zrow := (Arr.new _ _ _).alloc _
  have g5 : Arr ((w.alloc (.cells (row zrow) 73)).alloc (.cells (row zrow) 73)) (w.heap.size + 1) 73 zrow := by
    have := Arr.new (w.alloc (.cells (row zrow) 73)) 73 zrow
    rwa [World.size_alloc] at this
  have gb : Below w.heap.size w ((w.alloc (.cells (row zrow) 73)).alloc (.cells (row zrow) 73)) := ((Below.refl _ w).alloc (Nat.le_refl _) _).alloc (by simp) _
  have HTL := Lib.hid htl
  have HUL := Lib.hid hul
  have HB := Lib.hid hB
  have hg := ht.lt
  have hh := hu.lt
  clear htl hul hB
  go_enter Tryd.func32, Tryd.ntmps32
  go_wp2
  go_loopw [16] (fun i wr => ∃ (k : Nat) (l : List Int), k ≤ 256 ∧ i = .int .i64 k ∧ l.length = 256 ∧ (∀ j : Nat, j < k → l[j]?.getD 0 = u[(t[j]?.getD 0).toNat]?.getD 0) ∧
    Arr wr w.heap.size 73 zrow ∧ Arr wr (w.heap.size + 1) 73 l ∧ Below w.heap.size w wr) (fun i _ => 256 - (intOf i).toNat)
  case atStart => exact ⟨0, _, Nat.zero_le _, rfl, zrow_len, fun j hj => by omega, g4, g5, gb⟩
  case round =>
    obtain ⟨k, l, hk, rfl, hll, hlj, r4, r5, rb⟩ := hrel
    have HLL := Lib.hid hll
    have HLJ := Lib.hid hlj
    clear hll hlj g4 g5 gb hz
    by_cases hlt : k < 256
    · have htc := (ht.below rb hg).cell k (by rw [HTL.out]; exact hlt)
      obtain ⟨hx0, hx1⟩ := HB.out k
      have huc := (hu.below rb hh).cell (t[k]?.getD 0).toNat (by rw [HUL.out]; omega)
      have hst : ∀ y : Int, y = u[(t[k]?.getD 0).toNat]?.getD 0 → ∀ j : Nat, j < k + 1 → (l.set k y)[j]?.getD 0 = u[(t[j]?.getD 0).toNat]?.getD 0 := by
        intro y ey j hj
        rw [List.getElem?_set]
        split
        · subst_vars
          rw [if_pos (by rw [HLL.out]; exact hlt)]; rfl
        · exact HLJ.out j (by omega)
      have hst2 := hst _ rfl
      clear hst
      generalize t[k]?.getD 0 = x at htc hx0 hx1 huc hst2
      generalize u[x.toNat]?.getD 0 = y at huc hst2
      have Hst := Lib.hid hst2
      have hc := r5.cell k (by rw [HLL.out]; exact hlt)
      have hf := r5.frozen k
      have hlt' : (k : Int) < 256 := by omega
      clear hst2
      go_wp2
      go_quiet (fail)
      go_wp2
      go_roundw
      case rel => exact ⟨k + 1, l.set k y, by omega, by go_num, by rw [List.length_set, HLL.out], Hst.out, (r4.other _ (by simp) _).drewN _, (r5.set _ _).drewN _, below_drewN (rb.setCell (by simp) _) _⟩
      case measure => simp [intOf]; omega
    · have e : l = app u t := ext_of l (app u t) (by rw [HLL.out, app_len, HTL.out]) fun j hj => by
        have hj' : j < 256 := by rw [HLL.out] at hj; exact hj
        rw [app_get u t j (by rw [HTL.out]; exact hj')]
        exact HLJ.out j (by omega)
      subst e
      have hlen : (row (app u t)).size = 256 := by rw [row_size, app_len, HTL.out]
      have Hlen := Lib.hid hlen
      clear hlen
      go_wp2_with (first | (refine wpList_load_row rfl 73 _ rfl (w.heap.size + 1) rfl 73 _ (0, 0) _ r5 Tryd.underlying73 rfl (by rw [Hlen.out]; exact infoT) ?_) | (refine wpList_store_row rfl 73 _ _ rfl rfl w.heap.size 73 _ _ rfl rfl r4 (by rw [Hlen.out]; rfl) (by rw [Hlen.out]; exact infoT) (row_one _) ?_))
      exact ret_row (l := app u t) rfl rfl r4.setRow Tryd.underlying73 rfl (by rw [app_len, HTL.out]; exact infoT) rfl ⟨rfl, below_setRow rb (Nat.le_refl _) _⟩
end Go.Proofs.YtakimaceohfpcaaDoor

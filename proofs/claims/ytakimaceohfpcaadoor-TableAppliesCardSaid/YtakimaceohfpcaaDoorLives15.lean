/-
  galleylaw15.lives: a small table does what it says.
-/
import Derived.Test.YtakimaceohfpcaaDoorNew
import Derived.Test.YtakimaceohfpcaaDoorEq
import Derived.Test.YtakimaceohfpcaaDoorApply
import Derived.Lib.SlBytesConst
import Derived.Lib.SmallJoins
import Derived.Outline
namespace Go.Proofs.YtakimaceohfpcaaDoor
open Go.RowKit

set_option maxHeartbeats 1000000 in
set_option maxRecDepth 100000 in
theorem lives_any (w : World) :
    Calls Tryd.prog 28 #[] w fun e w' => e = .returned (.bool true) ∧ Below w.heap.size w w' := by
  have hz := zeroT
  have hcv := fun (w : World) (C : Array Value) (n c g : Nat) (hg : g = w.heap.size) => Joins.run_convert_bytes_const_at (P := Tryd.prog) w 48 5 C n c g hg Tryd.underlying48 Tryd.underlying5
  go_enter Tryd.func28, Tryd.ntmps28
  go_wp2_with fail
  have a1 := (SB.lit w 5 [97, 98] #[.int .u8 97, .int .u8 98] (2, 3) 2 rfl rfl (by decide)).alloc (.cells #[.int .u8 120, .int .u8 121] 5 (2, 3))
  have a2 := SB.lit (w.alloc (.cells #[.int .u8 97, .int .u8 98] 5 (2, 3))) 5 [120, 121] #[.int .u8 120, .int .u8 121] (2, 3) 2 rfl rfl (by decide)
  rw [World.size_alloc] at a2
  have b0 : Below w.heap.size w ((w.alloc (.cells #[.int .u8 97, .int .u8 98] 5 (2, 3))).alloc (.cells #[.int .u8 120, .int .u8 121] 5 (2, 3))) := ((Below.refl _ w).alloc (Nat.le_refl _) _).alloc (by simp) _
  refine (new_any _ [97, 98] [120, 121] _ _ a1 a2).mono ?_
  rw [newOut_ok [97, 98] [120, 121] rfl (by decide)]
  rintro e w1 ⟨rfl, hb1⟩
  have b1 := b0.trans (hb1.mono b0.size)
  have hl0 : (newT [97, 98] [120, 121] ([97, 98] : List Int).length).length = 256 := newT_len _ _ _
  have happ : app (newT [97, 98] [120, 121] ([97, 98] : List Int).length) [97, 98, 99, 97, 98] = [120, 121, 99, 120, 121] := by rfl
  generalize newT [97, 98] [120, 121] ([97, 98] : List Int).length = t0 at hl0 happ ⊢
  have Hl0 := Lib.hid hl0
  have Happ := Lib.hid happ
  clear hb1 b0 a1 a2 hl0 happ
  have h1 : Arr (w1.alloc (.cells (row zrow) 73)) w1.heap.size 73 zrow := Arr.new _ _ _
  have hs1 := b1.size
  go_wp2_with (refine wpList_store_row rfl 73 _ _ rfl rfl w1.heap.size 73 _ _ rfl rfl h1 (by rw [row_size, row_size, Hl0.out]; rfl) (by rw [row_size, Hl0.out]; exact infoT) (row_one _) ?_)
  have c1 : Arr ((w1.alloc (.cells (row zrow) 73)).setRow w1.heap.size (row t0)) w1.heap.size 73 t0 := h1.setRow
  have b2 : Below w.heap.size w ((w1.alloc (.cells (row zrow) 73)).setRow w1.heap.size (row t0)) := below_setRow (b1.alloc hs1 _) hs1 _
  have hWs : ((w1.alloc (.cells (row zrow) 73)).setRow w1.heap.size (row t0)).heap.size = w1.heap.size + 1 := by rw [setRow_size, World.size_alloc]
  generalize (w1.alloc (.cells (row zrow) 73)).setRow w1.heap.size (row t0) = W at c1 b2 hWs ⊢
  generalize w1.heap.size = g at c1 hs1 hWs ⊢
  have d1 := (SB.lit W 5 [97, 97] #[.int .u8 97, .int .u8 97] (2, 3) 2 rfl rfl (by decide)).alloc (.cells #[.int .u8 120, .int .u8 121] 5 (2, 3))
  have d2 := SB.lit (W.alloc (.cells #[.int .u8 97, .int .u8 97] 5 (2, 3))) 5 [120, 121] #[.int .u8 120, .int .u8 121] (2, 3) 2 rfl rfl (by decide)
  have b3 := (b2.alloc b2.size (.cells #[.int .u8 97, .int .u8 97] 5 (2, 3))).alloc (by rw [World.size_alloc]; have := b2.size; omega) (.cells #[.int .u8 120, .int .u8 121] 5 (2, 3))
  have c2 := (c1.alloc (.cells #[.int .u8 97, .int .u8 97] 5 (2, 3))).alloc (.cells #[.int .u8 120, .int .u8 121] 5 (2, 3))
  rw [World.size_alloc, hWs] at d2
  rw [hWs] at d1
  refine (new_any _ [97, 97] [120, 121] _ _ d1 d2).mono ?_
  rw [newOut_dup [97, 97] [120, 121] (by decide)]
  rintro e w2 ⟨rfl, hb2⟩
  have b4 := b3.trans (hb2.mono b3.size)
  have c3 := c2.below hb2 c2.lt
  clear hb2 c2 c1 b3 b2 d1 d2 hWs h1 b1
  have h2 : Arr (w2.alloc (.cells (row zrow) 73)) w2.heap.size 73 zrow := Arr.new _ _ _
  have hs2 := b4.size
  go_wp2_with (refine wpList_store_row rfl 73 _ _ rfl rfl w2.heap.size 73 _ _ rfl rfl h2 rfl (by rw [row_size]; exact infoT) (row_one _) ?_)
  have c4 := (c3.alloc (.cells (row zrow) 73)).setRow_other (row zrow) (k := w2.heap.size) (by have := c3.lt; omega)
  have b5 := below_setRow (b4.alloc hs2 (.cells (row zrow) 73)) hs2 (row zrow)
  have hWs : ((w2.alloc (.cells (row zrow) 73)).setRow w2.heap.size (row zrow)).heap.size = w2.heap.size + 1 := by rw [setRow_size, World.size_alloc]
  generalize (w2.alloc (.cells (row zrow) 73)).setRow w2.heap.size (row zrow) = V at c4 b5 hWs ⊢
  generalize w2.heap.size = g2 at hWs ⊢
  have d3 := SB.lit V 5 [97, 98, 99, 97, 98] #[.int .u8 97, .int .u8 98, .int .u8 99, .int .u8 97, .int .u8 98] (5, 6) 5 rfl rfl (by decide)
  have c5 := c4.alloc (.cells #[.int .u8 97, .int .u8 98, .int .u8 99, .int .u8 97, .int .u8 98] 5 (5, 6))
  have b6 := b5.alloc b5.size (.cells #[.int .u8 97, .int .u8 98, .int .u8 99, .int .u8 97, .int .u8 98] 5 (5, 6))
  rw [hWs] at d3
  have hgo := apply_any _ g 73 t0 [97, 98, 99, 97, 98] _ c5 Hl0.out d3
  rw [World.size_alloc, hWs, Happ.out] at hgo
  refine hgo.mono ?_
  rintro e w3 ⟨rfl, hr, hb3⟩
  have b7 := b6.trans (hb3.mono (by have := b5.size; omega))
  clear hgo b6 hb3 c5 c4 d3 b5
  have hs3 := hr.lt
  have e1 := (hr.sb (isB_of _ rfl) (by decide) 5).alloc (.cells #[.int .u8 120, .int .u8 121, .int .u8 99, .int .u8 120, .int .u8 121] 5 (5, 6))
  have e2 := SB.lit w3 5 [120, 121, 99, 120, 121] #[.int .u8 120, .int .u8 121, .int .u8 99, .int .u8 120, .int .u8 121] (5, 6) 5 rfl rfl (by decide)
  have b8 := b7.alloc b7.size (.cells #[.int .u8 120, .int .u8 121, .int .u8 99, .int .u8 120, .int .u8 121] 5 (5, 6))
  clear b7 hr
  go_wp2_with fail
  refine (eqBytes_any _ _ _ _ _ e1 e2).mono ?_
  rintro e w4 ⟨rfl, n, rfl⟩
  go_wp2_with fail
  go_ret
  exact ⟨rfl, below_drewN b8 n⟩

end Go.Proofs.YtakimaceohfpcaaDoor

/-
  galleylaw02.works.
-/
import Derived.Test.YtboikhalfffioaaDoorLi
namespace Go.Proofs.YtboikhalfffioaaDoor
open Go.RowKit

/-- What quote reads of memory. -/
structure W2 (w : World) : Prop where
  wd : WdW w
  er : ∃ b, ErrW w (errV b)
theorem W2.below {w w' : World} (h : W2 w) (hb : Below w.heap.size w w') : W2 w' := ⟨h.wd.below hb, by obtain ⟨b, h2⟩ := h.er; exact ⟨b, h2.below hb⟩⟩
theorem wk_show : showL [97, 34, 10, 195, 169, 255] = [34, 97, 92, 34, 92, 110, 195, 169, 92, 120, 102, 102, 34] := by decide +kernel
theorem wk_read : readL [34, 97, 92, 34, 92, 110, 195, 169, 92, 120, 102, 102, 34] = some [97, 34, 10, 195, 169, 255] := by decide +kernel
theorem wk_word : wordB 44 = ⟨#[110, 111, 32, 115, 117, 99, 104, 32, 103, 114, 111, 117, 112]⟩ := by decide +kernel
theorem wk_line : lineB 44 3 ⟨#[120]⟩ = ⟨#[103, 97, 108, 108, 101, 121, 58, 32, 110, 111, 32, 115, 117, 99, 104, 32, 103, 114, 111, 117, 112, 32, 97, 116, 32, 51, 58, 32, 34, 120, 34]⟩ := by decide +kernel
theorem wk_shown (w : World) : Calls Tryd.prog 20 #[.slice (some ⟨w.heap.size, 0, none⟩) 6 6] (w.alloc (.cells #[.int .u8 97, .int .u8 34, .int .u8 10, .int .u8 195, .int .u8 169, .int .u8 255] 5)) fun e w' => e = .returned (.string ⟨#[34, 97, 92, 34, 92, 110, 195, 169, 92, 120, 102, 102, 34]⟩) ∧ Below (w.alloc (.cells #[.int .u8 97, .int .u8 34, .int .u8 10, .int .u8 195, .int .u8 169, .int .u8 255] 5)).heap.size (w.alloc (.cells #[.int .u8 97, .int .u8 34, .int .u8 10, .int .u8 195, .int .u8 169, .int .u8 255] 5)) w' := by
  have h := show_any (w.alloc (.cells #[.int .u8 97, .int .u8 34, .int .u8 10, .int .u8 195, .int .u8 169, .int .u8 255] 5)) (some ⟨w.heap.size, 0, none⟩) 6 6 (bI [97, 34, 10, 195, 169, 255]) ?_ (by decide)
  · rw [bI_str, wk_show] at h
    exact h
  · refine ⟨bI_isB _, _, 6, rfl, by decide, .inr ⟨w.heap.size, 0, rfl, fun i hi => ?_⟩⟩
    rw [Lib.cell_of_heap (heap_alloc_new w _), Nat.zero_add]
    have hi6 : i < 6 := hi
    rcases (by omega : i = 0 ∨ i = 1 ∨ i = 2 ∨ i = 3 ∨ i = 4 ∨ i = 5) with rfl | rfl | rfl | rfl | rfl | rfl <;> rfl

set_option maxHeartbeats 1000000 in
set_option maxRecDepth 100000 in
theorem works_any (w : World) (hw : W2 w) : Calls Tryd.prog 15 #[] w fun e w' => e = .returned (.bool true) ∧ Below w.heap.size w w' := by
  have HW := Lib.hid hw
  clear hw
  have HS := Lib.hid (wk_shown w)
  have HB0 := Lib.hid ((Below.refl _ w).alloc (Nat.le_refl _) (.cells #[.int .u8 97, .int .u8 34, .int .u8 10, .int .u8 195, .int .u8 169, .int .u8 255] 5))
  go_enter Tryd.func15, Tryd.ntmps15
  go_wp2_with (go_at_call 20; refine HS.out.mono ?_)
  rintro e w1 ⟨rfl, b1⟩
  have HB1 := Lib.hid (HB0.out.trans (b1.mono HB0.out.size))
  clear b1 HS HB0
  obtain ⟨b, her⟩ := (HW.out.below HB1.out).er
  have HU := Lib.hid (unshow_any w1 b her ⟨#[34, 97, 92, 34, 92, 110, 195, 169, 92, 120, 102, 102, 34]⟩ (by decide))
  clear her
  go_wp2_with (go_at_call 10; refine HU.out.mono ?_)
  rintro e w2 ⟨b2, hr⟩
  have HB2 := Lib.hid (HB1.out.trans (b2.mono HB1.out.size))
  clear b2 HU
  rcases hr with ⟨hn, -⟩ | ⟨bs, v, hs, rfl, ho⟩
  · exact absurd (wk_read.symm.trans hn) (by simp)
  · obtain rfl : bs = [97, 34, 10, 195, 169, 255] := (Option.some.inj (wk_read.symm.trans hs)).symm
    have hsb := ho.sb (bI_isB _) (by decide)
    obtain ⟨ab, cb, rfl⟩ := OwnB.shape ho
    obtain ⟨b3, o3, rfl, hc⟩ := hsb.read 5 (by decide)
    have hc5 : w2.cell? ⟨b3, o3 + 5, none⟩ = some (.int .u8 255) := hc 5 (by decide)
    rw [show (bI [97, 34, 10, 195, 169, 255]).length = 6 from rfl]
    clear hc hsb ho hs
    have HW2 := Lib.hid (HW.out.below HB2.out)
    have HWD := Lib.hid (word_any w2 HW2.out.wd 44 (by decide) (by decide))
    rw [wk_word] at HWD
    go_wp2_with (go_at_call 16; refine HWD.out.mono ?_)
    rintro e w3 ⟨rfl, b3⟩
    have HB3 := Lib.hid (HB2.out.trans (b3.mono HB2.out.size))
    have HLI := Lib.hid (line_any w3 (HW2.out.below b3).wd 44 3 (by decide) (by decide) (by decide) (by decide) ⟨#[120]⟩ (by decide))
    rw [wk_line] at HLI
    clear b3 hc5 HWD
    go_wp2_with (go_at_call 18; refine HLI.out.mono ?_)
    rintro e w4 ⟨rfl, b4⟩
    have HB4 := Lib.hid (HB3.out.trans (b4.mono HB3.out.size))
    clear b4 HLI
    go_wp2_with fail
    go_ret
    exact ⟨rfl, HB4.out⟩
end Go.Proofs.YtboikhalfffioaaDoor

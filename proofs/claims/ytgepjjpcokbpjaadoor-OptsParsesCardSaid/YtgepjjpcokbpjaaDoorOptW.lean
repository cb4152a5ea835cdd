/-
  galleylaw28.works.
-/
import Derived.Test.YtgepjjpcokbpjaaDoorParseO
import Derived.Test.YtgepjjpcokbpjaaDoorLongT
import Derived.Test.YtgepjjpcokbpjaaDoorOptC
import Derived.Deep.WholeRow
namespace Go.Proofs.YtgepjjpcokbpjaaDoor
open Go.RowKit

theorem ts_new (w : World) (l : List Str) (cs : Array Value) (n : Nat) (hn : l.length = n) (hcs : cs = (l.map Value.string).toArray) (hl : n ≤ 1000) : TS (w.alloc (.cells cs 9)) (.slice (some ⟨w.heap.size, 0, none⟩) n n) l := by
  subst hn hcs
  refine ⟨_, _, rfl, by omega, Nat.le_refl _, (fun e => by cases e), .inr ⟨w.heap.size, 0, rfl, fun i hi => ?_⟩⟩
  rw [Nat.zero_add, cell_of_row _ _ _ _ _ (0, 0) (heap_alloc_new w _)]
  simp [hi]
theorem pt_new (w : World) (f : Bool) (t : Str) : PT (w.alloc (.cells #[.bool f, .string t] 66)) (.slice (some ⟨w.heap.size, 0, none⟩) 1 1) [(f, t)] := by
  refine ⟨_, _, rfl, by simp, Nat.le_refl _, (fun e => by cases e), .inr ⟨w.heap.size, 0, rfl, fun i hi => ?_⟩⟩
  have hi0 : i = 0 := by simp at hi; exact hi
  subst hi0
  exact ⟨by rw [cell_of_row _ _ _ _ _ (0, 0) (heap_alloc_new w _)]; rfl, by rw [cell_of_row _ _ _ _ _ (0, 0) (heap_alloc_new w _)]; rfl⟩
theorem ts_none (w : World) : TS w (.slice none 0 0) [] := ⟨none, 0, rfl, by simp, by simp, fun _ => rfl, .inl rfl⟩
theorem pt_none (w : World) : PT w (.slice none 0 0) [] := ⟨none, 0, rfl, by simp, by simp, fun _ => rfl, .inl rfl⟩
def wargs : List Str := [str [45, 110, 69], str [112], str [120]]
def wopt : Opt := ⟨true, true, false, false, [(false, str [112])], [str [120]]⟩
theorem wparse : parF wargs opt0 = (wopt, 0, ByteArray.empty) := by
  unfold wargs
  rw [par_done _ _ _ ⟨true, true, false, false, [], []⟩ (by decide) (by decide) (by kernel_rfl), par_not _ _ _ (by decide), fin_one _ _ _ rfl]
  rfl
def wout : Opt := ⟨false, false, true, false, [(false, str [113])], []⟩
theorem wprint : printR wout = [str [45, 115], str [45, 101], str [113], str [45, 45]] := by kernel_rfl

set_option maxHeartbeats 2000000 in
set_option maxRecDepth 100000 in
theorem works28_any (w : World) : Calls Tryd.prog 6 #[] w fun e w' => e = .returned (.bool true) ∧ Below w.heap.size w w' := by
  go_enter Tryd.func6, Tryd.ntmps6
  go_wp2_with fail
  refine (parseO_any _ _ 3 3 wargs (ts_new w wargs _ 3 rfl rfl (by decide)) (by decide) (by intro s hs; simp only [wargs, List.mem_cons, List.not_mem_nil, or_false] at hs; rcases hs with rfl | rfl | rfl <;> decide)).mono ?_
  intro e w1 hP
  rw [wparse] at hP
  obtain ⟨ap, cp, af, cf, rfl, op, of', b1⟩ := hP
  have b0 := ((Below.refl w.heap.size w).alloc (Nat.le_refl _) (.cells #[.string (str [45, 110, 69]), .string (str [112]), .string (str [120])] 9)).trans (b1.mono (by simp))
  have hbx := heap_alloc_new w1 (.cells (fullO wopt (.slice ap 1 cp) (.slice af 1 cf)) TOpt)
  have b2 := b0.alloc b0.size (.cells (fullO wopt (.slice ap 1 cp) (.slice af 1 cf)) TOpt)
  have hp2 := (op.pt (by decide)).below ((Below.refl w1.heap.size w1).alloc (Nat.le_refl _) (.cells (fullO wopt (.slice ap 1 cp) (.slice af 1 cf)) TOpt))
  clear op of' b0 b1
  go_upto_region 2 with (refine wpList_store_row rfl TOpt (.tmp 1) (.tmp 8) rfl rfl w1.heap.size TOpt zeroO (fullO wopt (.slice ap 1 cp) (.slice af 1 cf)) rfl rfl (heap_alloc_new w1 _) rfl infoO (by simp [Value.oneCell', wopt]) ?_)
  rw [World.setRow_alloc_new]
  obtain ⟨bx, hbe⟩ : ∃ bx, w1.heap.size = bx := ⟨_, rfl⟩
  rw [hbe] at hbx ⊢
  have hlt : bx < (w1.alloc (.cells (fullO wopt (.slice ap 1 cp) (.slice af 1 cf)) TOpt)).heap.size := by simp; omega
  generalize w1.alloc (.cells (fullO wopt (.slice ap 1 cp) (.slice af 1 cf)) TOpt) = w2 at hbx b2 hp2 hlt ⊢
  go_wp2_with fail
  refine (printO_any _ wout (some ⟨w2.heap.size, 0, none⟩) 1 1 (pt_new w2 false (str [113])) none 0 0 (ts_none _) (by decide) (by decide)).mono ?_
  intro e w3 hQ
  rw [wprint] at hQ
  obtain ⟨al, cl, rfl, ol, b3⟩ := hQ
  have b4 := ((Below.refl w2.heap.size w2).alloc (Nat.le_refl _) (.cells #[.bool false, .string (str [113])] 66)).trans (b3.mono (by simp))
  have b5 := b2.trans (b4.mono b2.size)
  have hbx3 := (b4.block bx hlt).trans hbx
  have c0 := cell_of_row w3 bx 0 _ _ (0, 0) hbx3
  have c1 := cell_of_row w3 bx 1 _ _ (0, 0) hbx3
  have c2 := cell_of_row w3 bx 2 _ _ (0, 0) hbx3
  have c4 := cell_of_row w3 bx 4 _ _ (0, 0) hbx3
  have c5 := cell_of_row w3 bx 5 _ _ (0, 0) hbx3
  obtain ⟨gb, go, rfl, hrd⟩ := (hp2.below b4).read 0 (by decide)
  obtain ⟨-, hr1⟩ := hrd 0 (by decide)
  have hr2 : w3.cell? ⟨gb, go + 1, none⟩ = some (.string (str [112])) := hr1
  have hts := ol.ts (by decide)
  clear hrd hr1 hbx hp2 b2 b3 b4 ol hlt
  have c0 : w3.cell? ⟨bx, 0, none⟩ = some (.bool true) := c0
  have c1 : w3.cell? ⟨bx, 1, none⟩ = some (.bool true) := c1
  have c2 : w3.cell? ⟨bx, 2, none⟩ = some (.bool false) := c2
  have c4 : w3.cell? ⟨bx, 4, none⟩ = some (.slice (some ⟨gb, go, none⟩) 1 cp) := c4
  have c5 : w3.cell? ⟨bx, 5, none⟩ = some (.slice af 1 cf) := c5
  have hq : (ByteArray.toList (str [112]) == [112]) = true := by rw [Lib.toList_data]; rfl
  go_wp2_with fail
  refine (eqTexts_same _ al 4 cl [str [45, 115], str [45, 101], str [113], str [45, 45]] (hts.below ((Below.refl w3.heap.size w3).alloc (Nat.le_refl _) _)) _ 4 4 (ts_new w3 [str [45, 115], str [45, 101], str [113], str [45, 45]] _ 4 rfl rfl (by decide))).mono ?_
  rintro e w4 ⟨rfl, n, rfl⟩
  go_wp2_with fail
  go_ret
  exact ⟨rfl, below_drewN (b5.alloc b5.size _) n⟩
end Go.Proofs.YtgepjjpcokbpjaaDoor

/-
  galleylaw08.works: any number of a, and b.
-/
import Derived.Test.YtfmcjmkdlldlhaaDoorLgFa
import Derived.Test.YtfmcjmkdlldlhaaDoorLgJ
import Derived.Test.YtfmcjmkdlldlhaaDoorLgU
import Derived.Test.YtfmcjmkdlldlhaaDoorLgV
namespace Go.Proofs.YtfmcjmkdlldlhaaDoor
open Go.RowKit
attribute [local go_sem] Oper.semAt_some

theorem MI.at {W : World} {g : Nat} {M : List Ins} {n : Nat} {cs : List Value} (hC : ∀ x ∈ M, IsC x.set) (h : At W g TI cs) (he : cs = cellsI M) (hn : n = M.length) : MI W (some ⟨g, 0, none⟩) n n M := by
  subst he hn
  refine ⟨hC, rfl, Nat.le_refl _, fun e => (by cases e), .inr ⟨g, 0, rfl, fun i x hx q hq => ?_⟩⟩
  rw [Nat.zero_add, h.cell, cellsI_get hq hx]
theorem TxR.lit (W : World) (l : List Int) (n : Nat) (fz : Nat × Nat) (hB : IsB l) (hn : n = l.length) (hl : l.length ≤ 140737488351232) : TxR (W.alloc (.cells (l.map (Value.int .u8)).toArray 5 fz)) (some ⟨W.heap.size, 0, none⟩) n n l := by
  subst hn
  have h := heap_alloc_new W (.cells (l.map (Value.int .u8)).toArray 5 fz)
  refine ⟨⟨hB, _, _, rfl, hl, .inr ⟨_, 0, rfl, fun i hi => ?_⟩⟩, fun x hx => ?_⟩
  · rw [Nat.zero_add, cell_of_row _ _ i _ _ fz h, List.getElem?_toArray, List.getElem?_map, List.getElem?_eq_getElem hi]; rfl
  · simp only [Option.some.injEq] at hx
    subst hx
    exact ⟨_, _, h⟩
theorem isB_lit (l : List Int) (h : l.all (fun x => decide (0 ≤ x) && decide (x ≤ 255)) = true) : IsB l := by
  intro i
  by_cases hi : i < l.length
  · have := List.all_eq_true.1 h _ (List.getElem_mem hi)
    rw [List.getElem?_eq_getElem hi]
    simpa using this
  · rw [List.getElem?_eq_none (by omega)]; simp
theorem one_a (w : World) : Calls Tryd.prog 23 #[.int .u8 97] w fun e w' => e = .returned (.agg #[.int .u64 0, .int .u64 8589934592, .int .u64 0, .int .u64 0]) ∧ Below w.heap.size w w' := one_any w 97 (by omega)
theorem one_b (w : World) : Calls Tryd.prog 23 #[.int .u8 98] w fun e w' => e = .returned (.agg #[.int .u64 0, .int .u64 17179869184, .int .u64 0, .int .u64 0]) ∧ Below w.heap.size w w' := one_any w 98 (by omega)
theorem workM_shaped : shapedM workM = true := by decide
theorem workM_cls : ∀ x ∈ workM, IsC x.set := by
  intro x hx
  simp only [workM, List.mem_cons, List.not_mem_nil, or_false] at hx
  rcases hx with rfl | rfl | rfl | rfl | rfl
  · exact isC_none
  · exact isC_with noneL 97 isC_none
  · exact isC_none
  · exact isC_with noneL 98 isC_none
  · exact isC_none
theorem workMach : Mach workM := ⟨workM_shaped, workM_cls⟩
theorem wf1 : findI workM [99, 97, 97, 98, 97, 98] 0 = (some (1, 4), (findM workM [99, 97, 97, 98, 97, 98] 0).2) := by
  unfold findI
  rw [if_neg (by decide)]
  exact Prod.ext work_find rfl
theorem wf1a : spF (findI workM [99, 97, 97, 98, 97, 98] 0).1 = 1 := by rw [wf1]; rfl
theorem wf1b : spT (findI workM [99, 97, 97, 98, 97, 98] 0).1 = 4 := by rw [wf1]; rfl
theorem wf1c : (findI workM [99, 97, 97, 98, 97, 98] 0).1.isSome = true := by rw [wf1]; rfl
theorem wf1d : 0 < (findI workM [99, 97, 97, 98, 97, 98] 0).2 := by rw [wf1]; exact work_steps
theorem wf2 : (findI workM [97, 97, 97] 0).1 = none := by
  unfold findI
  rw [if_neg (by decide)]
  exact work_none
theorem wf2a : spF (findI workM [97, 97, 97] 0).1 = 0 := by rw [wf2]; rfl
theorem wf2b : spT (findI workM [97, 97, 97] 0).1 = 0 := by rw [wf2]; rfl
theorem wf2c : (findI workM [97, 97, 97] 0).1.isSome = false := by rw [wf2]; rfl
theorem wf3 : (endsI workM [97, 98] 1).1 = [false, false, true] := by
  unfold endsI
  rw [if_neg (by decide)]
  exact work_ends
set_option maxHeartbeats 2000000 in
theorem works8_any (w : World) : Calls Tryd.prog 6 #[] w fun e w' => e = .returned (.bool true) ∧ Below w.heap.size w w' := by
  have hcv := fun (w : World) (C : Array Value) (n c g : Nat) (hg : g = w.heap.size) => Joins.run_convert_bytes_const_at (P := Tryd.prog) w 25 5 C n c g hg Tryd.underlying25 Tryd.underlying5
  go_enter Tryd.func6, Tryd.ntmps6
  go_wp2_with fail
  refine (one_a _).mono ?_
  rintro e w1 ⟨rfl, hb1⟩
  have HB1 := Lib.hid hb1
  clear hb1
  go_wp2_with fail
  refine (one_b _).mono ?_
  rintro e w2 ⟨rfl, hb2⟩
  have HB2 := Lib.hid (HB1.out.trans (hb2.mono HB1.out.size))
  clear hb2 HB1
  go_wp2_with fail
  have hb3 := HB2.out.alloc HB2.out.size (.cells (cellsI workM).toArray TI)
  refine (new_yes _ workM _ 5 5 (MI.at workM_cls (At.new w2 TI (cellsI workM)) rfl rfl) workM_shaped).mono ?_
  rintro e w3 ⟨s, rfl, _, hs, hb⟩
  have HB3 := Lib.hid (hb3.trans (hb.mono hb3.size))
  have HLE := Lib.hid hb3.size
  change Sob w3 (w2.alloc (.cells (cellsI workM).toArray TI)).heap.size workM s at hs
  generalize (w2.alloc (.cells (cellsI workM).toArray TI)).heap.size = base at hs HLE
  have HS := Lib.hid hs
  clear hb hb3 hs HB2
  have hb4 := (Below.refl w3.heap.size w3).alloc (Nat.le_refl _) (.cells #[.int .u8 99, .int .u8 97, .int .u8 97, .int .u8 98, .int .u8 97, .int .u8 98] 5 (6, 7))
  have HF1 := Lib.hid (find_all _ base workM s (HS.out.below hb4) workMach [99, 97, 97, 98, 97, 98] _ 6 6 (TxR.lit w3 [99, 97, 97, 98, 97, 98] 6 (6, 7) (isB_lit _ (by decide)) rfl (by decide)) 0 (by decide))
  have HB4 := Lib.hid (HB3.out.trans (hb4.mono HB3.out.size))
  clear HS HB3 hb4
  go_wp2_with fail
  refine HF1.out.mono ?_
  rintro e w4 ⟨rfl, s1, hg, hs, ho, hu⟩
  rw [wf1a, wf1b, wf1c]
  have HB5 := Lib.hid (hu.bel _ _ HB4.out HLE.out)
  have HS := Lib.hid ho
  have HP := Lib.hid (show 0 < s1.steps from hs ▸ wf1d)
  rw [← hg]
  generalize s.g = sg at hg ⊢
  subst hg
  clear hs ho hu HF1 HB4
  go_upto_region 5 with fail
  have hb5 := (Below.refl w4.heap.size w4).alloc (Nat.le_refl _) (.cells #[.int .i64 1, .int .i64 4] TSp)
  have HA := Lib.hid (At.new w4 TSp [.int .i64 1, .int .i64 4])
  have HNF := Lib.hid (show ¬ SBlk s1 w4.heap.size from fun h => Nat.lt_irrefl _ (HS.out.lt _ h).1)
  have HS5 := Lib.hid (HS.out.below hb5)
  have HB6 := Lib.hid (HB5.out.trans (hb5.mono HB5.out.size))
  clear hb5 HS HB5
  change Hid (At (w4.alloc (.cells #[.int .i64 1, .int .i64 4] TSp)) w4.heap.size TSp _) at HA
  generalize w4.alloc (.cells #[.int .i64 1, .int .i64 4] TSp) = w5 at HA HS5 HB6 ⊢
  generalize w4.heap.size = x3 at HA HNF ⊢
  go_wp2_with fail
  refine (steps_any _ base workM s1 HS5.out).mono ?_
  rintro e w6 ⟨rfl, rfl⟩
  have hb7 := (Below.refl w5.heap.size w5).alloc (Nat.le_refl _) (.cells #[.int .u8 97, .int .u8 97, .int .u8 97] 5 (3, 4))
  have HF1 := Lib.hid (find_all _ base workM s1 (HS5.out.below hb7) workMach [97, 97, 97] _ 3 3 (TxR.lit w5 [97, 97, 97] 3 (3, 4) (isB_lit _ (by decide)) rfl (by decide)) 0 (by decide))
  have HA7 := Lib.hid (HA.out.below hb7)
  have HB7 := Lib.hid (HB6.out.trans (hb7.mono HB6.out.size))
  clear HS5 HB6 hb7 HA
  go_wp2_with fail
  refine HF1.out.mono ?_
  rintro e w6 ⟨rfl, s2, hg, hs, ho, hu⟩
  rw [wf2a, wf2b, wf2c]
  have hst : decide (0 < s1.steps) = true := decide_eq_true HP.out
  have hst2 : 0 < s1.steps := HP.out
  have HA8 := Lib.hid (HA7.out.keep (hu.keep x3 HA7.out.lt HNF.out))
  have HNF2 := Lib.hid (show ¬ SBlk s2 x3 from fun h => (hu.new _ h).elim HNF.out fun h => by have := HA7.out.lt; omega)
  have HB8 := Lib.hid (hu.bel _ _ HB7.out HLE.out)
  have HS := Lib.hid ho
  rw [← hg]
  generalize s1.g = sg at hg ⊢
  subst hg
  clear hs ho hu HF1 HB7 HA7 HNF HP
  go_upto_region 7 with fail
  have hb9 := (Below.refl w6.heap.size w6).alloc (Nat.le_refl _) (.cells #[.int .i64 0, .int .i64 0] TSp)
  have HA9 := Lib.hid (HA8.out.below hb9)
  have HS9 := Lib.hid (HS.out.below hb9)
  have HB9 := Lib.hid (HB8.out.trans (hb9.mono HB8.out.size))
  clear hb9 HS HB8 HA8
  change Hid (At (w6.alloc (.cells #[.int .i64 0, .int .i64 0] TSp)) x3 TSp _) at HA9
  generalize w6.alloc (.cells #[.int .i64 0, .int .i64 0] TSp) = w7 at HA9 HS9 HB9 ⊢
  have hb7 := (Below.refl w7.heap.size w7).alloc (Nat.le_refl _) (.cells #[.int .u8 97, .int .u8 98] 5 (2, 3))
  have HE1 := Lib.hid (ends_all _ base workM s2 (HS9.out.below hb7) workMach [97, 98] _ 2 2 (TxR.lit w7 [97, 98] 2 (2, 3) (isB_lit _ (by decide)) rfl (by decide)) 1 (by decide))
  have HA10 := Lib.hid (HA9.out.below hb7)
  have HB10 := Lib.hid (HB9.out.trans (hb7.mono HB9.out.size))
  clear HS9 HB9 hb7 HA9
  go_wp2_with fail
  refine HE1.out.mono ?_
  rintro e w8 ⟨v, s3, rfl, hv, hg, hs, ho, hu⟩
  rw [wf3] at hv
  rcases hv with ⟨_, h0⟩ | ⟨g, rfl, _, hA, _⟩
  · cases h0
  have HA11 := HA10.out.keep (hu.keep x3 HA10.out.lt HNF2.out)
  have HB11 := Lib.hid (hu.bel _ _ HB10.out HLE.out)
  have d0 : w8.cell? ⟨x3, 0, none⟩ = some (.int .i64 1) := HA11.cell 0
  have d1 : w8.cell? ⟨x3, 1, none⟩ = some (.int .i64 4) := HA11.cell 1
  have b0 : w8.cell? ⟨g, 0, none⟩ = some (.bool false) := hA.cell 0
  have b1 : w8.cell? ⟨g, 1, none⟩ = some (.bool false) := hA.cell 1
  have b2 : w8.cell? ⟨g, 2, none⟩ = some (.bool true) := hA.cell 2
  clear hs ho hu HE1 HB10 HA10 HA11 hA HNF2
  have hl3 : [false, false, true].length = 3 := rfl
  rw [hl3]
  go_wp2_with fail
  go_ret
  exact ⟨rfl, HB11.out⟩
end Go.Proofs.YtfmcjmkdlldlhaaDoor

/-
  The walk of galleyref08.reach.
-/
import Derived.Test.YtfmcjmkdlldlhaaDoorLgRe
import Derived.Test.YtfmcjmkdlldlhaaDoorLgFa
import Derived.Test.YtfmcjmkdlldlhaaDoorLgA
import Derived.Deep.LoopGhost
namespace Go.Proofs.YtfmcjmkdlldlhaaDoor
open Go.RowKit
attribute [local go_sem] Oper.semAt_some

theorem push_at {M : List Ins} {n p i : Nat} {a : Ins} (h : M[i]? = some a) : pushes M n p i = if a.op = 2 then (if p = 0 then [i + 1] else []) else if a.op = 3 then (if p = n then [i + 1] else []) else if a.op = 4 then [a.x.toNat] else if a.op = 5 then [a.x.toNat, a.y.toNat] else [] := by
  unfold pushes
  rw [h]
def RchPost (W : World) (lo b2 : Nat) (mv : Value) (M : List Ins) (n p : Nat) (l0 : List Nat) (v0 : Value) (e : Ending) (W' : World) : Prop :=
  ∃ v l, e = .returned v ∧ W'.ownsRow lo 3 1 v l.length (cellsN l) ∧ W'.ownsRow b2 TI 7 mv M.length (cellsI M) ∧ Up W W' lo (OB v0) (OB v) ∧ (∀ i, i ∈ l ↔ ∃ j ∈ l0, EpsR M n p j i) ∧ l.length ≤ l0.length + M.length
set_option maxRecDepth 100000 in
set_option maxHeartbeats 8000000 in
theorem reach_any (W : World) (lo b2 : Nat) (M : List Ins) (am : Option Addr) (nm cm : Nat) (hM : Mach M) (hR : ∀ x ∈ M, -128 ≤ x.op ∧ x.op ≤ 127) (hm : W.ownsRow b2 TI 7 (.slice am nm cm) M.length (cellsI M)) (l0 : List Nat) (v0 : Value) (hl0 : W.ownsRow lo 3 1 v0 l0.length (cellsN l0)) (hlt : ∀ x ∈ l0, x < M.length) (hn0 : l0.length ≤ 200000) (hlo : lo ≤ W.heap.size) (n p : Nat) (hnp : n ≤ 4194304 ∧ p ≤ 4194304) :
    Calls Tryd.prog 33 #[.slice am nm cm, v0, .int .i64 (p : Int), .int .i64 (n : Int)] W (RchPost W lo b2 (.slice am nm cm) M n p l0 v0) := by
  obtain rfl := own_len hm
  obtain ⟨a0, c0, rfl⟩ := own_shape hl0
  have hm5 : M.length ≤ 65540 := hM.shp.len
  have HMM := Lib.hid hM
  have HRR := Lib.hid hR
  have HLT := Lib.hid hlt
  have HLO := Lib.hid hlo
  have HN := Lib.hid (And.intro hn0 (And.intro hnp.1 hnp.2))
  have HM5 := Lib.hid hm5
  have hmk := fun w => madeBo w M.length (by omega)
  have hrep : (List.replicate M.length (Value.bool false)).toArray = Array.replicate M.length (.bool false) := by simp
  have hb1 := (Below.refl W.heap.size W).alloc (Nat.le_refl _) (.cells (Array.replicate M.length (.bool false)) 4)
  have HB1 := Lib.hid hb1
  have ha1 := At.new W 4 (List.replicate M.length (.bool false))
  rw [hrep] at ha1
  have HA1 := Lib.hid ha1
  clear hrep ha1
  have HMO := Lib.hid hm
  have HLI := Lib.hid hl0
  clear hM hR hlt hlo hn0 hnp hb1 hm hl0
  go_enter Tryd.func33, Tryd.ntmps33
  go_upto_region 2 with fail
  clear hmk
  have HMO1 := Lib.hid (own_blk HMO.out fun k hk => HB1.out.block k (World.ownsRow.lt HMO.out k hk).2)
  have HLI1 := Lib.hid (own_blk HLI.out fun k hk => HB1.out.block k (World.ownsRow.lt HLI.out k hk).2)
  have HUP1 := Lib.hid (Up.below (OB (.slice a0 l0.length c0)) HB1.out HLO.out)
  have HG := Lib.hid (Nat.le_refl W.heap.size)
  generalize W.alloc (.cells (Array.replicate M.length (.bool false)) 4) = w1 at HA1 HMO1 HLI1 HUP1 ⊢
  obtain ⟨g, hg⟩ : ∃ g, W.heap.size = g := ⟨_, rfl⟩
  have HGE : Hid (W.heap.size ≤ g) := Lib.hid (by omega)
  rw [hg] at HA1 ⊢
  clear HB1 HMO HLI hg
  go_wp2_with fail
  go_loopw [10] (fun i wr => ∃ (k : Nat) (B : List Bool), k ≤ l0.length ∧ i = .int .i64 k ∧ B.length = M.length ∧ (∀ x, B[x]?.getD false = true ↔ x ∈ l0.take k) ∧ At wr g 4 (cellsB B) ∧ wr.ownsRow b2 TI 7 (.slice am M.length cm) M.length (cellsI M) ∧ wr.ownsRow lo 3 1 (.slice a0 l0.length c0) l0.length (cellsN l0) ∧ Up W wr lo (OB (.slice a0 l0.length c0)) (OB (.slice a0 l0.length c0))) (fun i _ => l0.length - (intOf i).toNat)
  case atStart => exact ⟨0, List.replicate M.length false, Nat.zero_le _, rfl, by simp, fun x => by simp [List.getElem?_replicate]; split <;> simp, by have h := HA1.out; rwa [show (List.replicate M.length (Value.bool false)) = cellsB (List.replicate M.length false) by simp [cellsB]] at h, HMO1.out, HLI1.out, HUP1.out⟩
  case round =>
    obtain ⟨k, B, hk, rfl, hBl, hB, hat, hmo, hli, hup⟩ := hrel
    have HBL := Lib.hid hBl
    have HBM := Lib.hid hB
    have HAT := Lib.hid hat
    have HMR := Lib.hid hmo
    have HLR := Lib.hid hli
    have HUR := Lib.hid hup
    clear HA1 HMO1 HLI1 HUP1 hBl hB
    by_cases hkl : k < l0.length
    · have hkI : (k : Int) < (l0.length : Int) := by omega
      have hx := HLT.out l0[k] (List.getElem_mem hkl)
      obtain ⟨b0, cc0, hv0⟩ := own_some hli (by omega)
      simp only [Value.slice.injEq] at hv0
      obtain ⟨rfl, -, rfl⟩ := hv0
      have hc : wr.cell? ⟨b0, k, none⟩ = some (.int .i64 (l0[k] : Int)) := by
        rw [(own_cell hli k (by simpa [cellsN] using hkl)).1, cellsN, List.getElem?_map, List.getElem?_eq_getElem hkl]
        rfl
      have hc2 : wr.cell? ⟨g, l0[k], none⟩ = some (.bool (B[l0[k]]?.getD false)) := by
        rw [hat.cell, cellsB, List.getElem?_map, List.getElem?_eq_getElem (by rw [HBL.out]; exact hx)]
        rfl
      have hf2 := hat.frozen l0[k]
      have hkw : IntKind.i64.wrap ((k : Int) + 1) = (k : Int) + 1 := IntWalk.i64_in _ (by have := HN.out; omega)
      have htk : l0.take (k + 1) = l0.take k ++ [l0[k]] := List.take_succ_eq_append_getElem hkl
      have HTK := Lib.hid htk
      have HXL := Lib.hid hx
      have hxI : (l0[k] : Int) < (M.length : Int) := by omega
      clear hat hmo hli hup htk
      generalize l0[k] = x at hx hc hc2 hf2 HTK HXL hxI
      go_wp2_with fail
      go_roundw
      case rel =>
        have hA := HAT.out.set x (.bool true)
        rw [cellsB_set] at hA
        refine ⟨k + 1, B.set x true, hkl, by go_num, by rw [List.length_set, HBL.out], fun z => ?_, hA, own_set_at HAT.out HMR.out (by decide), own_set_at HAT.out HLR.out (by decide), HUR.out.fresh HGE.out HLO.out⟩
        rw [HTK.out, List.getElem?_set, List.mem_append, List.mem_singleton, ← HBM.out z]
        by_cases e : x = z
        · subst e
          rw [if_pos rfl, if_pos (by rw [HBL.out]; exact HXL.out)]
          simp
        · rw [if_neg e]
          exact ⟨.inl, fun h => h.elim id fun h => absurd h.symm e⟩
      case measure => simp [intOf]; omega
    · obtain rfl : k = l0.length := by omega
      have hkI : ¬ (l0.length : Int) < (l0.length : Int) := by omega
      have HRI := Lib.hid (show RI W wr lo b2 (.slice am M.length cm) M n p l0 (.slice a0 l0.length c0) g 0 (.slice a0 l0.length c0) l0 B from
        { mo := hmo, li := hli, mt := hat, ml := HBL.out, up := hup
          inl := fun x => by have := HBM.out x; rwa [List.take_length] at this
          src := fun x hx => ⟨x, hx, .refl⟩
          sub := fun x hx => hx
          cls := fun q hq => by omega
          cnt := by have := List.countP_le_length (p := fun b : Bool => !b) (l := B); rw [HBL.out] at this; omega
          kl := Nat.zero_le _ })
      clear hat hmo hli hup HMR HLR HUR HAT HBM HBL
      go_wp2_with fail
      go_loopw [1, 11] (fun v i wr => ∃ (k : Nat) (l : List Nat) (B : List Bool), i = .int .i64 k ∧ RI W wr lo b2 (.slice am M.length cm) M n p l0 (.slice a0 l0.length c0) g k v l B) (fun _ i _ => 400000 - (intOf i).toNat)
      case atStart => exact ⟨0, l0, B, rfl, HRI.out⟩
      case round =>
        obtain ⟨k, l, B', rfl, hri⟩ := hrel
        have HI := Lib.hid hri
        obtain ⟨a1, c1, hv1⟩ := own_shape hri.li
        have hln : l.length ≤ 265540 := by have := hri.cnt; have := HN.out; omega
        have hkln := hri.kl
        subst hv1
        clear HRI
        by_cases hkl : k < l.length
        · have hkI : (k : Int) < (l.length : Int) := by omega
          have hxm : l[k] < M.length := hri.lt (List.getElem_mem hkl)
          obtain ⟨b1, cc1, hv1⟩ := own_some hri.li (by omega)
          simp only [Value.slice.injEq] at hv1
          obtain ⟨rfl, -, rfl⟩ := hv1
          have hc : wr.cell? ⟨b1, k, none⟩ = some (.int .i64 (l[k] : Int)) := by
            rw [(own_cell hri.li k (by simpa [cellsN] using hkl)).1, cellsN, List.getElem?_map, List.getElem?_eq_getElem hkl]
            rfl
          obtain ⟨a, ha⟩ : ∃ a, M[l[k]]? = some a := ⟨_, List.getElem?_eq_getElem hxm⟩
          have hC := HMM.out.cls a (List.mem_of_getElem? ha)
          obtain ⟨p0, p1, p2, p3, hp⟩ := isC_words a.set hC
          obtain ⟨bm, om, rfl, d0, -, -, -, -, d5, d6⟩ := (MI.own HMM.out.cls hri.mo).instr ha hp
          have har := HRR.out a (List.mem_of_getElem? ha)
          have hwa : wrap64 a.op = a.op := by unfold wrap64; omega
          have hkg : l[k]?.getD 0 = l[k] := by rw [List.getElem?_eq_getElem hkl]; rfl
          have hps := push_at (n := n) (p := p) ha
          have HPG := Lib.hid (show ∀ y, y ∈ pushes M n p (l[k]'hkl) → y < M.length from fun y hy => HMM.out.shp.good.push n p _ y hy)
          have hxs := HMM.out.shp.xs a (List.mem_of_getElem? ha)
          have HBC := Lib.hid (show ∀ y, y < M.length → wr.cell? ⟨g, y, none⟩ = some (.bool (B'[y]?.getD false)) from fun y hy => by
            rw [hri.mt.cell, cellsB, List.getElem?_map, List.getElem?_eq_getElem (by rw [hri.ml]; exact hy)]
            rfl)
          have HFZ := Lib.hid (fun y => hri.mt.frozen y)
          have hkw : IntKind.i64.wrap ((k : Int) + 1) = (k : Int) + 1 := IntWalk.i64_in _ (by omega)
          have hk6 : l.length + 1 ≤ 17592186044416 := by omega
          have hk7 : l.length + 1 + 1 ≤ 17592186044416 := by omega
          have hkxw : IntKind.i64.wrap ((l[k] : Int) + 1) = (l[k] : Int) + 1 := IntWalk.i64_in _ (by omega)
          have hlow : lo ≤ wr.heap.size := Nat.le_trans HLO.out hri.up.size
          have HKL := Lib.hid hkl
          have HKG := Lib.hid hkg
          clear hC hp ha har hri hkg
          generalize hX : l[k] = x at hxm hc d0 d5 d6 hps HPG hkxw HKG
          have hxI : (x : Int) < (M.length : Int) := by omega
          have HPS := Lib.hid hps
          clear hX hps
          by_cases o2 : a.op = 2
          · rw [o2] at d0
            rw [if_pos o2] at HPS
            clear hwa
            by_cases hcp0 : p = 0
            · rw [if_pos hcp0] at HPS
              have hpe : ((p : Int) == 0) = true := by simp [hcp0]
              clear hcp0
              have hym : x + 1 < M.length := HPG.out _ (by rw [HPS.out]; exact List.mem_cons_self)
              have hyI : ((x : Int) + 1 : Int) < (M.length : Int) := by omega
              have hy0 : (0 : Int) ≤ (x : Int) + 1 := by omega
              have c9 := HBC.out _ hym
              have f9 := HFZ.out (x + 1)
              cases hmt : B'[x + 1]?.getD false with
              | true =>
                rw [hmt] at c9
                have hin := (HI.out.inl _).1 hmt
                have HNX := Lib.hid (HI.out.next HKL.out (by rw [HKG.out, HPS.out]; intro z hz; have hz : z = x + 1 := (by simpa using hz); subst hz; exact hin))
                clear HBC HFZ HPG hmt hin
                go_wp2_with fail
                go_roundw
                case rel => exact ⟨k + 1, _, _, by go_num, HNX.out⟩
                case measure => simp [intOf]; omega
              | false =>
                rw [hmt] at c9
                have hli2 : (wr.setCell ⟨g, x + 1, none⟩ (.bool true)).ownsRow lo 3 1 _ l.length (cellsN l) := own_set_at HI.out.mt HI.out.li (by decide)
                have HMT := Lib.hid hmt
                have HYM := Lib.hid hym
                have hsz9 : lo ≤ (wr.setCell ⟨g, x + 1, none⟩ (.bool true)).heap.size := by simpa using hlow
                clear HBC HFZ hmt
                go_upto_region 22 with fail
                obtain ⟨w9, hw9⟩ : ∃ w9, wr.setCell ⟨g, x + 1, none⟩ (.bool true) = w9 := ⟨_, rfl⟩
                rw [hw9] at hli2 hsz9 ⊢
                have HW9 := Lib.hid hw9
                clear hw9
                go_wp2_with (at_builtin; refine wpList_appK (w := w9) rfl (.tmp 98) (.tmp 100) rfl lo _ l.length l [x + 1] _ rfl rfl rfl hli2 rfl (by simp) hk6 hsz9 ?_)
                intro gn cn w2 ho2 hp2
                rw [← HW9.out] at hp2
                have hRI := HI.out.add HGE.out HLO.out (x + 1) HYM.out HMT.out HKL.out (by rw [HKG.out, HPS.out]; exact List.mem_cons_self) ho2 hp2
                have HNX := Lib.hid (hRI.next (by rw [List.length_append]; have := HKL.out; omega) (by
                  rw [List.getElem?_append_left HKL.out, HKG.out, HPS.out]
                  intro z hz
                  have hz : z = x + 1 := by simpa using hz
                  subst hz
                  exact List.mem_append_right _ List.mem_cons_self))
                clear ho2 hp2 hRI hli2
                go_wp2_with fail
                go_roundw
                case rel => exact ⟨k + 1, _, _, by go_num, HNX.out⟩
                case measure => simp [intOf]; omega
            · rw [if_neg hcp0] at HPS
              have hpe : ((p : Int) == 0) = false := by simp [hcp0]
              have hpe2 : (p == 0) = false := by simp [hcp0]
              clear hcp0
              have HNX := Lib.hid (HI.out.next HKL.out (by rw [HKG.out, HPS.out]; intro y hy; cases hy))
              clear HBC HFZ HPG
              go_wp2_with fail
              go_roundw
              case rel => exact ⟨k + 1, _, _, by go_num, HNX.out⟩
              case measure => simp [intOf]; omega
          by_cases o3 : a.op = 3
          · rw [o3] at d0
            rw [if_neg o2, if_pos o3] at HPS
            clear hwa
            by_cases hcpn : p = n
            · rw [if_pos hcpn] at HPS
              have hpe : ((p : Int) == (n : Int)) = true := by simp [hcpn]
              have hpe2 : (p == n) = true := by simp [hcpn]
              clear hcpn
              have hym : x + 1 < M.length := HPG.out _ (by rw [HPS.out]; exact List.mem_cons_self)
              have hyI : ((x : Int) + 1 : Int) < (M.length : Int) := by omega
              have hy0 : (0 : Int) ≤ (x : Int) + 1 := by omega
              have c9 := HBC.out _ hym
              have f9 := HFZ.out (x + 1)
              cases hmt : B'[x + 1]?.getD false with
              | true =>
                rw [hmt] at c9
                have hin := (HI.out.inl _).1 hmt
                have HNX := Lib.hid (HI.out.next HKL.out (by rw [HKG.out, HPS.out]; intro z hz; have hz : z = x + 1 := (by simpa using hz); subst hz; exact hin))
                clear HBC HFZ HPG hmt hin
                go_wp2_with fail
                go_roundw
                case rel => exact ⟨k + 1, _, _, by go_num, HNX.out⟩
                case measure => simp [intOf]; omega
              | false =>
                rw [hmt] at c9
                have hli2 : (wr.setCell ⟨g, x + 1, none⟩ (.bool true)).ownsRow lo 3 1 _ l.length (cellsN l) := own_set_at HI.out.mt HI.out.li (by decide)
                have HMT := Lib.hid hmt
                have HYM := Lib.hid hym
                have hsz9 : lo ≤ (wr.setCell ⟨g, x + 1, none⟩ (.bool true)).heap.size := by simpa using hlow
                clear HBC HFZ hmt
                go_upto_region 22 with fail
                obtain ⟨w9, hw9⟩ : ∃ w9, wr.setCell ⟨g, x + 1, none⟩ (.bool true) = w9 := ⟨_, rfl⟩
                rw [hw9] at hli2 hsz9 ⊢
                have HW9 := Lib.hid hw9
                clear hw9
                go_wp2_with (at_builtin; refine wpList_appK (w := w9) rfl (.tmp 98) (.tmp 100) rfl lo _ l.length l [x + 1] _ rfl rfl rfl hli2 rfl (by simp) hk6 hsz9 ?_)
                intro gn cn w2 ho2 hp2
                rw [← HW9.out] at hp2
                have hRI := HI.out.add HGE.out HLO.out (x + 1) HYM.out HMT.out HKL.out (by rw [HKG.out, HPS.out]; exact List.mem_cons_self) ho2 hp2
                have HNX := Lib.hid (hRI.next (by rw [List.length_append]; have := HKL.out; omega) (by
                  rw [List.getElem?_append_left HKL.out, HKG.out, HPS.out]
                  intro z hz
                  have hz : z = x + 1 := by simpa using hz
                  subst hz
                  exact List.mem_append_right _ List.mem_cons_self))
                clear ho2 hp2 hRI hli2
                go_wp2_with fail
                go_roundw
                case rel => exact ⟨k + 1, _, _, by go_num, HNX.out⟩
                case measure => simp [intOf]; omega
            · rw [if_neg hcpn] at HPS
              have hpe : ((p : Int) == (n : Int)) = false := by simp; omega
              have hpe2 : (p == n) = false := by simp [hcpn]
              clear hcpn
              have HNX := Lib.hid (HI.out.next HKL.out (by rw [HKG.out, HPS.out]; intro y hy; cases hy))
              clear HBC HFZ HPG
              go_wp2_with fail
              go_roundw
              case rel => exact ⟨k + 1, _, _, by go_num, HNX.out⟩
              case measure => simp [intOf]; omega
          have e2 : (a.op == 2) = false := beq_eq_false_iff_ne.2 o2
          have e3 : (a.op == 3) = false := beq_eq_false_iff_ne.2 o3
          rw [if_neg o2, if_neg o3] at HPS
          by_cases o4 : a.op = 4
          · rw [o4] at d0
            rw [if_pos o4] at HPS
            obtain ⟨y, hy⟩ : ∃ y : Nat, a.x = (y : Int) := ⟨a.x.toNat, by have := hxs.1 (.inl o4); omega⟩
            rw [hy] at d5
            rw [hy, Int.toNat_natCast] at HPS
            clear hwa e2 e3 hxs hy
            have hym : y < M.length := HPG.out _ (by rw [HPS.out]; exact List.mem_cons_self)
            have hyI : ((y : Int) : Int) < (M.length : Int) := by omega
            have hy0 : (0 : Int) ≤ (y : Int) := by omega
            have c9 := HBC.out _ hym
            have f9 := HFZ.out (y)
            cases hmt : B'[y]?.getD false with
            | true =>
              rw [hmt] at c9
              have hin := (HI.out.inl _).1 hmt
              have HNX := Lib.hid (HI.out.next HKL.out (by rw [HKG.out, HPS.out]; intro z hz; have hz : z = y := (by simpa using hz); subst hz; exact hin))
              clear HBC HFZ HPG hmt hin
              go_wp2_with fail
              go_roundw
              case rel => exact ⟨k + 1, _, _, by go_num, HNX.out⟩
              case measure => simp [intOf]; omega
            | false =>
              rw [hmt] at c9
              have hli2 : (wr.setCell ⟨g, y, none⟩ (.bool true)).ownsRow lo 3 1 _ l.length (cellsN l) := own_set_at HI.out.mt HI.out.li (by decide)
              have HMT := Lib.hid hmt
              have HYM := Lib.hid hym
              have hsz9 : lo ≤ (wr.setCell ⟨g, y, none⟩ (.bool true)).heap.size := by simpa using hlow
              clear HBC HFZ hmt
              go_upto_region 22 with fail
              obtain ⟨w9, hw9⟩ : ∃ w9, wr.setCell ⟨g, y, none⟩ (.bool true) = w9 := ⟨_, rfl⟩
              rw [hw9] at hli2 hsz9 ⊢
              have HW9 := Lib.hid hw9
              clear hw9
              go_wp2_with (at_builtin; refine wpList_appK (w := w9) rfl (.tmp 98) (.tmp 100) rfl lo _ l.length l [y] _ rfl rfl rfl hli2 rfl (by simp) hk6 hsz9 ?_)
              intro gn cn w2 ho2 hp2
              rw [← HW9.out] at hp2
              have hRI := HI.out.add HGE.out HLO.out (y) HYM.out HMT.out HKL.out (by rw [HKG.out, HPS.out]; exact List.mem_cons_self) ho2 hp2
              have HNX := Lib.hid (hRI.next (by rw [List.length_append]; have := HKL.out; omega) (by
                rw [List.getElem?_append_left HKL.out, HKG.out, HPS.out]
                intro z hz
                have hz : z = y := by simpa using hz
                subst hz
                exact List.mem_append_right _ List.mem_cons_self))
              clear ho2 hp2 hRI hli2
              go_wp2_with fail
              go_roundw
              case rel => exact ⟨k + 1, _, _, by go_num, HNX.out⟩
              case measure => simp [intOf]; omega
          by_cases o5 : a.op = 5
          · rw [o5] at d0
            rw [if_neg o4, if_pos o5] at HPS
            obtain ⟨y, hy⟩ : ∃ y : Nat, a.x = (y : Int) := ⟨a.x.toNat, by have := hxs.1 (.inr o5); omega⟩
            obtain ⟨z, hz⟩ : ∃ z : Nat, a.y = (z : Int) := ⟨a.y.toNat, by have := hxs.2 o5; omega⟩
            rw [hy] at d5
            rw [hz] at d6
            rw [hy, hz, Int.toNat_natCast, Int.toNat_natCast] at HPS
            clear hwa e2 e3 hxs hy hz
            have hym : y < M.length := HPG.out _ (by rw [HPS.out]; exact List.mem_cons_self)
            have hzm : z < M.length := HPG.out _ (by rw [HPS.out]; exact List.mem_cons_of_mem _ List.mem_cons_self)
            have hyI : (y : Int) < (M.length : Int) := by omega
            have hzI : (z : Int) < (M.length : Int) := by omega
            have HYZ := Lib.hid (And.intro hym hzm)
            have c9 := HBC.out _ hym
            have f9 := HFZ.out y
            cases hmt : B'[y]?.getD false with
            | true =>
              rw [hmt] at c9
              have HYIN := Lib.hid ((HI.out.inl _).1 hmt)
              have c8 := HBC.out _ hzm
              have f8 := HFZ.out z
              have hlow2 := hlow
              clear HBC HFZ HPG hmt
              cases hmz : (B')[z]?.getD false with
              | true =>
                rw [hmz] at c8
                have hin := (HI.out.inl _).1 hmz
                have HNX := Lib.hid (HI.out.next (by exact HKL.out) (by
                  rw [HKG.out, HPS.out]
                  intro q hq
                  have hq : q = y ∨ q = z := by simpa using hq
                  rcases hq with rfl | rfl
                  · exact HYIN.out
                  · exact hin))
                clear hmz hin
                go_wp2_with fail
                go_roundw
                case rel => exact ⟨k + 1, _, _, by go_num, HNX.out⟩
                case measure => simp [intOf]; omega
              | false =>
                rw [hmz] at c8
                have hli3 : (wr.setCell ⟨g, z, none⟩ (.bool true)).ownsRow lo 3 1 _ (l).length (cellsN (l)) := own_set_at HI.out.mt HI.out.li (by decide)
                skip
                have HMZ := Lib.hid hmz
                have hsz8 : lo ≤ (wr.setCell ⟨g, z, none⟩ (.bool true)).heap.size := by simpa using hlow2
                clear hmz
                go_upto_region 25 with fail
                obtain ⟨w8, hw8⟩ : ∃ w8, wr.setCell ⟨g, z, none⟩ (.bool true) = w8 := ⟨_, rfl⟩
                rw [hw8] at hli3 hsz8 ⊢
                have HW8 := Lib.hid hw8
                clear hw8
                go_wp2_with (at_builtin; refine wpList_appK (w := w8) rfl (.tmp 114) (.tmp 116) rfl lo _ (l.length) (l) [z] _ rfl rfl rfl hli3 rfl (by simp) hk6 hsz8 ?_)
                intro gn3 cn3 w3 ho3 hp3
                rw [← HW8.out] at hp3
                have hRI3 := HI.out.add HGE.out HLO.out z HYZ.out.2 HMZ.out (by exact HKL.out) (by
                  rw [HKG.out, HPS.out]
                  exact List.mem_cons_of_mem _ List.mem_cons_self) (by exact ho3) hp3
                have HNX := Lib.hid (hRI3.next (by rw [List.length_append]; have := HKL.out; omega) (by
                  rw [List.getElem?_append_left (by exact HKL.out), HKG.out, HPS.out]
                  intro q hq
                  have hq : q = y ∨ q = z := by simpa using hq
                  rcases hq with rfl | rfl
                  · exact List.mem_append_left _ HYIN.out
                  · exact List.mem_append_right _ List.mem_cons_self))
                clear ho3 hp3 hRI3 hli3
                go_wp2_with fail
                go_roundw
                case rel => exact ⟨k + 1, _, _, by go_num, HNX.out⟩
                case measure => simp [intOf]; omega
            | false =>
              rw [hmt] at c9
              have hli2 : (wr.setCell ⟨g, y, none⟩ (.bool true)).ownsRow lo 3 1 _ l.length (cellsN l) := own_set_at HI.out.mt HI.out.li (by decide)
              have HMT := Lib.hid hmt
              have hsz9 : lo ≤ (wr.setCell ⟨g, y, none⟩ (.bool true)).heap.size := by simpa using hlow
              clear HBC HFZ hmt
              go_upto_region 22 with fail
              obtain ⟨w9, hw9⟩ : ∃ w9, wr.setCell ⟨g, y, none⟩ (.bool true) = w9 := ⟨_, rfl⟩
              rw [hw9] at hli2 hsz9 ⊢
              have HW9 := Lib.hid hw9
              clear hw9
              go_wp2_with (at_builtin; refine wpList_appK (w := w9) rfl (.tmp 98) (.tmp 100) rfl lo _ l.length l [y] _ rfl rfl rfl hli2 rfl (by simp) hk6 hsz9 ?_)
              intro gn cn w2 ho2 hp2
              rw [← HW9.out] at hp2
              have hRI := HI.out.add HGE.out HLO.out y HYZ.out.1 HMT.out HKL.out (by rw [HKG.out, HPS.out]; exact List.mem_cons_self) ho2 hp2
              have HI2 := Lib.hid hRI
              have HYIN := Lib.hid (show y ∈ l ++ [y] from List.mem_append_right _ List.mem_cons_self)
              have c8 : w2.cell? ⟨g, z, none⟩ = some (.bool ((B'.set y true)[z]?.getD false)) := by
                rw [hRI.mt.cell, cellsB, List.getElem?_map, List.getElem?_eq_getElem (by rw [hRI.ml]; exact HYZ.out.2)]
                rfl
              have f8 := hRI.mt.frozen z
              have hlow2 : lo ≤ w2.heap.size := Nat.le_trans HLO.out hRI.up.size
              clear ho2 hp2 hRI hli2
              cases hmz : (B'.set y true)[z]?.getD false with
              | true =>
                rw [hmz] at c8
                have hin := (HI2.out.inl _).1 hmz
                have HNX := Lib.hid (HI2.out.next (by rw [List.length_append]; have := HKL.out; omega) (by
                  rw [List.getElem?_append_left HKL.out, HKG.out, HPS.out]
                  intro q hq
                  have hq : q = y ∨ q = z := by simpa using hq
                  rcases hq with rfl | rfl
                  · exact HYIN.out
                  · exact hin))
                clear hmz hin
                go_wp2_with fail
                go_roundw
                case rel => exact ⟨k + 1, _, _, by go_num, HNX.out⟩
                case measure => simp [intOf]; omega
              | false =>
                rw [hmz] at c8
                have hli3 : (w2.setCell ⟨g, z, none⟩ (.bool true)).ownsRow lo 3 1 _ (l ++ [y]).length (cellsN (l ++ [y])) := own_set_at HI2.out.mt HI2.out.li (by decide)
                rw [List.length_append, List.length_singleton] at hli3
                have HMZ := Lib.hid hmz
                have hsz8 : lo ≤ (w2.setCell ⟨g, z, none⟩ (.bool true)).heap.size := by simpa using hlow2
                clear hmz
                go_upto_region 25 with fail
                obtain ⟨w8, hw8⟩ : ∃ w8, w2.setCell ⟨g, z, none⟩ (.bool true) = w8 := ⟨_, rfl⟩
                rw [hw8] at hli3 hsz8 ⊢
                have HW8 := Lib.hid hw8
                clear hw8
                go_wp2_with (at_builtin; refine wpList_appK (w := w8) rfl (.tmp 114) (.tmp 116) rfl lo _ (l.length + 1) (l ++ [y]) [z] _ rfl rfl rfl hli3 rfl (by simp) hk7 hsz8 ?_)
                intro gn3 cn3 w3 ho3 hp3
                rw [← HW8.out] at hp3
                have hRI3 := HI2.out.add HGE.out HLO.out z HYZ.out.2 HMZ.out (by rw [List.length_append]; have := HKL.out; omega) (by
                  rw [List.getElem?_append_left HKL.out, HKG.out, HPS.out]
                  exact List.mem_cons_of_mem _ List.mem_cons_self) (by rw [List.length_append, List.length_singleton]; exact ho3) hp3
                have HNX := Lib.hid (hRI3.next (by rw [List.length_append]; rw [List.length_append]; have := HKL.out; omega) (by
                  rw [List.getElem?_append_left (by rw [List.length_append]; have := HKL.out; omega), List.getElem?_append_left HKL.out, HKG.out, HPS.out]
                  intro q hq
                  have hq : q = y ∨ q = z := by simpa using hq
                  rcases hq with rfl | rfl
                  · exact List.mem_append_left _ HYIN.out
                  · exact List.mem_append_right _ List.mem_cons_self))
                clear ho3 hp3 hRI3 hli3
                go_wp2_with fail
                go_roundw
                case rel => exact ⟨k + 1, _, _, by go_num, HNX.out⟩
                case measure => simp [intOf]; omega
          have e4 : (a.op == 4) = false := beq_eq_false_iff_ne.2 o4
          have e5 : (a.op == 5) = false := beq_eq_false_iff_ne.2 o5
          rw [if_neg o4, if_neg o5] at HPS
          clear o2 o3 o4 o5 hxs
          have HNX := Lib.hid (HI.out.next HKL.out (by rw [HKG.out, HPS.out]; intro y hy; cases hy))
          clear HBC HFZ HPG
          go_wp2_with fail
          go_roundw
          case rel => exact ⟨k + 1, _, _, by go_num, HNX.out⟩
          case measure => simp [intOf]; omega
        · obtain rfl : k = l.length := by omega
          have hkI : ¬ (l.length : Int) < (l.length : Int) := by omega
          clear hri
          go_wp2_with fail
          go_ret
          exact ⟨_, l, rfl, HI.out.li, HI.out.mo, HI.out.up, HI.out.fin, by have := HI.out.cnt; omega⟩
end Go.Proofs.YtfmcjmkdlldlhaaDoor

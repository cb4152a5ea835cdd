/-
  The walk of galleyref08.Search.Ends.
-/
import Derived.Test.YtfmcjmkdlldlhaaDoorLgRk
import Derived.Test.YtfmcjmkdlldlhaaDoorLgWk
import Derived.Deep.RegionHeld3
namespace Go.Proofs.YtfmcjmkdlldlhaaDoor
open Go.RowKit
attribute [local go_sem] Oper.semAt_some

def REndsPost (W : World) (M : List Ins) (tx : List Int) (f : Int) (e : Ending) (W' : World) : Prop :=
  ∃ v, e = .returned v ∧ EndV W' W.heap.size v (endsI M tx f).1 (fun _ => False) ∧ Below W.heap.size W W'
theorem sb_cell8 {w : World} {a : Option Addr} {n c : Nat} {l : List Int} (h : SB w (.slice a n c) l) (i : Nat) (hi : i < l.length) : ∃ b o, a = some ⟨b, o, none⟩ ∧ w.cell? ⟨b, o + i, none⟩ = some (.int .u8 (l[i]?.getD 0)) := by
  obtain ⟨_, a', c', he, _, h3⟩ := h
  simp only [Value.slice.injEq] at he
  obtain ⟨rfl, _, rfl⟩ := he
  rcases h3 with rfl | ⟨b, o, rfl, hc⟩
  · simp at hi
  · exact ⟨b, o, rfl, hc i hi⟩
/-- The loop over the places. -/
structure RE (W wr : World) (M : List Ins) (tx : List Int) (f p : Nat) (go : Nat) (lv : Value) (l : List Nat) (O : List Bool) : Prop where
  bel : Below W.heap.size W wr
  out : At wr go 4 (cellsB O)
  ol : O.length = tx.length + 1
  oq : ∀ q, O[q]?.getD false = true ↔ q < p ∧ IsEnd M tx f q
  li : wr.ownsRow W.heap.size 3 1 lv l.length (cellsN l)
  ent : ∀ i, i ∈ l ↔ Ent M tx f i p
  len : l.length ≤ 65540
  ge : W.heap.size ≤ go
set_option maxRecDepth 100000 in
set_option maxHeartbeats 8000000 in
theorem refEnds_any (W : World) (base : Nat) (M : List Ins) (g : Nat) (h : RSob W base M g) (hM : Mach M) (hR : ∀ x ∈ M, InR x) (tx : List Int) (vt : Value) (ht : SB W vt tx) (f : Int) (hn : tx.length ≤ 4194304) :
    Calls Tryd.prog 15 #[.pointer (some ⟨g, 0, none⟩), vt, .int .i64 f] W (REndsPost W M tx f) := by
  have HST := Lib.hid ht
  obtain ⟨hTB, at', ct, rfl, -, -⟩ := ht
  obtain ⟨mv, hgA, hgb, hmo⟩ := h
  obtain ⟨bm, cm, rfl⟩ := own_some hmo (shaped_parts hM.sh).1
  have z0 : W.cell? ⟨g, 0, none⟩ = some (.slice (some ⟨bm, 0, none⟩) M.length cm) := hgA.cell 0
  have z1 : W.cell? ⟨g, 1, none⟩ = some (.bool true) := hgA.cell 1
  have HGA := Lib.hid hgA
  have HMO := Lib.hid hmo
  have HM := Lib.hid hM
  have HR := Lib.hid hR
  have HTB := Lib.hid hTB
  have HN := Lib.hid hn
  clear hgA hgb hmo hM hR hTB hn
  by_cases ho : outI tx f
  · have hout : REndsPost W M tx f (.returned (.slice none 0 0)) W := by
      refine ⟨_, rfl, .inl ⟨rfl, ?_⟩, Below.refl _ _⟩
      unfold endsI
      rw [if_pos ho]
    have HOUT := Lib.hid hout
    have ho' : f < 0 ∨ (tx.length : Int) < f := ho
    clear ho hout
    go_enter Tryd.func15, Tryd.ntmps15
    by_cases hneg : f < 0
    · have e0 : decide (f < 0) = true := decide_eq_true hneg
      clear ho'
      go_wp2_with fail
      go_ret
      exact HOUT.out
    · have e0 : decide (f < 0) = false := decide_eq_false hneg
      have hgt : (tx.length : Int) < f := by omega
      have e1 : decide ((tx.length : Int) < f) = true := decide_eq_true hgt
      clear ho'
      go_wp2_with fail
      go_ret
      exact HOUT.out
  have ho' : ¬ (f < 0 ∨ (tx.length : Int) < f) := ho
  obtain ⟨f0, rfl⟩ : ∃ k : Nat, f = (k : Int) := ⟨f.toNat, by omega⟩
  have hf0 : f0 ≤ tx.length := by omega
  have HEL := Lib.hid (show endsI M tx (f0 : Int) = endsM M tx f0 by unfold endsI; rw [if_neg ho, Int.toNat_natCast])
  have e0 : decide ((f0 : Int) < 0) = false := decide_eq_false (by omega)
  have e1 : decide ((tx.length : Int) < (f0 : Int)) = false := decide_eq_false (by omega)
  have e1n : decide (tx.length < f0) = false := decide_eq_false (by omega)
  have HF0 := Lib.hid hf0
  clear ho ho' hf0
  have hmk : ∀ w, (Instr.makeSlice 71 (.int .i64 ((tx.length : Int) + 1)) (.int .i64 ((tx.length : Int) + 1))).run Tryd.prog w = .ok (.slice (some ⟨w.heap.size, 0, none⟩) (tx.length + 1) (tx.length + 1)) (w.alloc (.cells (Array.replicate (tx.length + 1) (.bool false)) 4)) := fun w => by
    have h := madeBo w (tx.length + 1) (by have := HN.out; omega)
    rw [show ((tx.length + 1 : Nat) : Int) = (tx.length : Int) + 1 by omega, show (List.replicate (tx.length + 1) (Value.bool false)).toArray = Array.replicate (tx.length + 1) (.bool false) by simp] at h
    exact h
  have hw1 : IntKind.i64.wrap ((tx.length : Int) + 1) = (tx.length : Int) + 1 := IntWalk.i64_in _ (by have := HN.out; omega)
  go_enter Tryd.func15, Tryd.ntmps15
  go_upto_region 4 with fail
  have hA := At.new W 4 (List.replicate (tx.length + 1) (.bool false))
  rw [show (List.replicate (tx.length + 1) (Value.bool false)).toArray = Array.replicate (tx.length + 1) (.bool false) by simp, show List.replicate (tx.length + 1) (Value.bool false) = cellsB (List.replicate (tx.length + 1) false) by simp [cellsB]] at hA
  have hb1 := (Below.refl W.heap.size W).alloc (Nat.le_refl _) (.cells (Array.replicate (tx.length + 1) (.bool false)) 4)
  have HA := Lib.hid hA
  have HB1 := Lib.hid hb1
  clear hA hb1 hmk
  generalize W.alloc (.cells (Array.replicate (tx.length + 1) (.bool false)) 4) = w1 at HA HB1 ⊢
  obtain ⟨go, hgo⟩ : ∃ go, W.heap.size = go := ⟨_, rfl⟩
  have HGO : Hid (W.heap.size ≤ go) := Lib.hid (by omega)
  rw [hgo] at HA ⊢
  clear hgo
  go_upto_region 5 with fail
  have hl1 := own_new w1 W.heap.size 1 3 [.int .i64 0] HB1.out.size (by unfold maxLen; omega) rfl
  have HL1 := Lib.hid hl1
  have HB2 := Lib.hid (HB1.out.alloc HB1.out.size (.cells #[.int .i64 0] 3))
  have HA2 := Lib.hid (HA.out.below ((Below.refl w1.heap.size w1).alloc (Nat.le_refl _) (.cells #[.int .i64 0] 3)))
  clear hl1 HB1 HA
  change Hid (World.ownsRow (w1.alloc (.cells #[.int .i64 0] 3)) W.heap.size 3 1 _ 1 _) at HL1
  generalize w1.alloc (.cells #[.int .i64 0] 3) = w2 at HL1 HB2 HA2 ⊢
  generalize w1.heap.size = b1 at HL1 ⊢
  have HRE := Lib.hid (show RE W w2 M tx f0 f0 go (.slice (some ⟨b1, 0, none⟩) 1 1) [0] (List.replicate (tx.length + 1) false) from
    { bel := HB2.out
      out := HA2.out
      ol := by simp
      oq := fun q => by
        constructor
        · intro h
          rw [List.getElem?_replicate] at h
          split at h <;> cases h
        · rintro ⟨h1, h2⟩
          have := isEnd_le M tx h2
          omega
      li := HL1.out
      ent := fun i => by
        simp only [List.mem_singleton]
        constructor
        · rintro rfl; exact .inl ⟨rfl, rfl⟩
        · rintro (⟨h1, _⟩ | ⟨i', p', h1, h2, h3, h4⟩)
          · exact h1
          · have := run_le M tx h3; omega
      len := by simp
      ge := HGO.out })
  clear HL1 HB2 HA2 z0 z1
  go_wp2_with fail
  go_loopw [8, 9] (fun lv pv wr => ∃ (p : Nat) (l : List Nat) (O : List Bool), pv = .int .i64 p ∧ f0 ≤ p ∧ p ≤ tx.length + 1 ∧ RE W wr M tx f0 p go lv l O) (fun _ pv _ => tx.length + 1 - (intOf pv).toNat)
  case atStart => exact ⟨f0, [0], _, rfl, Nat.le_refl _, by have := HF0.out; omega, HRE.out⟩
  case round =>
    obtain ⟨p, l, O, rfl, hfp, hpn, hre⟩ := hrel
    have HRE := Lib.hid hre
    have HFP := Lib.hid hfp
    have hnN := HN.out
    clear hre hfp
    by_cases hpl : p ≤ tx.length
    · have hpI : (p : Int) ≤ (tx.length : Int) := by omega
      obtain ⟨a0, c0, hv0⟩ := own_shape HRE.out.li
      subst hv0
      have z0 : wr.cell? ⟨g, 0, none⟩ = some (.slice (some ⟨bm, 0, none⟩) M.length cm) := (HGA.out.keep (HRE.out.bel.block g HGA.out.lt)).cell 0
      have HMOr := Lib.hid (own_blk HMO.out fun k hk => HRE.out.bel.block k (World.ownsRow.lt HMO.out k hk).2)
      have HRC := Lib.hid (reach_any wr W.heap.size base M _ _ _ HM.out (fun x hx => (HR.out x hx).1) HMOr.out l _ HRE.out.li (fun x hx => run_lt M tx HM.out.shp.good (((HRE.out.ent x).1 hx).run M tx)) (by have := HRE.out.len; omega) HRE.out.bel.size tx.length p (by omega))
      go_wp2_with fail
      refine HRC.out.mono ?_
      rintro e w3 ⟨v2, l2, rfl, hli2, hmo2, hup2, hmem2, hlen2⟩
      have hrun : ∀ i, i ∈ l2 ↔ Run M tx f0 i p := fun i => by
        rw [hmem2 i]
        constructor
        · rintro ⟨j, h1, h2⟩
          exact run_eps M tx (((HRE.out.ent j).1 h1).run M tx) h2
        · intro h
          obtain ⟨j, h1, h2⟩ := run_ent M tx h
          exact ⟨j, (HRE.out.ent j).2 h1, h2⟩
      have HRUN := Lib.hid hrun
      have hbel3 := hup2.bel _ _ HRE.out.bel (Nat.le_refl _)
      have hou3 : At w3 go 4 (cellsB O) := HRE.out.out.keep (hup2.keep go HRE.out.out.lt fun e => HRE.out.out.ne_own HRE.out.li (by decide) e)
      have hl265 : l2.length ≤ 200000 := by have := HRE.out.len; have := HM.out.shp.len; omega
      have HL2 := Lib.hid hl265
      have hmk2 : ∀ w, (Instr.makeSlice 71 (.int .i64 (M.length : Int)) (.int .i64 (M.length : Int))).run Tryd.prog w = .ok (.slice (some ⟨w.heap.size, 0, none⟩) M.length M.length) (w.alloc (.cells (Array.replicate M.length (.bool false)) 4)) := fun w => by
        have h := madeBo w M.length (by have := HM.out.shp.len; omega)
        rw [show (List.replicate M.length (Value.bool false)).toArray = Array.replicate M.length (.bool false) by simp] at h
        exact h
      obtain ⟨a2, c2, hv2⟩ := own_shape hli2
      subst hv2
      have HLI2 := Lib.hid hli2
      have HOU3 := Lib.hid hou3
      have HBEL3 := Lib.hid hbel3
      have z3 : w3.cell? ⟨g, 0, none⟩ = some (.slice (some ⟨bm, 0, none⟩) M.length cm) := (HGA.out.keep (hbel3.block g HGA.out.lt)).cell 0
      clear hrun hup2 hmem2 hlen2 hmo2 HRC HMOr z0 hli2 hou3 hbel3 hl265
      go_upto_region 11 with fail
      clear hmk2 z3
      have hA := At.new w3 4 (List.replicate M.length (.bool false))
      rw [show (List.replicate M.length (Value.bool false)).toArray = Array.replicate M.length (.bool false) by simp, show List.replicate M.length (Value.bool false) = cellsB (List.replicate M.length false) by simp [cellsB]] at hA
      have hb4 := (Below.refl w3.heap.size w3).alloc (Nat.le_refl _) (.cells (Array.replicate M.length (.bool false)) 4)
      have hgo3 : go < w3.heap.size := HOU3.out.lt
      have hEI : EI W (w3.alloc (.cells (Array.replicate M.length (.bool false)) 4)) W.heap.size M tx f0 p l2 (.slice a2 l2.length c2) go w3.heap.size 0 0 (.slice none 0 0) [] O (List.replicate M.length false) :=
        { bel := HBEL3.out.trans (hb4.mono HBEL3.out.size)
          l2o := own_blk HLI2.out fun k hk => hb4.block k (World.ownsRow.lt HLI2.out k hk).2
          no := World.ownsRow_nil _ _ _ _
          ap := by intro k h1 h2; cases h1
          ou := HOU3.out.below hb4
          ol := HRE.out.ol
          oq := fun q => by rw [HRE.out.oq q]; simp
          ii := hA
          il := by simp
          iq := fun j => by
            rw [List.getElem?_replicate]
            constructor
            · intro h; split at h <;> cases h
            · intro h; cases h
          mem := fun j => by simp
          cnt := by simp [List.countP_replicate]
          gne := ⟨by omega, HRE.out.ge, HBEL3.out.size, Nat.le_refl _, Nat.le_refl _⟩ }
      have HEI := Lib.hid hEI
      clear hA hb4 hgo3 hEI HLI2 HOU3 HBEL3
      generalize w3.alloc (.cells (Array.replicate M.length (.bool false)) 4) = w4 at HEI ⊢
      generalize w3.heap.size = gi at HEI ⊢
      go_wp2_with fail
      go_loopw [10, 12] (fun nv iv wz => ∃ (k : Nat) (nl : List Nat) (O' I' : List Bool), iv = .int .i64 k ∧ k ≤ l2.length ∧ EI W wz W.heap.size M tx f0 p l2 (.slice a2 l2.length c2) go gi k k nv nl O' I') (fun _ iv _ => l2.length - (intOf iv).toNat)
      case atStart => exact ⟨0, [], O, _, rfl, Nat.zero_le _, HEI.out⟩
      case round =>
        obtain ⟨k, nl, O', I', rfl, hk, hei⟩ := hrel
        have HE := Lib.hid hei
        clear HEI
        by_cases hkl : k < l2.length
        · have hkI : (k : Int) < (l2.length : Int) := by omega
          have HKL : Hid (k + 1 ≤ l2.length) := Lib.hid hkl
          have hkw : IntKind.i64.wrap ((k : Int) + 1) = (k : Int) + 1 := IntWalk.i64_in _ (by have := HL2.out; omega)
          obtain ⟨b2, c2', hv2⟩ := own_some hei.l2o (by omega)
          simp only [Value.slice.injEq] at hv2
          obtain ⟨rfl, -, rfl⟩ := hv2
          have hc : wr.cell? ⟨b2, k, none⟩ = some (.int .i64 (l2[k] : Int)) := by
            rw [(own_cell hei.l2o k (by simpa [cellsN] using hkl)).1, cellsN, List.getElem?_map, List.getElem?_eq_getElem hkl]
            rfl
          have hxm : l2[k] < M.length := run_lt M tx HM.out.shp.good ((HRUN.out _).1 (List.getElem_mem hkl))
          obtain ⟨a, ha⟩ : ∃ a, M[l2[k]]? = some a := ⟨_, List.getElem?_eq_getElem hxm⟩
          have hC := HM.out.cls a (List.mem_of_getElem? ha)
          obtain ⟨p0, p1, p2, p3, hp⟩ := isC_words a.set hC
          have HX := Lib.hid (And.intro ha hp)
          have har := (HR.out a (List.mem_of_getElem? ha)).1
          have hwa : wrap64 a.op = a.op := by unfold wrap64; omega
          have hwo : IntKind.i64.wrap a.op = a.op := IntWalk.i64_in _ (by omega)
          have hwo6 : IntKind.i64.wrap 6 = 6 := IntWalk.i64_in _ (by omega)
          have hwo1 : IntKind.i64.wrap 1 = 1 := IntWalk.i64_in _ (by omega)
          have hnx : takesB M tx p l2[k] = true → l2[k] + 1 < M.length := HM.out.shp.good.next tx p _
          have hdn : isDone M l2[k] = decide (a.op = 6) := by unfold isDone; rw [ha]
          have htk : takesB M tx p l2[k] = (decide (a.op = 1) && decide (p < tx.length) && hasL a.set (tx[p]?.getD 0).toNat) := by unfold takesB; rw [ha]
          have HD := Lib.hid (And.intro hnx (And.intro hdn htk))
          have HDY := Lib.hid (fun (h : isDone M l2[k] = true) => hei.done_yes hkl h (by omega))
          have HDN := Lib.hid (fun (h : isDone M l2[k] = false) => hei.done_no hkl h)
          have hof : wr.frozen? ⟨go, p, none⟩ = false := hei.ou.frozen p
          have hoc : wr.cell? ⟨go, p, none⟩ = some (.bool (O'[p]?.getD false)) := by
            rw [hei.ou.cell, cellsB, List.getElem?_map, List.getElem?_eq_getElem (by rw [hei.ol]; omega)]
            rfl
          have hpn1 : (p : Int) < (tx.length : Int) + 1 := by omega
          generalize hX : l2[k] = x at hxm hc HX HD HDY HDN
          have HXK := Lib.hid hX
          have hxI : (x : Int) < (M.length : Int) := by omega
          have hxw : IntKind.i64.wrap ((x : Int) + 1) = (x : Int) + 1 := IntWalk.i64_in _ (by have := HM.out.shp.len; omega)
          clear ha hp har hei hX hnx hdn htk hC
          by_cases o6 : a.op = 6
          · have HE6 := Lib.hid (HDY.out (by rw [HD.out.2.1, o6]; rfl))
            have z0 : wr.cell? ⟨g, 0, none⟩ = some (.slice (some ⟨bm, 0, none⟩) M.length cm) := (HGA.out.keep (HE.out.bel.block g HGA.out.lt)).cell 0
            obtain ⟨b', off', hb', d0, d1, d2, d3, d4, -, -⟩ := (MI.own HM.out.cls (own_blk HMO.out fun k hk => HE.out.bel.block k (World.ownsRow.lt HMO.out k hk).2)).instr HX.out.1 HX.out.2
            simp only [Option.some.injEq, Addr.mk.injEq, and_true] at hb'
            obtain ⟨rfl, rfl⟩ := hb'
            rw [Nat.zero_add] at d0 d1 d2 d3 d4
            rw [o6] at d0
            clear hwa HDY HDN
            go_upto_region 17 with fail
            have HTN := Lib.hid (show takesB M tx p l2[k] = false by rw [HXK.out, HD.out.2.2, o6]; rfl)
            obtain ⟨w6, hw6⟩ : ∃ w6, wr.setCell ⟨go, p, none⟩ (.bool true) = w6 := ⟨_, rfl⟩
            rw [hw6] at HE6 ⊢
            clear hw6 z0 d0 d1 d2 d3 d4 hc hof hoc
            have z0 : w6.cell? ⟨g, 0, none⟩ = some (.slice (some ⟨bm, 0, none⟩) M.length cm) := (HGA.out.keep (HE6.out.bel.block g HGA.out.lt)).cell 0
            obtain ⟨b', off', hb', d0, d1, d2, d3, d4, -, -⟩ := (MI.own HM.out.cls (own_blk HMO.out fun k hk => HE6.out.bel.block k (World.ownsRow.lt HMO.out k hk).2)).instr HX.out.1 HX.out.2
            simp only [Option.some.injEq, Addr.mk.injEq, and_true] at hb'
            obtain ⟨rfl, rfl⟩ := hb'
            rw [Nat.zero_add] at d0 d1 d2 d3 d4
            rw [o6] at d0
            clear o6
            have HSt : Hid (∀ w', Below w6.heap.size w6 w' → Below w6.heap.size w6 w' ∧ w'.cell? ⟨g, 0, none⟩ = some (.slice (some ⟨bm, 0, none⟩) M.length cm) ∧ w'.cell? ⟨bm, x * 7, none⟩ = some (.int .i8 6) ∧ w'.cell? ⟨bm, x * 7 + 1, none⟩ = some (.int .u64 (p0 : Int)) ∧ w'.cell? ⟨bm, x * 7 + 2, none⟩ = some (.int .u64 (p1 : Int)) ∧ w'.cell? ⟨bm, x * 7 + 3, none⟩ = some (.int .u64 (p2 : Int)) ∧ w'.cell? ⟨bm, x * 7 + 4, none⟩ = some (.int .u64 (p3 : Int)) ∧ True ∧ True) := Lib.hid fun w' hb => by
              have hk : ∀ (b o : Nat) (u : Value), w6.cell? ⟨b, o, none⟩ = some u → w'.cell? ⟨b, o, none⟩ = some u := fun b o u h => by rw [hb.cell (World.block_lt_of_cell? w6 _ h)]; exact h
              exact ⟨hb, hk _ _ _ z0, hk _ _ _ d0, hk _ _ _ d1, hk _ _ _ d2, hk _ _ _ d3, hk _ _ _ d4, trivial, trivial⟩
            have hst : Below w6.heap.size w6 w6.drew ∧ w6.drew.cell? ⟨g, 0, none⟩ = some (.slice (some ⟨bm, 0, none⟩) M.length cm) ∧ w6.drew.cell? ⟨bm, x * 7, none⟩ = some (.int .i8 6) ∧ w6.drew.cell? ⟨bm, x * 7 + 1, none⟩ = some (.int .u64 (p0 : Int)) ∧ w6.drew.cell? ⟨bm, x * 7 + 2, none⟩ = some (.int .u64 (p1 : Int)) ∧ w6.drew.cell? ⟨bm, x * 7 + 3, none⟩ = some (.int .u64 (p2 : Int)) ∧ w6.drew.cell? ⟨bm, x * 7 + 4, none⟩ = some (.int .u64 (p3 : Int)) ∧ True ∧ True := HSt.out _ (below_drewN (Below.refl _ w6) 1)
            clear z0 d0 d1 d2 d3 d4
            refine wp_region_held_drew (S := fun w' => Below w6.heap.size w6 w' ∧ w'.cell? ⟨g, 0, none⟩ = some (.slice (some ⟨bm, 0, none⟩) M.length cm) ∧ w'.cell? ⟨bm, x * 7, none⟩ = some (.int .i8 6) ∧ w'.cell? ⟨bm, x * 7 + 1, none⟩ = some (.int .u64 (p0 : Int)) ∧ w'.cell? ⟨bm, x * 7 + 2, none⟩ = some (.int .u64 (p1 : Int)) ∧ w'.cell? ⟨bm, x * 7 + 3, none⟩ = some (.int .u64 (p2 : Int)) ∧ w'.cell? ⟨bm, x * 7 + 4, none⟩ = some (.int .u64 (p3 : Int)) ∧ True ∧ True) (by kernel_rfl) hst (fun hHeld => ?_)
            refine wpAnyH_take (i := 0) (v := .pointer (some ⟨g, 0, none⟩)) rfl (by kernel_rfl) (by kernel_rfl) (by kernel_rfl) (fun _ _ _ h => h) (Or.inl ⟨by rfl, by intro w hSw; obtain ⟨hbS, s0, s1, s2, s3, s4, s5, s6, s7⟩ := hSw; clear hbS; go_simp⟩) (by assumption) ?_
            simp only [Act.put, List.getElem_toArray, List.getElem_cons_zero, List.setIfInBounds_toArray, List.set_cons_zero, List.set_cons_succ]
            refine wpAnyH_take (i := 1) (v := .pointer (some ⟨g, 0, none⟩)) rfl (by kernel_rfl) (by kernel_rfl) (by kernel_rfl) (fun _ _ _ h => h) (Or.inl ⟨by rfl, by intro w hSw; obtain ⟨hbS, s0, s1, s2, s3, s4, s5, s6, s7⟩ := hSw; clear hbS; go_simp⟩) (by assumption) ?_
            simp only [Act.put, List.getElem_toArray, List.getElem_cons_zero, List.getElem_cons_succ, List.setIfInBounds_toArray, List.set_cons_zero, List.set_cons_succ]
            refine wpAnyH_take (i := 2) (v := .pointer (some ⟨g, 0, none⟩)) rfl (by kernel_rfl) (by kernel_rfl) (by kernel_rfl) (fun _ _ _ h => h) (Or.inl ⟨by rfl, by intro w hSw; obtain ⟨hbS, s0, s1, s2, s3, s4, s5, s6, s7⟩ := hSw; clear hbS; go_simp⟩) (by assumption) ?_
            simp only [Act.put, List.getElem_toArray, List.getElem_cons_zero, List.getElem_cons_succ, List.setIfInBounds_toArray, List.set_cons_zero, List.set_cons_succ]
            refine wpAnyH_take (i := 3) (v := .slice (some ⟨bm, 0, none⟩) M.length cm) rfl (by kernel_rfl) (by kernel_rfl) (by kernel_rfl) (fun _ _ _ h => h) (Or.inl ⟨by rfl, by intro w hSw; obtain ⟨hbS, s0, s1, s2, s3, s4, s5, s6, s7⟩ := hSw; clear hbS; go_simp⟩) (by assumption) ?_
            simp only [Act.put, List.getElem_toArray, List.getElem_cons_zero, List.getElem_cons_succ, List.setIfInBounds_toArray, List.set_cons_zero, List.set_cons_succ]
            refine wpAnyH_take (i := 4) (v := .int .i64 (x : Int)) rfl (by kernel_rfl) (by kernel_rfl) (by kernel_rfl) (fun _ _ _ h => h) (Or.inl ⟨by rfl, by intro w hSw; obtain ⟨hbS, s0, s1, s2, s3, s4, s5, s6, s7⟩ := hSw; clear hbS; go_simp⟩) (by assumption) ?_
            simp only [Act.put, List.getElem_toArray, List.getElem_cons_zero, List.getElem_cons_succ, List.setIfInBounds_toArray, List.set_cons_zero, List.set_cons_succ]
            refine wpAnyH_take (i := 5) (v := .pointer (some ⟨bm, x * 7, none⟩)) rfl (by kernel_rfl) (by kernel_rfl) (by kernel_rfl) (fun _ _ _ h => h) (Or.inl ⟨by rfl, by intro w hSw; obtain ⟨hbS, s0, s1, s2, s3, s4, s5, s6, s7⟩ := hSw; clear hbS; go_simp⟩) (by assumption) ?_
            simp only [Act.put, List.getElem_toArray, List.getElem_cons_zero, List.getElem_cons_succ, List.setIfInBounds_toArray, List.set_cons_zero, List.set_cons_succ]
            refine wpAnyH_take (i := 6) (v := .pointer (some ⟨bm, x * 7, none⟩)) rfl (by kernel_rfl) (by kernel_rfl) (by kernel_rfl) (fun _ _ _ h => h) (Or.inl ⟨by rfl, by intro w hSw; obtain ⟨hbS, s0, s1, s2, s3, s4, s5, s6, s7⟩ := hSw; clear hbS; go_simp⟩) (by assumption) ?_
            simp only [Act.put, List.getElem_toArray, List.getElem_cons_zero, List.getElem_cons_succ, List.setIfInBounds_toArray, List.set_cons_zero, List.set_cons_succ]
            refine wpAnyH_take (i := 7) (v := .int .i8 6) rfl (by kernel_rfl) (by kernel_rfl) (by kernel_rfl) (fun _ _ _ h => h) (Or.inl ⟨by rfl, by intro w hSw; obtain ⟨hbS, s0, s1, s2, s3, s4, s5, s6, s7⟩ := hSw; clear hbS; go_simp⟩) (by assumption) ?_
            simp only [Act.put, List.getElem_toArray, List.getElem_cons_zero, List.getElem_cons_succ, List.setIfInBounds_toArray, List.set_cons_zero, List.set_cons_succ]
            refine wpAnyH_take (i := 8) (v := .int .i64 6) rfl (by kernel_rfl) (by kernel_rfl) (by kernel_rfl) (fun _ _ _ h => h) (Or.inl ⟨by rfl, by intro w hSw; obtain ⟨hbS, s0, s1, s2, s3, s4, s5, s6, s7⟩ := hSw; clear hbS; go_simp⟩) (by assumption) ?_
            simp only [Act.put, List.getElem_toArray, List.getElem_cons_zero, List.getElem_cons_succ, List.setIfInBounds_toArray, List.set_cons_zero, List.set_cons_succ]
            refine wpAnyH_take (i := 9) (v := .bool false) rfl (by kernel_rfl) (by kernel_rfl) (by kernel_rfl) (fun _ _ _ h => h) (Or.inl ⟨by rfl, by intro w hSw; obtain ⟨hbS, s0, s1, s2, s3, s4, s5, s6, s7⟩ := hSw; clear hbS; go_simp⟩) (by assumption) ?_
            simp only [Act.put, List.getElem_toArray, List.getElem_cons_zero, List.getElem_cons_succ, List.setIfInBounds_toArray, List.set_cons_zero, List.set_cons_succ]
            refine wpAnyH_take (i := 10) (v := .bool false) rfl (by kernel_rfl) (by kernel_rfl) (by kernel_rfl) (fun _ _ _ h => h) (Or.inl ⟨by rfl, by intro w hSw; obtain ⟨hbS, s0, s1, s2, s3, s4, s5, s6, s7⟩ := hSw; clear hbS; go_simp⟩) (by assumption) ?_
            simp only [Act.put, List.getElem_toArray, List.getElem_cons_zero, List.getElem_cons_succ, List.setIfInBounds_toArray, List.set_cons_zero, List.set_cons_succ]
            refine wpAnyH_take (i := 11) (v := undef) rfl (by kernel_rfl) (by kernel_rfl) (by kernel_rfl) (fun _ _ _ h => h) (Or.inr ⟨by rfl, rfl⟩) (by assumption) ?_
            simp only [Act.put, List.getElem_toArray, List.getElem_cons_zero, List.getElem_cons_succ, List.setIfInBounds_toArray, List.set_cons_zero, List.set_cons_succ]
            refine wpAnyH_take (i := 12) (v := undef) rfl (by kernel_rfl) (by kernel_rfl) (by kernel_rfl) (fun _ _ _ h => h) (Or.inr ⟨by rfl, rfl⟩) (by assumption) ?_
            simp only [Act.put, List.getElem_toArray, List.getElem_cons_zero, List.getElem_cons_succ, List.setIfInBounds_toArray, List.set_cons_zero, List.set_cons_succ]
            refine wpAnyH_take (i := 13) (v := undef) rfl (by kernel_rfl) (by kernel_rfl) (by kernel_rfl) (fun _ _ _ h => h) (Or.inr ⟨by rfl, rfl⟩) (by assumption) ?_
            simp only [Act.put, List.getElem_toArray, List.getElem_cons_zero, List.getElem_cons_succ, List.setIfInBounds_toArray, List.set_cons_zero, List.set_cons_succ]
            refine wpAnyH_take (i := 14) (v := undef) rfl (by kernel_rfl) (by kernel_rfl) (by kernel_rfl) (fun _ _ _ h => h) (Or.inr ⟨by rfl, rfl⟩) (by assumption) ?_
            simp only [Act.put, List.getElem_toArray, List.getElem_cons_zero, List.getElem_cons_succ, List.setIfInBounds_toArray, List.set_cons_zero, List.set_cons_succ]
            refine wpAnyH_take (i := 15) (v := .bool false) rfl (by kernel_rfl) (by kernel_rfl) (by kernel_rfl) (fun _ _ _ h => h) (Or.inl ⟨by rfl, by intro w hSw; obtain ⟨hbS, s0, s1, s2, s3, s4, s5, s6, s7⟩ := hSw; clear hbS; go_simp⟩) (by assumption) ?_
            simp only [Act.put, List.getElem_toArray, List.getElem_cons_zero, List.getElem_cons_succ, List.setIfInBounds_toArray, List.set_cons_zero, List.set_cons_succ]
            refine wpAnyH_take (i := 16) (v := .bool false) rfl (by kernel_rfl) (by kernel_rfl) (by kernel_rfl) (fun _ _ _ h => h) (Or.inl ⟨by rfl, by intro w hSw; obtain ⟨hbS, s0, s1, s2, s3, s4, s5, s6, s7⟩ := hSw; clear hbS; go_simp⟩) (by assumption) ?_
            simp only [Act.put, List.getElem_toArray, List.getElem_cons_zero, List.getElem_cons_succ, List.setIfInBounds_toArray, List.set_cons_zero, List.set_cons_succ]
            refine wpAnyH_take (i := 17) (v := undef) rfl (by kernel_rfl) (by kernel_rfl) (by kernel_rfl) (fun _ _ _ h => h) (Or.inr ⟨by rfl, rfl⟩) (by assumption) ?_
            simp only [Act.put, List.getElem_toArray, List.getElem_cons_zero, List.getElem_cons_succ, List.setIfInBounds_toArray, List.set_cons_zero, List.set_cons_succ]
            refine wpAnyH_take (i := 18) (v := undef) rfl (by kernel_rfl) (by kernel_rfl) (by kernel_rfl) (fun _ _ _ h => h) (Or.inr ⟨by rfl, rfl⟩) (by assumption) ?_
            simp only [Act.put, List.getElem_toArray, List.getElem_cons_zero, List.getElem_cons_succ, List.setIfInBounds_toArray, List.set_cons_zero, List.set_cons_succ]
            refine wpAnyH_take (i := 19) (v := undef) rfl (by kernel_rfl) (by kernel_rfl) (by kernel_rfl) (fun _ _ _ h => h) (Or.inr ⟨by rfl, rfl⟩) (by assumption) ?_
            simp only [Act.put, List.getElem_toArray, List.getElem_cons_zero, List.getElem_cons_succ, List.setIfInBounds_toArray, List.set_cons_zero, List.set_cons_succ]
            refine wpAnyH_take (i := 20) (v := undef) rfl (by kernel_rfl) (by kernel_rfl) (by kernel_rfl) (fun _ _ _ h => h) (Or.inr ⟨by rfl, rfl⟩) (by assumption) ?_
            simp only [Act.put, List.getElem_toArray, List.getElem_cons_zero, List.getElem_cons_succ, List.setIfInBounds_toArray, List.set_cons_zero, List.set_cons_succ]
            refine wpAnyH_take (i := 21) (v := undef) rfl (by kernel_rfl) (by kernel_rfl) (by kernel_rfl) (fun _ _ _ h => h) (Or.inr ⟨by rfl, rfl⟩) (by assumption) ?_
            simp only [Act.put, List.getElem_toArray, List.getElem_cons_zero, List.getElem_cons_succ, List.setIfInBounds_toArray, List.set_cons_zero, List.set_cons_succ]
            refine wpAnyH_take (i := 22) (v := undef) rfl (by kernel_rfl) (by kernel_rfl) (by kernel_rfl) (fun _ _ _ h => h) (Or.inr ⟨by rfl, rfl⟩) (by assumption) ?_
            simp only [Act.put, List.getElem_toArray, List.getElem_cons_zero, List.getElem_cons_succ, List.setIfInBounds_toArray, List.set_cons_zero, List.set_cons_succ]
            refine wpAnyH_take (i := 23) (v := undef) rfl (by kernel_rfl) (by kernel_rfl) (by kernel_rfl) (fun _ _ _ h => h) (Or.inr ⟨by rfl, rfl⟩) (by assumption) ?_
            simp only [Act.put, List.getElem_toArray, List.getElem_cons_zero, List.getElem_cons_succ, List.setIfInBounds_toArray, List.set_cons_zero, List.set_cons_succ]
            refine wpAnyH_take (i := 24) (v := undef) rfl (by kernel_rfl) (by kernel_rfl) (by kernel_rfl) (fun _ _ _ h => h) (Or.inr ⟨by rfl, rfl⟩) (by assumption) ?_
            simp only [Act.put, List.getElem_toArray, List.getElem_cons_zero, List.getElem_cons_succ, List.setIfInBounds_toArray, List.set_cons_zero, List.set_cons_succ]
            refine wpAnyH_take (i := 25) (v := undef) rfl (by kernel_rfl) (by kernel_rfl) (by kernel_rfl) (fun _ _ _ h => h) (Or.inr ⟨by rfl, rfl⟩) (by assumption) ?_
            simp only [Act.put, List.getElem_toArray, List.getElem_cons_zero, List.getElem_cons_succ, List.setIfInBounds_toArray, List.set_cons_zero, List.set_cons_succ]
            refine wpAnyH_take (i := 26) (v := undef) rfl (by kernel_rfl) (by kernel_rfl) (by kernel_rfl) (fun _ _ _ h => h) (Or.inr ⟨by rfl, rfl⟩) (by assumption) ?_
            simp only [Act.put, List.getElem_toArray, List.getElem_cons_zero, List.getElem_cons_succ, List.setIfInBounds_toArray, List.set_cons_zero, List.set_cons_succ]
            refine wpAnyH_take (i := 27) (v := undef) rfl (by kernel_rfl) (by kernel_rfl) (by kernel_rfl) (fun _ _ _ h => h) (Or.inr ⟨by rfl, rfl⟩) (by assumption) ?_
            simp only [Act.put, List.getElem_toArray, List.getElem_cons_zero, List.getElem_cons_succ, List.setIfInBounds_toArray, List.set_cons_zero, List.set_cons_succ]
            refine wpAnyH_take (i := 28) (v := undef) rfl (by kernel_rfl) (by kernel_rfl) (by kernel_rfl) (fun _ _ _ h => h) (Or.inr ⟨by rfl, rfl⟩) (by assumption) ?_
            simp only [Act.put, List.getElem_toArray, List.getElem_cons_zero, List.getElem_cons_succ, List.setIfInBounds_toArray, List.set_cons_zero, List.set_cons_succ]
            refine wpAnyH_take (i := 29) (v := undef) rfl (by kernel_rfl) (by kernel_rfl) (by kernel_rfl) (fun _ _ _ h => h) (Or.inr ⟨by rfl, rfl⟩) (by assumption) ?_
            simp only [Act.put, List.getElem_toArray, List.getElem_cons_zero, List.getElem_cons_succ, List.setIfInBounds_toArray, List.set_cons_zero, List.set_cons_succ]
            refine wpAnyH_take (i := 30) (v := .bool false) rfl (by kernel_rfl) (by kernel_rfl) (by kernel_rfl) (fun _ _ _ h => h) (Or.inl ⟨by rfl, by intro w hSw; obtain ⟨hbS, s0, s1, s2, s3, s4, s5, s6, s7⟩ := hSw; clear hbS; go_simp⟩) (by assumption) ?_
            simp only [Act.put, List.getElem_toArray, List.getElem_cons_zero, List.getElem_cons_succ, List.setIfInBounds_toArray, List.set_cons_zero, List.set_cons_succ]
            refine wpAnyH_take (i := 31) (v := .bool false) rfl (by kernel_rfl) (by kernel_rfl) (by kernel_rfl) (fun _ _ _ h => h) (Or.inl ⟨by rfl, by intro w hSw; obtain ⟨hbS, s0, s1, s2, s3, s4, s5, s6, s7⟩ := hSw; clear hbS; go_simp⟩) (by assumption) ?_
            simp only [Act.put, List.getElem_toArray, List.getElem_cons_zero, List.getElem_cons_succ, List.setIfInBounds_toArray, List.set_cons_zero, List.set_cons_succ]
            refine wpAnyH_take (i := 32) (v := undef) rfl (by kernel_rfl) (by kernel_rfl) (by kernel_rfl) (fun _ _ _ h => h) (Or.inr ⟨by rfl, rfl⟩) (by assumption) ?_
            simp only [Act.put, List.getElem_toArray, List.getElem_cons_zero, List.getElem_cons_succ, List.setIfInBounds_toArray, List.set_cons_zero, List.set_cons_succ]
            refine wpAnyH_take (i := 33) (v := undef) rfl (by kernel_rfl) (by kernel_rfl) (by kernel_rfl) (fun _ _ _ h => h) (Or.inr ⟨by rfl, rfl⟩) (by assumption) ?_
            simp only [Act.put, List.getElem_toArray, List.getElem_cons_zero, List.getElem_cons_succ, List.setIfInBounds_toArray, List.set_cons_zero, List.set_cons_succ]
            refine wpAnyH_take (i := 34) (v := undef) rfl (by kernel_rfl) (by kernel_rfl) (by kernel_rfl) (fun _ _ _ h => h) (Or.inr ⟨by rfl, rfl⟩) (by assumption) ?_
            simp only [Act.put, List.getElem_toArray, List.getElem_cons_zero, List.getElem_cons_succ, List.setIfInBounds_toArray, List.set_cons_zero, List.set_cons_succ]
            refine wpAnyH_take (i := 35) (v := undef) rfl (by kernel_rfl) (by kernel_rfl) (by kernel_rfl) (fun _ _ _ h => h) (Or.inr ⟨by rfl, rfl⟩) (by assumption) ?_
            simp only [Act.put, List.getElem_toArray, List.getElem_cons_zero, List.getElem_cons_succ, List.setIfInBounds_toArray, List.set_cons_zero, List.set_cons_succ]
            refine wpAnyH_take (i := 36) (v := undef) rfl (by kernel_rfl) (by kernel_rfl) (by kernel_rfl) (fun _ _ _ h => h) (Or.inr ⟨by rfl, rfl⟩) (by assumption) ?_
            simp only [Act.put, List.getElem_toArray, List.getElem_cons_zero, List.getElem_cons_succ, List.setIfInBounds_toArray, List.set_cons_zero, List.set_cons_succ]
            refine wpAnyH_take (i := 37) (v := undef) rfl (by kernel_rfl) (by kernel_rfl) (by kernel_rfl) (fun _ _ _ h => h) (Or.inr ⟨by rfl, rfl⟩) (by assumption) ?_
            simp only [Act.put, List.getElem_toArray, List.getElem_cons_zero, List.getElem_cons_succ, List.setIfInBounds_toArray, List.set_cons_zero, List.set_cons_succ]
            refine wpAnyH_take (i := 38) (v := .bool false) rfl (by kernel_rfl) (by kernel_rfl) (by kernel_rfl) (fun _ _ _ h => h) (Or.inl ⟨by rfl, by intro w hSw; obtain ⟨hbS, s0, s1, s2, s3, s4, s5, s6, s7⟩ := hSw; clear hbS; go_simp⟩) (by assumption) ?_
            simp only [Act.put, List.getElem_toArray, List.getElem_cons_zero, List.getElem_cons_succ, List.setIfInBounds_toArray, List.set_cons_zero, List.set_cons_succ]
            refine wpAnyH_done (by kernel_rfl) ?_ _
            have HEz := Lib.hid ((HE6.out.tk_no HKL.out HTN.out).below hHeld.1)
            clear hHeld HSt
            go_wp2_with fail
            go_roundw
            case rel => exact ⟨k + 1, _, _, _, by go_num, HKL.out, HEz.out⟩
            case measure => simp [intOf]; omega
          have HE6 := Lib.hid (HDN.out (by rw [HD.out.2.1, decide_eq_false o6]))
          have e6 : (a.op == 6) = false := beq_eq_false_iff_ne.2 o6
          have z0 : wr.cell? ⟨g, 0, none⟩ = some (.slice (some ⟨bm, 0, none⟩) M.length cm) := (HGA.out.keep (HE.out.bel.block g HGA.out.lt)).cell 0
          obtain ⟨b', off', hb', d0, d1, d2, d3, d4, -, -⟩ := (MI.own HM.out.cls (own_blk HMO.out fun k hk => HE.out.bel.block k (World.ownsRow.lt HMO.out k hk).2)).instr HX.out.1 HX.out.2
          simp only [Option.some.injEq, Addr.mk.injEq, and_true] at hb'
          obtain ⟨rfl, rfl⟩ := hb'
          rw [Nat.zero_add] at d0 d1 d2 d3 d4
          clear HDY HDN o6
          by_cases o1 : a.op = 1
          · rw [o1] at d0
            clear hwa e6
            have HTK := Lib.hid (show takesB M tx p x = (decide (p < tx.length) && hasL a.set (tx[p]?.getD 0).toNat) by rw [HD.out.2.2, o1]; simp)
            go_upto_region 17 with fail
            clear hc hof hoc
            by_cases hpn2 : p < tx.length
            · obtain ⟨bt, ot, rfl, zt⟩ := sb_cell8 (HST.out.below HE6.out.bel) p hpn2
              have hcr := HTB.out p
              obtain ⟨c, hcc⟩ : ∃ c : Nat, tx[p]?.getD 0 = (c : Int) := ⟨(tx[p]?.getD 0).toNat, by omega⟩
              rw [hcc] at zt
              have hc256 : c < 256 := by omega
              have hd2 : decide ((p : Int) < (tx.length : Int)) = true := decide_eq_true (by omega)
              have hd2n : decide (p < tx.length) = true := decide_eq_true hpn2
              rw [hcc, Int.toNat_natCast, hd2n, Bool.true_and] at HTK
              have hhas := fun w => refHas8_any w a.set (HM.out.cls a (List.mem_of_getElem? HX.out.1)) c hc256
              rw [HX.out.2] at hhas
              generalize hh : hasL a.set c = hv at HTK
              rw [← HX.out.2, hh] at hhas
              rw [HX.out.2] at hhas
              cases hv with
              | false =>
                have HHAS : Hid (∀ w, Calls Tryd.prog 34 #[.agg #[.int .u64 (p0 : Int), .int .u64 (p1 : Int), .int .u64 (p2 : Int), .int .u64 (p3 : Int)], .int .u8 (c : Int)] w fun e w' => e = .returned (.bool false) ∧ Below w.heap.size w w') := Lib.hid hhas
                clear hhas hh hcc hcr hc256
                have HTN := Lib.hid (show takesB M tx p l2[k] = false by rw [HXK.out]; exact HTK.out)
                have HSt : Hid (∀ w', Below wr.heap.size wr w' → Below wr.heap.size wr w' ∧ w'.cell? ⟨g, 0, none⟩ = some (.slice (some ⟨bm, 0, none⟩) M.length cm) ∧ w'.cell? ⟨bm, x * 7, none⟩ = some (.int .i8 1) ∧ w'.cell? ⟨bm, x * 7 + 1, none⟩ = some (.int .u64 (p0 : Int)) ∧ w'.cell? ⟨bm, x * 7 + 2, none⟩ = some (.int .u64 (p1 : Int)) ∧ w'.cell? ⟨bm, x * 7 + 3, none⟩ = some (.int .u64 (p2 : Int)) ∧ w'.cell? ⟨bm, x * 7 + 4, none⟩ = some (.int .u64 (p3 : Int)) ∧ (w'.cell? ⟨bt, ot + p, none⟩ = some (.int .u8 (c : Int))) ∧ True) := Lib.hid fun w' hb => by
                  have hk : ∀ (b o : Nat) (u : Value), wr.cell? ⟨b, o, none⟩ = some u → w'.cell? ⟨b, o, none⟩ = some u := fun b o u h => by rw [hb.cell (World.block_lt_of_cell? wr _ h)]; exact h
                  exact ⟨hb, hk _ _ _ z0, hk _ _ _ d0, hk _ _ _ d1, hk _ _ _ d2, hk _ _ _ d3, hk _ _ _ d4, hk _ _ _ zt, trivial⟩
                have hst : Below wr.heap.size wr wr.drew ∧ wr.drew.cell? ⟨g, 0, none⟩ = some (.slice (some ⟨bm, 0, none⟩) M.length cm) ∧ wr.drew.cell? ⟨bm, x * 7, none⟩ = some (.int .i8 1) ∧ wr.drew.cell? ⟨bm, x * 7 + 1, none⟩ = some (.int .u64 (p0 : Int)) ∧ wr.drew.cell? ⟨bm, x * 7 + 2, none⟩ = some (.int .u64 (p1 : Int)) ∧ wr.drew.cell? ⟨bm, x * 7 + 3, none⟩ = some (.int .u64 (p2 : Int)) ∧ wr.drew.cell? ⟨bm, x * 7 + 4, none⟩ = some (.int .u64 (p3 : Int)) ∧ (wr.drew.cell? ⟨bt, ot + p, none⟩ = some (.int .u8 (c : Int))) ∧ True := HSt.out _ (below_drewN (Below.refl _ wr) 1)
                clear z0 d0 d1 d2 d3 d4 zt
                refine wp_region_held_drew (S := fun w' => Below wr.heap.size wr w' ∧ w'.cell? ⟨g, 0, none⟩ = some (.slice (some ⟨bm, 0, none⟩) M.length cm) ∧ w'.cell? ⟨bm, x * 7, none⟩ = some (.int .i8 1) ∧ w'.cell? ⟨bm, x * 7 + 1, none⟩ = some (.int .u64 (p0 : Int)) ∧ w'.cell? ⟨bm, x * 7 + 2, none⟩ = some (.int .u64 (p1 : Int)) ∧ w'.cell? ⟨bm, x * 7 + 3, none⟩ = some (.int .u64 (p2 : Int)) ∧ w'.cell? ⟨bm, x * 7 + 4, none⟩ = some (.int .u64 (p3 : Int)) ∧ (w'.cell? ⟨bt, ot + p, none⟩ = some (.int .u8 (c : Int))) ∧ True) (by kernel_rfl) hst (fun hHeld => ?_)
                refine wpAnyH_take (i := 0) (v := .pointer (some ⟨g, 0, none⟩)) rfl (by kernel_rfl) (by kernel_rfl) (by kernel_rfl) (fun _ _ _ h => h) (Or.inl ⟨by rfl, by intro w hSw; obtain ⟨hbS, s0, s1, s2, s3, s4, s5, s6, s7⟩ := hSw; clear hbS; go_simp⟩) (by assumption) ?_
                simp only [Act.put, List.getElem_toArray, List.getElem_cons_zero, List.setIfInBounds_toArray, List.set_cons_zero, List.set_cons_succ]
                refine wpAnyH_take (i := 1) (v := .pointer (some ⟨g, 0, none⟩)) rfl (by kernel_rfl) (by kernel_rfl) (by kernel_rfl) (fun _ _ _ h => h) (Or.inl ⟨by rfl, by intro w hSw; obtain ⟨hbS, s0, s1, s2, s3, s4, s5, s6, s7⟩ := hSw; clear hbS; go_simp⟩) (by assumption) ?_
                simp only [Act.put, List.getElem_toArray, List.getElem_cons_zero, List.getElem_cons_succ, List.setIfInBounds_toArray, List.set_cons_zero, List.set_cons_succ]
                refine wpAnyH_take (i := 2) (v := .pointer (some ⟨g, 0, none⟩)) rfl (by kernel_rfl) (by kernel_rfl) (by kernel_rfl) (fun _ _ _ h => h) (Or.inl ⟨by rfl, by intro w hSw; obtain ⟨hbS, s0, s1, s2, s3, s4, s5, s6, s7⟩ := hSw; clear hbS; go_simp⟩) (by assumption) ?_
                simp only [Act.put, List.getElem_toArray, List.getElem_cons_zero, List.getElem_cons_succ, List.setIfInBounds_toArray, List.set_cons_zero, List.set_cons_succ]
                refine wpAnyH_take (i := 3) (v := .slice (some ⟨bm, 0, none⟩) M.length cm) rfl (by kernel_rfl) (by kernel_rfl) (by kernel_rfl) (fun _ _ _ h => h) (Or.inl ⟨by rfl, by intro w hSw; obtain ⟨hbS, s0, s1, s2, s3, s4, s5, s6, s7⟩ := hSw; clear hbS; go_simp⟩) (by assumption) ?_
                simp only [Act.put, List.getElem_toArray, List.getElem_cons_zero, List.getElem_cons_succ, List.setIfInBounds_toArray, List.set_cons_zero, List.set_cons_succ]
                refine wpAnyH_take (i := 4) (v := .int .i64 (x : Int)) rfl (by kernel_rfl) (by kernel_rfl) (by kernel_rfl) (fun _ _ _ h => h) (Or.inl ⟨by rfl, by intro w hSw; obtain ⟨hbS, s0, s1, s2, s3, s4, s5, s6, s7⟩ := hSw; clear hbS; go_simp⟩) (by assumption) ?_
                simp only [Act.put, List.getElem_toArray, List.getElem_cons_zero, List.getElem_cons_succ, List.setIfInBounds_toArray, List.set_cons_zero, List.set_cons_succ]
                refine wpAnyH_take (i := 5) (v := .pointer (some ⟨bm, x * 7, none⟩)) rfl (by kernel_rfl) (by kernel_rfl) (by kernel_rfl) (fun _ _ _ h => h) (Or.inl ⟨by rfl, by intro w hSw; obtain ⟨hbS, s0, s1, s2, s3, s4, s5, s6, s7⟩ := hSw; clear hbS; go_simp⟩) (by assumption) ?_
                simp only [Act.put, List.getElem_toArray, List.getElem_cons_zero, List.getElem_cons_succ, List.setIfInBounds_toArray, List.set_cons_zero, List.set_cons_succ]
                refine wpAnyH_take (i := 6) (v := .pointer (some ⟨bm, x * 7, none⟩)) rfl (by kernel_rfl) (by kernel_rfl) (by kernel_rfl) (fun _ _ _ h => h) (Or.inl ⟨by rfl, by intro w hSw; obtain ⟨hbS, s0, s1, s2, s3, s4, s5, s6, s7⟩ := hSw; clear hbS; go_simp⟩) (by assumption) ?_
                simp only [Act.put, List.getElem_toArray, List.getElem_cons_zero, List.getElem_cons_succ, List.setIfInBounds_toArray, List.set_cons_zero, List.set_cons_succ]
                refine wpAnyH_take (i := 7) (v := .int .i8 1) rfl (by kernel_rfl) (by kernel_rfl) (by kernel_rfl) (fun _ _ _ h => h) (Or.inl ⟨by rfl, by intro w hSw; obtain ⟨hbS, s0, s1, s2, s3, s4, s5, s6, s7⟩ := hSw; clear hbS; go_simp⟩) (by assumption) ?_
                simp only [Act.put, List.getElem_toArray, List.getElem_cons_zero, List.getElem_cons_succ, List.setIfInBounds_toArray, List.set_cons_zero, List.set_cons_succ]
                refine wpAnyH_take (i := 8) (v := .int .i64 1) rfl (by kernel_rfl) (by kernel_rfl) (by kernel_rfl) (fun _ _ _ h => h) (Or.inl ⟨by rfl, by intro w hSw; obtain ⟨hbS, s0, s1, s2, s3, s4, s5, s6, s7⟩ := hSw; clear hbS; go_simp⟩) (by assumption) ?_
                simp only [Act.put, List.getElem_toArray, List.getElem_cons_zero, List.getElem_cons_succ, List.setIfInBounds_toArray, List.set_cons_zero, List.set_cons_succ]
                refine wpAnyH_take (i := 9) (v := .bool true) rfl (by kernel_rfl) (by kernel_rfl) (by kernel_rfl) (fun _ _ _ h => h) (Or.inl ⟨by rfl, by intro w hSw; obtain ⟨hbS, s0, s1, s2, s3, s4, s5, s6, s7⟩ := hSw; clear hbS; go_simp⟩) (by assumption) ?_
                simp only [Act.put, List.getElem_toArray, List.getElem_cons_zero, List.getElem_cons_succ, List.setIfInBounds_toArray, List.set_cons_zero, List.set_cons_succ]
                refine wpAnyH_take (i := 10) (v := .bool true) rfl (by kernel_rfl) (by kernel_rfl) (by kernel_rfl) (fun _ _ _ h => h) (Or.inl ⟨by rfl, by intro w hSw; obtain ⟨hbS, s0, s1, s2, s3, s4, s5, s6, s7⟩ := hSw; clear hbS; go_simp⟩) (by assumption) ?_
                simp only [Act.put, List.getElem_toArray, List.getElem_cons_zero, List.getElem_cons_succ, List.setIfInBounds_toArray, List.set_cons_zero, List.set_cons_succ]
                refine wpAnyH_take (i := 11) (v := .int .i64 (p : Int)) rfl (by kernel_rfl) (by kernel_rfl) (by kernel_rfl) (fun _ _ _ h => h) (Or.inl ⟨by rfl, by intro w hSw; obtain ⟨hbS, s0, s1, s2, s3, s4, s5, s6, s7⟩ := hSw; clear hbS; go_simp⟩) (by assumption) ?_
                simp only [Act.put, List.getElem_toArray, List.getElem_cons_zero, List.getElem_cons_succ, List.setIfInBounds_toArray, List.set_cons_zero, List.set_cons_succ]
                refine wpAnyH_take (i := 12) (v := .slice (some ⟨bt, ot, none⟩) tx.length ct) rfl (by kernel_rfl) (by kernel_rfl) (by kernel_rfl) (fun _ _ _ h => h) (Or.inl ⟨by rfl, by intro w hSw; obtain ⟨hbS, s0, s1, s2, s3, s4, s5, s6, s7⟩ := hSw; clear hbS; go_simp⟩) (by assumption) ?_
                simp only [Act.put, List.getElem_toArray, List.getElem_cons_zero, List.getElem_cons_succ, List.setIfInBounds_toArray, List.set_cons_zero, List.set_cons_succ]
                refine wpAnyH_take (i := 13) (v := .int .i64 (tx.length : Int)) rfl (by kernel_rfl) (by kernel_rfl) (by kernel_rfl) (fun _ _ _ h => h) (Or.inl ⟨by rfl, by intro w hSw; obtain ⟨hbS, s0, s1, s2, s3, s4, s5, s6, s7⟩ := hSw; clear hbS; go_simp⟩) (by assumption) ?_
                simp only [Act.put, List.getElem_toArray, List.getElem_cons_zero, List.getElem_cons_succ, List.setIfInBounds_toArray, List.set_cons_zero, List.set_cons_succ]
                refine wpAnyH_take (i := 14) (v := .bool true) rfl (by kernel_rfl) (by kernel_rfl) (by kernel_rfl) (fun _ _ _ h => h) (Or.inl ⟨by rfl, by intro w hSw; obtain ⟨hbS, s0, s1, s2, s3, s4, s5, s6, s7⟩ := hSw; clear hbS; go_simp⟩) (by assumption) ?_
                simp only [Act.put, List.getElem_toArray, List.getElem_cons_zero, List.getElem_cons_succ, List.setIfInBounds_toArray, List.set_cons_zero, List.set_cons_succ]
                refine wpAnyH_take (i := 15) (v := .bool true) rfl (by kernel_rfl) (by kernel_rfl) (by kernel_rfl) (fun _ _ _ h => h) (Or.inl ⟨by rfl, by intro w hSw; obtain ⟨hbS, s0, s1, s2, s3, s4, s5, s6, s7⟩ := hSw; clear hbS; go_simp⟩) (by assumption) ?_
                simp only [Act.put, List.getElem_toArray, List.getElem_cons_zero, List.getElem_cons_succ, List.setIfInBounds_toArray, List.set_cons_zero, List.set_cons_succ]
                refine wpAnyH_take (i := 16) (v := .bool true) rfl (by kernel_rfl) (by kernel_rfl) (by kernel_rfl) (fun _ _ _ h => h) (Or.inl ⟨by rfl, by intro w hSw; obtain ⟨hbS, s0, s1, s2, s3, s4, s5, s6, s7⟩ := hSw; clear hbS; go_simp⟩) (by assumption) ?_
                simp only [Act.put, List.getElem_toArray, List.getElem_cons_zero, List.getElem_cons_succ, List.setIfInBounds_toArray, List.set_cons_zero, List.set_cons_succ]
                refine wpAnyH_take (i := 17) (v := .pointer (some ⟨g, 0, none⟩)) rfl (by kernel_rfl) (by kernel_rfl) (by kernel_rfl) (fun _ _ _ h => h) (Or.inl ⟨by rfl, by intro w hSw; obtain ⟨hbS, s0, s1, s2, s3, s4, s5, s6, s7⟩ := hSw; clear hbS; go_simp⟩) (by assumption) ?_
                simp only [Act.put, List.getElem_toArray, List.getElem_cons_zero, List.getElem_cons_succ, List.setIfInBounds_toArray, List.set_cons_zero, List.set_cons_succ]
                refine wpAnyH_take (i := 18) (v := .pointer (some ⟨g, 0, none⟩)) rfl (by kernel_rfl) (by kernel_rfl) (by kernel_rfl) (fun _ _ _ h => h) (Or.inl ⟨by rfl, by intro w hSw; obtain ⟨hbS, s0, s1, s2, s3, s4, s5, s6, s7⟩ := hSw; clear hbS; go_simp⟩) (by assumption) ?_
                simp only [Act.put, List.getElem_toArray, List.getElem_cons_zero, List.getElem_cons_succ, List.setIfInBounds_toArray, List.set_cons_zero, List.set_cons_succ]
                refine wpAnyH_take (i := 19) (v := .pointer (some ⟨g, 0, none⟩)) rfl (by kernel_rfl) (by kernel_rfl) (by kernel_rfl) (fun _ _ _ h => h) (Or.inl ⟨by rfl, by intro w hSw; obtain ⟨hbS, s0, s1, s2, s3, s4, s5, s6, s7⟩ := hSw; clear hbS; go_simp⟩) (by assumption) ?_
                simp only [Act.put, List.getElem_toArray, List.getElem_cons_zero, List.getElem_cons_succ, List.setIfInBounds_toArray, List.set_cons_zero, List.set_cons_succ]
                refine wpAnyH_take (i := 20) (v := .slice (some ⟨bm, 0, none⟩) M.length cm) rfl (by kernel_rfl) (by kernel_rfl) (by kernel_rfl) (fun _ _ _ h => h) (Or.inl ⟨by rfl, by intro w hSw; obtain ⟨hbS, s0, s1, s2, s3, s4, s5, s6, s7⟩ := hSw; clear hbS; go_simp⟩) (by assumption) ?_
                simp only [Act.put, List.getElem_toArray, List.getElem_cons_zero, List.getElem_cons_succ, List.setIfInBounds_toArray, List.set_cons_zero, List.set_cons_succ]
                refine wpAnyH_take (i := 21) (v := .int .i64 (x : Int)) rfl (by kernel_rfl) (by kernel_rfl) (by kernel_rfl) (fun _ _ _ h => h) (Or.inl ⟨by rfl, by intro w hSw; obtain ⟨hbS, s0, s1, s2, s3, s4, s5, s6, s7⟩ := hSw; clear hbS; go_simp⟩) (by assumption) ?_
                simp only [Act.put, List.getElem_toArray, List.getElem_cons_zero, List.getElem_cons_succ, List.setIfInBounds_toArray, List.set_cons_zero, List.set_cons_succ]
                refine wpAnyH_take (i := 22) (v := .pointer (some ⟨bm, x * 7, none⟩)) rfl (by kernel_rfl) (by kernel_rfl) (by kernel_rfl) (fun _ _ _ h => h) (Or.inl ⟨by rfl, by intro w hSw; obtain ⟨hbS, s0, s1, s2, s3, s4, s5, s6, s7⟩ := hSw; clear hbS; go_simp⟩) (by assumption) ?_
                simp only [Act.put, List.getElem_toArray, List.getElem_cons_zero, List.getElem_cons_succ, List.setIfInBounds_toArray, List.set_cons_zero, List.set_cons_succ]
                refine wpAnyH_take (i := 23) (v := .pointer (some ⟨bm, x * 7 + 1, none⟩)) rfl (by kernel_rfl) (by kernel_rfl) (by kernel_rfl) (fun _ _ _ h => h) (Or.inl ⟨by rfl, by intro w hSw; obtain ⟨hbS, s0, s1, s2, s3, s4, s5, s6, s7⟩ := hSw; clear hbS; go_simp⟩) (by assumption) ?_
                simp only [Act.put, List.getElem_toArray, List.getElem_cons_zero, List.getElem_cons_succ, List.setIfInBounds_toArray, List.set_cons_zero, List.set_cons_succ]
                refine wpAnyH_take (i := 24) (v := .agg #[.int .u64 (p0 : Int), .int .u64 (p1 : Int), .int .u64 (p2 : Int), .int .u64 (p3 : Int)]) rfl (by kernel_rfl) (by kernel_rfl) (by kernel_rfl) (fun _ _ _ h => h) (Or.inl ⟨by rfl, by intro w hSw; obtain ⟨hbS, s0, s1, s2, s3, s4, s5, s6, s7⟩ := hSw; clear hbS; go_simp⟩) (by assumption) ?_
                simp only [Act.put, List.getElem_toArray, List.getElem_cons_zero, List.getElem_cons_succ, List.setIfInBounds_toArray, List.set_cons_zero, List.set_cons_succ]
                refine wpAnyH_take (i := 25) (v := .slice (some ⟨bt, ot, none⟩) tx.length ct) rfl (by kernel_rfl) (by kernel_rfl) (by kernel_rfl) (fun _ _ _ h => h) (Or.inl ⟨by rfl, by intro w hSw; obtain ⟨hbS, s0, s1, s2, s3, s4, s5, s6, s7⟩ := hSw; clear hbS; go_simp⟩) (by assumption) ?_
                simp only [Act.put, List.getElem_toArray, List.getElem_cons_zero, List.getElem_cons_succ, List.setIfInBounds_toArray, List.set_cons_zero, List.set_cons_succ]
                refine wpAnyH_take (i := 26) (v := .int .i64 (p : Int)) rfl (by kernel_rfl) (by kernel_rfl) (by kernel_rfl) (fun _ _ _ h => h) (Or.inl ⟨by rfl, by intro w hSw; obtain ⟨hbS, s0, s1, s2, s3, s4, s5, s6, s7⟩ := hSw; clear hbS; go_simp⟩) (by assumption) ?_
                simp only [Act.put, List.getElem_toArray, List.getElem_cons_zero, List.getElem_cons_succ, List.setIfInBounds_toArray, List.set_cons_zero, List.set_cons_succ]
                refine wpAnyH_take (i := 27) (v := .pointer (some ⟨bt, ot + p, none⟩)) rfl (by kernel_rfl) (by kernel_rfl) (by kernel_rfl) (fun _ _ _ h => h) (Or.inl ⟨by rfl, by intro w hSw; obtain ⟨hbS, s0, s1, s2, s3, s4, s5, s6, s7⟩ := hSw; clear hbS; go_simp⟩) (by assumption) ?_
                simp only [Act.put, List.getElem_toArray, List.getElem_cons_zero, List.getElem_cons_succ, List.setIfInBounds_toArray, List.set_cons_zero, List.set_cons_succ]
                refine wpAnyH_take (i := 28) (v := .int .u8 (c : Int)) rfl (by kernel_rfl) (by kernel_rfl) (by kernel_rfl) (fun _ _ _ h => h) (Or.inl ⟨by rfl, by intro w hSw; obtain ⟨hbS, s0, s1, s2, s3, s4, s5, s6, s7⟩ := hSw; clear hbS; go_simp⟩) (by assumption) ?_
                simp only [Act.put, List.getElem_toArray, List.getElem_cons_zero, List.getElem_cons_succ, List.setIfInBounds_toArray, List.set_cons_zero, List.set_cons_succ]
                refine wpAnyH_ready (rs := [29]) (by kernel_rfl) (by simp) ?_
                refine AllReadyH.cons rfl (fun K hK => ?_) AllReadyH.nil
                go_simp
                have hbd := hHeld.1
                refine (HHAS.out _).mono ?_
                rintro e wn ⟨rfl, hbn⟩
                replace hHeld := HSt.out wn (hbd.trans (hbn.mono hbd.size))
                refine hK.out _ _ hHeld (fun hHeld => ?_)
                clear hK K hbn hbd
                refine wpAnyH_take (i := 30) (v := .bool false) rfl (by kernel_rfl) (by kernel_rfl) (by kernel_rfl) (fun _ _ _ h => h) (Or.inl ⟨by rfl, by intro w hSw; obtain ⟨hbS, s0, s1, s2, s3, s4, s5, s6, s7⟩ := hSw; clear hbS; go_simp⟩) (by assumption) ?_
                simp only [Act.put, List.getElem_toArray, List.getElem_cons_zero, List.getElem_cons_succ, List.setIfInBounds_toArray, List.set_cons_zero, List.set_cons_succ]
                refine wpAnyH_take (i := 31) (v := .bool false) rfl (by kernel_rfl) (by kernel_rfl) (by kernel_rfl) (fun _ _ _ h => h) (Or.inl ⟨by rfl, by intro w hSw; obtain ⟨hbS, s0, s1, s2, s3, s4, s5, s6, s7⟩ := hSw; clear hbS; go_simp⟩) (by assumption) ?_
                simp only [Act.put, List.getElem_toArray, List.getElem_cons_zero, List.getElem_cons_succ, List.setIfInBounds_toArray, List.set_cons_zero, List.set_cons_succ]
                refine wpAnyH_take (i := 32) (v := undef) rfl (by kernel_rfl) (by kernel_rfl) (by kernel_rfl) (fun _ _ _ h => h) (Or.inr ⟨by rfl, rfl⟩) (by assumption) ?_
                simp only [Act.put, List.getElem_toArray, List.getElem_cons_zero, List.getElem_cons_succ, List.setIfInBounds_toArray, List.set_cons_zero, List.set_cons_succ]
                refine wpAnyH_take (i := 33) (v := undef) rfl (by kernel_rfl) (by kernel_rfl) (by kernel_rfl) (fun _ _ _ h => h) (Or.inr ⟨by rfl, rfl⟩) (by assumption) ?_
                simp only [Act.put, List.getElem_toArray, List.getElem_cons_zero, List.getElem_cons_succ, List.setIfInBounds_toArray, List.set_cons_zero, List.set_cons_succ]
                refine wpAnyH_take (i := 34) (v := undef) rfl (by kernel_rfl) (by kernel_rfl) (by kernel_rfl) (fun _ _ _ h => h) (Or.inr ⟨by rfl, rfl⟩) (by assumption) ?_
                simp only [Act.put, List.getElem_toArray, List.getElem_cons_zero, List.getElem_cons_succ, List.setIfInBounds_toArray, List.set_cons_zero, List.set_cons_succ]
                refine wpAnyH_take (i := 35) (v := undef) rfl (by kernel_rfl) (by kernel_rfl) (by kernel_rfl) (fun _ _ _ h => h) (Or.inr ⟨by rfl, rfl⟩) (by assumption) ?_
                simp only [Act.put, List.getElem_toArray, List.getElem_cons_zero, List.getElem_cons_succ, List.setIfInBounds_toArray, List.set_cons_zero, List.set_cons_succ]
                refine wpAnyH_take (i := 36) (v := undef) rfl (by kernel_rfl) (by kernel_rfl) (by kernel_rfl) (fun _ _ _ h => h) (Or.inr ⟨by rfl, rfl⟩) (by assumption) ?_
                simp only [Act.put, List.getElem_toArray, List.getElem_cons_zero, List.getElem_cons_succ, List.setIfInBounds_toArray, List.set_cons_zero, List.set_cons_succ]
                refine wpAnyH_take (i := 37) (v := undef) rfl (by kernel_rfl) (by kernel_rfl) (by kernel_rfl) (fun _ _ _ h => h) (Or.inr ⟨by rfl, rfl⟩) (by assumption) ?_
                simp only [Act.put, List.getElem_toArray, List.getElem_cons_zero, List.getElem_cons_succ, List.setIfInBounds_toArray, List.set_cons_zero, List.set_cons_succ]
                refine wpAnyH_take (i := 38) (v := .bool false) rfl (by kernel_rfl) (by kernel_rfl) (by kernel_rfl) (fun _ _ _ h => h) (Or.inl ⟨by rfl, by intro w hSw; obtain ⟨hbS, s0, s1, s2, s3, s4, s5, s6, s7⟩ := hSw; clear hbS; go_simp⟩) (by assumption) ?_
                simp only [Act.put, List.getElem_toArray, List.getElem_cons_zero, List.getElem_cons_succ, List.setIfInBounds_toArray, List.set_cons_zero, List.set_cons_succ]
                refine wpAnyH_done (by kernel_rfl) ?_ _
                have HEz := Lib.hid ((HE6.out.tk_no HKL.out HTN.out).below hHeld.1)
                clear hHeld HSt
                go_wp2_with fail
                go_roundw
                case rel => exact ⟨k + 1, _, _, _, by go_num, HKL.out, HEz.out⟩
                case measure => simp [intOf]; omega
              | true =>
                have HHAS : Hid (∀ w, Calls Tryd.prog 34 #[.agg #[.int .u64 (p0 : Int), .int .u64 (p1 : Int), .int .u64 (p2 : Int), .int .u64 (p3 : Int)], .int .u8 (c : Int)] w fun e w' => e = .returned (.bool true) ∧ Below w.heap.size w w') := Lib.hid hhas
                clear hhas hh hcc hcr hc256
                have hx1 := HD.out.1 HTK.out
                have hx1I : (x : Int) + 1 < (M.length : Int) := by omega
                have hx10 : ¬ (x : Int) + 1 < 0 := by omega
                have zi : wr.cell? ⟨gi, x + 1, none⟩ = some (.bool (I'[x + 1]?.getD false)) := by
                  rw [HE6.out.ii.cell, cellsB, List.getElem?_map, List.getElem?_eq_getElem (by rw [HE6.out.il]; exact hx1)]
                  rfl
                cases hi : I'[x + 1]?.getD false with
                | true =>
                  rw [hi] at zi
                  have HI9 := Lib.hid (show I'[l2[k] + 1]?.getD false = true by rw [HXK.out]; exact hi)
                  clear hi
                  have HSt : Hid (∀ w', Below wr.heap.size wr w' → Below wr.heap.size wr w' ∧ w'.cell? ⟨g, 0, none⟩ = some (.slice (some ⟨bm, 0, none⟩) M.length cm) ∧ w'.cell? ⟨bm, x * 7, none⟩ = some (.int .i8 1) ∧ w'.cell? ⟨bm, x * 7 + 1, none⟩ = some (.int .u64 (p0 : Int)) ∧ w'.cell? ⟨bm, x * 7 + 2, none⟩ = some (.int .u64 (p1 : Int)) ∧ w'.cell? ⟨bm, x * 7 + 3, none⟩ = some (.int .u64 (p2 : Int)) ∧ w'.cell? ⟨bm, x * 7 + 4, none⟩ = some (.int .u64 (p3 : Int)) ∧ (w'.cell? ⟨bt, ot + p, none⟩ = some (.int .u8 (c : Int))) ∧ (w'.cell? ⟨gi, x + 1, none⟩ = some (.bool true))) := Lib.hid fun w' hb => by
                    have hk : ∀ (b o : Nat) (u : Value), wr.cell? ⟨b, o, none⟩ = some u → w'.cell? ⟨b, o, none⟩ = some u := fun b o u h => by rw [hb.cell (World.block_lt_of_cell? wr _ h)]; exact h
                    exact ⟨hb, hk _ _ _ z0, hk _ _ _ d0, hk _ _ _ d1, hk _ _ _ d2, hk _ _ _ d3, hk _ _ _ d4, hk _ _ _ zt, hk _ _ _ zi⟩
                  have hst : Below wr.heap.size wr wr.drew ∧ wr.drew.cell? ⟨g, 0, none⟩ = some (.slice (some ⟨bm, 0, none⟩) M.length cm) ∧ wr.drew.cell? ⟨bm, x * 7, none⟩ = some (.int .i8 1) ∧ wr.drew.cell? ⟨bm, x * 7 + 1, none⟩ = some (.int .u64 (p0 : Int)) ∧ wr.drew.cell? ⟨bm, x * 7 + 2, none⟩ = some (.int .u64 (p1 : Int)) ∧ wr.drew.cell? ⟨bm, x * 7 + 3, none⟩ = some (.int .u64 (p2 : Int)) ∧ wr.drew.cell? ⟨bm, x * 7 + 4, none⟩ = some (.int .u64 (p3 : Int)) ∧ (wr.drew.cell? ⟨bt, ot + p, none⟩ = some (.int .u8 (c : Int))) ∧ (wr.drew.cell? ⟨gi, x + 1, none⟩ = some (.bool true)) := HSt.out _ (below_drewN (Below.refl _ wr) 1)
                  clear z0 d0 d1 d2 d3 d4 zt zi
                  refine wp_region_held_drew (S := fun w' => Below wr.heap.size wr w' ∧ w'.cell? ⟨g, 0, none⟩ = some (.slice (some ⟨bm, 0, none⟩) M.length cm) ∧ w'.cell? ⟨bm, x * 7, none⟩ = some (.int .i8 1) ∧ w'.cell? ⟨bm, x * 7 + 1, none⟩ = some (.int .u64 (p0 : Int)) ∧ w'.cell? ⟨bm, x * 7 + 2, none⟩ = some (.int .u64 (p1 : Int)) ∧ w'.cell? ⟨bm, x * 7 + 3, none⟩ = some (.int .u64 (p2 : Int)) ∧ w'.cell? ⟨bm, x * 7 + 4, none⟩ = some (.int .u64 (p3 : Int)) ∧ (w'.cell? ⟨bt, ot + p, none⟩ = some (.int .u8 (c : Int))) ∧ (w'.cell? ⟨gi, x + 1, none⟩ = some (.bool true))) (by kernel_rfl) hst (fun hHeld => ?_)
                  refine wpAnyH_take (i := 0) (v := .pointer (some ⟨g, 0, none⟩)) rfl (by kernel_rfl) (by kernel_rfl) (by kernel_rfl) (fun _ _ _ h => h) (Or.inl ⟨by rfl, by intro w hSw; obtain ⟨hbS, s0, s1, s2, s3, s4, s5, s6, s7⟩ := hSw; clear hbS; go_simp⟩) (by assumption) ?_
                  simp only [Act.put, List.getElem_toArray, List.getElem_cons_zero, List.setIfInBounds_toArray, List.set_cons_zero, List.set_cons_succ]
                  refine wpAnyH_take (i := 1) (v := .pointer (some ⟨g, 0, none⟩)) rfl (by kernel_rfl) (by kernel_rfl) (by kernel_rfl) (fun _ _ _ h => h) (Or.inl ⟨by rfl, by intro w hSw; obtain ⟨hbS, s0, s1, s2, s3, s4, s5, s6, s7⟩ := hSw; clear hbS; go_simp⟩) (by assumption) ?_
                  simp only [Act.put, List.getElem_toArray, List.getElem_cons_zero, List.getElem_cons_succ, List.setIfInBounds_toArray, List.set_cons_zero, List.set_cons_succ]
                  refine wpAnyH_take (i := 2) (v := .pointer (some ⟨g, 0, none⟩)) rfl (by kernel_rfl) (by kernel_rfl) (by kernel_rfl) (fun _ _ _ h => h) (Or.inl ⟨by rfl, by intro w hSw; obtain ⟨hbS, s0, s1, s2, s3, s4, s5, s6, s7⟩ := hSw; clear hbS; go_simp⟩) (by assumption) ?_
                  simp only [Act.put, List.getElem_toArray, List.getElem_cons_zero, List.getElem_cons_succ, List.setIfInBounds_toArray, List.set_cons_zero, List.set_cons_succ]
                  refine wpAnyH_take (i := 3) (v := .slice (some ⟨bm, 0, none⟩) M.length cm) rfl (by kernel_rfl) (by kernel_rfl) (by kernel_rfl) (fun _ _ _ h => h) (Or.inl ⟨by rfl, by intro w hSw; obtain ⟨hbS, s0, s1, s2, s3, s4, s5, s6, s7⟩ := hSw; clear hbS; go_simp⟩) (by assumption) ?_
                  simp only [Act.put, List.getElem_toArray, List.getElem_cons_zero, List.getElem_cons_succ, List.setIfInBounds_toArray, List.set_cons_zero, List.set_cons_succ]
                  refine wpAnyH_take (i := 4) (v := .int .i64 (x : Int)) rfl (by kernel_rfl) (by kernel_rfl) (by kernel_rfl) (fun _ _ _ h => h) (Or.inl ⟨by rfl, by intro w hSw; obtain ⟨hbS, s0, s1, s2, s3, s4, s5, s6, s7⟩ := hSw; clear hbS; go_simp⟩) (by assumption) ?_
                  simp only [Act.put, List.getElem_toArray, List.getElem_cons_zero, List.getElem_cons_succ, List.setIfInBounds_toArray, List.set_cons_zero, List.set_cons_succ]
                  refine wpAnyH_take (i := 5) (v := .pointer (some ⟨bm, x * 7, none⟩)) rfl (by kernel_rfl) (by kernel_rfl) (by kernel_rfl) (fun _ _ _ h => h) (Or.inl ⟨by rfl, by intro w hSw; obtain ⟨hbS, s0, s1, s2, s3, s4, s5, s6, s7⟩ := hSw; clear hbS; go_simp⟩) (by assumption) ?_
                  simp only [Act.put, List.getElem_toArray, List.getElem_cons_zero, List.getElem_cons_succ, List.setIfInBounds_toArray, List.set_cons_zero, List.set_cons_succ]
                  refine wpAnyH_take (i := 6) (v := .pointer (some ⟨bm, x * 7, none⟩)) rfl (by kernel_rfl) (by kernel_rfl) (by kernel_rfl) (fun _ _ _ h => h) (Or.inl ⟨by rfl, by intro w hSw; obtain ⟨hbS, s0, s1, s2, s3, s4, s5, s6, s7⟩ := hSw; clear hbS; go_simp⟩) (by assumption) ?_
                  simp only [Act.put, List.getElem_toArray, List.getElem_cons_zero, List.getElem_cons_succ, List.setIfInBounds_toArray, List.set_cons_zero, List.set_cons_succ]
                  refine wpAnyH_take (i := 7) (v := .int .i8 1) rfl (by kernel_rfl) (by kernel_rfl) (by kernel_rfl) (fun _ _ _ h => h) (Or.inl ⟨by rfl, by intro w hSw; obtain ⟨hbS, s0, s1, s2, s3, s4, s5, s6, s7⟩ := hSw; clear hbS; go_simp⟩) (by assumption) ?_
                  simp only [Act.put, List.getElem_toArray, List.getElem_cons_zero, List.getElem_cons_succ, List.setIfInBounds_toArray, List.set_cons_zero, List.set_cons_succ]
                  refine wpAnyH_take (i := 8) (v := .int .i64 1) rfl (by kernel_rfl) (by kernel_rfl) (by kernel_rfl) (fun _ _ _ h => h) (Or.inl ⟨by rfl, by intro w hSw; obtain ⟨hbS, s0, s1, s2, s3, s4, s5, s6, s7⟩ := hSw; clear hbS; go_simp⟩) (by assumption) ?_
                  simp only [Act.put, List.getElem_toArray, List.getElem_cons_zero, List.getElem_cons_succ, List.setIfInBounds_toArray, List.set_cons_zero, List.set_cons_succ]
                  refine wpAnyH_take (i := 9) (v := .bool true) rfl (by kernel_rfl) (by kernel_rfl) (by kernel_rfl) (fun _ _ _ h => h) (Or.inl ⟨by rfl, by intro w hSw; obtain ⟨hbS, s0, s1, s2, s3, s4, s5, s6, s7⟩ := hSw; clear hbS; go_simp⟩) (by assumption) ?_
                  simp only [Act.put, List.getElem_toArray, List.getElem_cons_zero, List.getElem_cons_succ, List.setIfInBounds_toArray, List.set_cons_zero, List.set_cons_succ]
                  refine wpAnyH_take (i := 10) (v := .bool true) rfl (by kernel_rfl) (by kernel_rfl) (by kernel_rfl) (fun _ _ _ h => h) (Or.inl ⟨by rfl, by intro w hSw; obtain ⟨hbS, s0, s1, s2, s3, s4, s5, s6, s7⟩ := hSw; clear hbS; go_simp⟩) (by assumption) ?_
                  simp only [Act.put, List.getElem_toArray, List.getElem_cons_zero, List.getElem_cons_succ, List.setIfInBounds_toArray, List.set_cons_zero, List.set_cons_succ]
                  refine wpAnyH_take (i := 11) (v := .int .i64 (p : Int)) rfl (by kernel_rfl) (by kernel_rfl) (by kernel_rfl) (fun _ _ _ h => h) (Or.inl ⟨by rfl, by intro w hSw; obtain ⟨hbS, s0, s1, s2, s3, s4, s5, s6, s7⟩ := hSw; clear hbS; go_simp⟩) (by assumption) ?_
                  simp only [Act.put, List.getElem_toArray, List.getElem_cons_zero, List.getElem_cons_succ, List.setIfInBounds_toArray, List.set_cons_zero, List.set_cons_succ]
                  refine wpAnyH_take (i := 12) (v := .slice (some ⟨bt, ot, none⟩) tx.length ct) rfl (by kernel_rfl) (by kernel_rfl) (by kernel_rfl) (fun _ _ _ h => h) (Or.inl ⟨by rfl, by intro w hSw; obtain ⟨hbS, s0, s1, s2, s3, s4, s5, s6, s7⟩ := hSw; clear hbS; go_simp⟩) (by assumption) ?_
                  simp only [Act.put, List.getElem_toArray, List.getElem_cons_zero, List.getElem_cons_succ, List.setIfInBounds_toArray, List.set_cons_zero, List.set_cons_succ]
                  refine wpAnyH_take (i := 13) (v := .int .i64 (tx.length : Int)) rfl (by kernel_rfl) (by kernel_rfl) (by kernel_rfl) (fun _ _ _ h => h) (Or.inl ⟨by rfl, by intro w hSw; obtain ⟨hbS, s0, s1, s2, s3, s4, s5, s6, s7⟩ := hSw; clear hbS; go_simp⟩) (by assumption) ?_
                  simp only [Act.put, List.getElem_toArray, List.getElem_cons_zero, List.getElem_cons_succ, List.setIfInBounds_toArray, List.set_cons_zero, List.set_cons_succ]
                  refine wpAnyH_take (i := 14) (v := .bool true) rfl (by kernel_rfl) (by kernel_rfl) (by kernel_rfl) (fun _ _ _ h => h) (Or.inl ⟨by rfl, by intro w hSw; obtain ⟨hbS, s0, s1, s2, s3, s4, s5, s6, s7⟩ := hSw; clear hbS; go_simp⟩) (by assumption) ?_
                  simp only [Act.put, List.getElem_toArray, List.getElem_cons_zero, List.getElem_cons_succ, List.setIfInBounds_toArray, List.set_cons_zero, List.set_cons_succ]
                  refine wpAnyH_take (i := 15) (v := .bool true) rfl (by kernel_rfl) (by kernel_rfl) (by kernel_rfl) (fun _ _ _ h => h) (Or.inl ⟨by rfl, by intro w hSw; obtain ⟨hbS, s0, s1, s2, s3, s4, s5, s6, s7⟩ := hSw; clear hbS; go_simp⟩) (by assumption) ?_
                  simp only [Act.put, List.getElem_toArray, List.getElem_cons_zero, List.getElem_cons_succ, List.setIfInBounds_toArray, List.set_cons_zero, List.set_cons_succ]
                  refine wpAnyH_take (i := 16) (v := .bool true) rfl (by kernel_rfl) (by kernel_rfl) (by kernel_rfl) (fun _ _ _ h => h) (Or.inl ⟨by rfl, by intro w hSw; obtain ⟨hbS, s0, s1, s2, s3, s4, s5, s6, s7⟩ := hSw; clear hbS; go_simp⟩) (by assumption) ?_
                  simp only [Act.put, List.getElem_toArray, List.getElem_cons_zero, List.getElem_cons_succ, List.setIfInBounds_toArray, List.set_cons_zero, List.set_cons_succ]
                  refine wpAnyH_take (i := 17) (v := .pointer (some ⟨g, 0, none⟩)) rfl (by kernel_rfl) (by kernel_rfl) (by kernel_rfl) (fun _ _ _ h => h) (Or.inl ⟨by rfl, by intro w hSw; obtain ⟨hbS, s0, s1, s2, s3, s4, s5, s6, s7⟩ := hSw; clear hbS; go_simp⟩) (by assumption) ?_
                  simp only [Act.put, List.getElem_toArray, List.getElem_cons_zero, List.getElem_cons_succ, List.setIfInBounds_toArray, List.set_cons_zero, List.set_cons_succ]
                  refine wpAnyH_take (i := 18) (v := .pointer (some ⟨g, 0, none⟩)) rfl (by kernel_rfl) (by kernel_rfl) (by kernel_rfl) (fun _ _ _ h => h) (Or.inl ⟨by rfl, by intro w hSw; obtain ⟨hbS, s0, s1, s2, s3, s4, s5, s6, s7⟩ := hSw; clear hbS; go_simp⟩) (by assumption) ?_
                  simp only [Act.put, List.getElem_toArray, List.getElem_cons_zero, List.getElem_cons_succ, List.setIfInBounds_toArray, List.set_cons_zero, List.set_cons_succ]
                  refine wpAnyH_take (i := 19) (v := .pointer (some ⟨g, 0, none⟩)) rfl (by kernel_rfl) (by kernel_rfl) (by kernel_rfl) (fun _ _ _ h => h) (Or.inl ⟨by rfl, by intro w hSw; obtain ⟨hbS, s0, s1, s2, s3, s4, s5, s6, s7⟩ := hSw; clear hbS; go_simp⟩) (by assumption) ?_
                  simp only [Act.put, List.getElem_toArray, List.getElem_cons_zero, List.getElem_cons_succ, List.setIfInBounds_toArray, List.set_cons_zero, List.set_cons_succ]
                  refine wpAnyH_take (i := 20) (v := .slice (some ⟨bm, 0, none⟩) M.length cm) rfl (by kernel_rfl) (by kernel_rfl) (by kernel_rfl) (fun _ _ _ h => h) (Or.inl ⟨by rfl, by intro w hSw; obtain ⟨hbS, s0, s1, s2, s3, s4, s5, s6, s7⟩ := hSw; clear hbS; go_simp⟩) (by assumption) ?_
                  simp only [Act.put, List.getElem_toArray, List.getElem_cons_zero, List.getElem_cons_succ, List.setIfInBounds_toArray, List.set_cons_zero, List.set_cons_succ]
                  refine wpAnyH_take (i := 21) (v := .int .i64 (x : Int)) rfl (by kernel_rfl) (by kernel_rfl) (by kernel_rfl) (fun _ _ _ h => h) (Or.inl ⟨by rfl, by intro w hSw; obtain ⟨hbS, s0, s1, s2, s3, s4, s5, s6, s7⟩ := hSw; clear hbS; go_simp⟩) (by assumption) ?_
                  simp only [Act.put, List.getElem_toArray, List.getElem_cons_zero, List.getElem_cons_succ, List.setIfInBounds_toArray, List.set_cons_zero, List.set_cons_succ]
                  refine wpAnyH_take (i := 22) (v := .pointer (some ⟨bm, x * 7, none⟩)) rfl (by kernel_rfl) (by kernel_rfl) (by kernel_rfl) (fun _ _ _ h => h) (Or.inl ⟨by rfl, by intro w hSw; obtain ⟨hbS, s0, s1, s2, s3, s4, s5, s6, s7⟩ := hSw; clear hbS; go_simp⟩) (by assumption) ?_
                  simp only [Act.put, List.getElem_toArray, List.getElem_cons_zero, List.getElem_cons_succ, List.setIfInBounds_toArray, List.set_cons_zero, List.set_cons_succ]
                  refine wpAnyH_take (i := 23) (v := .pointer (some ⟨bm, x * 7 + 1, none⟩)) rfl (by kernel_rfl) (by kernel_rfl) (by kernel_rfl) (fun _ _ _ h => h) (Or.inl ⟨by rfl, by intro w hSw; obtain ⟨hbS, s0, s1, s2, s3, s4, s5, s6, s7⟩ := hSw; clear hbS; go_simp⟩) (by assumption) ?_
                  simp only [Act.put, List.getElem_toArray, List.getElem_cons_zero, List.getElem_cons_succ, List.setIfInBounds_toArray, List.set_cons_zero, List.set_cons_succ]
                  refine wpAnyH_take (i := 24) (v := .agg #[.int .u64 (p0 : Int), .int .u64 (p1 : Int), .int .u64 (p2 : Int), .int .u64 (p3 : Int)]) rfl (by kernel_rfl) (by kernel_rfl) (by kernel_rfl) (fun _ _ _ h => h) (Or.inl ⟨by rfl, by intro w hSw; obtain ⟨hbS, s0, s1, s2, s3, s4, s5, s6, s7⟩ := hSw; clear hbS; go_simp⟩) (by assumption) ?_
                  simp only [Act.put, List.getElem_toArray, List.getElem_cons_zero, List.getElem_cons_succ, List.setIfInBounds_toArray, List.set_cons_zero, List.set_cons_succ]
                  refine wpAnyH_take (i := 25) (v := .slice (some ⟨bt, ot, none⟩) tx.length ct) rfl (by kernel_rfl) (by kernel_rfl) (by kernel_rfl) (fun _ _ _ h => h) (Or.inl ⟨by rfl, by intro w hSw; obtain ⟨hbS, s0, s1, s2, s3, s4, s5, s6, s7⟩ := hSw; clear hbS; go_simp⟩) (by assumption) ?_
                  simp only [Act.put, List.getElem_toArray, List.getElem_cons_zero, List.getElem_cons_succ, List.setIfInBounds_toArray, List.set_cons_zero, List.set_cons_succ]
                  refine wpAnyH_take (i := 26) (v := .int .i64 (p : Int)) rfl (by kernel_rfl) (by kernel_rfl) (by kernel_rfl) (fun _ _ _ h => h) (Or.inl ⟨by rfl, by intro w hSw; obtain ⟨hbS, s0, s1, s2, s3, s4, s5, s6, s7⟩ := hSw; clear hbS; go_simp⟩) (by assumption) ?_
                  simp only [Act.put, List.getElem_toArray, List.getElem_cons_zero, List.getElem_cons_succ, List.setIfInBounds_toArray, List.set_cons_zero, List.set_cons_succ]
                  refine wpAnyH_take (i := 27) (v := .pointer (some ⟨bt, ot + p, none⟩)) rfl (by kernel_rfl) (by kernel_rfl) (by kernel_rfl) (fun _ _ _ h => h) (Or.inl ⟨by rfl, by intro w hSw; obtain ⟨hbS, s0, s1, s2, s3, s4, s5, s6, s7⟩ := hSw; clear hbS; go_simp⟩) (by assumption) ?_
                  simp only [Act.put, List.getElem_toArray, List.getElem_cons_zero, List.getElem_cons_succ, List.setIfInBounds_toArray, List.set_cons_zero, List.set_cons_succ]
                  refine wpAnyH_take (i := 28) (v := .int .u8 (c : Int)) rfl (by kernel_rfl) (by kernel_rfl) (by kernel_rfl) (fun _ _ _ h => h) (Or.inl ⟨by rfl, by intro w hSw; obtain ⟨hbS, s0, s1, s2, s3, s4, s5, s6, s7⟩ := hSw; clear hbS; go_simp⟩) (by assumption) ?_
                  simp only [Act.put, List.getElem_toArray, List.getElem_cons_zero, List.getElem_cons_succ, List.setIfInBounds_toArray, List.set_cons_zero, List.set_cons_succ]
                  refine wpAnyH_ready (rs := [29]) (by kernel_rfl) (by simp) ?_
                  refine AllReadyH.cons rfl (fun K hK => ?_) AllReadyH.nil
                  go_simp
                  have hbd := hHeld.1
                  refine (HHAS.out _).mono ?_
                  rintro e wn ⟨rfl, hbn⟩
                  replace hHeld := HSt.out wn (hbd.trans (hbn.mono hbd.size))
                  refine hK.out _ _ hHeld (fun hHeld => ?_)
                  clear hK K hbn hbd
                  refine wpAnyH_take (i := 30) (v := .bool true) rfl (by kernel_rfl) (by kernel_rfl) (by kernel_rfl) (fun _ _ _ h => h) (Or.inl ⟨by rfl, by intro w hSw; obtain ⟨hbS, s0, s1, s2, s3, s4, s5, s6, s7⟩ := hSw; clear hbS; go_simp⟩) (by assumption) ?_
                  simp only [Act.put, List.getElem_toArray, List.getElem_cons_zero, List.getElem_cons_succ, List.setIfInBounds_toArray, List.set_cons_zero, List.set_cons_succ]
                  refine wpAnyH_take (i := 31) (v := .bool true) rfl (by kernel_rfl) (by kernel_rfl) (by kernel_rfl) (fun _ _ _ h => h) (Or.inl ⟨by rfl, by intro w hSw; obtain ⟨hbS, s0, s1, s2, s3, s4, s5, s6, s7⟩ := hSw; clear hbS; go_simp⟩) (by assumption) ?_
                  simp only [Act.put, List.getElem_toArray, List.getElem_cons_zero, List.getElem_cons_succ, List.setIfInBounds_toArray, List.set_cons_zero, List.set_cons_succ]
                  refine wpAnyH_take (i := 32) (v := .slice (some ⟨gi, 0, none⟩) M.length M.length) rfl (by kernel_rfl) (by kernel_rfl) (by kernel_rfl) (fun _ _ _ h => h) (Or.inl ⟨by rfl, by intro w hSw; obtain ⟨hbS, s0, s1, s2, s3, s4, s5, s6, s7⟩ := hSw; clear hbS; go_simp⟩) (by assumption) ?_
                  simp only [Act.put, List.getElem_toArray, List.getElem_cons_zero, List.getElem_cons_succ, List.setIfInBounds_toArray, List.set_cons_zero, List.set_cons_succ]
                  refine wpAnyH_take (i := 33) (v := .int .i64 (x : Int)) rfl (by kernel_rfl) (by kernel_rfl) (by kernel_rfl) (fun _ _ _ h => h) (Or.inl ⟨by rfl, by intro w hSw; obtain ⟨hbS, s0, s1, s2, s3, s4, s5, s6, s7⟩ := hSw; clear hbS; go_simp⟩) (by assumption) ?_
                  simp only [Act.put, List.getElem_toArray, List.getElem_cons_zero, List.getElem_cons_succ, List.setIfInBounds_toArray, List.set_cons_zero, List.set_cons_succ]
                  refine wpAnyH_take (i := 34) (v := .int .i64 ((x : Int) + 1)) rfl (by kernel_rfl) (by kernel_rfl) (by kernel_rfl) (fun _ _ _ h => h) (Or.inl ⟨by rfl, by intro w hSw; obtain ⟨hbS, s0, s1, s2, s3, s4, s5, s6, s7⟩ := hSw; clear hbS; go_simp⟩) (by assumption) ?_
                  simp only [Act.put, List.getElem_toArray, List.getElem_cons_zero, List.getElem_cons_succ, List.setIfInBounds_toArray, List.set_cons_zero, List.set_cons_succ]
                  refine wpAnyH_take (i := 35) (v := .pointer (some ⟨gi, x + 1, none⟩)) rfl (by kernel_rfl) (by kernel_rfl) (by kernel_rfl) (fun _ _ _ h => h) (Or.inl ⟨by rfl, by intro w hSw; obtain ⟨hbS, s0, s1, s2, s3, s4, s5, s6, s7⟩ := hSw; clear hbS; go_simp⟩) (by assumption) ?_
                  simp only [Act.put, List.getElem_toArray, List.getElem_cons_zero, List.getElem_cons_succ, List.setIfInBounds_toArray, List.set_cons_zero, List.set_cons_succ]
                  refine wpAnyH_take (i := 36) (v := .bool true) rfl (by kernel_rfl) (by kernel_rfl) (by kernel_rfl) (fun _ _ _ h => h) (Or.inl ⟨by rfl, by intro w hSw; obtain ⟨hbS, s0, s1, s2, s3, s4, s5, s6, s7⟩ := hSw; clear hbS; go_simp⟩) (by assumption) ?_
                  simp only [Act.put, List.getElem_toArray, List.getElem_cons_zero, List.getElem_cons_succ, List.setIfInBounds_toArray, List.set_cons_zero, List.set_cons_succ]
                  refine wpAnyH_take (i := 37) (v := .bool false) rfl (by kernel_rfl) (by kernel_rfl) (by kernel_rfl) (fun _ _ _ h => h) (Or.inl ⟨by rfl, by intro w hSw; obtain ⟨hbS, s0, s1, s2, s3, s4, s5, s6, s7⟩ := hSw; clear hbS; go_simp⟩) (by assumption) ?_
                  simp only [Act.put, List.getElem_toArray, List.getElem_cons_zero, List.getElem_cons_succ, List.setIfInBounds_toArray, List.set_cons_zero, List.set_cons_succ]
                  refine wpAnyH_take (i := 38) (v := .bool false) rfl (by kernel_rfl) (by kernel_rfl) (by kernel_rfl) (fun _ _ _ h => h) (Or.inl ⟨by rfl, by intro w hSw; obtain ⟨hbS, s0, s1, s2, s3, s4, s5, s6, s7⟩ := hSw; clear hbS; go_simp⟩) (by assumption) ?_
                  simp only [Act.put, List.getElem_toArray, List.getElem_cons_zero, List.getElem_cons_succ, List.setIfInBounds_toArray, List.set_cons_zero, List.set_cons_succ]
                  refine wpAnyH_done (by kernel_rfl) ?_ _
                  have HEz := Lib.hid ((HE6.out.tk_in HKL.out HI9.out).below hHeld.1)
                  clear hHeld HSt
                  go_wp2_with fail
                  go_roundw
                  case rel => exact ⟨k + 1, _, _, _, by go_num, HKL.out, HEz.out⟩
                  case measure => simp [intOf]; omega
                | false =>
                  rw [hi] at zi
                  have HI9 := Lib.hid (show I'[l2[k] + 1]?.getD false = false by rw [HXK.out]; exact hi)
                  clear hi
                  have HSt : Hid (∀ w', Below wr.heap.size wr w' → Below wr.heap.size wr w' ∧ w'.cell? ⟨g, 0, none⟩ = some (.slice (some ⟨bm, 0, none⟩) M.length cm) ∧ w'.cell? ⟨bm, x * 7, none⟩ = some (.int .i8 1) ∧ w'.cell? ⟨bm, x * 7 + 1, none⟩ = some (.int .u64 (p0 : Int)) ∧ w'.cell? ⟨bm, x * 7 + 2, none⟩ = some (.int .u64 (p1 : Int)) ∧ w'.cell? ⟨bm, x * 7 + 3, none⟩ = some (.int .u64 (p2 : Int)) ∧ w'.cell? ⟨bm, x * 7 + 4, none⟩ = some (.int .u64 (p3 : Int)) ∧ (w'.cell? ⟨bt, ot + p, none⟩ = some (.int .u8 (c : Int))) ∧ (w'.cell? ⟨gi, x + 1, none⟩ = some (.bool false))) := Lib.hid fun w' hb => by
                    have hk : ∀ (b o : Nat) (u : Value), wr.cell? ⟨b, o, none⟩ = some u → w'.cell? ⟨b, o, none⟩ = some u := fun b o u h => by rw [hb.cell (World.block_lt_of_cell? wr _ h)]; exact h
                    exact ⟨hb, hk _ _ _ z0, hk _ _ _ d0, hk _ _ _ d1, hk _ _ _ d2, hk _ _ _ d3, hk _ _ _ d4, hk _ _ _ zt, hk _ _ _ zi⟩
                  have hst : Below wr.heap.size wr wr.drew ∧ wr.drew.cell? ⟨g, 0, none⟩ = some (.slice (some ⟨bm, 0, none⟩) M.length cm) ∧ wr.drew.cell? ⟨bm, x * 7, none⟩ = some (.int .i8 1) ∧ wr.drew.cell? ⟨bm, x * 7 + 1, none⟩ = some (.int .u64 (p0 : Int)) ∧ wr.drew.cell? ⟨bm, x * 7 + 2, none⟩ = some (.int .u64 (p1 : Int)) ∧ wr.drew.cell? ⟨bm, x * 7 + 3, none⟩ = some (.int .u64 (p2 : Int)) ∧ wr.drew.cell? ⟨bm, x * 7 + 4, none⟩ = some (.int .u64 (p3 : Int)) ∧ (wr.drew.cell? ⟨bt, ot + p, none⟩ = some (.int .u8 (c : Int))) ∧ (wr.drew.cell? ⟨gi, x + 1, none⟩ = some (.bool false)) := HSt.out _ (below_drewN (Below.refl _ wr) 1)
                  clear z0 d0 d1 d2 d3 d4 zt zi
                  refine wp_region_held_drew (S := fun w' => Below wr.heap.size wr w' ∧ w'.cell? ⟨g, 0, none⟩ = some (.slice (some ⟨bm, 0, none⟩) M.length cm) ∧ w'.cell? ⟨bm, x * 7, none⟩ = some (.int .i8 1) ∧ w'.cell? ⟨bm, x * 7 + 1, none⟩ = some (.int .u64 (p0 : Int)) ∧ w'.cell? ⟨bm, x * 7 + 2, none⟩ = some (.int .u64 (p1 : Int)) ∧ w'.cell? ⟨bm, x * 7 + 3, none⟩ = some (.int .u64 (p2 : Int)) ∧ w'.cell? ⟨bm, x * 7 + 4, none⟩ = some (.int .u64 (p3 : Int)) ∧ (w'.cell? ⟨bt, ot + p, none⟩ = some (.int .u8 (c : Int))) ∧ (w'.cell? ⟨gi, x + 1, none⟩ = some (.bool false))) (by kernel_rfl) hst (fun hHeld => ?_)
                  refine wpAnyH_take (i := 0) (v := .pointer (some ⟨g, 0, none⟩)) rfl (by kernel_rfl) (by kernel_rfl) (by kernel_rfl) (fun _ _ _ h => h) (Or.inl ⟨by rfl, by intro w hSw; obtain ⟨hbS, s0, s1, s2, s3, s4, s5, s6, s7⟩ := hSw; clear hbS; go_simp⟩) (by assumption) ?_
                  simp only [Act.put, List.getElem_toArray, List.getElem_cons_zero, List.setIfInBounds_toArray, List.set_cons_zero, List.set_cons_succ]
                  refine wpAnyH_take (i := 1) (v := .pointer (some ⟨g, 0, none⟩)) rfl (by kernel_rfl) (by kernel_rfl) (by kernel_rfl) (fun _ _ _ h => h) (Or.inl ⟨by rfl, by intro w hSw; obtain ⟨hbS, s0, s1, s2, s3, s4, s5, s6, s7⟩ := hSw; clear hbS; go_simp⟩) (by assumption) ?_
                  simp only [Act.put, List.getElem_toArray, List.getElem_cons_zero, List.getElem_cons_succ, List.setIfInBounds_toArray, List.set_cons_zero, List.set_cons_succ]
                  refine wpAnyH_take (i := 2) (v := .pointer (some ⟨g, 0, none⟩)) rfl (by kernel_rfl) (by kernel_rfl) (by kernel_rfl) (fun _ _ _ h => h) (Or.inl ⟨by rfl, by intro w hSw; obtain ⟨hbS, s0, s1, s2, s3, s4, s5, s6, s7⟩ := hSw; clear hbS; go_simp⟩) (by assumption) ?_
                  simp only [Act.put, List.getElem_toArray, List.getElem_cons_zero, List.getElem_cons_succ, List.setIfInBounds_toArray, List.set_cons_zero, List.set_cons_succ]
                  refine wpAnyH_take (i := 3) (v := .slice (some ⟨bm, 0, none⟩) M.length cm) rfl (by kernel_rfl) (by kernel_rfl) (by kernel_rfl) (fun _ _ _ h => h) (Or.inl ⟨by rfl, by intro w hSw; obtain ⟨hbS, s0, s1, s2, s3, s4, s5, s6, s7⟩ := hSw; clear hbS; go_simp⟩) (by assumption) ?_
                  simp only [Act.put, List.getElem_toArray, List.getElem_cons_zero, List.getElem_cons_succ, List.setIfInBounds_toArray, List.set_cons_zero, List.set_cons_succ]
                  refine wpAnyH_take (i := 4) (v := .int .i64 (x : Int)) rfl (by kernel_rfl) (by kernel_rfl) (by kernel_rfl) (fun _ _ _ h => h) (Or.inl ⟨by rfl, by intro w hSw; obtain ⟨hbS, s0, s1, s2, s3, s4, s5, s6, s7⟩ := hSw; clear hbS; go_simp⟩) (by assumption) ?_
                  simp only [Act.put, List.getElem_toArray, List.getElem_cons_zero, List.getElem_cons_succ, List.setIfInBounds_toArray, List.set_cons_zero, List.set_cons_succ]
                  refine wpAnyH_take (i := 5) (v := .pointer (some ⟨bm, x * 7, none⟩)) rfl (by kernel_rfl) (by kernel_rfl) (by kernel_rfl) (fun _ _ _ h => h) (Or.inl ⟨by rfl, by intro w hSw; obtain ⟨hbS, s0, s1, s2, s3, s4, s5, s6, s7⟩ := hSw; clear hbS; go_simp⟩) (by assumption) ?_
                  simp only [Act.put, List.getElem_toArray, List.getElem_cons_zero, List.getElem_cons_succ, List.setIfInBounds_toArray, List.set_cons_zero, List.set_cons_succ]
                  refine wpAnyH_take (i := 6) (v := .pointer (some ⟨bm, x * 7, none⟩)) rfl (by kernel_rfl) (by kernel_rfl) (by kernel_rfl) (fun _ _ _ h => h) (Or.inl ⟨by rfl, by intro w hSw; obtain ⟨hbS, s0, s1, s2, s3, s4, s5, s6, s7⟩ := hSw; clear hbS; go_simp⟩) (by assumption) ?_
                  simp only [Act.put, List.getElem_toArray, List.getElem_cons_zero, List.getElem_cons_succ, List.setIfInBounds_toArray, List.set_cons_zero, List.set_cons_succ]
                  refine wpAnyH_take (i := 7) (v := .int .i8 1) rfl (by kernel_rfl) (by kernel_rfl) (by kernel_rfl) (fun _ _ _ h => h) (Or.inl ⟨by rfl, by intro w hSw; obtain ⟨hbS, s0, s1, s2, s3, s4, s5, s6, s7⟩ := hSw; clear hbS; go_simp⟩) (by assumption) ?_
                  simp only [Act.put, List.getElem_toArray, List.getElem_cons_zero, List.getElem_cons_succ, List.setIfInBounds_toArray, List.set_cons_zero, List.set_cons_succ]
                  refine wpAnyH_take (i := 8) (v := .int .i64 1) rfl (by kernel_rfl) (by kernel_rfl) (by kernel_rfl) (fun _ _ _ h => h) (Or.inl ⟨by rfl, by intro w hSw; obtain ⟨hbS, s0, s1, s2, s3, s4, s5, s6, s7⟩ := hSw; clear hbS; go_simp⟩) (by assumption) ?_
                  simp only [Act.put, List.getElem_toArray, List.getElem_cons_zero, List.getElem_cons_succ, List.setIfInBounds_toArray, List.set_cons_zero, List.set_cons_succ]
                  refine wpAnyH_take (i := 9) (v := .bool true) rfl (by kernel_rfl) (by kernel_rfl) (by kernel_rfl) (fun _ _ _ h => h) (Or.inl ⟨by rfl, by intro w hSw; obtain ⟨hbS, s0, s1, s2, s3, s4, s5, s6, s7⟩ := hSw; clear hbS; go_simp⟩) (by assumption) ?_
                  simp only [Act.put, List.getElem_toArray, List.getElem_cons_zero, List.getElem_cons_succ, List.setIfInBounds_toArray, List.set_cons_zero, List.set_cons_succ]
                  refine wpAnyH_take (i := 10) (v := .bool true) rfl (by kernel_rfl) (by kernel_rfl) (by kernel_rfl) (fun _ _ _ h => h) (Or.inl ⟨by rfl, by intro w hSw; obtain ⟨hbS, s0, s1, s2, s3, s4, s5, s6, s7⟩ := hSw; clear hbS; go_simp⟩) (by assumption) ?_
                  simp only [Act.put, List.getElem_toArray, List.getElem_cons_zero, List.getElem_cons_succ, List.setIfInBounds_toArray, List.set_cons_zero, List.set_cons_succ]
                  refine wpAnyH_take (i := 11) (v := .int .i64 (p : Int)) rfl (by kernel_rfl) (by kernel_rfl) (by kernel_rfl) (fun _ _ _ h => h) (Or.inl ⟨by rfl, by intro w hSw; obtain ⟨hbS, s0, s1, s2, s3, s4, s5, s6, s7⟩ := hSw; clear hbS; go_simp⟩) (by assumption) ?_
                  simp only [Act.put, List.getElem_toArray, List.getElem_cons_zero, List.getElem_cons_succ, List.setIfInBounds_toArray, List.set_cons_zero, List.set_cons_succ]
                  refine wpAnyH_take (i := 12) (v := .slice (some ⟨bt, ot, none⟩) tx.length ct) rfl (by kernel_rfl) (by kernel_rfl) (by kernel_rfl) (fun _ _ _ h => h) (Or.inl ⟨by rfl, by intro w hSw; obtain ⟨hbS, s0, s1, s2, s3, s4, s5, s6, s7⟩ := hSw; clear hbS; go_simp⟩) (by assumption) ?_
                  simp only [Act.put, List.getElem_toArray, List.getElem_cons_zero, List.getElem_cons_succ, List.setIfInBounds_toArray, List.set_cons_zero, List.set_cons_succ]
                  refine wpAnyH_take (i := 13) (v := .int .i64 (tx.length : Int)) rfl (by kernel_rfl) (by kernel_rfl) (by kernel_rfl) (fun _ _ _ h => h) (Or.inl ⟨by rfl, by intro w hSw; obtain ⟨hbS, s0, s1, s2, s3, s4, s5, s6, s7⟩ := hSw; clear hbS; go_simp⟩) (by assumption) ?_
                  simp only [Act.put, List.getElem_toArray, List.getElem_cons_zero, List.getElem_cons_succ, List.setIfInBounds_toArray, List.set_cons_zero, List.set_cons_succ]
                  refine wpAnyH_take (i := 14) (v := .bool true) rfl (by kernel_rfl) (by kernel_rfl) (by kernel_rfl) (fun _ _ _ h => h) (Or.inl ⟨by rfl, by intro w hSw; obtain ⟨hbS, s0, s1, s2, s3, s4, s5, s6, s7⟩ := hSw; clear hbS; go_simp⟩) (by assumption) ?_
                  simp only [Act.put, List.getElem_toArray, List.getElem_cons_zero, List.getElem_cons_succ, List.setIfInBounds_toArray, List.set_cons_zero, List.set_cons_succ]
                  refine wpAnyH_take (i := 15) (v := .bool true) rfl (by kernel_rfl) (by kernel_rfl) (by kernel_rfl) (fun _ _ _ h => h) (Or.inl ⟨by rfl, by intro w hSw; obtain ⟨hbS, s0, s1, s2, s3, s4, s5, s6, s7⟩ := hSw; clear hbS; go_simp⟩) (by assumption) ?_
                  simp only [Act.put, List.getElem_toArray, List.getElem_cons_zero, List.getElem_cons_succ, List.setIfInBounds_toArray, List.set_cons_zero, List.set_cons_succ]
                  refine wpAnyH_take (i := 16) (v := .bool true) rfl (by kernel_rfl) (by kernel_rfl) (by kernel_rfl) (fun _ _ _ h => h) (Or.inl ⟨by rfl, by intro w hSw; obtain ⟨hbS, s0, s1, s2, s3, s4, s5, s6, s7⟩ := hSw; clear hbS; go_simp⟩) (by assumption) ?_
                  simp only [Act.put, List.getElem_toArray, List.getElem_cons_zero, List.getElem_cons_succ, List.setIfInBounds_toArray, List.set_cons_zero, List.set_cons_succ]
                  refine wpAnyH_take (i := 17) (v := .pointer (some ⟨g, 0, none⟩)) rfl (by kernel_rfl) (by kernel_rfl) (by kernel_rfl) (fun _ _ _ h => h) (Or.inl ⟨by rfl, by intro w hSw; obtain ⟨hbS, s0, s1, s2, s3, s4, s5, s6, s7⟩ := hSw; clear hbS; go_simp⟩) (by assumption) ?_
                  simp only [Act.put, List.getElem_toArray, List.getElem_cons_zero, List.getElem_cons_succ, List.setIfInBounds_toArray, List.set_cons_zero, List.set_cons_succ]
                  refine wpAnyH_take (i := 18) (v := .pointer (some ⟨g, 0, none⟩)) rfl (by kernel_rfl) (by kernel_rfl) (by kernel_rfl) (fun _ _ _ h => h) (Or.inl ⟨by rfl, by intro w hSw; obtain ⟨hbS, s0, s1, s2, s3, s4, s5, s6, s7⟩ := hSw; clear hbS; go_simp⟩) (by assumption) ?_
                  simp only [Act.put, List.getElem_toArray, List.getElem_cons_zero, List.getElem_cons_succ, List.setIfInBounds_toArray, List.set_cons_zero, List.set_cons_succ]
                  refine wpAnyH_take (i := 19) (v := .pointer (some ⟨g, 0, none⟩)) rfl (by kernel_rfl) (by kernel_rfl) (by kernel_rfl) (fun _ _ _ h => h) (Or.inl ⟨by rfl, by intro w hSw; obtain ⟨hbS, s0, s1, s2, s3, s4, s5, s6, s7⟩ := hSw; clear hbS; go_simp⟩) (by assumption) ?_
                  simp only [Act.put, List.getElem_toArray, List.getElem_cons_zero, List.getElem_cons_succ, List.setIfInBounds_toArray, List.set_cons_zero, List.set_cons_succ]
                  refine wpAnyH_take (i := 20) (v := .slice (some ⟨bm, 0, none⟩) M.length cm) rfl (by kernel_rfl) (by kernel_rfl) (by kernel_rfl) (fun _ _ _ h => h) (Or.inl ⟨by rfl, by intro w hSw; obtain ⟨hbS, s0, s1, s2, s3, s4, s5, s6, s7⟩ := hSw; clear hbS; go_simp⟩) (by assumption) ?_
                  simp only [Act.put, List.getElem_toArray, List.getElem_cons_zero, List.getElem_cons_succ, List.setIfInBounds_toArray, List.set_cons_zero, List.set_cons_succ]
                  refine wpAnyH_take (i := 21) (v := .int .i64 (x : Int)) rfl (by kernel_rfl) (by kernel_rfl) (by kernel_rfl) (fun _ _ _ h => h) (Or.inl ⟨by rfl, by intro w hSw; obtain ⟨hbS, s0, s1, s2, s3, s4, s5, s6, s7⟩ := hSw; clear hbS; go_simp⟩) (by assumption) ?_
                  simp only [Act.put, List.getElem_toArray, List.getElem_cons_zero, List.getElem_cons_succ, List.setIfInBounds_toArray, List.set_cons_zero, List.set_cons_succ]
                  refine wpAnyH_take (i := 22) (v := .pointer (some ⟨bm, x * 7, none⟩)) rfl (by kernel_rfl) (by kernel_rfl) (by kernel_rfl) (fun _ _ _ h => h) (Or.inl ⟨by rfl, by intro w hSw; obtain ⟨hbS, s0, s1, s2, s3, s4, s5, s6, s7⟩ := hSw; clear hbS; go_simp⟩) (by assumption) ?_
                  simp only [Act.put, List.getElem_toArray, List.getElem_cons_zero, List.getElem_cons_succ, List.setIfInBounds_toArray, List.set_cons_zero, List.set_cons_succ]
                  refine wpAnyH_take (i := 23) (v := .pointer (some ⟨bm, x * 7 + 1, none⟩)) rfl (by kernel_rfl) (by kernel_rfl) (by kernel_rfl) (fun _ _ _ h => h) (Or.inl ⟨by rfl, by intro w hSw; obtain ⟨hbS, s0, s1, s2, s3, s4, s5, s6, s7⟩ := hSw; clear hbS; go_simp⟩) (by assumption) ?_
                  simp only [Act.put, List.getElem_toArray, List.getElem_cons_zero, List.getElem_cons_succ, List.setIfInBounds_toArray, List.set_cons_zero, List.set_cons_succ]
                  refine wpAnyH_take (i := 24) (v := .agg #[.int .u64 (p0 : Int), .int .u64 (p1 : Int), .int .u64 (p2 : Int), .int .u64 (p3 : Int)]) rfl (by kernel_rfl) (by kernel_rfl) (by kernel_rfl) (fun _ _ _ h => h) (Or.inl ⟨by rfl, by intro w hSw; obtain ⟨hbS, s0, s1, s2, s3, s4, s5, s6, s7⟩ := hSw; clear hbS; go_simp⟩) (by assumption) ?_
                  simp only [Act.put, List.getElem_toArray, List.getElem_cons_zero, List.getElem_cons_succ, List.setIfInBounds_toArray, List.set_cons_zero, List.set_cons_succ]
                  refine wpAnyH_take (i := 25) (v := .slice (some ⟨bt, ot, none⟩) tx.length ct) rfl (by kernel_rfl) (by kernel_rfl) (by kernel_rfl) (fun _ _ _ h => h) (Or.inl ⟨by rfl, by intro w hSw; obtain ⟨hbS, s0, s1, s2, s3, s4, s5, s6, s7⟩ := hSw; clear hbS; go_simp⟩) (by assumption) ?_
                  simp only [Act.put, List.getElem_toArray, List.getElem_cons_zero, List.getElem_cons_succ, List.setIfInBounds_toArray, List.set_cons_zero, List.set_cons_succ]
                  refine wpAnyH_take (i := 26) (v := .int .i64 (p : Int)) rfl (by kernel_rfl) (by kernel_rfl) (by kernel_rfl) (fun _ _ _ h => h) (Or.inl ⟨by rfl, by intro w hSw; obtain ⟨hbS, s0, s1, s2, s3, s4, s5, s6, s7⟩ := hSw; clear hbS; go_simp⟩) (by assumption) ?_
                  simp only [Act.put, List.getElem_toArray, List.getElem_cons_zero, List.getElem_cons_succ, List.setIfInBounds_toArray, List.set_cons_zero, List.set_cons_succ]
                  refine wpAnyH_take (i := 27) (v := .pointer (some ⟨bt, ot + p, none⟩)) rfl (by kernel_rfl) (by kernel_rfl) (by kernel_rfl) (fun _ _ _ h => h) (Or.inl ⟨by rfl, by intro w hSw; obtain ⟨hbS, s0, s1, s2, s3, s4, s5, s6, s7⟩ := hSw; clear hbS; go_simp⟩) (by assumption) ?_
                  simp only [Act.put, List.getElem_toArray, List.getElem_cons_zero, List.getElem_cons_succ, List.setIfInBounds_toArray, List.set_cons_zero, List.set_cons_succ]
                  refine wpAnyH_take (i := 28) (v := .int .u8 (c : Int)) rfl (by kernel_rfl) (by kernel_rfl) (by kernel_rfl) (fun _ _ _ h => h) (Or.inl ⟨by rfl, by intro w hSw; obtain ⟨hbS, s0, s1, s2, s3, s4, s5, s6, s7⟩ := hSw; clear hbS; go_simp⟩) (by assumption) ?_
                  simp only [Act.put, List.getElem_toArray, List.getElem_cons_zero, List.getElem_cons_succ, List.setIfInBounds_toArray, List.set_cons_zero, List.set_cons_succ]
                  refine wpAnyH_ready (rs := [29]) (by kernel_rfl) (by simp) ?_
                  refine AllReadyH.cons rfl (fun K hK => ?_) AllReadyH.nil
                  go_simp
                  have hbd := hHeld.1
                  refine (HHAS.out _).mono ?_
                  rintro e wn ⟨rfl, hbn⟩
                  replace hHeld := HSt.out wn (hbd.trans (hbn.mono hbd.size))
                  refine hK.out _ _ hHeld (fun hHeld => ?_)
                  clear hK K hbn hbd
                  refine wpAnyH_take (i := 30) (v := .bool true) rfl (by kernel_rfl) (by kernel_rfl) (by kernel_rfl) (fun _ _ _ h => h) (Or.inl ⟨by rfl, by intro w hSw; obtain ⟨hbS, s0, s1, s2, s3, s4, s5, s6, s7⟩ := hSw; clear hbS; go_simp⟩) (by assumption) ?_
                  simp only [Act.put, List.getElem_toArray, List.getElem_cons_zero, List.getElem_cons_succ, List.setIfInBounds_toArray, List.set_cons_zero, List.set_cons_succ]
                  refine wpAnyH_take (i := 31) (v := .bool true) rfl (by kernel_rfl) (by kernel_rfl) (by kernel_rfl) (fun _ _ _ h => h) (Or.inl ⟨by rfl, by intro w hSw; obtain ⟨hbS, s0, s1, s2, s3, s4, s5, s6, s7⟩ := hSw; clear hbS; go_simp⟩) (by assumption) ?_
                  simp only [Act.put, List.getElem_toArray, List.getElem_cons_zero, List.getElem_cons_succ, List.setIfInBounds_toArray, List.set_cons_zero, List.set_cons_succ]
                  refine wpAnyH_take (i := 32) (v := .slice (some ⟨gi, 0, none⟩) M.length M.length) rfl (by kernel_rfl) (by kernel_rfl) (by kernel_rfl) (fun _ _ _ h => h) (Or.inl ⟨by rfl, by intro w hSw; obtain ⟨hbS, s0, s1, s2, s3, s4, s5, s6, s7⟩ := hSw; clear hbS; go_simp⟩) (by assumption) ?_
                  simp only [Act.put, List.getElem_toArray, List.getElem_cons_zero, List.getElem_cons_succ, List.setIfInBounds_toArray, List.set_cons_zero, List.set_cons_succ]
                  refine wpAnyH_take (i := 33) (v := .int .i64 (x : Int)) rfl (by kernel_rfl) (by kernel_rfl) (by kernel_rfl) (fun _ _ _ h => h) (Or.inl ⟨by rfl, by intro w hSw; obtain ⟨hbS, s0, s1, s2, s3, s4, s5, s6, s7⟩ := hSw; clear hbS; go_simp⟩) (by assumption) ?_
                  simp only [Act.put, List.getElem_toArray, List.getElem_cons_zero, List.getElem_cons_succ, List.setIfInBounds_toArray, List.set_cons_zero, List.set_cons_succ]
                  refine wpAnyH_take (i := 34) (v := .int .i64 ((x : Int) + 1)) rfl (by kernel_rfl) (by kernel_rfl) (by kernel_rfl) (fun _ _ _ h => h) (Or.inl ⟨by rfl, by intro w hSw; obtain ⟨hbS, s0, s1, s2, s3, s4, s5, s6, s7⟩ := hSw; clear hbS; go_simp⟩) (by assumption) ?_
                  simp only [Act.put, List.getElem_toArray, List.getElem_cons_zero, List.getElem_cons_succ, List.setIfInBounds_toArray, List.set_cons_zero, List.set_cons_succ]
                  refine wpAnyH_take (i := 35) (v := .pointer (some ⟨gi, x + 1, none⟩)) rfl (by kernel_rfl) (by kernel_rfl) (by kernel_rfl) (fun _ _ _ h => h) (Or.inl ⟨by rfl, by intro w hSw; obtain ⟨hbS, s0, s1, s2, s3, s4, s5, s6, s7⟩ := hSw; clear hbS; go_simp⟩) (by assumption) ?_
                  simp only [Act.put, List.getElem_toArray, List.getElem_cons_zero, List.getElem_cons_succ, List.setIfInBounds_toArray, List.set_cons_zero, List.set_cons_succ]
                  refine wpAnyH_take (i := 36) (v := .bool false) rfl (by kernel_rfl) (by kernel_rfl) (by kernel_rfl) (fun _ _ _ h => h) (Or.inl ⟨by rfl, by intro w hSw; obtain ⟨hbS, s0, s1, s2, s3, s4, s5, s6, s7⟩ := hSw; clear hbS; go_simp⟩) (by assumption) ?_
                  simp only [Act.put, List.getElem_toArray, List.getElem_cons_zero, List.getElem_cons_succ, List.setIfInBounds_toArray, List.set_cons_zero, List.set_cons_succ]
                  refine wpAnyH_take (i := 37) (v := .bool true) rfl (by kernel_rfl) (by kernel_rfl) (by kernel_rfl) (fun _ _ _ h => h) (Or.inl ⟨by rfl, by intro w hSw; obtain ⟨hbS, s0, s1, s2, s3, s4, s5, s6, s7⟩ := hSw; clear hbS; go_simp⟩) (by assumption) ?_
                  simp only [Act.put, List.getElem_toArray, List.getElem_cons_zero, List.getElem_cons_succ, List.setIfInBounds_toArray, List.set_cons_zero, List.set_cons_succ]
                  refine wpAnyH_take (i := 38) (v := .bool true) rfl (by kernel_rfl) (by kernel_rfl) (by kernel_rfl) (fun _ _ _ h => h) (Or.inl ⟨by rfl, by intro w hSw; obtain ⟨hbS, s0, s1, s2, s3, s4, s5, s6, s7⟩ := hSw; clear hbS; go_simp⟩) (by assumption) ?_
                  simp only [Act.put, List.getElem_toArray, List.getElem_cons_zero, List.getElem_cons_succ, List.setIfInBounds_toArray, List.set_cons_zero, List.set_cons_succ]
                  refine wpAnyH_done (by kernel_rfl) ?_ _
                  have HEz := Lib.hid (HE6.out.below hHeld.1)
                  have zi' := hHeld.2.2.2.2.2.2.2.2
                  have zf := HEz.out.ii.frozen (x + 1)
                  clear hHeld HSt
                  go_upto_region 19 with fail
                  obtain ⟨w9, hw9⟩ : ∃ w9, wn.setCell ⟨gi, x + 1, none⟩ (.bool true) = w9 := ⟨_, rfl⟩
                  have hno9 : (wn.setCell ⟨gi, x + 1, none⟩ (.bool true)).ownsRow W.heap.size 3 1 _ nl.length (cellsN nl) := own_set_at HEz.out.ii HEz.out.no (by decide)
                  have hsz9 : W.heap.size ≤ (wn.setCell ⟨gi, x + 1, none⟩ (.bool true)).heap.size := by simpa using HEz.out.bel.size
                  have hk9 : nl.length + 1 ≤ 17592186044416 := by have := HEz.out.cnt; have := HM.out.shp.len; omega
                  rw [hw9] at hno9 hsz9 ⊢
                  have HW9 := Lib.hid hw9
                  clear hw9 zi' zf
                  go_wp2_with (at_builtin; refine wpList_appK (w := w9) rfl (.tmp 126) (.tmp 129) rfl W.heap.size _ nl.length nl [x + 1] _ rfl rfl rfl hno9 rfl (by simp) hk9 hsz9 ?_)
                  intro gn cn w10 ho10 hp10
                  rw [← HW9.out] at hp10
                  have hty : takesB M tx p l2[k] = true := by rw [HXK.out]; exact HTK.out
                  have hx2 : l2[k] + 1 < M.length := by rw [HXK.out]; exact hx1
                  rw [← HXK.out] at ho10 hp10
                  have HEn := Lib.hid (HEz.out.tk_new HKL.out hty HI9.out hx2 ho10 hp10)
                  clear ho10 hp10 hno9 hsz9
                  go_wp2_with fail
                  go_roundw
                  case rel => exact ⟨k + 1, _, _, _, by go_num, HKL.out, HEn.out⟩
                  case measure => simp [intOf]; omega
            · have hd2 : decide ((p : Int) < (tx.length : Int)) = false := decide_eq_false (by omega)
              have hd2n : decide (p < tx.length) = false := decide_eq_false hpn2
              have HTN := Lib.hid (show takesB M tx p l2[k] = false by rw [HXK.out, HTK.out, hd2n]; rfl)
              have HSt : Hid (∀ w', Below wr.heap.size wr w' → Below wr.heap.size wr w' ∧ w'.cell? ⟨g, 0, none⟩ = some (.slice (some ⟨bm, 0, none⟩) M.length cm) ∧ w'.cell? ⟨bm, x * 7, none⟩ = some (.int .i8 1) ∧ w'.cell? ⟨bm, x * 7 + 1, none⟩ = some (.int .u64 (p0 : Int)) ∧ w'.cell? ⟨bm, x * 7 + 2, none⟩ = some (.int .u64 (p1 : Int)) ∧ w'.cell? ⟨bm, x * 7 + 3, none⟩ = some (.int .u64 (p2 : Int)) ∧ w'.cell? ⟨bm, x * 7 + 4, none⟩ = some (.int .u64 (p3 : Int)) ∧ True ∧ True) := Lib.hid fun w' hb => by
                have hk : ∀ (b o : Nat) (u : Value), wr.cell? ⟨b, o, none⟩ = some u → w'.cell? ⟨b, o, none⟩ = some u := fun b o u h => by rw [hb.cell (World.block_lt_of_cell? wr _ h)]; exact h
                exact ⟨hb, hk _ _ _ z0, hk _ _ _ d0, hk _ _ _ d1, hk _ _ _ d2, hk _ _ _ d3, hk _ _ _ d4, trivial, trivial⟩
              have hst : Below wr.heap.size wr wr.drew ∧ wr.drew.cell? ⟨g, 0, none⟩ = some (.slice (some ⟨bm, 0, none⟩) M.length cm) ∧ wr.drew.cell? ⟨bm, x * 7, none⟩ = some (.int .i8 1) ∧ wr.drew.cell? ⟨bm, x * 7 + 1, none⟩ = some (.int .u64 (p0 : Int)) ∧ wr.drew.cell? ⟨bm, x * 7 + 2, none⟩ = some (.int .u64 (p1 : Int)) ∧ wr.drew.cell? ⟨bm, x * 7 + 3, none⟩ = some (.int .u64 (p2 : Int)) ∧ wr.drew.cell? ⟨bm, x * 7 + 4, none⟩ = some (.int .u64 (p3 : Int)) ∧ True ∧ True := HSt.out _ (below_drewN (Below.refl _ wr) 1)
              clear z0 d0 d1 d2 d3 d4
              refine wp_region_held_drew (S := fun w' => Below wr.heap.size wr w' ∧ w'.cell? ⟨g, 0, none⟩ = some (.slice (some ⟨bm, 0, none⟩) M.length cm) ∧ w'.cell? ⟨bm, x * 7, none⟩ = some (.int .i8 1) ∧ w'.cell? ⟨bm, x * 7 + 1, none⟩ = some (.int .u64 (p0 : Int)) ∧ w'.cell? ⟨bm, x * 7 + 2, none⟩ = some (.int .u64 (p1 : Int)) ∧ w'.cell? ⟨bm, x * 7 + 3, none⟩ = some (.int .u64 (p2 : Int)) ∧ w'.cell? ⟨bm, x * 7 + 4, none⟩ = some (.int .u64 (p3 : Int)) ∧ True ∧ True) (by kernel_rfl) hst (fun hHeld => ?_)
              refine wpAnyH_take (i := 0) (v := .pointer (some ⟨g, 0, none⟩)) rfl (by kernel_rfl) (by kernel_rfl) (by kernel_rfl) (fun _ _ _ h => h) (Or.inl ⟨by rfl, by intro w hSw; obtain ⟨hbS, s0, s1, s2, s3, s4, s5, s6, s7⟩ := hSw; clear hbS; go_simp⟩) (by assumption) ?_
              simp only [Act.put, List.getElem_toArray, List.getElem_cons_zero, List.setIfInBounds_toArray, List.set_cons_zero, List.set_cons_succ]
              refine wpAnyH_take (i := 1) (v := .pointer (some ⟨g, 0, none⟩)) rfl (by kernel_rfl) (by kernel_rfl) (by kernel_rfl) (fun _ _ _ h => h) (Or.inl ⟨by rfl, by intro w hSw; obtain ⟨hbS, s0, s1, s2, s3, s4, s5, s6, s7⟩ := hSw; clear hbS; go_simp⟩) (by assumption) ?_
              simp only [Act.put, List.getElem_toArray, List.getElem_cons_zero, List.getElem_cons_succ, List.setIfInBounds_toArray, List.set_cons_zero, List.set_cons_succ]
              refine wpAnyH_take (i := 2) (v := .pointer (some ⟨g, 0, none⟩)) rfl (by kernel_rfl) (by kernel_rfl) (by kernel_rfl) (fun _ _ _ h => h) (Or.inl ⟨by rfl, by intro w hSw; obtain ⟨hbS, s0, s1, s2, s3, s4, s5, s6, s7⟩ := hSw; clear hbS; go_simp⟩) (by assumption) ?_
              simp only [Act.put, List.getElem_toArray, List.getElem_cons_zero, List.getElem_cons_succ, List.setIfInBounds_toArray, List.set_cons_zero, List.set_cons_succ]
              refine wpAnyH_take (i := 3) (v := .slice (some ⟨bm, 0, none⟩) M.length cm) rfl (by kernel_rfl) (by kernel_rfl) (by kernel_rfl) (fun _ _ _ h => h) (Or.inl ⟨by rfl, by intro w hSw; obtain ⟨hbS, s0, s1, s2, s3, s4, s5, s6, s7⟩ := hSw; clear hbS; go_simp⟩) (by assumption) ?_
              simp only [Act.put, List.getElem_toArray, List.getElem_cons_zero, List.getElem_cons_succ, List.setIfInBounds_toArray, List.set_cons_zero, List.set_cons_succ]
              refine wpAnyH_take (i := 4) (v := .int .i64 (x : Int)) rfl (by kernel_rfl) (by kernel_rfl) (by kernel_rfl) (fun _ _ _ h => h) (Or.inl ⟨by rfl, by intro w hSw; obtain ⟨hbS, s0, s1, s2, s3, s4, s5, s6, s7⟩ := hSw; clear hbS; go_simp⟩) (by assumption) ?_
              simp only [Act.put, List.getElem_toArray, List.getElem_cons_zero, List.getElem_cons_succ, List.setIfInBounds_toArray, List.set_cons_zero, List.set_cons_succ]
              refine wpAnyH_take (i := 5) (v := .pointer (some ⟨bm, x * 7, none⟩)) rfl (by kernel_rfl) (by kernel_rfl) (by kernel_rfl) (fun _ _ _ h => h) (Or.inl ⟨by rfl, by intro w hSw; obtain ⟨hbS, s0, s1, s2, s3, s4, s5, s6, s7⟩ := hSw; clear hbS; go_simp⟩) (by assumption) ?_
              simp only [Act.put, List.getElem_toArray, List.getElem_cons_zero, List.getElem_cons_succ, List.setIfInBounds_toArray, List.set_cons_zero, List.set_cons_succ]
              refine wpAnyH_take (i := 6) (v := .pointer (some ⟨bm, x * 7, none⟩)) rfl (by kernel_rfl) (by kernel_rfl) (by kernel_rfl) (fun _ _ _ h => h) (Or.inl ⟨by rfl, by intro w hSw; obtain ⟨hbS, s0, s1, s2, s3, s4, s5, s6, s7⟩ := hSw; clear hbS; go_simp⟩) (by assumption) ?_
              simp only [Act.put, List.getElem_toArray, List.getElem_cons_zero, List.getElem_cons_succ, List.setIfInBounds_toArray, List.set_cons_zero, List.set_cons_succ]
              refine wpAnyH_take (i := 7) (v := .int .i8 1) rfl (by kernel_rfl) (by kernel_rfl) (by kernel_rfl) (fun _ _ _ h => h) (Or.inl ⟨by rfl, by intro w hSw; obtain ⟨hbS, s0, s1, s2, s3, s4, s5, s6, s7⟩ := hSw; clear hbS; go_simp⟩) (by assumption) ?_
              simp only [Act.put, List.getElem_toArray, List.getElem_cons_zero, List.getElem_cons_succ, List.setIfInBounds_toArray, List.set_cons_zero, List.set_cons_succ]
              refine wpAnyH_take (i := 8) (v := .int .i64 1) rfl (by kernel_rfl) (by kernel_rfl) (by kernel_rfl) (fun _ _ _ h => h) (Or.inl ⟨by rfl, by intro w hSw; obtain ⟨hbS, s0, s1, s2, s3, s4, s5, s6, s7⟩ := hSw; clear hbS; go_simp⟩) (by assumption) ?_
              simp only [Act.put, List.getElem_toArray, List.getElem_cons_zero, List.getElem_cons_succ, List.setIfInBounds_toArray, List.set_cons_zero, List.set_cons_succ]
              refine wpAnyH_take (i := 9) (v := .bool true) rfl (by kernel_rfl) (by kernel_rfl) (by kernel_rfl) (fun _ _ _ h => h) (Or.inl ⟨by rfl, by intro w hSw; obtain ⟨hbS, s0, s1, s2, s3, s4, s5, s6, s7⟩ := hSw; clear hbS; go_simp⟩) (by assumption) ?_
              simp only [Act.put, List.getElem_toArray, List.getElem_cons_zero, List.getElem_cons_succ, List.setIfInBounds_toArray, List.set_cons_zero, List.set_cons_succ]
              refine wpAnyH_take (i := 10) (v := .bool true) rfl (by kernel_rfl) (by kernel_rfl) (by kernel_rfl) (fun _ _ _ h => h) (Or.inl ⟨by rfl, by intro w hSw; obtain ⟨hbS, s0, s1, s2, s3, s4, s5, s6, s7⟩ := hSw; clear hbS; go_simp⟩) (by assumption) ?_
              simp only [Act.put, List.getElem_toArray, List.getElem_cons_zero, List.getElem_cons_succ, List.setIfInBounds_toArray, List.set_cons_zero, List.set_cons_succ]
              refine wpAnyH_take (i := 11) (v := .int .i64 (p : Int)) rfl (by kernel_rfl) (by kernel_rfl) (by kernel_rfl) (fun _ _ _ h => h) (Or.inl ⟨by rfl, by intro w hSw; obtain ⟨hbS, s0, s1, s2, s3, s4, s5, s6, s7⟩ := hSw; clear hbS; go_simp⟩) (by assumption) ?_
              simp only [Act.put, List.getElem_toArray, List.getElem_cons_zero, List.getElem_cons_succ, List.setIfInBounds_toArray, List.set_cons_zero, List.set_cons_succ]
              refine wpAnyH_take (i := 12) (v := .slice at' tx.length ct) rfl (by kernel_rfl) (by kernel_rfl) (by kernel_rfl) (fun _ _ _ h => h) (Or.inl ⟨by rfl, by intro w hSw; obtain ⟨hbS, s0, s1, s2, s3, s4, s5, s6, s7⟩ := hSw; clear hbS; go_simp⟩) (by assumption) ?_
              simp only [Act.put, List.getElem_toArray, List.getElem_cons_zero, List.getElem_cons_succ, List.setIfInBounds_toArray, List.set_cons_zero, List.set_cons_succ]
              refine wpAnyH_take (i := 13) (v := .int .i64 (tx.length : Int)) rfl (by kernel_rfl) (by kernel_rfl) (by kernel_rfl) (fun _ _ _ h => h) (Or.inl ⟨by rfl, by intro w hSw; obtain ⟨hbS, s0, s1, s2, s3, s4, s5, s6, s7⟩ := hSw; clear hbS; go_simp⟩) (by assumption) ?_
              simp only [Act.put, List.getElem_toArray, List.getElem_cons_zero, List.getElem_cons_succ, List.setIfInBounds_toArray, List.set_cons_zero, List.set_cons_succ]
              refine wpAnyH_take (i := 14) (v := .bool false) rfl (by kernel_rfl) (by kernel_rfl) (by kernel_rfl) (fun _ _ _ h => h) (Or.inl ⟨by rfl, by intro w hSw; obtain ⟨hbS, s0, s1, s2, s3, s4, s5, s6, s7⟩ := hSw; clear hbS; go_simp⟩) (by assumption) ?_
              simp only [Act.put, List.getElem_toArray, List.getElem_cons_zero, List.getElem_cons_succ, List.setIfInBounds_toArray, List.set_cons_zero, List.set_cons_succ]
              refine wpAnyH_take (i := 15) (v := .bool false) rfl (by kernel_rfl) (by kernel_rfl) (by kernel_rfl) (fun _ _ _ h => h) (Or.inl ⟨by rfl, by intro w hSw; obtain ⟨hbS, s0, s1, s2, s3, s4, s5, s6, s7⟩ := hSw; clear hbS; go_simp⟩) (by assumption) ?_
              simp only [Act.put, List.getElem_toArray, List.getElem_cons_zero, List.getElem_cons_succ, List.setIfInBounds_toArray, List.set_cons_zero, List.set_cons_succ]
              refine wpAnyH_take (i := 16) (v := .bool false) rfl (by kernel_rfl) (by kernel_rfl) (by kernel_rfl) (fun _ _ _ h => h) (Or.inl ⟨by rfl, by intro w hSw; obtain ⟨hbS, s0, s1, s2, s3, s4, s5, s6, s7⟩ := hSw; clear hbS; go_simp⟩) (by assumption) ?_
              simp only [Act.put, List.getElem_toArray, List.getElem_cons_zero, List.getElem_cons_succ, List.setIfInBounds_toArray, List.set_cons_zero, List.set_cons_succ]
              refine wpAnyH_take (i := 17) (v := undef) rfl (by kernel_rfl) (by kernel_rfl) (by kernel_rfl) (fun _ _ _ h => h) (Or.inr ⟨by rfl, rfl⟩) (by assumption) ?_
              simp only [Act.put, List.getElem_toArray, List.getElem_cons_zero, List.getElem_cons_succ, List.setIfInBounds_toArray, List.set_cons_zero, List.set_cons_succ]
              refine wpAnyH_take (i := 18) (v := undef) rfl (by kernel_rfl) (by kernel_rfl) (by kernel_rfl) (fun _ _ _ h => h) (Or.inr ⟨by rfl, rfl⟩) (by assumption) ?_
              simp only [Act.put, List.getElem_toArray, List.getElem_cons_zero, List.getElem_cons_succ, List.setIfInBounds_toArray, List.set_cons_zero, List.set_cons_succ]
              refine wpAnyH_take (i := 19) (v := undef) rfl (by kernel_rfl) (by kernel_rfl) (by kernel_rfl) (fun _ _ _ h => h) (Or.inr ⟨by rfl, rfl⟩) (by assumption) ?_
              simp only [Act.put, List.getElem_toArray, List.getElem_cons_zero, List.getElem_cons_succ, List.setIfInBounds_toArray, List.set_cons_zero, List.set_cons_succ]
              refine wpAnyH_take (i := 20) (v := undef) rfl (by kernel_rfl) (by kernel_rfl) (by kernel_rfl) (fun _ _ _ h => h) (Or.inr ⟨by rfl, rfl⟩) (by assumption) ?_
              simp only [Act.put, List.getElem_toArray, List.getElem_cons_zero, List.getElem_cons_succ, List.setIfInBounds_toArray, List.set_cons_zero, List.set_cons_succ]
              refine wpAnyH_take (i := 21) (v := undef) rfl (by kernel_rfl) (by kernel_rfl) (by kernel_rfl) (fun _ _ _ h => h) (Or.inr ⟨by rfl, rfl⟩) (by assumption) ?_
              simp only [Act.put, List.getElem_toArray, List.getElem_cons_zero, List.getElem_cons_succ, List.setIfInBounds_toArray, List.set_cons_zero, List.set_cons_succ]
              refine wpAnyH_take (i := 22) (v := undef) rfl (by kernel_rfl) (by kernel_rfl) (by kernel_rfl) (fun _ _ _ h => h) (Or.inr ⟨by rfl, rfl⟩) (by assumption) ?_
              simp only [Act.put, List.getElem_toArray, List.getElem_cons_zero, List.getElem_cons_succ, List.setIfInBounds_toArray, List.set_cons_zero, List.set_cons_succ]
              refine wpAnyH_take (i := 23) (v := undef) rfl (by kernel_rfl) (by kernel_rfl) (by kernel_rfl) (fun _ _ _ h => h) (Or.inr ⟨by rfl, rfl⟩) (by assumption) ?_
              simp only [Act.put, List.getElem_toArray, List.getElem_cons_zero, List.getElem_cons_succ, List.setIfInBounds_toArray, List.set_cons_zero, List.set_cons_succ]
              refine wpAnyH_take (i := 24) (v := undef) rfl (by kernel_rfl) (by kernel_rfl) (by kernel_rfl) (fun _ _ _ h => h) (Or.inr ⟨by rfl, rfl⟩) (by assumption) ?_
              simp only [Act.put, List.getElem_toArray, List.getElem_cons_zero, List.getElem_cons_succ, List.setIfInBounds_toArray, List.set_cons_zero, List.set_cons_succ]
              refine wpAnyH_take (i := 25) (v := undef) rfl (by kernel_rfl) (by kernel_rfl) (by kernel_rfl) (fun _ _ _ h => h) (Or.inr ⟨by rfl, rfl⟩) (by assumption) ?_
              simp only [Act.put, List.getElem_toArray, List.getElem_cons_zero, List.getElem_cons_succ, List.setIfInBounds_toArray, List.set_cons_zero, List.set_cons_succ]
              refine wpAnyH_take (i := 26) (v := undef) rfl (by kernel_rfl) (by kernel_rfl) (by kernel_rfl) (fun _ _ _ h => h) (Or.inr ⟨by rfl, rfl⟩) (by assumption) ?_
              simp only [Act.put, List.getElem_toArray, List.getElem_cons_zero, List.getElem_cons_succ, List.setIfInBounds_toArray, List.set_cons_zero, List.set_cons_succ]
              refine wpAnyH_take (i := 27) (v := undef) rfl (by kernel_rfl) (by kernel_rfl) (by kernel_rfl) (fun _ _ _ h => h) (Or.inr ⟨by rfl, rfl⟩) (by assumption) ?_
              simp only [Act.put, List.getElem_toArray, List.getElem_cons_zero, List.getElem_cons_succ, List.setIfInBounds_toArray, List.set_cons_zero, List.set_cons_succ]
              refine wpAnyH_take (i := 28) (v := undef) rfl (by kernel_rfl) (by kernel_rfl) (by kernel_rfl) (fun _ _ _ h => h) (Or.inr ⟨by rfl, rfl⟩) (by assumption) ?_
              simp only [Act.put, List.getElem_toArray, List.getElem_cons_zero, List.getElem_cons_succ, List.setIfInBounds_toArray, List.set_cons_zero, List.set_cons_succ]
              refine wpAnyH_take (i := 29) (v := undef) rfl (by kernel_rfl) (by kernel_rfl) (by kernel_rfl) (fun _ _ _ h => h) (Or.inr ⟨by rfl, rfl⟩) (by assumption) ?_
              simp only [Act.put, List.getElem_toArray, List.getElem_cons_zero, List.getElem_cons_succ, List.setIfInBounds_toArray, List.set_cons_zero, List.set_cons_succ]
              refine wpAnyH_take (i := 30) (v := .bool false) rfl (by kernel_rfl) (by kernel_rfl) (by kernel_rfl) (fun _ _ _ h => h) (Or.inl ⟨by rfl, by intro w hSw; obtain ⟨hbS, s0, s1, s2, s3, s4, s5, s6, s7⟩ := hSw; clear hbS; go_simp⟩) (by assumption) ?_
              simp only [Act.put, List.getElem_toArray, List.getElem_cons_zero, List.getElem_cons_succ, List.setIfInBounds_toArray, List.set_cons_zero, List.set_cons_succ]
              refine wpAnyH_take (i := 31) (v := .bool false) rfl (by kernel_rfl) (by kernel_rfl) (by kernel_rfl) (fun _ _ _ h => h) (Or.inl ⟨by rfl, by intro w hSw; obtain ⟨hbS, s0, s1, s2, s3, s4, s5, s6, s7⟩ := hSw; clear hbS; go_simp⟩) (by assumption) ?_
              simp only [Act.put, List.getElem_toArray, List.getElem_cons_zero, List.getElem_cons_succ, List.setIfInBounds_toArray, List.set_cons_zero, List.set_cons_succ]
              refine wpAnyH_take (i := 32) (v := undef) rfl (by kernel_rfl) (by kernel_rfl) (by kernel_rfl) (fun _ _ _ h => h) (Or.inr ⟨by rfl, rfl⟩) (by assumption) ?_
              simp only [Act.put, List.getElem_toArray, List.getElem_cons_zero, List.getElem_cons_succ, List.setIfInBounds_toArray, List.set_cons_zero, List.set_cons_succ]
              refine wpAnyH_take (i := 33) (v := undef) rfl (by kernel_rfl) (by kernel_rfl) (by kernel_rfl) (fun _ _ _ h => h) (Or.inr ⟨by rfl, rfl⟩) (by assumption) ?_
              simp only [Act.put, List.getElem_toArray, List.getElem_cons_zero, List.getElem_cons_succ, List.setIfInBounds_toArray, List.set_cons_zero, List.set_cons_succ]
              refine wpAnyH_take (i := 34) (v := undef) rfl (by kernel_rfl) (by kernel_rfl) (by kernel_rfl) (fun _ _ _ h => h) (Or.inr ⟨by rfl, rfl⟩) (by assumption) ?_
              simp only [Act.put, List.getElem_toArray, List.getElem_cons_zero, List.getElem_cons_succ, List.setIfInBounds_toArray, List.set_cons_zero, List.set_cons_succ]
              refine wpAnyH_take (i := 35) (v := undef) rfl (by kernel_rfl) (by kernel_rfl) (by kernel_rfl) (fun _ _ _ h => h) (Or.inr ⟨by rfl, rfl⟩) (by assumption) ?_
              simp only [Act.put, List.getElem_toArray, List.getElem_cons_zero, List.getElem_cons_succ, List.setIfInBounds_toArray, List.set_cons_zero, List.set_cons_succ]
              refine wpAnyH_take (i := 36) (v := undef) rfl (by kernel_rfl) (by kernel_rfl) (by kernel_rfl) (fun _ _ _ h => h) (Or.inr ⟨by rfl, rfl⟩) (by assumption) ?_
              simp only [Act.put, List.getElem_toArray, List.getElem_cons_zero, List.getElem_cons_succ, List.setIfInBounds_toArray, List.set_cons_zero, List.set_cons_succ]
              refine wpAnyH_take (i := 37) (v := undef) rfl (by kernel_rfl) (by kernel_rfl) (by kernel_rfl) (fun _ _ _ h => h) (Or.inr ⟨by rfl, rfl⟩) (by assumption) ?_
              simp only [Act.put, List.getElem_toArray, List.getElem_cons_zero, List.getElem_cons_succ, List.setIfInBounds_toArray, List.set_cons_zero, List.set_cons_succ]
              refine wpAnyH_take (i := 38) (v := .bool false) rfl (by kernel_rfl) (by kernel_rfl) (by kernel_rfl) (fun _ _ _ h => h) (Or.inl ⟨by rfl, by intro w hSw; obtain ⟨hbS, s0, s1, s2, s3, s4, s5, s6, s7⟩ := hSw; clear hbS; go_simp⟩) (by assumption) ?_
              simp only [Act.put, List.getElem_toArray, List.getElem_cons_zero, List.getElem_cons_succ, List.setIfInBounds_toArray, List.set_cons_zero, List.set_cons_succ]
              refine wpAnyH_done (by kernel_rfl) ?_ _
              have HEz := Lib.hid ((HE6.out.tk_no HKL.out HTN.out).below hHeld.1)
              clear hHeld HSt
              go_wp2_with fail
              go_roundw
              case rel => exact ⟨k + 1, _, _, _, by go_num, HKL.out, HEz.out⟩
              case measure => simp [intOf]; omega
          · have e1 : (a.op == 1) = false := beq_eq_false_iff_ne.2 o1
            have HTN := Lib.hid (show takesB M tx p l2[k] = false by rw [HXK.out, HD.out.2.2, decide_eq_false o1]; rfl)
            clear o1
            go_upto_region 17 with fail
            clear hc hof hoc
            have HSt : Hid (∀ w', Below wr.heap.size wr w' → Below wr.heap.size wr w' ∧ w'.cell? ⟨g, 0, none⟩ = some (.slice (some ⟨bm, 0, none⟩) M.length cm) ∧ w'.cell? ⟨bm, x * 7, none⟩ = some (.int .i8 a.op) ∧ w'.cell? ⟨bm, x * 7 + 1, none⟩ = some (.int .u64 (p0 : Int)) ∧ w'.cell? ⟨bm, x * 7 + 2, none⟩ = some (.int .u64 (p1 : Int)) ∧ w'.cell? ⟨bm, x * 7 + 3, none⟩ = some (.int .u64 (p2 : Int)) ∧ w'.cell? ⟨bm, x * 7 + 4, none⟩ = some (.int .u64 (p3 : Int)) ∧ True ∧ True) := Lib.hid fun w' hb => by
              have hk : ∀ (b o : Nat) (u : Value), wr.cell? ⟨b, o, none⟩ = some u → w'.cell? ⟨b, o, none⟩ = some u := fun b o u h => by rw [hb.cell (World.block_lt_of_cell? wr _ h)]; exact h
              exact ⟨hb, hk _ _ _ z0, hk _ _ _ d0, hk _ _ _ d1, hk _ _ _ d2, hk _ _ _ d3, hk _ _ _ d4, trivial, trivial⟩
            have hst : Below wr.heap.size wr wr.drew ∧ wr.drew.cell? ⟨g, 0, none⟩ = some (.slice (some ⟨bm, 0, none⟩) M.length cm) ∧ wr.drew.cell? ⟨bm, x * 7, none⟩ = some (.int .i8 a.op) ∧ wr.drew.cell? ⟨bm, x * 7 + 1, none⟩ = some (.int .u64 (p0 : Int)) ∧ wr.drew.cell? ⟨bm, x * 7 + 2, none⟩ = some (.int .u64 (p1 : Int)) ∧ wr.drew.cell? ⟨bm, x * 7 + 3, none⟩ = some (.int .u64 (p2 : Int)) ∧ wr.drew.cell? ⟨bm, x * 7 + 4, none⟩ = some (.int .u64 (p3 : Int)) ∧ True ∧ True := HSt.out _ (below_drewN (Below.refl _ wr) 1)
            clear z0 d0 d1 d2 d3 d4
            refine wp_region_held_drew (S := fun w' => Below wr.heap.size wr w' ∧ w'.cell? ⟨g, 0, none⟩ = some (.slice (some ⟨bm, 0, none⟩) M.length cm) ∧ w'.cell? ⟨bm, x * 7, none⟩ = some (.int .i8 a.op) ∧ w'.cell? ⟨bm, x * 7 + 1, none⟩ = some (.int .u64 (p0 : Int)) ∧ w'.cell? ⟨bm, x * 7 + 2, none⟩ = some (.int .u64 (p1 : Int)) ∧ w'.cell? ⟨bm, x * 7 + 3, none⟩ = some (.int .u64 (p2 : Int)) ∧ w'.cell? ⟨bm, x * 7 + 4, none⟩ = some (.int .u64 (p3 : Int)) ∧ True ∧ True) (by kernel_rfl) hst (fun hHeld => ?_)
            refine wpAnyH_take (i := 0) (v := .pointer (some ⟨g, 0, none⟩)) rfl (by kernel_rfl) (by kernel_rfl) (by kernel_rfl) (fun _ _ _ h => h) (Or.inl ⟨by rfl, by intro w hSw; obtain ⟨hbS, s0, s1, s2, s3, s4, s5, s6, s7⟩ := hSw; clear hbS; go_simp⟩) (by assumption) ?_
            simp only [Act.put, List.getElem_toArray, List.getElem_cons_zero, List.setIfInBounds_toArray, List.set_cons_zero, List.set_cons_succ]
            refine wpAnyH_take (i := 1) (v := .pointer (some ⟨g, 0, none⟩)) rfl (by kernel_rfl) (by kernel_rfl) (by kernel_rfl) (fun _ _ _ h => h) (Or.inl ⟨by rfl, by intro w hSw; obtain ⟨hbS, s0, s1, s2, s3, s4, s5, s6, s7⟩ := hSw; clear hbS; go_simp⟩) (by assumption) ?_
            simp only [Act.put, List.getElem_toArray, List.getElem_cons_zero, List.getElem_cons_succ, List.setIfInBounds_toArray, List.set_cons_zero, List.set_cons_succ]
            refine wpAnyH_take (i := 2) (v := .pointer (some ⟨g, 0, none⟩)) rfl (by kernel_rfl) (by kernel_rfl) (by kernel_rfl) (fun _ _ _ h => h) (Or.inl ⟨by rfl, by intro w hSw; obtain ⟨hbS, s0, s1, s2, s3, s4, s5, s6, s7⟩ := hSw; clear hbS; go_simp⟩) (by assumption) ?_
            simp only [Act.put, List.getElem_toArray, List.getElem_cons_zero, List.getElem_cons_succ, List.setIfInBounds_toArray, List.set_cons_zero, List.set_cons_succ]
            refine wpAnyH_take (i := 3) (v := .slice (some ⟨bm, 0, none⟩) M.length cm) rfl (by kernel_rfl) (by kernel_rfl) (by kernel_rfl) (fun _ _ _ h => h) (Or.inl ⟨by rfl, by intro w hSw; obtain ⟨hbS, s0, s1, s2, s3, s4, s5, s6, s7⟩ := hSw; clear hbS; go_simp⟩) (by assumption) ?_
            simp only [Act.put, List.getElem_toArray, List.getElem_cons_zero, List.getElem_cons_succ, List.setIfInBounds_toArray, List.set_cons_zero, List.set_cons_succ]
            refine wpAnyH_take (i := 4) (v := .int .i64 (x : Int)) rfl (by kernel_rfl) (by kernel_rfl) (by kernel_rfl) (fun _ _ _ h => h) (Or.inl ⟨by rfl, by intro w hSw; obtain ⟨hbS, s0, s1, s2, s3, s4, s5, s6, s7⟩ := hSw; clear hbS; go_simp⟩) (by assumption) ?_
            simp only [Act.put, List.getElem_toArray, List.getElem_cons_zero, List.getElem_cons_succ, List.setIfInBounds_toArray, List.set_cons_zero, List.set_cons_succ]
            refine wpAnyH_take (i := 5) (v := .pointer (some ⟨bm, x * 7, none⟩)) rfl (by kernel_rfl) (by kernel_rfl) (by kernel_rfl) (fun _ _ _ h => h) (Or.inl ⟨by rfl, by intro w hSw; obtain ⟨hbS, s0, s1, s2, s3, s4, s5, s6, s7⟩ := hSw; clear hbS; go_simp⟩) (by assumption) ?_
            simp only [Act.put, List.getElem_toArray, List.getElem_cons_zero, List.getElem_cons_succ, List.setIfInBounds_toArray, List.set_cons_zero, List.set_cons_succ]
            refine wpAnyH_take (i := 6) (v := .pointer (some ⟨bm, x * 7, none⟩)) rfl (by kernel_rfl) (by kernel_rfl) (by kernel_rfl) (fun _ _ _ h => h) (Or.inl ⟨by rfl, by intro w hSw; obtain ⟨hbS, s0, s1, s2, s3, s4, s5, s6, s7⟩ := hSw; clear hbS; go_simp⟩) (by assumption) ?_
            simp only [Act.put, List.getElem_toArray, List.getElem_cons_zero, List.getElem_cons_succ, List.setIfInBounds_toArray, List.set_cons_zero, List.set_cons_succ]
            refine wpAnyH_take (i := 7) (v := .int .i8 a.op) rfl (by kernel_rfl) (by kernel_rfl) (by kernel_rfl) (fun _ _ _ h => h) (Or.inl ⟨by rfl, by intro w hSw; obtain ⟨hbS, s0, s1, s2, s3, s4, s5, s6, s7⟩ := hSw; clear hbS; go_simp⟩) (by assumption) ?_
            simp only [Act.put, List.getElem_toArray, List.getElem_cons_zero, List.getElem_cons_succ, List.setIfInBounds_toArray, List.set_cons_zero, List.set_cons_succ]
            refine wpAnyH_take (i := 8) (v := .int .i64 a.op) rfl (by kernel_rfl) (by kernel_rfl) (by kernel_rfl) (fun _ _ _ h => h) (Or.inl ⟨by rfl, by intro w hSw; obtain ⟨hbS, s0, s1, s2, s3, s4, s5, s6, s7⟩ := hSw; clear hbS; go_simp⟩) (by assumption) ?_
            simp only [Act.put, List.getElem_toArray, List.getElem_cons_zero, List.getElem_cons_succ, List.setIfInBounds_toArray, List.set_cons_zero, List.set_cons_succ]
            refine wpAnyH_take (i := 9) (v := .bool false) rfl (by kernel_rfl) (by kernel_rfl) (by kernel_rfl) (fun _ _ _ h => h) (Or.inl ⟨by rfl, by intro w hSw; obtain ⟨hbS, s0, s1, s2, s3, s4, s5, s6, s7⟩ := hSw; clear hbS; go_simp⟩) (by assumption) ?_
            simp only [Act.put, List.getElem_toArray, List.getElem_cons_zero, List.getElem_cons_succ, List.setIfInBounds_toArray, List.set_cons_zero, List.set_cons_succ]
            refine wpAnyH_take (i := 10) (v := .bool false) rfl (by kernel_rfl) (by kernel_rfl) (by kernel_rfl) (fun _ _ _ h => h) (Or.inl ⟨by rfl, by intro w hSw; obtain ⟨hbS, s0, s1, s2, s3, s4, s5, s6, s7⟩ := hSw; clear hbS; go_simp⟩) (by assumption) ?_
            simp only [Act.put, List.getElem_toArray, List.getElem_cons_zero, List.getElem_cons_succ, List.setIfInBounds_toArray, List.set_cons_zero, List.set_cons_succ]
            refine wpAnyH_take (i := 11) (v := undef) rfl (by kernel_rfl) (by kernel_rfl) (by kernel_rfl) (fun _ _ _ h => h) (Or.inr ⟨by rfl, rfl⟩) (by assumption) ?_
            simp only [Act.put, List.getElem_toArray, List.getElem_cons_zero, List.getElem_cons_succ, List.setIfInBounds_toArray, List.set_cons_zero, List.set_cons_succ]
            refine wpAnyH_take (i := 12) (v := undef) rfl (by kernel_rfl) (by kernel_rfl) (by kernel_rfl) (fun _ _ _ h => h) (Or.inr ⟨by rfl, rfl⟩) (by assumption) ?_
            simp only [Act.put, List.getElem_toArray, List.getElem_cons_zero, List.getElem_cons_succ, List.setIfInBounds_toArray, List.set_cons_zero, List.set_cons_succ]
            refine wpAnyH_take (i := 13) (v := undef) rfl (by kernel_rfl) (by kernel_rfl) (by kernel_rfl) (fun _ _ _ h => h) (Or.inr ⟨by rfl, rfl⟩) (by assumption) ?_
            simp only [Act.put, List.getElem_toArray, List.getElem_cons_zero, List.getElem_cons_succ, List.setIfInBounds_toArray, List.set_cons_zero, List.set_cons_succ]
            refine wpAnyH_take (i := 14) (v := undef) rfl (by kernel_rfl) (by kernel_rfl) (by kernel_rfl) (fun _ _ _ h => h) (Or.inr ⟨by rfl, rfl⟩) (by assumption) ?_
            simp only [Act.put, List.getElem_toArray, List.getElem_cons_zero, List.getElem_cons_succ, List.setIfInBounds_toArray, List.set_cons_zero, List.set_cons_succ]
            refine wpAnyH_take (i := 15) (v := .bool false) rfl (by kernel_rfl) (by kernel_rfl) (by kernel_rfl) (fun _ _ _ h => h) (Or.inl ⟨by rfl, by intro w hSw; obtain ⟨hbS, s0, s1, s2, s3, s4, s5, s6, s7⟩ := hSw; clear hbS; go_simp⟩) (by assumption) ?_
            simp only [Act.put, List.getElem_toArray, List.getElem_cons_zero, List.getElem_cons_succ, List.setIfInBounds_toArray, List.set_cons_zero, List.set_cons_succ]
            refine wpAnyH_take (i := 16) (v := .bool false) rfl (by kernel_rfl) (by kernel_rfl) (by kernel_rfl) (fun _ _ _ h => h) (Or.inl ⟨by rfl, by intro w hSw; obtain ⟨hbS, s0, s1, s2, s3, s4, s5, s6, s7⟩ := hSw; clear hbS; go_simp⟩) (by assumption) ?_
            simp only [Act.put, List.getElem_toArray, List.getElem_cons_zero, List.getElem_cons_succ, List.setIfInBounds_toArray, List.set_cons_zero, List.set_cons_succ]
            refine wpAnyH_take (i := 17) (v := undef) rfl (by kernel_rfl) (by kernel_rfl) (by kernel_rfl) (fun _ _ _ h => h) (Or.inr ⟨by rfl, rfl⟩) (by assumption) ?_
            simp only [Act.put, List.getElem_toArray, List.getElem_cons_zero, List.getElem_cons_succ, List.setIfInBounds_toArray, List.set_cons_zero, List.set_cons_succ]
            refine wpAnyH_take (i := 18) (v := undef) rfl (by kernel_rfl) (by kernel_rfl) (by kernel_rfl) (fun _ _ _ h => h) (Or.inr ⟨by rfl, rfl⟩) (by assumption) ?_
            simp only [Act.put, List.getElem_toArray, List.getElem_cons_zero, List.getElem_cons_succ, List.setIfInBounds_toArray, List.set_cons_zero, List.set_cons_succ]
            refine wpAnyH_take (i := 19) (v := undef) rfl (by kernel_rfl) (by kernel_rfl) (by kernel_rfl) (fun _ _ _ h => h) (Or.inr ⟨by rfl, rfl⟩) (by assumption) ?_
            simp only [Act.put, List.getElem_toArray, List.getElem_cons_zero, List.getElem_cons_succ, List.setIfInBounds_toArray, List.set_cons_zero, List.set_cons_succ]
            refine wpAnyH_take (i := 20) (v := undef) rfl (by kernel_rfl) (by kernel_rfl) (by kernel_rfl) (fun _ _ _ h => h) (Or.inr ⟨by rfl, rfl⟩) (by assumption) ?_
            simp only [Act.put, List.getElem_toArray, List.getElem_cons_zero, List.getElem_cons_succ, List.setIfInBounds_toArray, List.set_cons_zero, List.set_cons_succ]
            refine wpAnyH_take (i := 21) (v := undef) rfl (by kernel_rfl) (by kernel_rfl) (by kernel_rfl) (fun _ _ _ h => h) (Or.inr ⟨by rfl, rfl⟩) (by assumption) ?_
            simp only [Act.put, List.getElem_toArray, List.getElem_cons_zero, List.getElem_cons_succ, List.setIfInBounds_toArray, List.set_cons_zero, List.set_cons_succ]
            refine wpAnyH_take (i := 22) (v := undef) rfl (by kernel_rfl) (by kernel_rfl) (by kernel_rfl) (fun _ _ _ h => h) (Or.inr ⟨by rfl, rfl⟩) (by assumption) ?_
            simp only [Act.put, List.getElem_toArray, List.getElem_cons_zero, List.getElem_cons_succ, List.setIfInBounds_toArray, List.set_cons_zero, List.set_cons_succ]
            refine wpAnyH_take (i := 23) (v := undef) rfl (by kernel_rfl) (by kernel_rfl) (by kernel_rfl) (fun _ _ _ h => h) (Or.inr ⟨by rfl, rfl⟩) (by assumption) ?_
            simp only [Act.put, List.getElem_toArray, List.getElem_cons_zero, List.getElem_cons_succ, List.setIfInBounds_toArray, List.set_cons_zero, List.set_cons_succ]
            refine wpAnyH_take (i := 24) (v := undef) rfl (by kernel_rfl) (by kernel_rfl) (by kernel_rfl) (fun _ _ _ h => h) (Or.inr ⟨by rfl, rfl⟩) (by assumption) ?_
            simp only [Act.put, List.getElem_toArray, List.getElem_cons_zero, List.getElem_cons_succ, List.setIfInBounds_toArray, List.set_cons_zero, List.set_cons_succ]
            refine wpAnyH_take (i := 25) (v := undef) rfl (by kernel_rfl) (by kernel_rfl) (by kernel_rfl) (fun _ _ _ h => h) (Or.inr ⟨by rfl, rfl⟩) (by assumption) ?_
            simp only [Act.put, List.getElem_toArray, List.getElem_cons_zero, List.getElem_cons_succ, List.setIfInBounds_toArray, List.set_cons_zero, List.set_cons_succ]
            refine wpAnyH_take (i := 26) (v := undef) rfl (by kernel_rfl) (by kernel_rfl) (by kernel_rfl) (fun _ _ _ h => h) (Or.inr ⟨by rfl, rfl⟩) (by assumption) ?_
            simp only [Act.put, List.getElem_toArray, List.getElem_cons_zero, List.getElem_cons_succ, List.setIfInBounds_toArray, List.set_cons_zero, List.set_cons_succ]
            refine wpAnyH_take (i := 27) (v := undef) rfl (by kernel_rfl) (by kernel_rfl) (by kernel_rfl) (fun _ _ _ h => h) (Or.inr ⟨by rfl, rfl⟩) (by assumption) ?_
            simp only [Act.put, List.getElem_toArray, List.getElem_cons_zero, List.getElem_cons_succ, List.setIfInBounds_toArray, List.set_cons_zero, List.set_cons_succ]
            refine wpAnyH_take (i := 28) (v := undef) rfl (by kernel_rfl) (by kernel_rfl) (by kernel_rfl) (fun _ _ _ h => h) (Or.inr ⟨by rfl, rfl⟩) (by assumption) ?_
            simp only [Act.put, List.getElem_toArray, List.getElem_cons_zero, List.getElem_cons_succ, List.setIfInBounds_toArray, List.set_cons_zero, List.set_cons_succ]
            refine wpAnyH_take (i := 29) (v := undef) rfl (by kernel_rfl) (by kernel_rfl) (by kernel_rfl) (fun _ _ _ h => h) (Or.inr ⟨by rfl, rfl⟩) (by assumption) ?_
            simp only [Act.put, List.getElem_toArray, List.getElem_cons_zero, List.getElem_cons_succ, List.setIfInBounds_toArray, List.set_cons_zero, List.set_cons_succ]
            refine wpAnyH_take (i := 30) (v := .bool false) rfl (by kernel_rfl) (by kernel_rfl) (by kernel_rfl) (fun _ _ _ h => h) (Or.inl ⟨by rfl, by intro w hSw; obtain ⟨hbS, s0, s1, s2, s3, s4, s5, s6, s7⟩ := hSw; clear hbS; go_simp⟩) (by assumption) ?_
            simp only [Act.put, List.getElem_toArray, List.getElem_cons_zero, List.getElem_cons_succ, List.setIfInBounds_toArray, List.set_cons_zero, List.set_cons_succ]
            refine wpAnyH_take (i := 31) (v := .bool false) rfl (by kernel_rfl) (by kernel_rfl) (by kernel_rfl) (fun _ _ _ h => h) (Or.inl ⟨by rfl, by intro w hSw; obtain ⟨hbS, s0, s1, s2, s3, s4, s5, s6, s7⟩ := hSw; clear hbS; go_simp⟩) (by assumption) ?_
            simp only [Act.put, List.getElem_toArray, List.getElem_cons_zero, List.getElem_cons_succ, List.setIfInBounds_toArray, List.set_cons_zero, List.set_cons_succ]
            refine wpAnyH_take (i := 32) (v := undef) rfl (by kernel_rfl) (by kernel_rfl) (by kernel_rfl) (fun _ _ _ h => h) (Or.inr ⟨by rfl, rfl⟩) (by assumption) ?_
            simp only [Act.put, List.getElem_toArray, List.getElem_cons_zero, List.getElem_cons_succ, List.setIfInBounds_toArray, List.set_cons_zero, List.set_cons_succ]
            refine wpAnyH_take (i := 33) (v := undef) rfl (by kernel_rfl) (by kernel_rfl) (by kernel_rfl) (fun _ _ _ h => h) (Or.inr ⟨by rfl, rfl⟩) (by assumption) ?_
            simp only [Act.put, List.getElem_toArray, List.getElem_cons_zero, List.getElem_cons_succ, List.setIfInBounds_toArray, List.set_cons_zero, List.set_cons_succ]
            refine wpAnyH_take (i := 34) (v := undef) rfl (by kernel_rfl) (by kernel_rfl) (by kernel_rfl) (fun _ _ _ h => h) (Or.inr ⟨by rfl, rfl⟩) (by assumption) ?_
            simp only [Act.put, List.getElem_toArray, List.getElem_cons_zero, List.getElem_cons_succ, List.setIfInBounds_toArray, List.set_cons_zero, List.set_cons_succ]
            refine wpAnyH_take (i := 35) (v := undef) rfl (by kernel_rfl) (by kernel_rfl) (by kernel_rfl) (fun _ _ _ h => h) (Or.inr ⟨by rfl, rfl⟩) (by assumption) ?_
            simp only [Act.put, List.getElem_toArray, List.getElem_cons_zero, List.getElem_cons_succ, List.setIfInBounds_toArray, List.set_cons_zero, List.set_cons_succ]
            refine wpAnyH_take (i := 36) (v := undef) rfl (by kernel_rfl) (by kernel_rfl) (by kernel_rfl) (fun _ _ _ h => h) (Or.inr ⟨by rfl, rfl⟩) (by assumption) ?_
            simp only [Act.put, List.getElem_toArray, List.getElem_cons_zero, List.getElem_cons_succ, List.setIfInBounds_toArray, List.set_cons_zero, List.set_cons_succ]
            refine wpAnyH_take (i := 37) (v := undef) rfl (by kernel_rfl) (by kernel_rfl) (by kernel_rfl) (fun _ _ _ h => h) (Or.inr ⟨by rfl, rfl⟩) (by assumption) ?_
            simp only [Act.put, List.getElem_toArray, List.getElem_cons_zero, List.getElem_cons_succ, List.setIfInBounds_toArray, List.set_cons_zero, List.set_cons_succ]
            refine wpAnyH_take (i := 38) (v := .bool false) rfl (by kernel_rfl) (by kernel_rfl) (by kernel_rfl) (fun _ _ _ h => h) (Or.inl ⟨by rfl, by intro w hSw; obtain ⟨hbS, s0, s1, s2, s3, s4, s5, s6, s7⟩ := hSw; clear hbS; go_simp⟩) (by assumption) ?_
            simp only [Act.put, List.getElem_toArray, List.getElem_cons_zero, List.getElem_cons_succ, List.setIfInBounds_toArray, List.set_cons_zero, List.set_cons_succ]
            refine wpAnyH_done (by kernel_rfl) ?_ _
            have HEz := Lib.hid ((HE6.out.tk_no HKL.out HTN.out).below hHeld.1)
            clear hHeld HSt
            go_wp2_with fail
            go_roundw
            case rel => exact ⟨k + 1, _, _, _, by go_num, HKL.out, HEz.out⟩
            case measure => simp [intOf]; omega
        · obtain rfl : k = l2.length := by omega
          have hkI : ¬ (l2.length : Int) < (l2.length : Int) := by omega
          have hpw : IntKind.i64.wrap ((p : Int) + 1) = (p : Int) + 1 := IntWalk.i64_in _ (by omega)
          have HR2 := Lib.hid (show RE W wr M tx f0 (p + 1) go _ nl O' from
            { bel := hei.bel, out := hei.ou, ol := hei.ol, oq := hei.outs HRUN.out, li := hei.no, ent := hei.ents HFP.out HRUN.out, len := by have := hei.cnt; have := HM.out.shp.len; omega, ge := HRE.out.ge })
          clear hei
          go_wp2_with fail
          go_roundw
          case rel => exact ⟨p + 1, _, _, by go_num, by have := HFP.out; omega, by omega, HR2.out⟩
          case measure => simp [intOf]; omega
    · have hpI : ¬ (p : Int) ≤ (tx.length : Int) := by omega
      go_wp2_with fail
      go_ret
      have hO : O = (endsM M tx f0).1 := by
        obtain ⟨h1, h2⟩ := ends_spec M tx HM.out.shp.good f0 HF0.out
        refine bools_ext _ _ (by rw [HRE.out.ol, h1]) fun q => ?_
        rw [HRE.out.oq q, h2 q]
        constructor
        · exact fun h => h.2
        · intro h
          have := isEnd_in M tx h HF0.out
          exact ⟨by omega, h⟩
      refine ⟨.slice (some ⟨go, 0, none⟩) (tx.length + 1) (tx.length + 1), rfl, .inr ⟨go, ?_, HRE.out.ge, ?_, fun h => h⟩, HRE.out.bel⟩
      · rw [HEL.out, ← hO, HRE.out.ol]
      · rw [HEL.out, ← hO]
        exact HRE.out.out
end Go.Proofs.YtfmcjmkdlldlhaaDoor

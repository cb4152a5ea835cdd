/-
  longest.Search.place: all runs that have come to a place.
-/
import Derived.Test.YtfmcjmkdlldlhaaDoorLgP
import Derived.Test.YtfmcjmkdlldlhaaDoorLgF
import Derived.Deep.DeepCutAuto
import Derived.Deep.CutBlock
namespace Go.Proofs.YtfmcjmkdlldlhaaDoor
open Go.RowKit

attribute [local go_sem] Oper.semAt_some

set_option maxRecDepth 100000 in
set_option maxHeartbeats 4000000 in
theorem place_any' {fid : FuncId} {caps : Array Value} {Fd : Nat → Prop} {J : List Nat → World → Prop} (W : World) (base : Nat) (M : List Ins) (tx : List Int) (p : Nat) (s : SO) (a : Option Addr) (n cp : Nat)
    (D : Dn fid caps base Fd J) (hG : Good M) (hM : M.length ≤ 65540) (hC : ∀ x ∈ M, IsC x.set ∧ (x.op = 4 ∨ x.op = 5 → 0 ≤ x.x) ∧ (x.op = 5 → 0 ≤ x.y)) (h : Mid W base M s (soCells s)) (hst : StOk M s) (ht : TxR W a n cp tx) (hp : p ≤ tx.length)
    (hsr : s.now.Pairwise (fun a b => a.2 ≤ b.2)) (hlt : ∀ t ∈ s.now, t.1 < M.length) (hnl : s.now.length ≤ 140000) (hsk : s.stk = []) (hJ : J [] W) (hd : ∀ k, Fd k → ¬ CBlk s k) (hsp : s.steps + M.length ≤ 1099511627776) :
    Calls Tryd.prog 28 #[.pointer (some ⟨s.g, 0, none⟩), .slice a n cp, .int .i64 (p : Int), .func (.func fid) #[] caps] W (PlcPost W base M tx p s Fd J a n cp) := by
  have hF0 : Frn W W base s s Fd J [] a n cp tx := ⟨Up.refl _ _ _, hd, hJ, ht⟩
  have HM0 := Lib.hid h
  have HSK := Lib.hid hsk
  clear hsk
  have HF0 := Lib.hid hF0
  have HG := Lib.hid hG
  have HC := Lib.hid hC
  have HSR := Lib.hid hsr
  have HLT := Lib.hid hlt
  have HST := Lib.hid hst
  have c3 : W.cell? ⟨s.g, 3, none⟩ = some (.int .i16 s.stamp) := h.o.cell 3
  have hs0 : base ≤ W.heap.size := Nat.le_trans h.ge (Nat.le_of_lt h.o.lt)
  clear hF0 h hG hC hsr hlt hst ht hJ hd
  go_enter Tryd.func28, Tryd.ntmps28
  go_upto_if 14 with fail
  go_cut [] (fun wx => ∃ sz1 st1, sz1.length = M.length ∧ (∀ x ∈ sz1, x ≤ st1) ∧ 0 ≤ st1 ∧ st1 < 32767 ∧ Mid wx base M { s with sz := sz1, stamp := st1 } (soCells { s with sz := sz1, stamp := st1 }) ∧ Frn W wx base s { s with sz := sz1, stamp := st1 } Fd J [] a n cp tx)
  case first =>
    by_cases hq : s.stamp = 32767
    · have hqb : (s.stamp == 32767) = true := by simpa using hq
      obtain ⟨sb, sc, hsv⟩ := own_some HM0.out.st (by rw [HST.out.1]; exact HG.out.pos)
      have hlen := HST.out.1
      rw [hlen] at hsv
      have c2 : W.cell? ⟨s.g, 2, none⟩ = some (.slice (some ⟨sb, 0, none⟩) M.length sc) := (HM0.out.o.cell 2).trans (congrArg some hsv)
      obtain ⟨hcl, hm1, hu1⟩ := HM0.out.clearSt hsv HG.out.pos
      have HM1 := Lib.hid hm1
      have HF1 := Lib.hid (HF0.out.step D HM0.out hu1)
      have HSV := Lib.hid hsv
      generalize hW1 : W.setCells sb 0 (List.replicate M.length (.int .i16 0)) = w1 at hcl HM1 HF1
      clear hsv hm1 hu1 hq hW1
      have c3' : w1.cell? ⟨s.g, 3, none⟩ = some (.int .i16 s.stamp) := HM1.out.o.cell 3
      have f3' : w1.frozen? ⟨s.g, 3, none⟩ = false := HM1.out.o.frozen 3
      have HM2 := Lib.hid (HM1.out.setf 3 (.int .i16 0))
      have HF2 := Lib.hid (HF1.out.step D HM1.out (Up.setf (i := 3) (x := .int .i16 0) _ (.inl rfl) HM1.out.ge))
      clear hlen
      go_wp2_with fail
      go_meet
      case rel => exact ⟨List.replicate M.length 0, 0, by simp, fun x hx => by rw [List.eq_of_mem_replicate hx]; exact Int.le_refl _, Int.le_refl _, by decide, ⟨HM2.out.o, HM2.out.m, HM2.out.st, HM2.out.nw, HM2.out.nx, HM2.out.sk, HM2.out.ap, HM2.out.ge⟩, HF2.out.same (cblk_same rfl rfl rfl rfl rfl rfl)⟩
    · have hqb : (s.stamp == 32767) = false := by simpa using hq
      have HQ := Lib.hid hq
      clear hq
      go_wp2_with fail
      go_meet
      case rel => exact ⟨s.sz, s.stamp, HST.out.1, HST.out.2.2.2, HST.out.2.1, by have := HST.out.2.2.1; have := HQ.out; omega, HM0.out, HF0.out⟩
  case rest =>
  obtain ⟨sz1, st1, z1, z2, z3, z4, hm, hf⟩ := hcut
  have HM1 := Lib.hid hm
  have HF1 := Lib.hid hf
  have HZ := Lib.hid (And.intro z1 z2)
  clear hm hf z1 z2 c3 HM0 HF0 HST
  generalize wc = w1 at HM1 HF1 ⊢
  have c3 : w1.cell? ⟨s.g, 3, none⟩ = some (.int .i16 st1) := HM1.out.o.cell 3
  have f3 : w1.frozen? ⟨s.g, 3, none⟩ = false := HM1.out.o.frozen 3
  have hw3 : IntKind.i16.wrap (st1 + 1) = st1 + 1 := IntWalk.i16_in _ (by omega)
  have hm2 : Mid (w1.setCell ⟨s.g, 3, none⟩ (.int .i16 (st1 + 1))) base M { s with sz := sz1, stamp := st1 + 1 } (soCells { s with sz := sz1, stamp := st1 + 1 }) := by
    have h := HM1.out.setf 3 (.int .i16 (st1 + 1))
    exact ⟨h.o, h.m, h.st, h.nw, h.nx, h.sk, h.ap, h.ge⟩
  have HM2 := Lib.hid hm2
  have HF2 := Lib.hid ((HF1.out.step D HM1.out (Up.setf (i := 3) (x := .int .i16 (st1 + 1)) _ (.inl rfl) HM1.out.ge)).same (cblk_same (s2 := { s with sz := sz1, stamp := st1 + 1 }) rfl rfl rfl rfl rfl rfl))
  clear hm2
  go_upto_region 4 with fail
  clear c3 f3 hw3 HM1 HF1
  generalize hw2 : w1.setCell ⟨s.g, 3, none⟩ (.int .i16 (st1 + 1)) = w2 at ⊢
  replace HM2 : Hid (Mid w2 base M { s with sz := sz1, stamp := st1 + 1 } (soCells { s with sz := sz1, stamp := st1 + 1 })) := by rw [← hw2]; exact HM2
  replace HF2 : Hid (Frn W w2 base s { s with sz := sz1, stamp := st1 + 1 } Fd J [] a n cp tx) := by rw [← hw2]; exact HF2
  clear hw2
  obtain ⟨xa, xc, hxv⟩ := own_shape HM2.out.nx
  have hxv : s.xv = .slice xa s.next.length xc := hxv
  have c6 : w2.cell? ⟨s.g, 6, none⟩ = some (.slice xa s.next.length xc) := (HM2.out.o.cell 6).trans (congrArg some hxv)
  have f6 : w2.frozen? ⟨s.g, 6, none⟩ = false := HM2.out.o.frozen 6
  obtain ⟨s1, hs1⟩ : ∃ s1 : SO, s1 = { s with sz := sz1, stamp := st1 + 1, xv := .slice xa 0 xc, next := [] } := ⟨_, rfl⟩
  have hm3 : Mid (w2.setCell ⟨s.g, 6, none⟩ (.slice xa 0 xc)) base M (soAt s1 (begS s.steps) sz1 (.slice xa 0 xc) s.kv) (soCells (soAt s1 (begS s.steps) sz1 (.slice xa 0 xc) s.kv)) := by
    have h := HM2.out.setf 6 (.slice xa 0 xc)
    have hx2 := h.nx
    have hx3 : ({ s with sz := sz1, stamp := st1 + 1 } : SO).xv = .slice xa s.next.length xc := hxv
    rw [hx3] at hx2
    have hk2 := h.sk
    have hap := h.ap
    rw [hx3] at hap
    subst hs1
    refine ⟨h.o, h.m, h.st, h.nw, own_win hx2 (Nat.zero_le _) (by simp [begS, soAt, cellsT]), ?_, fun k h1 h2 => hap k h1 (by rw [← h2]; exact own_len_eq), h.ge⟩
    show World.ownsRow _ base 3 1 s.kv ([] : List Nat).length (cellsN ([] : List Nat).reverse)
    have e : ({ s with sz := sz1, stamp := st1 + 1 } : SO).stk = [] := HSK.out
    rw [e] at hk2
    exact hk2
  have hf3 : Frn W (w2.setCell ⟨s.g, 6, none⟩ (.slice xa 0 xc)) base s (soAt s1 (begS s.steps) sz1 (.slice xa 0 xc) s.kv) Fd J [] a n cp tx := by
    refine (HF2.out.step D HM2.out (Up.setf (i := 6) (x := .slice xa 0 xc) _ (.inl rfl) HM2.out.ge)).same ?_
    subst hs1
    exact cblk_same rfl rfl rfl rfl (by show s.xv.ownBlock = _; rw [hxv]; exact own_len_eq) rfl
  have HM3 := Lib.hid hm3
  have HF3 := Lib.hid hf3
  have HXV := Lib.hid hxv
  clear hm3 hf3 hxv
  have hnv : ∃ na nc, s.nv = .slice na s.now.length nc := own_shape HM2.out.nw
  obtain ⟨na, nc, hnv⟩ := hnv
  go_upto_region 5 with fail
  clear c6 f6 HM2 HF2
  generalize w2.setCell ⟨s.g, 6, none⟩ (.slice xa 0 xc) = w3 at HM3 HF3 ⊢
  have hg1 : s1.g = s.g := by rw [hs1]
  have hn1 : s1.nv = s.nv := by rw [hs1]
  have c5 : w3.cell? ⟨s.g, 5, none⟩ = some (.slice na s.now.length nc) := by
    have := HM3.out.o.cell 5
    rw [show (soAt s1 (begS s.steps) sz1 (.slice xa 0 xc) s.kv).g = s.g from hg1] at this
    exact this.trans (congrArg some (hn1.trans hnv))
  have HS1 := Lib.hid (And.intro hs1 (And.intro hg1 (And.intro hn1 hnv)))
  clear hs1 hg1 hn1 hnv
  obtain ⟨L, hL⟩ : ∃ L, s.now.length = L := ⟨_, rfl⟩
  rw [hL] at c5 hnl
  have HL := Lib.hid hL
  clear hL
  go_wp2_with fail
  go_loopw [42] (fun i wr => ∃ k, k ≤ L ∧ i = .int .i64 k ∧ ∃ sz xv kv, PlR W wr base M tx p s s1 (placeF M tx p (s.now.take k) s.steps) sz xv kv Fd J a n cp) (fun i _ => L - (intOf i).toNat)
  case atStart =>
    have e1 : s1.stamp = st1 + 1 := by rw [HS1.out.1]
    exact ⟨0, Nat.zero_le _, rfl, sz1, .slice xa 0 xc, s.kv, ⟨HM3.out, HF3.out, by rw [e1]; exact StOk.start HZ.out.1 HZ.out.2⟩⟩
  case round =>
    obtain ⟨k, hk, rfl, sz, xv, kv, hR⟩ := hrel
    have hs0 : base ≤ wr.heap.size := Nat.le_trans hR.mid.ge (Nat.le_of_lt hR.mid.o.lt)
    have HR := Lib.hid hR
    clear hR HM3 HF3 c5
    by_cases hkl : k < L
    · have hk1 : k < s.now.length := by rw [HL.out]; exact hkl
      obtain ⟨t, ht⟩ : ∃ t, s.now[k]? = some t := ⟨s.now[k], List.getElem?_eq_getElem hk1⟩
      have hnw : wr.ownsRow base TT 2 s.nv s.now.length (cellsT s.now) := by
        have h := HR.out.mid.nw
        have e1 : (soAt s1 (placeF M tx p (s.now.take k) s.steps) sz xv kv).nv = s.nv := HS1.out.2.2.1
        have e2 : (soAt s1 (placeF M tx p (s.now.take k) s.steps) sz xv kv).now = s.now := by show s1.now = s.now; rw [HS1.out.1]
        rw [e1, e2] at h
        exact h
      obtain ⟨nb, nc', hnb⟩ := own_some hnw (by omega)
      have hnn := HS1.out.2.2.2
      rw [hnb] at hnw hnn
      simp only [Value.slice.injEq] at hnn
      obtain ⟨rfl, _, rfl⟩ := hnn
      have g0 : wr.cell? ⟨nb, k * 2, none⟩ = some (.int .i64 (t.1 : Int)) := by
        have := (own_cell hnw (k * 2 + 0) (by rw [cellsT_len]; omega)).1
        rw [cellsT_get (by decide) ht] at this
        exact this
      have g1 : wr.cell? ⟨nb, k * 2 + 1, none⟩ = some (.int .i64 (t.2 : Int)) := by
        have := (own_cell hnw (k * 2 + 1) (by rw [cellsT_len]; omega)).1
        rw [cellsT_get (by decide) ht] at this
        exact this
      have hP := place_any M tx p HG.out (s.now.take k) s.steps (HSR.out.sublist (List.take_sublist _ _)) fun u hu => HLT.out u (List.mem_of_mem_take hu)
      have HT := Lib.hid (And.intro ht hP)
      have hkI : (k : Int) < (L : Int) := by omega
      clear hnw hnb ht hP hk1
      have hb1 := (Below.refl wr.heap.size wr).alloc (Nat.le_refl _) (.cells #[.int .i64 (t.1 : Int), .int .i64 (t.2 : Int)] TT)
      have hF1 := HR.out.frn.below D hb1 hs0
      have hc := HT.out.2.cnt
      have hx := HT.out.2.nxl
      have hb2 : base ≤ (wr.alloc (.cells #[.int .i64 (t.1 : Int), .int .i64 (t.2 : Int)] TT)).heap.size := by rw [World.size_alloc]; omega
      have hg1 : (soAt s1 (placeF M tx p (s.now.take k) s.steps) sz xv kv).g = s.g := HS1.out.2.1
      have hFW := follow_any (wr.alloc (.cells #[.int .i64 (t.1 : Int), .int .i64 (t.2 : Int)] TT)) base M tx p t.2 t.1 (soAt s1 (placeF M tx p (s.now.take k) s.steps) sz xv kv) (placeF M tx p (s.now.take k) s.steps).V (placeF M tx p (s.now.take k) s.steps).dn a n cp
        D HG.out hM HC.out (HR.out.mid.below hb1) hF1.txr hp (HLT.out t (List.mem_of_getElem? HT.out.1)) HR.out.str hF1.jd hF1.dis (by show (placeF M tx p (s.now.take k) s.steps).sp + _ ≤ _; omega) hx hb2
      rw [hg1] at hFW
      have HF1 := Lib.hid hF1
      have HFW := Lib.hid hFW
      clear hF1 hFW hb1 hb2 hc hx hg1
      go_upto_region 8 with fail
      go_wp2_with fail
      refine HFW.out.mono ?_
      rintro e w' ⟨rfl, sz', xv', kv', c', hc', hm', hs', hj', hu', hd', ht'⟩
      have hR' : PlR W w' base M tx p s s1 c' sz' xv' kv' Fd J a n cp := ⟨hm', ⟨HF1.out.up.trans hu', hd', hj', ht'⟩, hs'⟩
      have hcc : c' = placeF M tx p (s.now.take (k + 1)) s.steps := by rw [hc', placeF_take M tx p s.now s.steps k t HT.out.1]; rfl
      rw [hcc] at hR'
      have HR' := Lib.hid hR'
      clear hc' hm' hs' hj' hu' hd' ht' hcc hR' g0 g1
      go_wp2_with fail
      go_roundw
      case rel => exact ⟨k + 1, hkl, by go_num, _, _, _, HR'.out⟩
      case measure => simp [intOf]; omega
    · have e0 : k = L := by omega
      have hR : PlR W wr base M tx p s s1 (placeF M tx p s.now s.steps) sz xv kv Fd J a n cp := by
        have := HR.out
        rw [e0, ← HL.out, List.take_length] at this
        exact this
      have hP := place_any M tx p HG.out s.now s.steps HSR.out HLT.out
      have HR1 := Lib.hid hR
      have HPl := Lib.hid hP
      clear hR hP HR e0
      have hkI : ¬ (k : Int) < (L : Int) := by omega
      obtain ⟨ya, yc, hyv⟩ := own_shape HR1.out.mid.nx
      have hyv : xv = .slice ya (placeF M tx p s.now s.steps).nx.length yc := hyv
      generalize (placeF M tx p s.now s.steps).nx.length = yl at hyv
      subst hyv
      have hv1 : s1.nv = .slice na L nc := by rw [HS1.out.2.2.1, HS1.out.2.2.2, HL.out]
      have c6 : wr.cell? ⟨s.g, 6, none⟩ = some (.slice ya yl yc) := by
        have := HR1.out.mid.o.cell 6
        rw [show (soAt s1 (placeF M tx p s.now s.steps) sz (.slice ya yl yc) kv).g = s.g from HS1.out.2.1] at this
        exact this
      have c5 : wr.cell? ⟨s.g, 5, none⟩ = some (.slice na L nc) := by
        rw [← hv1]
        have := HR1.out.mid.o.cell 5
        rw [show (soAt s1 (placeF M tx p s.now s.steps) sz (.slice ya yl yc) kv).g = s.g from HS1.out.2.1] at this
        exact this
      have f6 : wr.frozen? ⟨s.g, 6, none⟩ = false := by
        have := HR1.out.mid.o.frozen 6
        rw [show (soAt s1 (placeF M tx p s.now s.steps) sz (.slice ya yl yc) kv).g = s.g from HS1.out.2.1] at this
        exact this
      have f5 : wr.frozen? ⟨s.g, 5, none⟩ = false := by
        have := HR1.out.mid.o.frozen 5
        rw [show (soAt s1 (placeF M tx p s.now s.steps) sz (.slice ya yl yc) kv).g = s.g from HS1.out.2.1] at this
        exact this
      have hmS := HR1.out.mid.swap
      have hfS := HR1.out.frn.same (cblk_swap _)
      have hm5 := hmS.setf 5 (.slice ya yl yc)
      have hf5 := hfS.step D hmS (Up.setf (i := 5) (x := .slice ya yl yc) _ (.inl rfl) hmS.ge)
      have hm6 := hm5.setf 6 s1.nv
      have hf6 := hf5.step D hm5 (Up.setf (i := 6) (x := s1.nv) _ (.inl rfl) hm5.ge)
      have hgg : (soAt s1 (placeF M tx p s.now s.steps) sz (.slice ya yl yc) kv).g = s.g := HS1.out.2.1
      simp only [hgg, hv1] at hm6 hf6
      have HM6 := Lib.hid (hm6.below (Below.refl _ _).drew)
      have HF6 := Lib.hid (hf6.below D (Below.refl _ _).drew (by simpa using hs0))
      have HV1 := Lib.hid hv1
      clear hmS hfS hm5 hf5 hm6 hf6 hgg hv1
      go_upto_region 10 with fail
      go_region
      all_goals
        go_end0
        have e := HS1.out.1
        refine ⟨rfl, { (soAt s1 (placeF M tx p s.now s.steps) sz (.slice ya yl yc) kv) with nv := .slice ya yl yc, now := (placeF M tx p s.now s.steps).nx, xv := .slice na L nc, next := s1.now }, HS1.out.2.1, by show s1.mv = s.mv; rw [e], by show s1.ev = s.ev; rw [e], rfl, rfl, HPl.out.k, ⟨HR1.out.str.1, ?_, ?_, HR1.out.str.2.2⟩, ?_, ?_⟩
        · show 0 ≤ s1.stamp
          rw [e]; show 0 ≤ st1 + 1; omega
        · show s1.stamp ≤ 32767
          rw [e]; show st1 + 1 ≤ 32767; omega
        · have hm := HM6.out
          have hnx := hm.nx
          have hap := hm.ap
          have e2 : (soAt s1 (placeF M tx p s.now s.steps) sz (.slice ya yl yc) kv).nv = .slice na L nc := HV1.out
          simp only [e2] at hnx hap
          refine ⟨?_, hm.m, hm.st, hm.nw, hnx, hm.sk, hap, by show base ≤ s1.g; rw [HS1.out.2.1]; exact hm.ge⟩
          have ho := hm.o
          simp only [soCells, soAt, List.set_cons_succ, List.set_cons_zero] at ho ⊢
          rw [HS1.out.2.1]
          exact ho
        · refine HF6.out.same (cblk_same HS1.out.2.1.symm rfl rfl rfl ?_ rfl)
          show s1.nv.ownBlock = _
          rw [HV1.out]
end Go.Proofs.YtfmcjmkdlldlhaaDoor

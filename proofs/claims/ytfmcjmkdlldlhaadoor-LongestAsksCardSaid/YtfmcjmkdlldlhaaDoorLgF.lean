/-
  longest.Search.follow: one run, on all its ways.
-/
import Derived.Test.YtfmcjmkdlldlhaaDoorLgX
import Derived.Test.YtfmcjmkdlldlhaaDoorLgSw
import Derived.Deep.LoopGhost
import Derived.Lib.SliceRun
import Derived.StillTailTactics
namespace Go.Proofs.YtfmcjmkdlldlhaaDoor
open Go.RowKit

attribute [local go_sem] Oper.semAt_some

set_option maxRecDepth 100000 in
set_option maxHeartbeats 40000000 in
theorem follow_any {fid : FuncId} {caps : Array Value} {Fd : Nat → Prop} {J : List Nat → World → Prop} (W : World) (base : Nat) (M : List Ins) (tx : List Int) (p f j : Nat) (s : SO) (V : Nat → Bool) (d : List Nat) (a : Option Addr) (n cp : Nat)
    (D : Dn fid caps base Fd J) (hG : Good M) (hM : M.length ≤ 65540) (hC : ∀ x ∈ M, IsC x.set ∧ (x.op = 4 ∨ x.op = 5 → 0 ≤ x.x) ∧ (x.op = 5 → 0 ≤ x.y)) (h : Mid W base M s (soCells s)) (ht : TxR W a n cp tx) (_hp : p ≤ tx.length) (hj : j < M.length)
    (hV : StR M s.sz s.stamp V) (hJ : J d W) (hd : ∀ k, Fd k → ¬ CBlk s k) (hsp : s.steps + unv M.length V ≤ 1099511627776) (hnx : s.next.length + unv M.length V ≤ M.length) (hbase : base ≤ W.heap.size) :
    Calls Tryd.prog 54 #[.pointer (some ⟨s.g, 0, none⟩), .slice a n cp, .int .i64 (p : Int), .agg #[.int .i64 (j : Int), .int .i64 (f : Int)], .func (.func fid) #[] caps] W (FlwPost W base M tx p f j s V Fd J d a n cp) := by
  have HM := Lib.hid h
  have HT := Lib.hid ht
  have HV := Lib.hid hV
  have HJ := Lib.hid hJ
  have HG := Lib.hid hG
  have HC := Lib.hid hC
  have HD := Lib.hid hd
  clear h ht hV hJ hG hC hd
  go_enter Tryd.func54, Tryd.ntmps54
  go_wp2_with fail
  -- the thread's box
  have hb0 := (Below.refl W.heap.size W).alloc (Nat.le_refl _) (.cells #[.int .i64 (j : Int), .int .i64 (f : Int)] TT)
  have hbx : At (W.alloc (.cells #[.int .i64 (j : Int), .int .i64 (f : Int)] TT)) W.heap.size TT (encT (j, f)) := At.new W TT (encT (j, f))
  have hF0 : Frm W (W.alloc (.cells #[.int .i64 (j : Int), .int .i64 (f : Int)] TT)) base s s Fd J d W.heap.size (encT (j, f)) a n cp tx :=
    ⟨Up.below _ hb0 hbase, HD.out, D.keep HJ.out fun k hk => hb0.block k (D.lt HJ.out k hk), hbx, ⟨fun e => Nat.lt_irrefl _ (HM.out.lt _ e).1, fun e => Nat.lt_irrefl _ (D.lt HJ.out _ e)⟩, HT.out.keep (.of_below hb0)⟩
  have hM0 := HM.out.below hb0
  have hs0 : base ≤ (W.alloc (.cells #[.int .i64 (j : Int), .int .i64 (f : Int)] TT)).heap.size := by rw [World.size_alloc]; omega
  have hxs : W.heap.size < (W.alloc (.cells #[.int .i64 (j : Int), .int .i64 (f : Int)] TT)).heap.size := by rw [World.size_alloc]; omega
  clear hb0 hbx
  have HF0 := Lib.hid hF0
  have HM0 := Lib.hid hM0
  clear hF0 hM0
  generalize hw : W.alloc (.cells #[.int .i64 (j : Int), .int .i64 (f : Int)] TT) = w at HF0 HM0 hs0 hxs ⊢
  generalize hbx : W.heap.size = bx at HF0 hxs ⊢
  clear hw
  obtain ⟨ka, kc, hkv⟩ := own_shape HM0.out.sk
  have c7 : w.cell? ⟨s.g, 7, none⟩ = some (.slice ka s.stk.length kc) := by rw [← hkv]; exact HM0.out.o.cell 7
  have f7 : w.frozen? ⟨s.g, 7, none⟩ = false := HM0.out.o.frozen 7
  have b0 : w.cell? ⟨bx, 0, none⟩ = some (.int .i64 (j : Int)) := HF0.out.box.cell 0
  have HKV := Lib.hid hkv
  clear hkv
  have hwd : base ≤ w.drew.heap.size := hs0
  have c7d : w.drew.cell? ⟨s.g, 7, none⟩ = some (.slice ka s.stk.length kc) := c7
  have b0d : w.drew.cell? ⟨bx, 0, none⟩ = some (.int .i64 (j : Int)) := b0
  have hMk : Mid w.drew base M { s with kv := .slice ka 0 kc, stk := [] } (soCells s) := by
    have hm := HM0.out
    have h2 := hm.sk
    rw [HKV.out] at h2
    exact { hm with sk := own_win (W := w) h2 (Nat.zero_le _) (by simp [cellsN]) }
  have hFk : Frm W w.drew base s { s with kv := .slice ka 0 kc, stk := [] } Fd J d bx (encT (j, f)) a n cp tx :=
    (HF0.out.below D (Below.refl _ _).drew hs0).same (cblk_same rfl rfl rfl rfl rfl (by rw [HKV.out]; exact own_len_eq))
  have HMK := Lib.hid hMk
  have HFK := Lib.hid hFk
  clear hMk hFk
  have c7a : ∀ o, (w.alloc o).cell? ⟨s.g, 7, none⟩ = some (.slice ka s.stk.length kc) := fun o => Lib.cell?_alloc_some o c7
  have hj1 : 0 < ([j] : List Nat).length := Nat.one_pos
  have hj2 : 0 + ([j] : List Nat).length ≤ 17592186044416 := by simp
  go_upto_region 1 with fail
  go_cut [] from 12 to 23 (fun wx => ∃ kv, FlR W wx base M tx p f s ⟨V, [j], s.next, s.steps, d⟩ ⟨V, [j], s.next, s.steps, d⟩ s.sz s.xv kv Fd J bx j a n cp)
  case first =>
    go_region_law (first | (refine step_appK (by rfl) _ _ (by rfl) base (.slice ka 0 kc) 0 [] [j] _ (by rfl) (by rfl) (by rfl) HMK.out.sk (by rfl) hj1 hj2 hwd ?_; intro g cap w4 ho4 hp4; have hM4 := HMK.out.appK (ts := [j]) rfl rfl ho4 hp4; have c74 : w4.cell? ⟨s.g, 7, none⟩ = some (.slice ka s.stk.length kc) := (hM4.1.o.cell 7).trans (congrArg some HKV.out); have f74 : w4.frozen? ⟨s.g, 7, none⟩ = false := hM4.1.o.frozen 7))
    all_goals
      have HM4 := Lib.hid hM4
      clear ho4 hp4 hM4
      go_wp2_with fail
      go_meet
      case rel =>
        have hF4 := HFK.out.step D HMK.out HM4.out.2
        have hM5 := HM4.out.1.setf 7 (.slice (some ⟨g, 0, none⟩) 1 cap)
        refine ⟨_, hM5, hF4.step D HM4.out.1 (Up.setf _ (.inl rfl) HM4.out.1.ge), HV.out, rfl, fun i hi => ?_, ?_, hsp, hnx⟩
        · simp only [List.mem_singleton] at hi; subst hi; exact hj
        · have := unv_le M.length V
          simp only [mu, List.length_singleton]
          omega
  case rest =>
    obtain ⟨kv0, hR⟩ := hcut
    generalize hc0 : (⟨V, [j], s.next, s.steps, d⟩ : LSt) = c0 at hR
    have HC0 := Lib.hid hc0
    clear hc0
    clear c7 c7a f7 b0 c7d b0d hs0 hwd hxs HM0 HF0 HMK HFK HKV hsp hnx HV HJ HD HM
    go_wp2_with fail
    go_loopg [] (2 * M.length + 2) (fun gk wr => ∃ c sz xv kv, FlR W wr base M tx p f s c0 c sz xv kv Fd J bx j a n cp ∧ mu M.length c < gk)
    case atStart => exact ⟨c0, _, _, _, hR, by have := hR.mu; omega⟩
    case round =>
      clear hR
      obtain ⟨c, sz, xv, kv, hR, hmu⟩ := hrel
      have HR := Lib.hid hR
      have hwr : base ≤ wr.heap.size := Nat.le_trans hR.mid.ge (Nat.le_of_lt hR.mid.o.lt)
      have hkb : c.k.length ≤ 140000 := by
        have := hR.mu
        unfold mu at this
        omega
      cases hk : c.k with
      | nil =>
        have c7 : wr.cell? ⟨s.g, 7, none⟩ = some kv := hR.mid.o.cell 7
        obtain ⟨ka, kc, hkv⟩ := own_shape hR.mid.sk
        have e1 : kv = .slice ka 0 kc := by
          have : kv = .slice ka c.k.length kc := hkv
          rw [this, hk]; rfl
        subst e1
        have HK := Lib.hid hk
        clear hR hkv hk hkb
        go_wp2_with fail
        go_end0
        exact ⟨rfl, sz, xv, _, c, by rw [HC0.out, ← HR.out.fin, fin_nil M tx p f c HK.out], HR.out.mid, HR.out.str, HR.out.frm.jd, HR.out.frm.up, HR.out.frm.dis, HR.out.frm.txr⟩
      | cons i k =>
        obtain ⟨K, hK⟩ : ∃ K, k.length = K := ⟨_, rfl⟩
        obtain ⟨kb, kc, hkv⟩ := own_some hR.mid.sk (by show 0 < c.k.length; rw [hk]; simp)
        have hkv : kv = .slice (some ⟨kb, 0, none⟩) (K + 1) kc := by
          have e : kv = .slice (some ⟨kb, 0, none⟩) c.k.length kc := hkv
          rw [e, hk, List.length_cons, hK]
        subst hkv
        have hkc : K ≤ kc := by have := own_cap hR.mid.sk; omega
        have c7 : wr.cell? ⟨s.g, 7, none⟩ = some (.slice (some ⟨kb, 0, none⟩) (K + 1) kc) := hR.mid.o.cell 7
        have ctop : wr.cell? ⟨kb, K, none⟩ = some (.int .i64 (i : Int)) := hR.mid.top rfl hk hK
        have hKb : K ≤ 140000 := by rw [hk, List.length_cons, hK] at hkb; omega
        have HK := Lib.hid (And.intro hk hK)
        clear hR hk hkb hK
        go_wp2_with fail
        go_quiet (fail)
        have HQA := Lib.hid (fun q => HR.out.flm.below D (below_drewN (Below.refl wr.heap.size wr) q))
        clear c7 ctop
        generalize hdq : wr.drewN _ = w1
        have HQ : Hid (FlM W w1 base M tx s c sz xv (.slice (some ⟨kb, 0, none⟩) (K + 1) kc) Fd J bx (encT (j, f)) a n cp) := by rw [← hdq]; exact HQA.out _
        clear hdq HQA
        go_upto_region 4 with fail
        go_cut [] from 42 to 55 (fun wx => FlM W wx base M tx s ⟨c.V, k, c.nx, c.sp, c.dn⟩ sz xv (.slice (some ⟨kb, 0, none⟩) K kc) Fd J bx (encT (j, f)) a n cp)
        case first =>
          have c7 : w1.cell? ⟨s.g, 7, none⟩ = some (.slice (some ⟨kb, 0, none⟩) (K + 1) kc) := HQ.out.mid.o.cell 7
          have f7 : w1.frozen? ⟨s.g, 7, none⟩ = false := HQ.out.mid.o.frozen 7
          have hwK : IntKind.i64.wrap (K : Int) = (K : Int) := IntWalk.i64_in _ (by omega)
          have hkcI : (K : Int) ≤ (kc : Int) := by omega
          have HP := Lib.hid ((HQ.out.pop D HK.out.1 HK.out.2).below D (Below.refl _ _).drew)
          go_region
          all_goals
            go_wp2_with fail
            go_meet
            case rel => exact HP.out
        case rest =>
        have HP := Lib.hid hcut
        clear hcut HQ
        generalize wc = w3 at HP ⊢
        have him : i < M.length := HR.out.klt i (by rw [HK.out.1]; exact List.mem_cons_self)
        have hsz := HR.out.str.1
        obtain ⟨sb, sc, hsv⟩ := own_some HP.out.mid.st (by show 0 < sz.length; omega)
        have hsv : s.stv = .slice (some ⟨sb, 0, none⟩) M.length sc := by
          have e : s.stv = .slice (some ⟨sb, 0, none⟩) sz.length sc := hsv
          rw [e, hsz]
        have c2 : w3.cell? ⟨s.g, 2, none⟩ = some (.slice (some ⟨sb, 0, none⟩) M.length sc) := (HP.out.mid.o.cell 2).trans (congrArg some hsv)
        have c3 : w3.cell? ⟨s.g, 3, none⟩ = some (.int .i16 s.stamp) := HP.out.mid.o.cell 3
        have cz := (HP.out.mid.stamp_at hsv i (by show i < sz.length; omega)).1
        have hst := HR.out.str.2.1 i him
        replace cz : w3.cell? ⟨sb, i, none⟩ = some (.int .i16 (sz[i]?.getD 0)) := cz
        generalize hz : sz[i]?.getD 0 = z at cz hst
        have HSV := Lib.hid hsv
        clear hsv hz
        have hiI : (i : Int) < (M.length : Int) := by omega
        generalize hML : M.length = m at c2 hiI
        have HML := Lib.hid hML
        clear hML
        cases hv : c.V i with
        | true =>
          have hzb : (z == s.stamp) = true := by simpa using hst.2 hv
          have HVi := Lib.hid hv
          clear hst hv
          go_upto_region 5 with fail
          go_quiet (fail)
          rename_i nq
          go_wp2_with fail
          have hS := stp_old (M := M) (tx := tx) (p := p) (f := f) HK.out.1 HVi.out
          have hN := flR_next HG.out HR.out HK.out.1 hS.symm HR.out.str (HP.out.below D (below_drewN (Below.refl _ _) nq))
          go_roundg (mu M.length c)
          case measure => exact hmu
          case rel => exact ⟨_, _, _, _, hN.1, hN.2⟩
        | false =>
          have hzb : (z == s.stamp) = false := by
            have : ¬ z = s.stamp := fun e => by have := hst.1 e; rw [hv] at this; cases this
            simpa using this
          have HVi := Lib.hid hv
          clear hst hv
          go_upto_region 5 with fail
          go_quiet (fail)
          rename_i nq
          have HP1 := Lib.hid (HP.out.below D (below_drewN (Below.refl _ _) nq))
          clear c2 c3 cz hzb HP
          generalize w3.drewN nq = w4 at HP1 ⊢
          go_upto_region 6 with fail
          go_cut [] from 68 to 77 (fun wx => FlM W wx base M tx s ⟨c.V, k, c.nx, c.sp, c.dn⟩ (sz.set i s.stamp) xv (.slice (some ⟨kb, 0, none⟩) K kc) Fd J bx (encT (j, f)) a n cp)
          case first =>
            have c2 : w4.cell? ⟨s.g, 2, none⟩ = some (.slice (some ⟨sb, 0, none⟩) m sc) := by rw [← HML.out]; exact (HP1.out.mid.o.cell 2).trans (congrArg some HSV.out)
            have c3 : w4.cell? ⟨s.g, 3, none⟩ = some (.int .i16 s.stamp) := HP1.out.mid.o.cell 3
            have cz := HP1.out.mid.stamp_at HSV.out i (by show i < sz.length; rw [hsz]; exact him)
            have cz1 := cz.1
            have cz2 := cz.2
            have HS := Lib.hid ((HP1.out.stamp D HSV.out i s.stamp).below D (Below.refl _ _).drew)
            clear cz
            go_region
            all_goals
              go_wp2_with fail
              go_meet
              case rel => exact HS.out
          case rest =>
          have HS := Lib.hid hcut
          clear hcut HP1
          generalize wc = w5 at HS ⊢
          have c4 : w5.cell? ⟨s.g, 4, none⟩ = some (.int .i64 (c.sp : Int)) := HS.out.mid.o.cell 4
          have f4 : w5.frozen? ⟨s.g, 4, none⟩ = false := HS.out.mid.o.frozen 4
          have hspb : c.sp ≤ 1099511627776 := by have := HR.out.sp; omega
          have hw4 : IntKind.i64.wrap ((c.sp : Int) + 1) = (c.sp : Int) + 1 := IntWalk.i64_in _ (by omega)
          have HT1 := Lib.hid (HS.out.steps D)
          go_upto_region 8 with fail
          clear c4 f4 hw4 HS
          generalize w5.setCell ⟨s.g, 4, none⟩ (.int .i64 ((c.sp : Int) + 1)) = w6 at HT1 ⊢
          obtain ⟨x, hx⟩ : ∃ x, M[i]? = some x := ⟨M[i], List.getElem?_eq_getElem him⟩
          obtain ⟨p0, p1, p2, p3, hp4⟩ := isC_words x.set (HC.out x (List.mem_of_getElem? hx)).1
          obtain ⟨mb, mc, hmv⟩ := own_some HT1.out.mid.m (by omega)
          have hmv : s.mv = .slice (some ⟨mb, 0, none⟩) M.length mc := hmv
          obtain ⟨d0, d1, d2, d3, d4, d5, d6⟩ := HT1.out.mid.instr hmv hx hp4
          have c1 : w6.cell? ⟨s.g, 1, none⟩ = some (.slice (some ⟨mb, 0, none⟩) m mc) := by rw [← HML.out]; exact (HT1.out.mid.o.cell 1).trans (congrArg some hmv)
          have HX := Lib.hid (And.intro hx hp4)
          clear hmv hx hp4
          go_upto_region 9 with fail
          clear c1 d0 d1 d2 d3 d4 d5 d6
          have hb7 := (Below.refl w6.heap.size w6).alloc (Nat.le_refl _) (.cells #[.int .i8 x.op, .int .u64 (p0 : Int), .int .u64 (p1 : Int), .int .u64 (p2 : Int), .int .u64 (p3 : Int), .int .i64 x.x, .int .i64 x.y] TI)
          have hA7 : At (w6.alloc (.cells #[.int .i8 x.op, .int .u64 (p0 : Int), .int .u64 (p1 : Int), .int .u64 (p2 : Int), .int .u64 (p3 : Int), .int .i64 x.x, .int .i64 x.y] TI)) w6.heap.size TI [.int .i8 x.op, .int .u64 (p0 : Int), .int .u64 (p1 : Int), .int .u64 (p2 : Int), .int .u64 (p3 : Int), .int .i64 x.x, .int .i64 x.y] := At.new w6 TI _
          have HT2 := Lib.hid (HT1.out.below D hb7)
          have HA7 := Lib.hid hA7
          clear hb7 hA7 HT1
          generalize w6.alloc (.cells #[.int .i8 x.op, .int .u64 (p0 : Int), .int .u64 (p1 : Int), .int .u64 (p2 : Int), .int .u64 (p3 : Int), .int .i64 x.x, .int .i64 x.y] TI) = w7 at HT2 HA7 ⊢
          generalize w6.heap.size = ib at HA7 ⊢
          have b0 : w7.cell? ⟨ib, 0, none⟩ = some (.int .i8 x.op) := HA7.out.cell 0
          clear hsz
          have HSt := Lib.hid (HR.out.str.upd i)
          -- the arms
          go_upto_block 2 with fail
          refine switch_any W base M tx p f j s a n cp D HG hM HC bx ib c0 c wr w7 sz xv K kb kc i k x p0 p1 p2 p3 HR hKb HK him HVi HX HT2 HA7 b0 HSt _ _ _ _ _ _ _ _ _ _ _ _ _ _ _ _ _ _ _ _ _ _ _ _ _ _ _ _ _ _ _ _ _ _ _ _ _ _ _ _ _ _ _ _ _ _ _ _ _ _ _ _ _ _ _ _ _ _ _ _ _ _ _ _ _ _ _ _ _ _ _ _ _ _ _ _ _ _ _ _ _ _ _ _ _ _ _ _ _ _ _ _ _ _ _ _ _ _ _ _ _ _ _ _ _ _ _ _ _ _ _ _ _ _ _ _ _ _ _ _ _ _ _ _ _ _ _ _ _ _ _ _ _ _ _ _ _ _ _ _ _ _ _ _ _ _ _ _ _ _ _ _ _ _ _ _ _ _ _ _ _ _ _ _ _ _ _ _ _ _ _ _ _ _ _ _ _ _ _ _ _ _ ?_
          refine Lib.hid ?_
          rintro z93 z94 z95 z96 z97 z98 z99 z100 z101 z102 z103 z104 z105 z106 z107 z108 z109 z110 z111 z112 z113 z114 z115 z116 z117 z118 z119 z120 z121 z122 z123 z124 z125 z126 z127 z128 z129 z130 z131 z132 z133 z134 z135 z136 z137 z138 z139 z140 z141 z142 z143 z144 z145 z146 z147 z148 z149 z150 z151 z152 z153 z154 z155 z156 z157 z158 z159 z160 z161 z162 z163 z164 z165 z166 z167 z168 z169 z170 z171 z172 z173 z174 z175 z176 z177 z178 z179 z180 z181 z182 z183 z184 z185 z186 z187 z188 w8 ⟨c', sz', xv', kv', hN1, hN2⟩
          go_wp2_with fail
          go_roundg (mu M.length c)
          case measure => exact hmu
          case rel => exact ⟨_, _, _, _, hN1, hN2⟩
end Go.Proofs.YtfmcjmkdlldlhaaDoor

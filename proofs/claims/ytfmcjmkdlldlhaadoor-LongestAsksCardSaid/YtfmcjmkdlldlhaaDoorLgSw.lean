/-
  longest.Search.follow: what one instruction does.
-/
import Derived.Test.YtfmcjmkdlldlhaaDoorLgX
import Derived.Deep.DeepCutAuto
import Derived.Deep.CutBlock
import Derived.Deep.RegionLaw
import Derived.StillTailTactics
import Derived.Lib.SliceRun
namespace Go.Proofs.YtfmcjmkdlldlhaaDoor
open Go.RowKit

attribute [local go_sem] Oper.semAt_some

/-- The block of that number in a piece of code. -/
def blockOf (m : Nat) : Code → Option Code
  | .block id b => if id = m then some (.block id b) else blockOf m b
  | .seq a b => match blockOf m a with
    | some c => some c
    | none => blockOf m b
  | .loop b => blockOf m b
  | .cond _ a b => match blockOf m a with
    | some c => some c
    | none => blockOf m b
  | _ => none
set_option maxRecDepth 100000 in
set_option maxHeartbeats 40000000 in
theorem switch_any {fid : FuncId} {caps : Array Value} {Fd : Nat → Prop} {J : List Nat → World → Prop} (W : World) (base : Nat) (M : List Ins) (tx : List Int) (p f j : Nat) (s : SO) (a : Option Addr) (n cp : Nat)
    (D : Dn fid caps base Fd J) (HG : Hid (Good M)) (hM : M.length ≤ 65540) (HC : Hid (∀ x ∈ M, IsC x.set ∧ (x.op = 4 ∨ x.op = 5 → 0 ≤ x.x) ∧ (x.op = 5 → 0 ≤ x.y)))
    (bx ib : Nat) (c0 c : LSt) (wr w7 : World) (sz : List Int) (xv : Value) (K kb kc i : Nat) (k : List Nat) (x : Ins) (p0 p1 p2 p3 : Nat)
    (HR : Hid (FlR W wr base M tx p f s c0 c sz xv (.slice (some ⟨kb, 0, none⟩) (K + 1) kc) Fd J bx j a n cp)) (hKb : K ≤ 140000) (HK : Hid (c.k = i :: k ∧ k.length = K)) (him : i < M.length)
    (HVi : Hid (c.V i = false)) (HX : Hid (M[i]? = some x ∧ x.set = [p0, p1, p2, p3])) (HT2 : Hid (FlM W w7 base M tx s ⟨c.V, k, c.nx, c.sp + 1, c.dn⟩ (sz.set i s.stamp) xv (.slice (some ⟨kb, 0, none⟩) K kc) Fd J bx (encT (j, f)) a n cp))
    (HA7 : Hid (At w7 ib TI [.int .i8 x.op, .int .u64 (p0 : Int), .int .u64 (p1 : Int), .int .u64 (p2 : Int), .int .u64 (p3 : Int), .int .i64 x.x, .int .i64 x.y]))
    (_b0 : w7.cell? ⟨ib, 0, none⟩ = some (.int .i8 x.op)) (HSt : Hid (StR M (sz.set i s.stamp) s.stamp (upd c.V i)))
    (K1 : Act → World → Prop) (R : Ending → World → Prop) (v5 v6 v7 v9 v12 v13 v14 v15 v16 v17 v18 v19 v20 v21 v22 v23 v24 v25 v26 v27 v28 v29 v30 v31 v32 v33 v34 v35 v36 v37 v38 v39 v40 v41 v42 v43 v44 v45 v46 v47 v48 v49 v50 v51 v52 v53 v54 v55 v56 v57 v58 v59 v60 v61 v62 v63 v64 v65 v66 v67 v68 v69 v70 v71 v72 v73 v74 v75 v76 v77 v78 v79 v80 v81 v82 v83 v84 v85 v86 v87 v88 v89 v90 v91 v92 v94 v95 v96 v97 v98 v99 v100 v101 v102 v103 v104 v105 v106 v107 v108 v109 v110 v111 v112 v113 v114 v115 v116 v117 v118 v119 v120 v121 v122 v123 v124 v125 v126 v127 v128 v129 v130 v131 v132 v133 v134 v135 v136 v137 v138 v139 v140 v141 v142 v143 v144 v145 v146 v147 v148 v149 v150 v151 v152 v153 v154 v155 v156 v157 v158 v159 v160 v161 v162 v163 v164 v165 v166 v167 v168 v169 v170 v171 v172 v173 v174 v175 v176 v177 v178 v179 v180 v181 v182 v183 v184 v185 v186 v187 v188 : Value)
    (HQ0 : Hid (∀ (z93 z94 z95 z96 z97 z98 z99 z100 z101 z102 z103 z104 z105 z106 z107 z108 z109 z110 z111 z112 z113 z114 z115 z116 z117 z118 z119 z120 z121 z122 z123 z124 z125 z126 z127 z128 z129 z130 z131 z132 z133 z134 z135 z136 z137 z138 z139 z140 z141 z142 z143 z144 z145 z146 z147 z148 z149 z150 z151 z152 z153 z154 z155 z156 z157 z158 z159 z160 z161 z162 z163 z164 z165 z166 z167 z168 z169 z170 z171 z172 z173 z174 z175 z176 z177 z178 z179 z180 z181 z182 z183 z184 z185 z186 z187 z188 : Value) (w' : World), (∃ c' sz' xv' kv', FlR W w' base M tx p f s c0 c' sz' xv' kv' Fd J bx j a n cp ∧ mu M.length c' < mu M.length c) → K1 { tmps := #[.pointer (some ⟨s.g, 0, none⟩), .slice a n cp, .int .i64 (p : Int), .agg #[.int .i64 (j : Int), .int .i64 (f : Int)], .func (.func fid) #[] caps, v5, v6, v7, .pointer (some ⟨bx, 0, none⟩), v9, .int .i64 (i : Int), .pointer (some ⟨ib, 0, none⟩), v12, v13, v14, v15, v16, v17, v18, v19, v20, v21, v22, v23, v24, v25, v26, v27, v28, v29, v30, v31, v32, v33, v34, v35, v36, v37, v38, v39, v40, v41, v42, v43, v44, v45, v46, v47, v48, v49, v50, v51, v52, v53, v54, v55, v56, v57, v58, v59, v60, v61, v62, v63, v64, v65, v66, v67, v68, v69, v70, v71, v72, v73, v74, v75, v76, v77, v78, v79, v80, v81, v82, v83, v84, v85, v86, v87, v88, v89, v90, v91, v92, z93, z94, z95, z96, z97, z98, z99, z100, z101, z102, z103, z104, z105, z106, z107, z108, z109, z110, z111, z112, z113, z114, z115, z116, z117, z118, z119, z120, z121, z122, z123, z124, z125, z126, z127, z128, z129, z130, z131, z132, z133, z134, z135, z136, z137, z138, z139, z140, z141, z142, z143, z144, z145, z146, z147, z148, z149, z150, z151, z152, z153, z154, z155, z156, z157, z158, z159, z160, z161, z162, z163, z164, z165, z166, z167, z168, z169, z170, z171, z172, z173, z174, z175, z176, z177, z178, z179, z180, z181, z182, z183, z184, z185, z186, z187, z188], defers := [] } w')) :
    Code.wp Tryd.prog (((Tryd.f54).body.bind (blockOf 2)).getD .skip) (Exit.inBlock 1 (Exit.then K1 (Exit.inBlock 0 (bodyPost Tryd.prog Tryd.f54 R)))) { tmps := #[.pointer (some ⟨s.g, 0, none⟩), .slice a n cp, .int .i64 (p : Int), .agg #[.int .i64 (j : Int), .int .i64 (f : Int)], .func (.func fid) #[] caps, v5, v6, v7, .pointer (some ⟨bx, 0, none⟩), v9, .int .i64 (i : Int), .pointer (some ⟨ib, 0, none⟩), v12, v13, v14, v15, v16, v17, v18, v19, v20, v21, v22, v23, v24, v25, v26, v27, v28, v29, v30, v31, v32, v33, v34, v35, v36, v37, v38, v39, v40, v41, v42, v43, v44, v45, v46, v47, v48, v49, v50, v51, v52, v53, v54, v55, v56, v57, v58, v59, v60, v61, v62, v63, v64, v65, v66, v67, v68, v69, v70, v71, v72, v73, v74, v75, v76, v77, v78, v79, v80, v81, v82, v83, v84, v85, v86, v87, v88, v89, v90, v91, v92, .int .i8 x.op, v94, v95, v96, v97, v98, v99, v100, v101, v102, v103, v104, v105, v106, v107, v108, v109, v110, v111, v112, v113, v114, v115, v116, v117, v118, v119, v120, v121, v122, v123, v124, v125, v126, v127, v128, v129, v130, v131, v132, v133, v134, v135, v136, v137, v138, v139, v140, v141, v142, v143, v144, v145, v146, v147, v148, v149, v150, v151, v152, v153, v154, v155, v156, v157, v158, v159, v160, v161, v162, v163, v164, v165, v166, v167, v168, v169, v170, v171, v172, v173, v174, v175, v176, v177, v178, v179, v180, v181, v182, v183, v184, v185, v186, v187, v188], defers := [] } w7 := by
  have b0 := _b0
  show Code.wp Tryd.prog (Code.block 2 _) _ _ _
  by_cases o1 : x.op = 1
  · rw [o1] at b0 ⊢
    have HO := Lib.hid o1
    clear o1
    have htl := HT2.out.frm.txr.1.len
    by_cases hpl : p < tx.length
    · obtain ⟨tb, toff, rfl, htc⟩ := HT2.out.frm.txr.1.read p (by omega)
      have htc := htc p (by omega)
      obtain ⟨y, hy, hy2⟩ : ∃ y : Nat, tx[p]?.getD 0 = (y : Int) ∧ y < 256 := by
        have := HT2.out.frm.txr.1.1 p
        exact ⟨(tx[p]?.getD 0).toNat, by omega, by omega⟩
      rw [hy] at htc
      have hpI : (p : Int) < (n : Int) := by omega
      have e0 : decide ((p : Int) < (n : Int)) = true := decide_eq_true hpI
      have e0n : decide (p < n) = true := decide_eq_true (by omega)
      have b1 : w7.cell? ⟨ib, 1, none⟩ = some (.int .u64 (p0 : Int)) := HA7.out.cell 1
      have b2 : w7.cell? ⟨ib, 2, none⟩ = some (.int .u64 (p1 : Int)) := HA7.out.cell 2
      have b3 : w7.cell? ⟨ib, 3, none⟩ = some (.int .u64 (p2 : Int)) := HA7.out.cell 3
      have b4 : w7.cell? ⟨ib, 4, none⟩ = some (.int .u64 (p3 : Int)) := HA7.out.cell 4
      have hiC := (HC.out x (List.mem_of_getElem? HX.out.1)).1
      rw [HX.out.2] at hiC
      have HH := Lib.hid (fun W => has_any W [p0, p1, p2, p3] hiC y hy2)
      have HPY := Lib.hid (And.intro hpl hy)
      clear hiC hpl hy hy2 htl
      go_upto_region 11 with fail
      go_cut [108] from 96 to 108 (fun v wx => v = .bool (hasL [p0, p1, p2, p3] y) ∧ FlM W wx base M tx s ⟨c.V, k, c.nx, c.sp + 1, c.dn⟩ (sz.set i s.stamp) xv (.slice (some ⟨kb, 0, none⟩) K kc) Fd J bx (encT (j, f)) (some ⟨tb, toff, none⟩) n cp)
      case first =>
        go_still_tail 11, (by kernel_rfl)
        have e1 : ({ heap := w7.heap, tape := w7.tape, drawn := w7.drawn + 1, os := w7.os, output := w7.output } : World) = w7.drew := rfl
        rw [e1]
        clear e1
        have HT3 := Lib.hid (HT2.out.below D (Below.refl _ _).drew)
        clear HT2 b0 b1 b2 b3 b4 htc HA7
        generalize w7.drew = w8 at HT3 ⊢
        go_wp2_with fail
        refine (HH.out w8).mono ?_
        rintro e wn ⟨rfl, hbn⟩
        have HZ := Lib.hid (HT3.out.below D hbn)
        go_wp2_with fail
        go_meet
        case rel => exact ⟨rfl, HZ.out⟩
      case rest =>
      obtain ⟨e108, hz⟩ := hcut
      subst e108
      have HT3 := Lib.hid hz
      clear hz HT2 b0 b1 b2 b3 b4 htc HA7 HH
      generalize wc = w8 at HT3 ⊢
      cases hhas : hasL [p0, p1, p2, p3] y with
      | false =>
        have HDD := Lib.hid (stp_none (p := p) (tx := tx) (f := f) HK.out.1 HX.out.1 HVi.out (.inl ⟨HO.out, fun h => by rw [HX.out.2, HPY.out.2, Int.toNat_natCast, hhas] at h; exact absurd h.2 (by decide)⟩))
        have HZ := HT3
        clear hhas
        go_wp2_with fail
        have hN := flR_next HG.out HR.out HK.out.1 HDD.out HSt.out ⟨HZ.out.mid, HZ.out.frm⟩
        exact HQ0.out _ _ _ _ _ _ _ _ _ _ _ _ _ _ _ _ _ _ _ _ _ _ _ _ _ _ _ _ _ _ _ _ _ _ _ _ _ _ _ _ _ _ _ _ _ _ _ _ _ _ _ _ _ _ _ _ _ _ _ _ _ _ _ _ _ _ _ _ _ _ _ _ _ _ _ _ _ _ _ _ _ _ _ _ _ _ _ _ _ _ _ _ _ _ _ _ _ ⟨_, _, _, _, hN.1, hN.2⟩
      | true =>
        have HDD := Lib.hid (stp_take (p := p) (tx := tx) (f := f) HK.out.1 HX.out.1 HVi.out HO.out HPY.out.1 (by rw [HX.out.2, HPY.out.2, Int.toNat_natCast]; exact hhas))
        clear hhas
        obtain ⟨xa, xc, hxv⟩ := own_shape HT3.out.mid.nx
        have hxv : xv = .slice xa c.nx.length xc := hxv
        subst hxv
        have hnl : c.nx.length ≤ 65540 := by have := HR.out.nx; omega
        have c6 : w8.cell? ⟨s.g, 6, none⟩ = some (.slice xa c.nx.length xc) := HT3.out.mid.o.cell 6
        have t1 : w8.cell? ⟨bx, 1, none⟩ = some (.int .i64 (f : Int)) := HT3.out.frm.box.cell 1
        have hwi : IntKind.i64.wrap ((i : Int) + 1) = (i : Int) + 1 := IntWalk.i64_in _ (by omega)
        have hs8 : base ≤ w8.heap.size := HT3.out.size
        have hwd : base ≤ w8.drew.heap.size := hs8
        have HT4 := Lib.hid (HT3.out.below D (Below.refl _ _).drew)
        have hnx1 : w8.drew.ownsRow base TT 2 (.slice xa c.nx.length xc) c.nx.length (cellsT c.nx) := HT4.out.mid.nx
        have HN1 := Lib.hid hnx1
        clear hnx1
        have c6d : w8.drew.cell? ⟨s.g, 6, none⟩ = some (.slice xa c.nx.length xc) := c6
        have c6a : ∀ o, (w8.alloc o).cell? ⟨s.g, 6, none⟩ = some (.slice xa c.nx.length xc) := fun o => Lib.cell?_alloc_some o c6
        have hm2 : c.nx.length + 1 ≤ 8796093022208 := by omega
        go_upto_region 12 with fail
        go_region_law (first | (refine step_appT (w := w8.drew) (by rfl) _ _ (by rfl) base (.slice xa c.nx.length xc) c.nx.length (cellsT c.nx) (i + 1, f) _ (by rfl) (by rfl) (by rfl) HN1.out (by rfl) hm2 hwd ?_; intro gn cap w9 ho9 hp9; have hz := HT4.out.appX D (t := (i + 1, f)) ho9 hp9; have c69 := hz.2.1; have f69 := hz.2.2))
        all_goals
          have HZ := Lib.hid hz.1
          clear hz ho9 hp9
          go_wp2_with fail
          have hN := flR_next HG.out HR.out HK.out.1 HDD.out HSt.out ⟨HZ.out.mid, HZ.out.frm⟩
          exact HQ0.out _ _ _ _ _ _ _ _ _ _ _ _ _ _ _ _ _ _ _ _ _ _ _ _ _ _ _ _ _ _ _ _ _ _ _ _ _ _ _ _ _ _ _ _ _ _ _ _ _ _ _ _ _ _ _ _ _ _ _ _ _ _ _ _ _ _ _ _ _ _ _ _ _ _ _ _ _ _ _ _ _ _ _ _ _ _ _ _ _ _ _ _ _ _ _ _ _ ⟨_, _, _, _, hN.1, hN.2⟩
    · have HDD := Lib.hid (stp_none (p := p) (tx := tx) (f := f) HK.out.1 HX.out.1 HVi.out (.inl ⟨HO.out, fun h => hpl h.1⟩))
      have e0 : decide ((p : Int) < (n : Int)) = false := decide_eq_false (by omega)
      have e0n : decide (p < n) = false := decide_eq_false (by omega)
      have HQ := Lib.hid (fun q => HT2.out.below D (below_drewN (Below.refl _ _) q))
      clear htl hpl
      go_upto_region 11 with fail
      go_quiet (fail)
      rename_i nq
      have HZ := Lib.hid (HQ.out nq)
      go_wp2_with fail
      have hN := flR_next HG.out HR.out HK.out.1 HDD.out HSt.out ⟨HZ.out.mid, HZ.out.frm⟩
      exact HQ0.out _ _ _ _ _ _ _ _ _ _ _ _ _ _ _ _ _ _ _ _ _ _ _ _ _ _ _ _ _ _ _ _ _ _ _ _ _ _ _ _ _ _ _ _ _ _ _ _ _ _ _ _ _ _ _ _ _ _ _ _ _ _ _ _ _ _ _ _ _ _ _ _ _ _ _ _ _ _ _ _ _ _ _ _ _ _ _ _ _ _ _ _ _ _ _ _ _ ⟨_, _, _, _, hN.1, hN.2⟩
  by_cases o2 : x.op = 2
  · by_cases hp0 : p = 0
    · have HDD := Lib.hid (stp_push (p := p) (tx := tx) (f := f) HK.out.1 HX.out.1 HVi.out (.inl ⟨o2, hp0⟩))
      rw [o2] at b0 ⊢
      clear o2
      have hpb : ((p : Int) == 0) = true := by simp [hp0]
      clear hp0
      have hkl : k.length ≤ 140000 := by rw [HK.out.2]; exact hKb
      have hsk : w7.ownsRow base 3 1 (.slice (some ⟨kb, 0, none⟩) K kc) k.length (cellsN k.reverse) := HT2.out.mid.sk
      have hs7 : base ≤ w7.heap.size := HT2.out.size
      have HSK := Lib.hid hsk
      clear hsk
      have c7 : w7.cell? ⟨s.g, 7, none⟩ = some (.slice (some ⟨kb, 0, none⟩) K kc) := HT2.out.mid.o.cell 7
      have hwi : IntKind.i64.wrap ((i : Int) + 1) = (i : Int) + 1 := IntWalk.i64_in _ (by omega)
      go_wp2_with (at_builtin; refine wpList_appK (w := w7) rfl (.tmp 131) (.tmp 134) rfl base _ k.length k.reverse [i + 1] _ rfl rfl rfl HSK.out rfl (by simp) (by simp; omega) hs7 ?_)
      intro gn cap w8 ho8 hp8
      obtain ⟨hz, c78, f78⟩ := HT2.out.appK D (ts := [i + 1]) rfl rfl ho8 hp8
      have HZ := Lib.hid hz
      clear hz ho8 hp8 c7
      go_wp2_with fail
      have hN := flR_next HG.out HR.out HK.out.1 HDD.out HSt.out ⟨HZ.out.mid, HZ.out.frm⟩
      exact HQ0.out _ _ _ _ _ _ _ _ _ _ _ _ _ _ _ _ _ _ _ _ _ _ _ _ _ _ _ _ _ _ _ _ _ _ _ _ _ _ _ _ _ _ _ _ _ _ _ _ _ _ _ _ _ _ _ _ _ _ _ _ _ _ _ _ _ _ _ _ _ _ _ _ _ _ _ _ _ _ _ _ _ _ _ _ _ _ _ _ _ _ _ _ _ _ _ _ _ ⟨_, _, _, _, hN.1, hN.2⟩
    · have HDD := Lib.hid (stp_none (p := p) (tx := tx) (f := f) HK.out.1 HX.out.1 HVi.out (.inr (.inl ⟨o2, hp0⟩)))
      rw [o2] at b0 ⊢
      clear o2
      have hpb : ((p : Int) == 0) = false := by simpa using hp0
      clear hp0
      have HZ := HT2
      go_wp2_with fail
      have hN := flR_next HG.out HR.out HK.out.1 HDD.out HSt.out ⟨HZ.out.mid, HZ.out.frm⟩
      exact HQ0.out _ _ _ _ _ _ _ _ _ _ _ _ _ _ _ _ _ _ _ _ _ _ _ _ _ _ _ _ _ _ _ _ _ _ _ _ _ _ _ _ _ _ _ _ _ _ _ _ _ _ _ _ _ _ _ _ _ _ _ _ _ _ _ _ _ _ _ _ _ _ _ _ _ _ _ _ _ _ _ _ _ _ _ _ _ _ _ _ _ _ _ _ _ _ _ _ _ ⟨_, _, _, _, hN.1, hN.2⟩
  by_cases o3 : x.op = 3
  · have hn3 : n = tx.length := HT2.out.frm.txr.1.len.1.symm
    by_cases hp0 : p = tx.length
    · have HDD := Lib.hid (stp_push (p := p) (tx := tx) (f := f) HK.out.1 HX.out.1 HVi.out (.inr ⟨o3, hp0⟩))
      rw [o3] at b0 ⊢
      clear o3
      have hpb : ((p : Int) == (n : Int)) = true := by rw [hn3, hp0]; simp
      clear hn3 hp0
      have hkl : k.length ≤ 140000 := by rw [HK.out.2]; exact hKb
      have hsk : w7.ownsRow base 3 1 (.slice (some ⟨kb, 0, none⟩) K kc) k.length (cellsN k.reverse) := HT2.out.mid.sk
      have hs7 : base ≤ w7.heap.size := HT2.out.size
      have HSK := Lib.hid hsk
      clear hsk
      have c7 : w7.cell? ⟨s.g, 7, none⟩ = some (.slice (some ⟨kb, 0, none⟩) K kc) := HT2.out.mid.o.cell 7
      have hwi : IntKind.i64.wrap ((i : Int) + 1) = (i : Int) + 1 := IntWalk.i64_in _ (by omega)
      go_wp2_with (at_builtin; refine wpList_appK (w := w7) rfl (.tmp 148) (.tmp 151) rfl base _ k.length k.reverse [i + 1] _ rfl rfl rfl HSK.out rfl (by simp) (by simp; omega) hs7 ?_)
      intro gn cap w8 ho8 hp8
      obtain ⟨hz, c78, f78⟩ := HT2.out.appK D (ts := [i + 1]) rfl rfl ho8 hp8
      have HZ := Lib.hid hz
      clear hz ho8 hp8 c7
      go_wp2_with fail
      have hN := flR_next HG.out HR.out HK.out.1 HDD.out HSt.out ⟨HZ.out.mid, HZ.out.frm⟩
      exact HQ0.out _ _ _ _ _ _ _ _ _ _ _ _ _ _ _ _ _ _ _ _ _ _ _ _ _ _ _ _ _ _ _ _ _ _ _ _ _ _ _ _ _ _ _ _ _ _ _ _ _ _ _ _ _ _ _ _ _ _ _ _ _ _ _ _ _ _ _ _ _ _ _ _ _ _ _ _ _ _ _ _ _ _ _ _ _ _ _ _ _ _ _ _ _ _ _ _ _ ⟨_, _, _, _, hN.1, hN.2⟩
    · have HDD := Lib.hid (stp_none (p := p) (tx := tx) (f := f) HK.out.1 HX.out.1 HVi.out (.inr (.inr (.inl ⟨o3, hp0⟩))))
      rw [o3] at b0 ⊢
      clear o3
      have hpb : ((p : Int) == (n : Int)) = false := by rw [hn3]; simp; omega
      clear hn3 hp0
      have HZ := HT2
      go_wp2_with fail
      have hN := flR_next HG.out HR.out HK.out.1 HDD.out HSt.out ⟨HZ.out.mid, HZ.out.frm⟩
      exact HQ0.out _ _ _ _ _ _ _ _ _ _ _ _ _ _ _ _ _ _ _ _ _ _ _ _ _ _ _ _ _ _ _ _ _ _ _ _ _ _ _ _ _ _ _ _ _ _ _ _ _ _ _ _ _ _ _ _ _ _ _ _ _ _ _ _ _ _ _ _ _ _ _ _ _ _ _ _ _ _ _ _ _ _ _ _ _ _ _ _ _ _ _ _ _ _ _ _ _ ⟨_, _, _, _, hN.1, hN.2⟩
  by_cases o4 : x.op = 4
  · have HDD := Lib.hid (stp_jump (p := p) (tx := tx) (f := f) HK.out.1 HX.out.1 HVi.out o4)
    have hx4 := (HC.out x (List.mem_of_getElem? HX.out.1)).2.1 (.inl o4)
    rw [o4] at b0 ⊢
    clear o4
    obtain ⟨q, hq⟩ : ∃ q : Nat, x.x = (q : Int) := ⟨x.x.toNat, by omega⟩
    have b5 : w7.cell? ⟨ib, 5, none⟩ = some (.int .i64 (q : Int)) := by rw [← hq]; exact HA7.out.cell 5
    rw [hq, Int.toNat_natCast] at HDD
    clear hx4 hq
    have c7 : w7.cell? ⟨s.g, 7, none⟩ = some (.slice (some ⟨kb, 0, none⟩) K kc) := HT2.out.mid.o.cell 7
    have hkl : k.length ≤ 140000 := by rw [HK.out.2]; exact hKb
    have hsk : w7.ownsRow base 3 1 (.slice (some ⟨kb, 0, none⟩) K kc) k.length (cellsN k.reverse) := HT2.out.mid.sk
    have hs7 : base ≤ w7.heap.size := HT2.out.size
    have HSK := Lib.hid hsk
    clear hsk
    have hwd : base ≤ w7.drew.heap.size := hs7
    have HT3 := Lib.hid (HT2.out.below D (Below.refl _ _).drew)
    have hsk1 : w7.drew.ownsRow base 3 1 (.slice (some ⟨kb, 0, none⟩) K kc) k.length (cellsN k.reverse) := HSK.out
    have HS1 := Lib.hid hsk1
    clear hsk1
    have c7d : w7.drew.cell? ⟨s.g, 7, none⟩ = some (.slice (some ⟨kb, 0, none⟩) K kc) := c7
    have c7a : ∀ o, (w7.alloc o).cell? ⟨s.g, 7, none⟩ = some (.slice (some ⟨kb, 0, none⟩) K kc) := fun o => Lib.cell?_alloc_some o c7
    have hm1 : 0 < ([q] : List Nat).length := by simp
    have hm2 : k.length + ([q] : List Nat).length ≤ 17592186044416 := by simp; omega
    go_upto_region 20 with fail
    go_region_law (first | (refine step_appK (w := w7.drew) (by rfl) _ _ (by rfl) base (.slice (some ⟨kb, 0, none⟩) K kc) k.length k.reverse [q] _ (by rfl) (by rfl) (by rfl) HS1.out (by rfl) hm1 hm2 hwd ?_; intro gn cap w8 ho8 hp8; have hz := HT3.out.appK D (ts := [q]) rfl rfl ho8 hp8; have c78 := hz.2.1; have f78 := hz.2.2))
    all_goals
      have HZ := Lib.hid hz.1
      clear hz ho8 hp8
      go_wp2_with fail
      have hN := flR_next HG.out HR.out HK.out.1 HDD.out HSt.out ⟨HZ.out.mid, HZ.out.frm⟩
      exact HQ0.out _ _ _ _ _ _ _ _ _ _ _ _ _ _ _ _ _ _ _ _ _ _ _ _ _ _ _ _ _ _ _ _ _ _ _ _ _ _ _ _ _ _ _ _ _ _ _ _ _ _ _ _ _ _ _ _ _ _ _ _ _ _ _ _ _ _ _ _ _ _ _ _ _ _ _ _ _ _ _ _ _ _ _ _ _ _ _ _ _ _ _ _ _ _ _ _ _ ⟨_, _, _, _, hN.1, hN.2⟩
  by_cases o5 : x.op = 5
  · have HDD := Lib.hid (stp_split (p := p) (tx := tx) (f := f) HK.out.1 HX.out.1 HVi.out o5)
    have hx5 := (HC.out x (List.mem_of_getElem? HX.out.1)).2.1 (.inr o5)
    have hy5 := (HC.out x (List.mem_of_getElem? HX.out.1)).2.2 o5
    rw [o5] at b0 ⊢
    clear o5
    obtain ⟨q, hq⟩ : ∃ q : Nat, x.x = (q : Int) := ⟨x.x.toNat, by omega⟩
    obtain ⟨r, hr⟩ : ∃ r : Nat, x.y = (r : Int) := ⟨x.y.toNat, by omega⟩
    have b5 : w7.cell? ⟨ib, 5, none⟩ = some (.int .i64 (q : Int)) := by rw [← hq]; exact HA7.out.cell 5
    have b6 : w7.cell? ⟨ib, 6, none⟩ = some (.int .i64 (r : Int)) := by rw [← hr]; exact HA7.out.cell 6
    rw [hq, hr, Int.toNat_natCast, Int.toNat_natCast] at HDD
    clear hx5 hy5 hq hr
    have c7 : w7.cell? ⟨s.g, 7, none⟩ = some (.slice (some ⟨kb, 0, none⟩) K kc) := HT2.out.mid.o.cell 7
    have hkl : k.length ≤ 140000 := by rw [HK.out.2]; exact hKb
    have hsk : w7.ownsRow base 3 1 (.slice (some ⟨kb, 0, none⟩) K kc) k.length (cellsN k.reverse) := HT2.out.mid.sk
    have hs7 : base ≤ w7.heap.size := HT2.out.size
    have HSK := Lib.hid hsk
    clear hsk
    have hwd : base ≤ w7.drew.heap.size := hs7
    have HT3 := Lib.hid (HT2.out.below D (Below.refl _ _).drew)
    have hsk1 : w7.drew.ownsRow base 3 1 (.slice (some ⟨kb, 0, none⟩) K kc) k.length (cellsN k.reverse) := HSK.out
    have HS1 := Lib.hid hsk1
    clear hsk1
    have c7d : w7.drew.cell? ⟨s.g, 7, none⟩ = some (.slice (some ⟨kb, 0, none⟩) K kc) := c7
    have c7a : ∀ o, (w7.alloc o).cell? ⟨s.g, 7, none⟩ = some (.slice (some ⟨kb, 0, none⟩) K kc) := fun o => Lib.cell?_alloc_some o c7
    have hm1 : 0 < ([r, q] : List Nat).length := by simp
    have hm2 : k.length + ([r, q] : List Nat).length ≤ 17592186044416 := by simp; omega
    go_upto_region 22 with fail
    go_region_law (first | (refine step_appK (w := w7.drew) (by rfl) _ _ (by rfl) base (.slice (some ⟨kb, 0, none⟩) K kc) k.length k.reverse [r, q] _ (by rfl) (by rfl) (by rfl) HS1.out (by rfl) hm1 hm2 hwd ?_; intro gn cap w8 ho8 hp8; have hz := HT3.out.appK D (ts := [r, q]) rfl rfl ho8 hp8; have c78 := hz.2.1; have f78 := hz.2.2))
    all_goals
      have HZ := Lib.hid hz.1
      clear hz ho8 hp8
      go_wp2_with fail
      have hN := flR_next HG.out HR.out HK.out.1 HDD.out HSt.out ⟨HZ.out.mid, HZ.out.frm⟩
      exact HQ0.out _ _ _ _ _ _ _ _ _ _ _ _ _ _ _ _ _ _ _ _ _ _ _ _ _ _ _ _ _ _ _ _ _ _ _ _ _ _ _ _ _ _ _ _ _ _ _ _ _ _ _ _ _ _ _ _ _ _ _ _ _ _ _ _ _ _ _ _ _ _ _ _ _ _ _ _ _ _ _ _ _ _ _ _ _ _ _ _ _ _ _ _ _ _ _ _ _ ⟨_, _, _, _, hN.1, hN.2⟩
  by_cases o6 : x.op = 6
  · have HDD := Lib.hid (stp_done (p := p) (tx := tx) (f := f) HK.out.1 HX.out.1 HVi.out o6)
    rw [o6] at b0 ⊢
    clear o6
    have t1 : w7.cell? ⟨bx, 1, none⟩ = some (.int .i64 (f : Int)) := HT2.out.frm.box.cell 1
    go_wp2_with fail
    rw [D.enter, Oper.upon_enter]
    refine (D.call HT2.out.frm.jd f).mono ?_
    rintro e wn ⟨rfl, hjn, hun⟩
    have HZ := Lib.hid (HT2.out.told D hjn hun)
    clear b0 t1 hjn hun
    go_wp2_with fail
    have hN := flR_next HG.out HR.out HK.out.1 HDD.out HSt.out ⟨HZ.out.mid, HZ.out.frm⟩
    exact HQ0.out _ _ _ _ _ _ _ _ _ _ _ _ _ _ _ _ _ _ _ _ _ _ _ _ _ _ _ _ _ _ _ _ _ _ _ _ _ _ _ _ _ _ _ _ _ _ _ _ _ _ _ _ _ _ _ _ _ _ _ _ _ _ _ _ _ _ _ _ _ _ _ _ _ _ _ _ _ _ _ _ _ _ _ _ _ _ _ _ _ _ _ _ _ _ _ _ _ ⟨_, _, _, _, hN.1, hN.2⟩
  have HDD := Lib.hid (stp_none (p := p) (tx := tx) (f := f) HK.out.1 HX.out.1 HVi.out (.inr (.inr (.inr ⟨o1, o2, o3, o4, o5, o6⟩))))
  have g1 : (x.op == 1) = false := by simpa using o1
  have g2 : (x.op == 2) = false := by simpa using o2
  have g3 : (x.op == 3) = false := by simpa using o3
  have g4 : (x.op == 4) = false := by simpa using o4
  have g5 : (x.op == 5) = false := by simpa using o5
  have g6 : (x.op == 6) = false := by simpa using o6
  clear o1 o2 o3 o4 o5 o6
  have HZ := HT2
  go_wp2_with fail
  have hN := flR_next HG.out HR.out HK.out.1 HDD.out HSt.out ⟨HZ.out.mid, HZ.out.frm⟩
  exact HQ0.out _ _ _ _ _ _ _ _ _ _ _ _ _ _ _ _ _ _ _ _ _ _ _ _ _ _ _ _ _ _ _ _ _ _ _ _ _ _ _ _ _ _ _ _ _ _ _ _ _ _ _ _ _ _ _ _ _ _ _ _ _ _ _ _ _ _ _ _ _ _ _ _ _ _ _ _ _ _ _ _ _ _ _ _ _ _ _ _ _ _ _ _ _ _ _ _ _ ⟨_, _, _, _, hN.1, hN.2⟩
end Go.Proofs.YtfmcjmkdlldlhaaDoor

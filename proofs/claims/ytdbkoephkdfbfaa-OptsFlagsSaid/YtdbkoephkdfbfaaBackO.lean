/-
  galleylaw28.OptsBack: its walk.
-/
import Derived.Test.YtdbkoephkdfbfaaOptW
import Derived.Test.YtdbkoephkdfbfaaOptB
namespace Go.Proofs.Ytdbkoephkdfbfaa
open Go.RowKit

theorem box_below {wr w' : World} {g : Nat} {c : Obj} (h : wr.heap[g]? = some c) (hb : Below wr.heap.size wr w') : w'.heap[g]? = some c := (hb.block g (Array.getElem?_eq_some_iff.1 h).1).trans h
theorem box_get {wr : World} {g : Nat} {o : Opt} {pv fv : Value} (h : wr.heap[g]? = some (.cells (fullO o pv fv) TOpt (0, 0))) : wr.cell? ⟨g, 0, none⟩ = some (.bool o.q) ∧ wr.cell? ⟨g, 1, none⟩ = some (.bool o.e) ∧ wr.cell? ⟨g, 2, none⟩ = some (.bool o.a) ∧ wr.cell? ⟨g, 3, none⟩ = some (.bool o.i) ∧ wr.cell? ⟨g, 4, none⟩ = some pv ∧ wr.cell? ⟨g, 5, none⟩ = some fv :=
  ⟨cell_of_row wr g 0 _ _ (0, 0) h, cell_of_row wr g 1 _ _ (0, 0) h, cell_of_row wr g 2 _ _ (0, 0) h, cell_of_row wr g 3 _ _ (0, 0) h, cell_of_row wr g 4 _ _ (0, 0) h, cell_of_row wr g 5 _ _ (0, 0) h⟩
theorem new_box (w wr : World) (h : Below w.heap.size w wr) (cs : Array Value) : (wr.alloc (.cells cs TOpt)).heap[wr.heap.size]? = some (.cells cs TOpt (0, 0)) ∧ Below wr.heap.size wr (wr.alloc (.cells cs TOpt)) ∧ Below w.heap.size w (wr.alloc (.cells cs TOpt)) :=
  ⟨heap_alloc_new wr _, (Below.refl _ wr).alloc (Nat.le_refl _) _, h.alloc h.size _⟩
theorem below_to {w wr w' : World} (h : Below w.heap.size w wr) (hb : Below wr.heap.size wr w') : Below w.heap.size w w' := h.trans (hb.mono h.size)
theorem str_ned (x : Str) (c : UInt8) (h : x ≠ str [c]) : (ByteArray.toList x == [c]) = false := by
  have : ByteArray.toList (str [c]) = [c] := by rw [Lib.toList_data]; rfl
  rw [← this, str_eqd]
  exact decide_eq_false h
theorem print_ne (o : Opt) : 1 ≤ (printL o).length := by unfold printL; simp only [List.length_append, List.length_cons, List.length_nil]; omega

set_option maxHeartbeats 4000000 in
set_option maxRecDepth 100000 in
theorem optsBack_walk (w : World) (a0 : Option Addr) (n0 c0 : Nat) (l0 : List Str) (h0 : TS w (.slice a0 n0 c0) l0) (hs0 : ∀ s ∈ l0, s.size ≤ 140737488351232)
    (o : Opt) (ap : Option Addr) (np cp : Nat) (sp : PT w (.slice ap np cp) o.parts) (hps : ∀ x ∈ o.parts, x.2.size ≤ 140737488351232) (af : Option Addr) (nf cf : Nat) (sf : TS w (.slice af nf cf) o.files) (hfs : ∀ x ∈ o.files, x.size ≤ 140737488351232) :
    Calls Try.prog 3 #[.slice a0 n0 c0, optV o (.slice ap np cp) (.slice af nf cf)] w fun e w' => e = .returned (.bool true) ∧ Below w.heap.size w w' := by
  obtain ⟨hl0, -, -, -⟩ := h0.len
  obtain ⟨hlp, hnp0, -, -⟩ := sp.len
  obtain ⟨hlf, hnf0, -, -⟩ := sf.len
  have H0 := Lib.hid h0
  have HSP := Lib.hid sp
  have HSF := Lib.hid sf
  have HS0 := Lib.hid hs0
  have HPS := Lib.hid (And.intro hps hfs)
  have HL0 := Lib.hid hl0
  have HLP := Lib.hid (And.intro hlp hlf)
  clear h0 sp sf hs0 hps hfs hl0 hlp hlf
  unfold optV
  obtain ⟨kb, k1, k2⟩ := new_box w w (Below.refl _ w) (fullO o (.slice ap np cp) (.slice af nf cf))
  go_enter Try.func3, Try.ntmps3
  go_upto_region 1 with fail
  obtain ⟨b3, hb3⟩ : ∃ b3, w.heap.size = b3 := ⟨_, rfl⟩
  rw [hb3] at kb ⊢
  generalize w.alloc (.cells (fullO o (.slice ap np cp) (.slice af nf cf)) TOpt) = w1 at kb k1 k2 ⊢
  go_wp2_with fail
  refine (works28_any w1).mono ?_
  rintro e w2 ⟨rfl, bb⟩
  have K := Lib.hid (box_below kb bb)
  have BL := Lib.hid (below_to k2 bb)
  have HB3 := Lib.hid hb3
  clear kb k1 k2 bb hb3
  go_wp2_with fail
  refine (longT_any w2 a0 n0 c0 l0 (H0.out.below BL.out) HS0.out).mono ?_
  rintro e w3 ⟨lb, rfl, rfl, hlg⟩
  have HLG := Lib.hid hlg
  clear hlg
  obtain ⟨q0, q1, q2, q3, q4, q5⟩ := box_get K.out
  cases lb with
  | true =>
    go_wp2_with fail
    go_ret
    exact ⟨rfl, BL.out⟩
  | false =>
    by_cases hbig : 1048576 < np + nf
    · have hbd : decide ((1048576 : Int) < (np : Int) + (nf : Int)) = true := by simp; omega
      go_wp2_with fail
      go_ret
      exact ⟨rfl, BL.out⟩
    · have hbd : decide ((1048576 : Int) < (np : Int) + (nf : Int)) = false := by simp; omega
      have hnp : np ≤ 1048576 := by omega
      have hnf : nf ≤ 1048576 := by omega
      obtain ⟨hn0, hs1⟩ := HLG.out rfl
      have HS1 := Lib.hid hs1
      clear hs1
      go_wp2_with fail
      refine (parseO_any w2 a0 n0 c0 l0 (H0.out.below BL.out) (by omega) (fun s hs => by have := HS1.out s hs; omega)).mono ?_
      intro e w3 hP
      have HOK := Lib.hid (par_ok l0.length l0 opt0 (Nat.le_refl _) (fun h => by cases h))
      have HFI := Lib.hid (par_fine 67108864 l0.length l0 opt0 (Nat.le_refl _) HS1.out (fun x (h : x ∈ ([] : List Prt)) => by cases h))
      generalize parF l0 opt0 = r at hP HOK HFI
      obtain ⟨p, er, of'⟩ := r
      obtain ⟨rp, cr, rf, crf, rfl, op, off, bb⟩ := hP
      simp only at op off HOK HFI
      obtain ⟨mp, hmp⟩ : ∃ mp, p.parts.length = mp := ⟨_, rfl⟩
      obtain ⟨mf, hmf⟩ : ∃ mf, p.files.length = mf := ⟨_, rfl⟩
      obtain ⟨kb, k1, k2⟩ := new_box w w3 (below_to BL.out bb) (fullO p (.slice rp mp cr) (.slice rf mf crf))
      have hfl := HFI.out.1
      simp only [show opt0.parts.length = 0 from rfl, Nat.zero_add, HL0.out, hmp, hmf] at hfl
      have HP1 := Lib.hid ((op.pt (by omega)).below k1)
      have HF1 := Lib.hid ((off.ts (by omega)).below k1)
      rw [hmp] at HP1
      rw [hmf] at HF1
      have K2 := Lib.hid (box_below (box_below K.out bb) k1)
      clear op off bb q0 q1 q2 q3 q4 q5
      simp only [hmp, hmf]
      go_upto_region 5 with (refine wpList_store_row rfl TOpt (.tmp 6) (.tmp 33) rfl rfl w3.heap.size TOpt zeroO (fullO p (.slice rp mp cr) (.slice rf mf crf)) rfl rfl (heap_alloc_new w3 _) rfl infoO (by simp [Value.oneCell']) ?_)
      rw [World.setRow_alloc_new]
      obtain ⟨b6, hb6⟩ : ∃ b6, w3.heap.size = b6 := ⟨_, rfl⟩
      rw [hb6] at kb k1 ⊢
      generalize w3.alloc (.cells (fullO p (.slice rp mp cr) (.slice rf mf crf)) TOpt) = w4 at kb k1 k2 HP1 HF1 K2 ⊢
      clear K BL k1
      have K := K2
      have BL := Lib.hid k2
      have KB := Lib.hid kb
      have HMP := Lib.hid (And.intro hmp hmf)
      clear k2 kb K2 hmp hmf
      rcases HOK.out with ⟨he, ho, hpr⟩ | ⟨he, hpo, ho⟩ | ⟨he, hpo, ho⟩
      · subst he ho
        have hlen := (print_fine 67108864 (by decide) p HFI.out.2.1 HFI.out.2.2).1
        rw [HMP.out.1, HMP.out.2] at hlen
        obtain ⟨nl, hnl⟩ : ∃ nl, (printL p).length = nl := ⟨_, rfl⟩
        have hR : printR p = printL p := by unfold printR; rw [if_pos hpr]
        obtain ⟨q0, q1, q2, q3, q4, q5⟩ := box_get KB.out
        go_wp2_with fail
        refine (printO_any w4 p rp mp cr HP1.out rf mf crf HF1.out (by omega) (by omega)).mono ?_
        intro e wy hQ
        obtain ⟨al, cl, rfl, ol, bb⟩ := hQ
        have KB2 := Lib.hid (box_below KB.out bb)
        have HP2 := Lib.hid (HP1.out.below bb)
        have HF2 := Lib.hid (HF1.out.below bb)
        have K2 := Lib.hid (box_below K.out bb)
        have BL2 := Lib.hid (below_to BL.out bb)
        clear q0 q1 q2 q3 q4 q5 K BL bb KB HP1 HF1
        rw [hR] at ol
        rw [hnl] at hlen ol
        have hts := ol.ts (by rw [hnl]; omega)
        simp only [hR, hnl]
        clear ol
        go_wp2_with fail
        refine (parseO_any wy al nl cl (printL p) hts (by omega) (fun s hs => by have := (print_fine 67108864 (by decide) p HFI.out.2.1 HFI.out.2.2).2 s hs; omega)).mono ?_
        intro e wz hP
        rw [par_print p hpr] at hP
        obtain ⟨qp, cq, qf, cqf, rfl, oq, oqf, bb⟩ := hP
        simp only at oq oqf
        rw [HMP.out.1] at oq
        rw [HMP.out.2] at oqf
        simp only [HMP.out.1, HMP.out.2]
        obtain ⟨kb9, k1, k2⟩ := new_box w wz (below_to BL2.out bb) (fullO p (.slice qp mp cq) (.slice qf mf cqf))
        have hmpf := HMP.out
        have PQ := (oq.pt (by rw [HMP.out.1]; omega)).below k1
        have FQ := (oqf.ts (by rw [HMP.out.2]; omega)).below k1
        have K3 := Lib.hid (box_below (box_below K2.out bb) k1)
        have KB3 := Lib.hid (box_below (box_below KB2.out bb) k1)
        have HP3 := Lib.hid ((HP2.out.below bb).below k1)
        have HF3 := Lib.hid ((HF2.out.below bb).below k1)
        clear oq oqf bb k1 hts hmpf K2 BL2 KB2 HP2 HF2
        go_upto_region 9 with (refine wpList_store_row rfl TOpt (.tmp 9) (.tmp 102) rfl rfl wz.heap.size TOpt zeroO (fullO p (.slice qp mp cq) (.slice qf mf cqf)) rfl rfl (heap_alloc_new wz _) rfl infoO (by simp [Value.oneCell']) ?_)
        rw [World.setRow_alloc_new]
        obtain ⟨b9, hb9⟩ : ∃ b9, wz.heap.size = b9 := ⟨_, rfl⟩
        rw [hb9] at kb9 ⊢
        generalize wz.alloc (.cells (fullO p (.slice qp mp cq) (.slice qf mf cqf)) TOpt) = wv at kb9 k2 PQ FQ K3 KB3 HP3 HF3 ⊢
        obtain ⟨q0, q1, q2, q3, q4, q5⟩ := box_get KB3.out
        obtain ⟨r0, r1, r2, r3, r4, r5⟩ := box_get kb9
        have HPQ := Lib.hid (And.intro PQ FQ)
        have HK2 := Lib.hid k2
        have hq : (ByteArray.toList ByteArray.empty == []) = true := by rw [nil_eqd]; rfl
        clear PQ FQ k2 kb9
        go_wp2_with fail
        refine (eqOptions_same wv p.q p.e p.a p.i p.parts p.files qp mp cq HPQ.out.1 qf mf cqf HPQ.out.2 rp mp cr HP3.out rf mf crf HF3.out).mono ?_
        rintro e wx ⟨rfl, bb⟩
        have K := Lib.hid (box_below K3.out bb)
        have BL := Lib.hid (below_to HK2.out bb)
        clear q0 q1 q2 q3 q4 q5 r0 r1 r2 r3 r4 r5 K3 KB3 HP3 HF3 HPQ HK2 bb
        obtain ⟨q0, q1, q2, q3, q4, q5⟩ := box_get K.out
        go_wp2_with fail
        refine (printO_any wx o ap np cp (HSP.out.below BL.out) af nf cf (HSF.out.below BL.out) (by omega) (by omega)).mono ?_
        intro e wy hQ
        obtain ⟨al, cl, rfl, ol, bb⟩ := hQ
        have K2 := Lib.hid (box_below K.out bb)
        have BL2 := Lib.hid (below_to BL.out bb)
        clear q0 q1 q2 q3 q4 q5 K BL bb
        obtain ⟨q0, q1, q2, q3, q4, q5⟩ := box_get K2.out
        cases hprr : printable o with
        | false =>
          have hR : printR o = [] := by unfold printR; rw [hprr]; rfl
          simp only [hR, List.length_nil]
          clear ol
          by_cases hp0 : np = 0
          · have hpd : ((np : Int) == 0) = true := by simp [hp0]
            go_wp2_with fail
            go_ret
            exact ⟨rfl, BL2.out⟩
          · have hpd : ((np : Int) == 0) = false := by simp [hp0]
            have hia : o.i = true ∧ o.a = false := by
              unfold printable at hprr
              have hne : o.parts.isEmpty = false := by
                have := HLP.out.1
                cases hpp : o.parts with
                | nil => rw [hpp] at this; simp at this; omega
                | cons x xs => rfl
              rw [hne] at hprr
              revert hprr
              cases o.i <;> cases o.a <;> simp
            rw [hia.1] at q3
            rw [hia.2] at q2
            go_wp2_with fail
            go_ret
            exact ⟨rfl, BL2.out⟩
        | true =>
          have hR : printR o = printL o := by unfold printR; rw [if_pos hprr]
          have hlen := (print_fine 140737488351232 (by decide) o HPS.out.1 HPS.out.2).1
          rw [HLP.out.1, HLP.out.2] at hlen
          have hne := print_ne o
          obtain ⟨nl, hnl⟩ : ∃ nl, (printL o).length = nl := ⟨_, rfl⟩
          rw [hR] at ol
          rw [hnl] at hlen hne ol
          have hts := ol.ts (by rw [hnl]; omega)
          simp only [hR, hnl]
          have hnd : ((nl : Int) == 0) = false := by simp; omega
          clear ol
          go_wp2_with fail
          refine (parseO_any wy al nl cl (printL o) hts (by omega) (fun s hs => by have := (print_fine 140737488351232 (by decide) o HPS.out.1 HPS.out.2).2 s hs; omega)).mono ?_
          intro e wz hP
          rw [par_print o hprr] at hP
          obtain ⟨qp, cq, qf, cqf, rfl, oq, oqf, bb⟩ := hP
          simp only at oq oqf
          rw [HLP.out.1] at oq
          rw [HLP.out.2] at oqf
          simp only [HLP.out.1, HLP.out.2]
          obtain ⟨kb13, k1, k2⟩ := new_box w wz (below_to BL2.out bb) (fullO o (.slice qp np cq) (.slice qf nf cqf))
          have PQ := (oq.pt (by rw [HLP.out.1]; omega)).below k1
          have FQ := (oqf.ts (by rw [HLP.out.2]; omega)).below k1
          have K3 := Lib.hid (box_below (box_below K2.out bb) k1)
          clear oq oqf bb q0 q1 q2 q3 q4 q5 k1 hts
          go_upto_region 15 with (refine wpList_store_row rfl TOpt (.tmp 13) (.tmp 141) rfl rfl wz.heap.size TOpt zeroO (fullO o (.slice qp np cq) (.slice qf nf cqf)) rfl rfl (heap_alloc_new wz _) rfl infoO (by simp [Value.oneCell']) ?_)
          rw [World.setRow_alloc_new]
          obtain ⟨b13, hb13⟩ : ∃ b13, wz.heap.size = b13 := ⟨_, rfl⟩
          rw [hb13] at kb13 ⊢
          generalize wz.alloc (.cells (fullO o (.slice qp np cq) (.slice qf nf cqf)) TOpt) = wv at kb13 k2 PQ FQ K3 ⊢
          obtain ⟨q0, q1, q2, q3, q4, q5⟩ := box_get K3.out
          obtain ⟨r0, r1, r2, r3, r4, r5⟩ := box_get kb13
          have HPQ := Lib.hid (And.intro PQ FQ)
          have HK2 := Lib.hid k2
          clear PQ FQ k2 kb13
          go_wp2_with fail
          refine (eqOptions_same wv o.q o.e o.a o.i o.parts o.files qp np cq HPQ.out.1 qf nf cqf HPQ.out.2 ap np cp (HSP.out.below HK2.out) af nf cf (HSF.out.below HK2.out)).mono ?_
          rintro e w9 ⟨rfl, b9⟩
          go_wp2_with fail
          go_ret
          exact ⟨rfl, below_to HK2.out b9⟩
      · subst he hpo
        have hmp0 : mp = 0 := HMP.out.1.symm
        have hmf0 : mf = 0 := HMP.out.2.symm
        subst hmp0 hmf0
        obtain ⟨q0, q1, q2, q3, q4, q5⟩ := box_get KB.out
        rcases ho with ho | ho | ho
        · replace ho : of' = ByteArray.empty := ho
          have hq : (ByteArray.toList of' == []) = true := by rw [nil_eqd, ho]; rfl
          go_wp2_with fail
          refine (eqOptions_same w4 false false false false [] [] rp 0 cr HP1.out rf 0 crf HF1.out none 0 0 (pt_none _) none 0 0 (ts_none _)).mono ?_
          rintro e wx ⟨rfl, bb⟩
          have K' := Lib.hid (box_below K.out bb)
          have BL' := Lib.hid (below_to BL.out bb)
          clear q0 q1 q2 q3 q4 q5 K BL bb
          have K := K'
          have BL := BL'
          clear K' BL'
          obtain ⟨q0, q1, q2, q3, q4, q5⟩ := box_get K.out
          go_wp2_with fail
          refine (printO_any wx o ap np cp (HSP.out.below BL.out) af nf cf (HSF.out.below BL.out) (by omega) (by omega)).mono ?_
          intro e wy hQ
          obtain ⟨al, cl, rfl, ol, bb⟩ := hQ
          have K2 := Lib.hid (box_below K.out bb)
          have BL2 := Lib.hid (below_to BL.out bb)
          clear q0 q1 q2 q3 q4 q5 K BL bb
          obtain ⟨q0, q1, q2, q3, q4, q5⟩ := box_get K2.out
          cases hprr : printable o with
          | false =>
            have hR : printR o = [] := by unfold printR; rw [hprr]; rfl
            simp only [hR, List.length_nil]
            clear ol
            by_cases hp0 : np = 0
            · have hpd : ((np : Int) == 0) = true := by simp [hp0]
              go_wp2_with fail
              go_ret
              exact ⟨rfl, BL2.out⟩
            · have hpd : ((np : Int) == 0) = false := by simp [hp0]
              have hia : o.i = true ∧ o.a = false := by
                unfold printable at hprr
                have hne : o.parts.isEmpty = false := by
                  have := HLP.out.1
                  cases hpp : o.parts with
                  | nil => rw [hpp] at this; simp at this; omega
                  | cons x xs => rfl
                rw [hne] at hprr
                revert hprr
                cases o.i <;> cases o.a <;> simp
              rw [hia.1] at q3
              rw [hia.2] at q2
              go_wp2_with fail
              go_ret
              exact ⟨rfl, BL2.out⟩
          | true =>
            have hR : printR o = printL o := by unfold printR; rw [if_pos hprr]
            have hlen := (print_fine 140737488351232 (by decide) o HPS.out.1 HPS.out.2).1
            rw [HLP.out.1, HLP.out.2] at hlen
            have hne := print_ne o
            obtain ⟨nl, hnl⟩ : ∃ nl, (printL o).length = nl := ⟨_, rfl⟩
            rw [hR] at ol
            rw [hnl] at hlen hne ol
            have hts := ol.ts (by rw [hnl]; omega)
            simp only [hR, hnl]
            have hnd : ((nl : Int) == 0) = false := by simp; omega
            clear ol
            go_wp2_with fail
            refine (parseO_any wy al nl cl (printL o) hts (by omega) (fun s hs => by have := (print_fine 140737488351232 (by decide) o HPS.out.1 HPS.out.2).2 s hs; omega)).mono ?_
            intro e wz hP
            rw [par_print o hprr] at hP
            obtain ⟨qp, cq, qf, cqf, rfl, oq, oqf, bb⟩ := hP
            simp only at oq oqf
            rw [HLP.out.1] at oq
            rw [HLP.out.2] at oqf
            simp only [HLP.out.1, HLP.out.2]
            obtain ⟨kb13, k1, k2⟩ := new_box w wz (below_to BL2.out bb) (fullO o (.slice qp np cq) (.slice qf nf cqf))
            have PQ := (oq.pt (by rw [HLP.out.1]; omega)).below k1
            have FQ := (oqf.ts (by rw [HLP.out.2]; omega)).below k1
            have K3 := Lib.hid (box_below (box_below K2.out bb) k1)
            clear oq oqf bb q0 q1 q2 q3 q4 q5 k1 hts
            go_upto_region 15 with (refine wpList_store_row rfl TOpt (.tmp 13) (.tmp 141) rfl rfl wz.heap.size TOpt zeroO (fullO o (.slice qp np cq) (.slice qf nf cqf)) rfl rfl (heap_alloc_new wz _) rfl infoO (by simp [Value.oneCell']) ?_)
            rw [World.setRow_alloc_new]
            obtain ⟨b13, hb13⟩ : ∃ b13, wz.heap.size = b13 := ⟨_, rfl⟩
            rw [hb13] at kb13 ⊢
            generalize wz.alloc (.cells (fullO o (.slice qp np cq) (.slice qf nf cqf)) TOpt) = wv at kb13 k2 PQ FQ K3 ⊢
            obtain ⟨q0, q1, q2, q3, q4, q5⟩ := box_get K3.out
            obtain ⟨r0, r1, r2, r3, r4, r5⟩ := box_get kb13
            have HPQ := Lib.hid (And.intro PQ FQ)
            have HK2 := Lib.hid k2
            clear PQ FQ k2 kb13
            go_wp2_with fail
            refine (eqOptions_same wv o.q o.e o.a o.i o.parts o.files qp np cq HPQ.out.1 qf nf cqf HPQ.out.2 ap np cp (HSP.out.below HK2.out) af nf cf (HSF.out.below HK2.out)).mono ?_
            rintro e w9 ⟨rfl, b9⟩
            go_wp2_with fail
            go_ret
            exact ⟨rfl, below_to HK2.out b9⟩
        · replace ho : of' = str [101] := ho
          have hq : (ByteArray.toList of' == []) = false := by rw [nil_eqd, ho]; decide
          have hqe : (ByteArray.toList of' == [101]) = true := by rw [ho, Lib.toList_data]; rfl
          clear ho
          go_wp2_with fail
          refine (eqOptions_same w4 false false false false [] [] rp 0 cr HP1.out rf 0 crf HF1.out none 0 0 (pt_none _) none 0 0 (ts_none _)).mono ?_
          rintro e wx ⟨rfl, bb⟩
          have K' := Lib.hid (box_below K.out bb)
          have BL' := Lib.hid (below_to BL.out bb)
          clear q0 q1 q2 q3 q4 q5 K BL bb
          have K := K'
          have BL := BL'
          clear K' BL'
          obtain ⟨q0, q1, q2, q3, q4, q5⟩ := box_get K.out
          go_wp2_with fail
          refine (printO_any wx o ap np cp (HSP.out.below BL.out) af nf cf (HSF.out.below BL.out) (by omega) (by omega)).mono ?_
          intro e wy hQ
          obtain ⟨al, cl, rfl, ol, bb⟩ := hQ
          have K2 := Lib.hid (box_below K.out bb)
          have BL2 := Lib.hid (below_to BL.out bb)
          clear q0 q1 q2 q3 q4 q5 K BL bb
          obtain ⟨q0, q1, q2, q3, q4, q5⟩ := box_get K2.out
          cases hprr : printable o with
          | false =>
            have hR : printR o = [] := by unfold printR; rw [hprr]; rfl
            simp only [hR, List.length_nil]
            clear ol
            by_cases hp0 : np = 0
            · have hpd : ((np : Int) == 0) = true := by simp [hp0]
              go_wp2_with fail
              go_ret
              exact ⟨rfl, BL2.out⟩
            · have hpd : ((np : Int) == 0) = false := by simp [hp0]
              have hia : o.i = true ∧ o.a = false := by
                unfold printable at hprr
                have hne : o.parts.isEmpty = false := by
                  have := HLP.out.1
                  cases hpp : o.parts with
                  | nil => rw [hpp] at this; simp at this; omega
                  | cons x xs => rfl
                rw [hne] at hprr
                revert hprr
                cases o.i <;> cases o.a <;> simp
              rw [hia.1] at q3
              rw [hia.2] at q2
              go_wp2_with fail
              go_ret
              exact ⟨rfl, BL2.out⟩
          | true =>
            have hR : printR o = printL o := by unfold printR; rw [if_pos hprr]
            have hlen := (print_fine 140737488351232 (by decide) o HPS.out.1 HPS.out.2).1
            rw [HLP.out.1, HLP.out.2] at hlen
            have hne := print_ne o
            obtain ⟨nl, hnl⟩ : ∃ nl, (printL o).length = nl := ⟨_, rfl⟩
            rw [hR] at ol
            rw [hnl] at hlen hne ol
            have hts := ol.ts (by rw [hnl]; omega)
            simp only [hR, hnl]
            have hnd : ((nl : Int) == 0) = false := by simp; omega
            clear ol
            go_wp2_with fail
            refine (parseO_any wy al nl cl (printL o) hts (by omega) (fun s hs => by have := (print_fine 140737488351232 (by decide) o HPS.out.1 HPS.out.2).2 s hs; omega)).mono ?_
            intro e wz hP
            rw [par_print o hprr] at hP
            obtain ⟨qp, cq, qf, cqf, rfl, oq, oqf, bb⟩ := hP
            simp only at oq oqf
            rw [HLP.out.1] at oq
            rw [HLP.out.2] at oqf
            simp only [HLP.out.1, HLP.out.2]
            obtain ⟨kb13, k1, k2⟩ := new_box w wz (below_to BL2.out bb) (fullO o (.slice qp np cq) (.slice qf nf cqf))
            have PQ := (oq.pt (by rw [HLP.out.1]; omega)).below k1
            have FQ := (oqf.ts (by rw [HLP.out.2]; omega)).below k1
            have K3 := Lib.hid (box_below (box_below K2.out bb) k1)
            clear oq oqf bb q0 q1 q2 q3 q4 q5 k1 hts
            go_upto_region 15 with (refine wpList_store_row rfl TOpt (.tmp 13) (.tmp 141) rfl rfl wz.heap.size TOpt zeroO (fullO o (.slice qp np cq) (.slice qf nf cqf)) rfl rfl (heap_alloc_new wz _) rfl infoO (by simp [Value.oneCell']) ?_)
            rw [World.setRow_alloc_new]
            obtain ⟨b13, hb13⟩ : ∃ b13, wz.heap.size = b13 := ⟨_, rfl⟩
            rw [hb13] at kb13 ⊢
            generalize wz.alloc (.cells (fullO o (.slice qp np cq) (.slice qf nf cqf)) TOpt) = wv at kb13 k2 PQ FQ K3 ⊢
            obtain ⟨q0, q1, q2, q3, q4, q5⟩ := box_get K3.out
            obtain ⟨r0, r1, r2, r3, r4, r5⟩ := box_get kb13
            have HPQ := Lib.hid (And.intro PQ FQ)
            have HK2 := Lib.hid k2
            clear PQ FQ k2 kb13
            go_wp2_with fail
            refine (eqOptions_same wv o.q o.e o.a o.i o.parts o.files qp np cq HPQ.out.1 qf nf cqf HPQ.out.2 ap np cp (HSP.out.below HK2.out) af nf cf (HSF.out.below HK2.out)).mono ?_
            rintro e w9 ⟨rfl, b9⟩
            go_wp2_with fail
            go_ret
            exact ⟨rfl, below_to HK2.out b9⟩
        · replace ho : of' = str [102] := ho
          have hq : (ByteArray.toList of' == []) = false := by rw [nil_eqd, ho]; decide
          have hqe : (ByteArray.toList of' == [101]) = false := by rw [ho, Lib.toList_data]; rfl
          have hqf : (ByteArray.toList of' == [102]) = true := by rw [ho, Lib.toList_data]; rfl
          clear ho
          go_wp2_with fail
          refine (eqOptions_same w4 false false false false [] [] rp 0 cr HP1.out rf 0 crf HF1.out none 0 0 (pt_none _) none 0 0 (ts_none _)).mono ?_
          rintro e wx ⟨rfl, bb⟩
          have K' := Lib.hid (box_below K.out bb)
          have BL' := Lib.hid (below_to BL.out bb)
          clear q0 q1 q2 q3 q4 q5 K BL bb
          have K := K'
          have BL := BL'
          clear K' BL'
          obtain ⟨q0, q1, q2, q3, q4, q5⟩ := box_get K.out
          go_wp2_with fail
          refine (printO_any wx o ap np cp (HSP.out.below BL.out) af nf cf (HSF.out.below BL.out) (by omega) (by omega)).mono ?_
          intro e wy hQ
          obtain ⟨al, cl, rfl, ol, bb⟩ := hQ
          have K2 := Lib.hid (box_below K.out bb)
          have BL2 := Lib.hid (below_to BL.out bb)
          clear q0 q1 q2 q3 q4 q5 K BL bb
          obtain ⟨q0, q1, q2, q3, q4, q5⟩ := box_get K2.out
          cases hprr : printable o with
          | false =>
            have hR : printR o = [] := by unfold printR; rw [hprr]; rfl
            simp only [hR, List.length_nil]
            clear ol
            by_cases hp0 : np = 0
            · have hpd : ((np : Int) == 0) = true := by simp [hp0]
              go_wp2_with fail
              go_ret
              exact ⟨rfl, BL2.out⟩
            · have hpd : ((np : Int) == 0) = false := by simp [hp0]
              have hia : o.i = true ∧ o.a = false := by
                unfold printable at hprr
                have hne : o.parts.isEmpty = false := by
                  have := HLP.out.1
                  cases hpp : o.parts with
                  | nil => rw [hpp] at this; simp at this; omega
                  | cons x xs => rfl
                rw [hne] at hprr
                revert hprr
                cases o.i <;> cases o.a <;> simp
              rw [hia.1] at q3
              rw [hia.2] at q2
              go_wp2_with fail
              go_ret
              exact ⟨rfl, BL2.out⟩
          | true =>
            have hR : printR o = printL o := by unfold printR; rw [if_pos hprr]
            have hlen := (print_fine 140737488351232 (by decide) o HPS.out.1 HPS.out.2).1
            rw [HLP.out.1, HLP.out.2] at hlen
            have hne := print_ne o
            obtain ⟨nl, hnl⟩ : ∃ nl, (printL o).length = nl := ⟨_, rfl⟩
            rw [hR] at ol
            rw [hnl] at hlen hne ol
            have hts := ol.ts (by rw [hnl]; omega)
            simp only [hR, hnl]
            have hnd : ((nl : Int) == 0) = false := by simp; omega
            clear ol
            go_wp2_with fail
            refine (parseO_any wy al nl cl (printL o) hts (by omega) (fun s hs => by have := (print_fine 140737488351232 (by decide) o HPS.out.1 HPS.out.2).2 s hs; omega)).mono ?_
            intro e wz hP
            rw [par_print o hprr] at hP
            obtain ⟨qp, cq, qf, cqf, rfl, oq, oqf, bb⟩ := hP
            simp only at oq oqf
            rw [HLP.out.1] at oq
            rw [HLP.out.2] at oqf
            simp only [HLP.out.1, HLP.out.2]
            obtain ⟨kb13, k1, k2⟩ := new_box w wz (below_to BL2.out bb) (fullO o (.slice qp np cq) (.slice qf nf cqf))
            have PQ := (oq.pt (by rw [HLP.out.1]; omega)).below k1
            have FQ := (oqf.ts (by rw [HLP.out.2]; omega)).below k1
            have K3 := Lib.hid (box_below (box_below K2.out bb) k1)
            clear oq oqf bb q0 q1 q2 q3 q4 q5 k1 hts
            go_upto_region 15 with (refine wpList_store_row rfl TOpt (.tmp 13) (.tmp 141) rfl rfl wz.heap.size TOpt zeroO (fullO o (.slice qp np cq) (.slice qf nf cqf)) rfl rfl (heap_alloc_new wz _) rfl infoO (by simp [Value.oneCell']) ?_)
            rw [World.setRow_alloc_new]
            obtain ⟨b13, hb13⟩ : ∃ b13, wz.heap.size = b13 := ⟨_, rfl⟩
            rw [hb13] at kb13 ⊢
            generalize wz.alloc (.cells (fullO o (.slice qp np cq) (.slice qf nf cqf)) TOpt) = wv at kb13 k2 PQ FQ K3 ⊢
            obtain ⟨q0, q1, q2, q3, q4, q5⟩ := box_get K3.out
            obtain ⟨r0, r1, r2, r3, r4, r5⟩ := box_get kb13
            have HPQ := Lib.hid (And.intro PQ FQ)
            have HK2 := Lib.hid k2
            clear PQ FQ k2 kb13
            go_wp2_with fail
            refine (eqOptions_same wv o.q o.e o.a o.i o.parts o.files qp np cq HPQ.out.1 qf nf cqf HPQ.out.2 ap np cp (HSP.out.below HK2.out) af nf cf (HSF.out.below HK2.out)).mono ?_
            rintro e w9 ⟨rfl, b9⟩
            go_wp2_with fail
            go_ret
            exact ⟨rfl, below_to HK2.out b9⟩
      · subst he hpo
        have hmp0 : mp = 0 := HMP.out.1.symm
        have hmf0 : mf = 0 := HMP.out.2.symm
        subst hmp0 hmf0
        obtain ⟨q0, q1, q2, q3, q4, q5⟩ := box_get KB.out
        obtain ⟨s0, s1, s2, s3, s4, s5, s6⟩ := ho
        have hq : (ByteArray.toList of' == []) = false := by rw [nil_eqd]; exact decide_eq_false s0
        have hq110 : (ByteArray.toList of' == [110]) = false := str_ned of' 110 s1
        have hq69 : (ByteArray.toList of' == [69]) = false := str_ned of' 69 s2
        have hq115 : (ByteArray.toList of' == [115]) = false := str_ned of' 115 s3
        have hq105 : (ByteArray.toList of' == [105]) = false := str_ned of' 105 s4
        have hq101 : (ByteArray.toList of' == [101]) = false := str_ned of' 101 s5
        have hq102 : (ByteArray.toList of' == [102]) = false := str_ned of' 102 s6
        clear s0 s1 s2 s3 s4 s5 s6
        go_wp2_with fail
        refine (eqOptions_same w4 false false false false [] [] rp 0 cr HP1.out rf 0 crf HF1.out none 0 0 (pt_none _) none 0 0 (ts_none _)).mono ?_
        rintro e wx ⟨rfl, bb⟩
        have K' := Lib.hid (box_below K.out bb)
        have BL' := Lib.hid (below_to BL.out bb)
        clear q0 q1 q2 q3 q4 q5 K BL bb
        have K := K'
        have BL := BL'
        clear K' BL'
        obtain ⟨q0, q1, q2, q3, q4, q5⟩ := box_get K.out
        go_wp2_with fail
        refine (printO_any wx o ap np cp (HSP.out.below BL.out) af nf cf (HSF.out.below BL.out) (by omega) (by omega)).mono ?_
        intro e wy hQ
        obtain ⟨al, cl, rfl, ol, bb⟩ := hQ
        have K2 := Lib.hid (box_below K.out bb)
        have BL2 := Lib.hid (below_to BL.out bb)
        clear q0 q1 q2 q3 q4 q5 K BL bb
        obtain ⟨q0, q1, q2, q3, q4, q5⟩ := box_get K2.out
        cases hprr : printable o with
        | false =>
          have hR : printR o = [] := by unfold printR; rw [hprr]; rfl
          simp only [hR, List.length_nil]
          clear ol
          by_cases hp0 : np = 0
          · have hpd : ((np : Int) == 0) = true := by simp [hp0]
            go_wp2_with fail
            go_ret
            exact ⟨rfl, BL2.out⟩
          · have hpd : ((np : Int) == 0) = false := by simp [hp0]
            have hia : o.i = true ∧ o.a = false := by
              unfold printable at hprr
              have hne : o.parts.isEmpty = false := by
                have := HLP.out.1
                cases hpp : o.parts with
                | nil => rw [hpp] at this; simp at this; omega
                | cons x xs => rfl
              rw [hne] at hprr
              revert hprr
              cases o.i <;> cases o.a <;> simp
            rw [hia.1] at q3
            rw [hia.2] at q2
            go_wp2_with fail
            go_ret
            exact ⟨rfl, BL2.out⟩
        | true =>
          have hR : printR o = printL o := by unfold printR; rw [if_pos hprr]
          have hlen := (print_fine 140737488351232 (by decide) o HPS.out.1 HPS.out.2).1
          rw [HLP.out.1, HLP.out.2] at hlen
          have hne := print_ne o
          obtain ⟨nl, hnl⟩ : ∃ nl, (printL o).length = nl := ⟨_, rfl⟩
          rw [hR] at ol
          rw [hnl] at hlen hne ol
          have hts := ol.ts (by rw [hnl]; omega)
          simp only [hR, hnl]
          have hnd : ((nl : Int) == 0) = false := by simp; omega
          clear ol
          go_wp2_with fail
          refine (parseO_any wy al nl cl (printL o) hts (by omega) (fun s hs => by have := (print_fine 140737488351232 (by decide) o HPS.out.1 HPS.out.2).2 s hs; omega)).mono ?_
          intro e wz hP
          rw [par_print o hprr] at hP
          obtain ⟨qp, cq, qf, cqf, rfl, oq, oqf, bb⟩ := hP
          simp only at oq oqf
          rw [HLP.out.1] at oq
          rw [HLP.out.2] at oqf
          simp only [HLP.out.1, HLP.out.2]
          obtain ⟨kb13, k1, k2⟩ := new_box w wz (below_to BL2.out bb) (fullO o (.slice qp np cq) (.slice qf nf cqf))
          have PQ := (oq.pt (by rw [HLP.out.1]; omega)).below k1
          have FQ := (oqf.ts (by rw [HLP.out.2]; omega)).below k1
          have K3 := Lib.hid (box_below (box_below K2.out bb) k1)
          clear oq oqf bb q0 q1 q2 q3 q4 q5 k1 hts
          go_upto_region 15 with (refine wpList_store_row rfl TOpt (.tmp 13) (.tmp 141) rfl rfl wz.heap.size TOpt zeroO (fullO o (.slice qp np cq) (.slice qf nf cqf)) rfl rfl (heap_alloc_new wz _) rfl infoO (by simp [Value.oneCell']) ?_)
          rw [World.setRow_alloc_new]
          obtain ⟨b13, hb13⟩ : ∃ b13, wz.heap.size = b13 := ⟨_, rfl⟩
          rw [hb13] at kb13 ⊢
          generalize wz.alloc (.cells (fullO o (.slice qp np cq) (.slice qf nf cqf)) TOpt) = wv at kb13 k2 PQ FQ K3 ⊢
          obtain ⟨q0, q1, q2, q3, q4, q5⟩ := box_get K3.out
          obtain ⟨r0, r1, r2, r3, r4, r5⟩ := box_get kb13
          have HPQ := Lib.hid (And.intro PQ FQ)
          have HK2 := Lib.hid k2
          clear PQ FQ k2 kb13
          go_wp2_with fail
          refine (eqOptions_same wv o.q o.e o.a o.i o.parts o.files qp np cq HPQ.out.1 qf nf cqf HPQ.out.2 ap np cp (HSP.out.below HK2.out) af nf cf (HSF.out.below HK2.out)).mono ?_
          rintro e w9 ⟨rfl, b9⟩
          go_wp2_with fail
          go_ret
          exact ⟨rfl, below_to HK2.out b9⟩
end Go.Proofs.Ytdbkoephkdfbfaa

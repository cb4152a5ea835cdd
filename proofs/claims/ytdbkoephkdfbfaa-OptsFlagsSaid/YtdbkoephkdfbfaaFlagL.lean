/-
  galleylaw28.OptsFlags: its walk.
-/
import Derived.Test.YtdbkoephkdfbfaaFlagP
import Derived.Test.YtdbkoephkdfbfaaAnd7
import Derived.Test.YtdbkoephkdfbfaaStepPt
namespace Go.Proofs.Ytdbkoephkdfbfaa
open Go.RowKit

theorem is_empt {l : List UInt8} {b : Bool} (h : (l == []) = b) : l.isEmpty = b := by rw [← h]; cases l <;> rfl
def PushP (w wx : World) (b8 : Nat) (o : Opt) (av : Value) (l : List Str) : Prop := ∃ pv', FO w wx b8 o pv' av l
theorem str_three (w1 : List UInt8) (c : UInt8) (tx : Str) : #[Value.string (str w1 ++ str [c] ++ tx)] = ([str (w1 ++ c :: tx.data.toList)].map Value.string).toArray := by
  have e : str w1 ++ str [c] ++ tx = str (w1 ++ c :: tx.data.toList) := by
    have h := str_app (w1 ++ [c]) tx.data.toList
    rw [str_of tx] at h
    rw [str_app, h, List.append_assoc]
    rfl
  rw [e]
  rfl
def runF (kf : Int → Nat) (l : List Fl) (k : Nat) : FState := (l.take k).foldl (fun s f => stepF s (kf f.1) f.2.1 f.2.2) ⟨[], [], opt0⟩
theorem runF_succ (kf : Int → Nat) (l : List Fl) (k : Nat) (h : k < l.length) : runF kf l (k + 1) = stepF (runF kf l k) (kf (l[k]?.getD fl0).1) (l[k]?.getD fl0).2.1 (l[k]?.getD fl0).2.2 := by
  unfold runF
  rw [List.take_succ_eq_append_getElem h, List.foldl_append, List.getElem?_eq_getElem h]
  rfl
theorem runF_inv (kf : Int → Nat) (l : List Fl) : ∀ k, k ≤ l.length → InvF (runF kf l k)
  | 0, _ => inv_zero
  | k + 1, h => by rw [runF_succ kf l k (by omega)]; exact inv_step (runF_inv kf l k (by omega)) _ _ _

theorem w1_len (w : List UInt8) : (if w = [] then [45] else w : List UInt8).length ≤ w.length + 1 := by split <;> simp
theorem step_len (s : FState) (k : Nat) (t : Str) (b : Bool) : (stepF s k t b).args.length ≤ s.args.length + 2 ∧ (stepF s k t b).want.parts.length ≤ s.want.parts.length + 1 ∧ (stepF s k t b).w.length ≤ s.w.length + 2 ∧ (stepF s k t b).want.files = s.want.files := by
  have hap : ∀ (o : Opt) (c : UInt8), (applyC o c).parts = o.parts ∧ (applyC o c).files = o.files := fun o c => by
    unfold applyC
    split
    · exact ⟨rfl, rfl⟩
    · split
      · exact ⟨rfl, rfl⟩
      · split <;> exact ⟨rfl, rfl⟩
  have hw1 : (if s.w = [] then [45] else s.w : List UInt8).length ≤ s.w.length + 1 := by split <;> simp
  unfold stepF
  simp only
  split
  · split
    · refine ⟨by simp, by rw [(hap _ _).1]; omega, by rw [List.length_append, List.length_singleton]; omega, (hap _ _).2⟩
    · refine ⟨by simp, by rw [(hap _ _).1]; omega, by simp, (hap _ _).2⟩
  · split
    · exact ⟨by simp, by unfold push; simp, by simp, rfl⟩
    · exact ⟨by simp, by unfold push; simp, by simp, rfl⟩
theorem runF_len (kf : Int → Nat) (l : List Fl) : ∀ k, k ≤ l.length → (runF kf l k).args.length ≤ 2 * k ∧ (runF kf l k).want.parts.length ≤ k ∧ (runF kf l k).w.length ≤ 2 * k ∧ (runF kf l k).want.files = []
  | 0, _ => ⟨Nat.zero_le _, Nat.zero_le _, Nat.zero_le _, rfl⟩
  | k + 1, h => by
    rw [runF_succ kf l k (by omega)]
    obtain ⟨h1, h2, h3, h4⟩ := runF_len kf l k (by omega)
    obtain ⟨g1, g2, g3, g4⟩ := step_len (runF kf l k) (kf (l[k]?.getD fl0).1) (l[k]?.getD fl0).2.1 (l[k]?.getD fl0).2.2
    exact ⟨by omega, by omega, by omega, g4.trans h4⟩

theorem runF_sz (kf : Int → Nat) (l : List Fl) (hz : ∀ x ∈ l, x.2.1.size ≤ 140737488351232) (hl : l.length ≤ 65536) : ∀ k, k ≤ l.length → ∀ x ∈ (runF kf l k).args, x.size ≤ 140737488482310
  | 0, _, _, hx => absurd hx (by show _ ∉ ([] : List Str); simp)
  | k + 1, h, x, hx => by
    rw [runF_succ kf l k (by omega)] at hx
    refine step_sz _ (runF kf l k) (kf (l[k]?.getD fl0).1) (l[k]?.getD fl0).2.1 (l[k]?.getD fl0).2.2 (runF_sz kf l hz hl k (by omega)) ?_ x hx
    have h1 := (runF_len kf l k (by omega)).2.2.1
    have h2 := hz _ (show l[k]?.getD fl0 ∈ l by rw [List.getElem?_eq_getElem (by omega)]; exact List.getElem_mem _)
    omega
def LineP (w wx : World) (b8 : Nat) (s : FState) (pv v9 : Value) (da : Bool) (l2 : List Str) : Prop := FO w wx b8 s.want pv v9 (lineD s da) ∧ (da = false → isOpt (l2[0]?.getD ByteArray.empty) = false)
def WantP (w wx : World) (b8 : Nat) (o : Opt) (av v15 : Value) (L l2 : List Str) : Prop := ∃ pv' a n c, v15 = .slice a n c ∧ TS w (.slice a n c) (wantF o l2).files ∧ FO w wx b8 (wantF o l2) pv' av L
theorem want_len (o : Opt) (l : List Str) : (wantF o l).parts.length ≤ o.parts.length + 1 := by unfold wantF; split <;> simp
theorem want_nil {w wx : World} {b8 : Nat} {o : Opt} {pv av : Value} {L l2 : List Str} {a : Option Addr} {n c : Nat} (h0 : o.parts = []) (x0 : Str) (hx : l2[0]?.getD ByteArray.empty = x0) (ht : TS w (.slice a n c) (l2.drop 1)) (h : FO w wx b8 { o with parts := [(false, x0)] } pv av L) : WantP w wx b8 o av (.slice a n c) L l2 := by
  subst hx
  refine ⟨pv, a, n, c, rfl, ?_, ?_⟩
  · unfold wantF; rw [if_pos h0]; exact ht
  · have e : wantF o l2 = { o with parts := [(false, l2[0]?.getD ByteArray.empty)], files := l2.drop 1 } := by unfold wantF; rw [if_pos h0]
    rw [e]
    exact ⟨h.bel, h.hb, h.sz, h.box, h.own, h.owa⟩
theorem want_some {w wx : World} {b8 : Nat} {o : Opt} {pv av : Value} {L l2 : List Str} {a : Option Addr} {n c : Nat} (h0 : o.parts ≠ []) (ht : TS w (.slice a n c) l2) (h : FO w wx b8 o pv av L) : WantP w wx b8 o av (.slice a n c) L l2 := by
  refine ⟨pv, a, n, c, rfl, ?_, ?_⟩
  · unfold wantF; rw [if_neg h0]; exact ht
  · have e : wantF o l2 = { o with files := l2 } := by unfold wantF; rw [if_neg h0]
    rw [e]
    exact ⟨h.bel, h.hb, h.sz, h.box, h.own, h.owa⟩
set_option maxHeartbeats 4000000 in
set_option maxRecDepth 100000 in
theorem optsFlags_walk (w : World) (a0 : Option Addr) (n0 c0 : Nat) (l0 : List Fl) (h0 : FLS w (.slice a0 n0 c0) l0) (hz0 : ∀ x ∈ l0, x.2.1.size ≤ 140737488351232 ∧ -9223372036854775808 ≤ x.1 ∧ x.1 ≤ 9223372036854775807)
    (da : Bool) (a2 : Option Addr) (n2 c2 : Nat) (l2 : List Str) (h2 : TS w (.slice a2 n2 c2) l2) (hz2 : ∀ x ∈ l2, x.size ≤ 140737488351232) :
    Calls Try.prog 4 #[.slice a0 n0 c0, .bool da, .slice a2 n2 c2] w fun e w' => e = .returned (.bool true) ∧ Below w.heap.size w w' := by
  obtain ⟨hl0, hn0, -, -⟩ := h0.len
  obtain ⟨hl2, hn2, -, -⟩ := h2.len
  have H0 := Lib.hid h0
  have H2 := Lib.hid h2
  have HZ := Lib.hid (And.intro hz0 hz2)
  have HL := Lib.hid (And.intro hl0 hl2)
  clear h0 h2 hz0 hz2 hl0 hl2
  go_enter Try.func4, Try.ntmps4
  go_wp2_with fail
  refine (works28_any w).mono ?_
  rintro e w1 ⟨rfl, bb⟩
  have BL := Lib.hid bb
  clear bb
  by_cases hbig : 65536 < n0
  · have hbd : decide (65536 < n0) = true := by simp; omega
    go_wp2_with fail
    go_ret
    exact ⟨rfl, BL.out⟩
  · have hbd : decide (65536 < n0) = false := by simp; omega
    go_wp2_with fail
    refine (longT_any w1 a2 n2 c2 l2 (H2.out.below BL.out) HZ.out.2).mono ?_
    rintro e w3 ⟨lb, rfl, rfl, hlg⟩
    have HLG := Lib.hid hlg
    clear hlg
    cases lb with
    | true =>
      go_wp2_with fail
      go_ret
      exact ⟨rfl, BL.out⟩
    | false =>
      obtain ⟨hn2s, hs2⟩ := HLG.out rfl
      have HS2 := Lib.hid hs2
      clear hs2 HLG hbd
      by_cases hn2z : n2 = 0
      · have hnd : ((n2 : Int) == 0) = true := by simp [hn2z]
        go_wp2_with fail
        go_ret
        exact ⟨rfl, BL.out⟩
      · have hnd : ((n2 : Int) == 0) = false := by simp [hn2z]
        obtain ⟨kb, k1, k2⟩ := new_box w w1 BL.out zeroO
        go_upto_region 5 with (refine wpList_store_row rfl TOpt (.tmp 8) (.tmp 33) rfl rfl w1.heap.size TOpt zeroO zeroO rfl rfl (heap_alloc_new w1 _) rfl infoO (by decide) ?_)
        rw [World.setRow_alloc_new]
        have hF0 : FO w (w1.alloc (.cells zeroO TOpt)) w1.heap.size opt0 (.slice none 0 0) (.slice none 0 0) [] := ⟨k2, BL.out.size, by simp, kb, OwnPt.nil _ _, OwnT.nil _ _⟩
        obtain ⟨b8, hb8⟩ : ∃ b8, w1.heap.size = b8 := ⟨_, rfl⟩
        rw [hb8] at hF0 ⊢
        generalize w1.alloc (.cells zeroO TOpt) = w4 at hF0 ⊢
        have HF0 := Lib.hid hF0
        clear hF0 kb k1 k2 hb8 BL hnd
        go_wp2_with fail
        clear hbig
        go_loopw [9, 10, 11] (fun v9 v10 v11 wr => ∃ (k : Nat) (pv : Value), k ≤ n0 ∧ v11 = .int .i64 k ∧ v10 = .string (str (runF kindF l0 k).w) ∧ FO w wr b8 (runF kindF l0 k).want pv v9 (runF kindF l0 k).args) (fun _ _ v11 _ => n0 - (intOf v11).toNat)
        case atStart => exact ⟨0, _, Nat.zero_le _, rfl, rfl, HF0.out⟩
        case round =>
          clear HF0
          obtain ⟨k, pv, hk, rfl, rfl, hF⟩ := hrel
          by_cases hkn : k = n0
          · have hkd : decide (k < n0) = false := by simp; omega
            have hkge : n0 ≤ k := by omega
            clear hkd hkn
            obtain ⟨hla, hlp, hlw, hlf⟩ := runF_len kindF l0 k (by have := HL.out.1; omega)
            have hinv := runF_inv kindF l0 k (by have := HL.out.1; omega)
            have hsz := runF_sz kindF l0 (fun x hx => (HZ.out.1 x hx).1) (by have := HL.out.1; omega) k (by have := HL.out.1; omega)
            obtain ⟨s, hs⟩ : ∃ s, runF kindF l0 k = s := ⟨_, rfl⟩
            rw [hs] at hF hinv hsz hla hlp hlw hlf ⊢
            have HF := Lib.hid hF
            have HI := Lib.hid (And.intro hinv hsz)
            have HFI := Lib.hid hlf
            clear hF hinv hsz hs hlf
            have hkd : decide (k < n0) = false := by simp; omega
            have hsw : (str s.w).size = s.w.length := str_size s.w
            go_upto_if 133 with fail
            go_cut [9] (fun v9 wx => FO w wx b8 s.want pv v9 (lineF s))
            case first =>
              by_cases hwe : s.w = []
              · have hq : (ByteArray.toList (str s.w) == []) = true := by rw [nil_eqd, hwe]; rfl
                have hq2 := is_empt hq
                have HLF : Hid (lineF s = s.args) := Lib.hid (by unfold lineF; rw [if_pos hwe])
                clear hwe hsw
                rw [hq2]
                clear hq hq2
                go_wp2_with fail
                go_meet
                case rel => rw [HLF.out]; exact HF.out
              · have hq : (ByteArray.toList (str s.w) == []) = false := by rw [nil_eqd]; exact decide_eq_false (fun e => hwe (str_inj (e.trans str_empty.symm)))
                have hq2 := is_empt hq
                have HLF : Hid (lineF s = s.args ++ [str s.w]) := Lib.hid (by unfold lineF; rw [if_neg hwe])
                clear hwe
                rw [hq2]
                clear hq hq2
                go_wp2_with (at_builtin; refine append_tn rfl (.tmp 134) (.tmp 136) rfl (b8 + 1) _ s.args [str s.w] _ 1 rfl rfl rfl HF.out.owa _ rfl (by simp) (by omega) HF.out.sz ?_)
                intro av' w6 ho hpp
                have HM := Lib.hid (HF.out.app ho hpp)
                clear ho hpp
                go_wp2_with fail
                go_meet
                case rel => rw [HLF.out]; exact HM.out
            case rest =>
              have HF2 := Lib.hid hcut
              clear hcut hsw HF
              have hll := lineF_le s
              have h2pos : 0 < n2 := by omega
              obtain ⟨b, o, rfl, hrd⟩ := H2.out.read 0 h2pos
              have r0 := hrd 0 h2pos
              obtain ⟨x0, hx0⟩ : ∃ x0, l2[0]?.getD ByteArray.empty = x0 := ⟨_, rfl⟩
              rw [hx0, Nat.add_zero] at r0
              have hxs : x0.size ≤ 67108864 := by
                rw [← hx0]
                refine HS2.out _ ?_
                rw [List.getElem?_eq_getElem (by have := HL.out.2; omega)]
                exact List.getElem_mem _
              have HX0 := Lib.hid hx0
              have HR := Lib.hid r0
              clear hrd hx0 r0
              generalize wc = W1 at HF2 ⊢
              have q0 : W1.cell? ⟨b, o, none⟩ = some (.string x0) := by rw [HF2.out.bel.cell (World.block_lt_of_cell? w _ HR.out)]; exact HR.out
              go_upto_if 139 with fail
              go_cut [9] (fun v9 wx => LineP w wx b8 s pv v9 da l2)
              case first =>
                cases da with
                | true =>
                  go_wp2_with (at_builtin; refine append_tn rfl (.tmp 140) (.tmp 141) rfl (b8 + 1) _ (lineF s) [str [45, 45]] _ 1 rfl rfl rfl HF2.out.owa _ rfl (by simp) (by omega) HF2.out.sz ?_)
                  intro av' w6 ho hpp
                  have HM := Lib.hid (HF2.out.app ho hpp)
                  clear ho hpp
                  go_wp2_with fail
                  go_meet
                  case rel => exact ⟨HM.out, fun e => by cases e⟩
                | false =>
                  by_cases h1 : 1 < x0.size
                  · have hd1 : decide (1 < x0.size) = true := by simpa using h1
                    have hg := get_first x0 (by omega)
                    by_cases hg0 : x0.get! 0 = 45
                    · have hg2 : (((x0[0]'(by omega)).toNat : Int) == 45) = true := by rw [hg]; exact decide_eq_true hg0
                      clear hg hg0
                      go_wp2_with fail
                      go_ret
                      exact ⟨rfl, HF2.out.bel⟩
                    · have hg2 : (((x0[0]'(by omega)).toNat : Int) == 45) = false := by rw [hg]; exact decide_eq_false hg0
                      have HNO : Hid (isOpt x0 = false) := Lib.hid (by unfold isOpt; exact decide_eq_false fun h => hg0 h.2)
                      clear hg hg0
                      go_wp2_with fail
                      go_meet
                      case rel => exact ⟨HF2.out, fun _ => by rw [HX0.out]; exact HNO.out⟩
                  · have hd1 : decide (1 < x0.size) = false := by simpa using h1
                    have HNO : Hid (isOpt x0 = false) := Lib.hid (by unfold isOpt; exact decide_eq_false fun h => h1 h.1)
                    go_wp2_with fail
                    go_meet
                    case rel => exact ⟨HF2.out, fun _ => by rw [HX0.out]; exact HNO.out⟩
              case rest =>
                clear q0 HF2
                obtain ⟨hF3, hno⟩ := hcut
                have HF3 := Lib.hid hF3
                have HNO := Lib.hid hno
                clear hF3 hno
                generalize wc = W2 at HF3 ⊢
                have hld := lineD_le s da
                go_upto_region 46 with fail
                go_wp2_with (at_builtin; refine append_ts rfl (.tmp 156) (.tmp 157) rfl (b8 + 1) _ (lineD s da) l2 _ n2 c2 rfl HF3.out.owa rfl (H2.out.below HF3.out.bel) (by omega) HF3.out.sz ?_)
                intro av' w6 ho hpp
                have hF4 := HF3.out.app ho hpp
                have HPAR : Hid (parF (lineD s da ++ l2) opt0 = (wantF s.want l2, 0, ByteArray.empty)) := Lib.hid (by rw [line_all HI.out.1 da l2 (by rintro rfl; have := HL.out.2; simp at this; omega) HNO.out, fin_want s.want l2 (by rintro rfl; have := HL.out.2; simp at this; omega)])
                have HSZ : Hid (∀ x ∈ lineD s da ++ l2, x.size ≤ 9223372036854775807) := Lib.hid (fun x hx => by
                  rcases List.mem_append.1 hx with hx | hx
                  · have := lineD_sz 140737488482310 s da (by omega) HI.out.2 (by omega) x hx; omega
                  · have := HS2.out x hx; omega)
                have hLl : (lineD s da ++ l2).length ≤ (lineD s da).length + n2 := by rw [List.length_append, HL.out.2]; exact Nat.le_refl _
                clear ho hpp HF3
                obtain ⟨L, hL⟩ : ∃ L, lineD s da ++ l2 = L := ⟨_, rfl⟩
                rw [hL] at hF4 HPAR HSZ hLl
                clear hL
                obtain ⟨aa, ca, hav⟩ := own_shape hF4.owa
                obtain ⟨ap, cp, hpv⟩ := own_shape hF4.own
                subst hav hpv
                obtain ⟨nn, hnn⟩ : ∃ nn, L.length = nn := ⟨_, rfl⟩
                obtain ⟨mp, hmp⟩ : ∃ mp, s.want.parts.length = mp := ⟨_, rfl⟩
                rw [hnn] at hF4 hLl ⊢
                rw [hmp] at hF4 hlp
                have c4 : w6.cell? ⟨b8, 4, none⟩ = some (.slice ap mp cp) := hF4.cell 4
                have q0 : w6.cell? ⟨b, o, none⟩ = some (.string x0) := by rw [hF4.bel.cell (World.block_lt_of_cell? w _ HR.out)]; exact HR.out
                have HF4 := Lib.hid hF4
                have HNN := Lib.hid hnn
                have HMP := Lib.hid hmp
                clear hF4 hnn hmp
                go_upto_if 162 with fail
                go_cut [15] (fun v15 wx => WantP w wx b8 s.want (.slice aa nn ca) v15 L l2)
                case first =>
                  by_cases hp0 : mp = 0
                  · have hpd : ((mp : Int) == 0) = true := by simp [hp0]
                    obtain ⟨g1, g2, g3⟩ := HF4.out.one x0
                    have HG1 := Lib.hid g1
                    have HP0 : Hid (s.want.parts = []) := Lib.hid (List.eq_nil_of_length_eq_zero (HMP.out.trans hp0))
                    have hnc : n2 ≤ c2 := H2.out.len.2.2.1
                    clear g1 hp0
                    have i0 : (0 : Int) ≤ (n2 : Int) := by omega
                    have i1 : (1 : Int) ≤ (n2 : Int) := by omega
                    have i2 : (n2 : Int) ≤ (c2 : Int) := by omega
                    have i3 : (1 : Int) ≤ (c2 : Int) := by omega
                    by_cases hc1 : c2 = 1
                    · subst hc1
                      go_wp2_with fail
                      go_meet
                      case rel => exact want_nil HP0.out x0 HX0.out (by have h := ts_tail H2.out h2pos o (.inr (by omega)); rwa [show n2 - 1 = 0 by omega] at h) HG1.out
                    · go_wp2_with fail
                      go_meet
                      case rel => exact want_nil HP0.out x0 HX0.out (ts_tail H2.out h2pos _ (.inl rfl)) HG1.out
                  · have hpd : ((mp : Int) == 0) = false := by simp [hp0]
                    have HP0 : Hid (s.want.parts ≠ []) := Lib.hid (fun e => hp0 (by rw [← HMP.out, e]; rfl))
                    clear hp0
                    go_wp2_with fail
                    go_meet
                    case rel => exact want_some HP0.out H2.out HF4.out
                case rest =>
                  clear c4 q0 HF4
                  obtain ⟨pv', a15, n15, c15, rfl, hts, hF5⟩ := hcut
                  obtain ⟨W, hW⟩ : ∃ W, wantF s.want l2 = W := ⟨_, rfl⟩
                  have hWp := want_len s.want l2
                  rw [HMP.out] at hWp
                  rw [hW] at hts hF5 HPAR hWp
                  clear hW
                  obtain ⟨ap2, cp2, hpv⟩ := own_shape hF5.own
                  subst hpv
                  obtain ⟨m2, hm2⟩ : ∃ m2, W.parts.length = m2 := ⟨_, rfl⟩
                  rw [hm2] at hF5 hWp
                  have HM2 := Lib.hid hm2
                  have hn15 := hts.len.1
                  have hn15b := hts.len.2.1
                  have HN15 := Lib.hid hn15
                  have HTS := Lib.hid hts
                  have hm2b : m2 ≤ 65537 := by omega
                  have c5 : wc.cell? ⟨b8, 5, none⟩ = some (.slice none 0 0) := hF5.cell 5
                  have c5f : wc.frozen? ⟨b8, 5, none⟩ = false := hF5.frozen 5
                  have HFI := Lib.hid (hF5.fin (.slice a15 n15 c15))
                  have HB := Lib.hid hF5.hb
                  clear hF5 hm2 hn15 hts
                  go_upto_region 51 with fail
                  generalize wc.setCell ⟨b8, 5, none⟩ (.slice a15 n15 c15) = W5 at HFI ⊢
                  clear c5 c5f
                  obtain ⟨f1, f2, f3, f4⟩ := HFI.out
                  have hargs := f4.ts (by rw [HNN.out]; omega)
                  have HP5 := Lib.hid (f3.pt (by rw [HM2.out]; omega))
                  try rw [HM2.out] at HP5
                  have K := Lib.hid f2
                  have BL := Lib.hid f1
                  clear f1 f2 f3 f4 HFI
                  go_wp2_with fail
                  refine (parseO_any W5 aa nn ca L hargs (by omega) HSZ.out).mono ?_
                  intro e w6 hP
                  rw [HPAR.out] at hP
                  obtain ⟨qp, cq, qf, cqf, rfl, op, off, bb⟩ := hP
                  simp only at op off
                  try rw [HM2.out] at op
                  try rw [HN15.out] at off
                  simp only [HM2.out, HN15.out]
                  obtain ⟨kb, k1, k2⟩ := new_box w w6 (below_to BL.out bb) (fullO W (.slice qp m2 cq) (.slice qf n15 cqf))
                  have PQ := (op.pt (by rw [HM2.out]; omega)).below k1
                  have FQ := (off.ts (by rw [HN15.out]; omega)).below k1
                  try rw [HM2.out] at PQ
                  try rw [HN15.out] at FQ
                  have K3 := Lib.hid (box_below (box_below K.out bb) k1)
                  have HP6 := Lib.hid ((HP5.out.below bb).below k1)
                  clear op off bb k1 hargs K BL HP5
                  go_upto_region 52 with (refine wpList_store_row rfl TOpt (.tmp 16) (.tmp 176) rfl rfl w6.heap.size TOpt zeroO (fullO W (.slice qp m2 cq) (.slice qf n15 cqf)) rfl rfl (heap_alloc_new w6 _) rfl infoO (by simp [Value.oneCell']) ?_)
                  rw [World.setRow_alloc_new]
                  obtain ⟨b16, hb16⟩ : ∃ b16, w6.heap.size = b16 := ⟨_, rfl⟩
                  rw [hb16] at kb ⊢
                  generalize w6.alloc (.cells (fullO W (.slice qp m2 cq) (.slice qf n15 cqf)) TOpt) = wv at kb k2 PQ FQ K3 HP6 ⊢
                  obtain ⟨q0, q1, q2, q3, q4, q5⟩ := box_get K3.out
                  obtain ⟨r0, r1, r2, r3, r4, r5⟩ := box_get kb
                  have HPQ := Lib.hid (And.intro PQ FQ)
                  have HK2 := Lib.hid k2
                  clear PQ FQ k2 kb
                  go_wp2_with fail
                  refine (eqOptions_same wv W.q W.e W.a W.i W.parts W.files qp m2 cq HPQ.out.1 qf n15 cqf HPQ.out.2 ap2 m2 cp2 HP6.out a15 n15 c15 (HTS.out.below HK2.out)).mono ?_
                  rintro e w9 ⟨rfl, b9⟩
                  go_wp2_with fail
                  go_ret
                  exact ⟨rfl, below_to HK2.out b9⟩
          · have hkd : decide (k < n0) = true := by simp; omega
            have hkl : k < n0 := by omega
            obtain ⟨b, o, rfl, hrd⟩ := H0.out.read k hkl
            obtain ⟨r0, r1, r2⟩ := hrd k hkl
            have hsucc := runF_succ kindF l0 k (by have := HL.out.1; omega)
            obtain ⟨hla, hlp, hlw, hlf⟩ := runF_len kindF l0 k (by have := HL.out.1; omega)
            obtain ⟨f, hf⟩ : ∃ f, l0[k]?.getD fl0 = f := ⟨_, rfl⟩
            rw [hf] at r0 r1 r2 hsucc
            obtain ⟨hfz, hf1, hf2⟩ := HZ.out.1 f (by rw [← hf, List.getElem?_eq_getElem (by have := HL.out.1; omega)]; exact List.getElem_mem _)
            obtain ⟨kd, tx, st⟩ := f
            simp only at r0 r1 r2 hsucc hfz hf1 hf2
            obtain ⟨s, hs⟩ : ∃ s, runF kindF l0 k = s := ⟨_, rfl⟩
            rw [hs] at hF hsucc hla hlp hlw hlf ⊢
            have q0 : wr.cell? ⟨b, o + k * 3, none⟩ = some (.int .i64 kd) := by rw [hF.bel.cell (World.block_lt_of_cell? w _ r0)]; exact r0
            have q1 : wr.cell? ⟨b, o + k * 3 + 1, none⟩ = some (.string tx) := by rw [hF.bel.cell (World.block_lt_of_cell? w _ r1)]; exact r1
            have q2 : wr.cell? ⟨b, o + k * 3 + 2, none⟩ = some (.bool st) := by rw [hF.bel.cell (World.block_lt_of_cell? w _ r2)]; exact r2
            have hbne : b ≠ b8 := by have := World.block_lt_of_cell? w _ r0; have := hF.hb; simp only at *; omega
            have HF := Lib.hid hF
            have HSU := Lib.hid (And.intro hs hsucc)
            have HRR := Lib.hid (And.intro r1 r2)
            clear hF hsucc hs r0 r1 r2 hrd hf hkn
            obtain ⟨hkk, hk8⟩ := kindF_is kd
            obtain ⟨kk, hkke⟩ : ∃ kk, kindF kd = kk := ⟨_, rfl⟩
            rw [hkke] at hkk hk8 HSU
            clear hkke
            obtain ⟨w1, hw1⟩ : ∃ w1, (if s.w = [] then [45] else s.w) = w1 := ⟨_, rfl⟩
            have hw1l : w1.length ≤ 2 * k + 1 := by rw [← hw1]; exact Nat.le_trans (w1_len s.w) (by omega)
            have HW1 := Lib.hid hw1
            go_upto_region 11 with fail
            try rw [hkk]
            clear hkk
            go_upto_if 47 with fail
            go_cut [10] (fun v10 wx => v10 = .string (str w1) ∧ wr = wx)
            case first =>
              by_cases hwe : s.w = []
              · have hq : (ByteArray.toList (str s.w) == []) = true := by rw [nil_eqd, hwe]; rfl
                have hq2 := is_empt hq
                rw [if_pos hwe] at hw1
                have HWE := Lib.hid hw1
                clear hwe hw1
                rw [hq2]
                clear hq hq2
                go_wp2_with fail
                go_meet
                case rel => exact ⟨by rw [← HWE.out]; rfl, rfl⟩
              · have hq : (ByteArray.toList (str s.w) == []) = false := by rw [nil_eqd]; exact decide_eq_false (fun e => hwe (str_inj (e.trans str_empty.symm)))
                have hq2 := is_empt hq
                rw [if_neg hwe] at hw1
                have HWE := Lib.hid hw1
                clear hwe hw1
                rw [hq2]
                clear hq hq2
                go_wp2_with fail
                go_meet
                case rel => exact ⟨by rw [HWE.out], rfl⟩
            case rest =>
              obtain ⟨rfl, rfl⟩ := hcut
              clear hw1
              have hsz1 : (str w1).size = w1.length := str_size w1
              by_cases hk_ : kk = 0
              · have z0 : ((kk : Int) == 0) = true := by simp; omega
                have c0 : wr.cell? ⟨b8, 0, none⟩ = some (.bool s.want.q) := HF.out.cell 0
                have c0f : wr.frozen? ⟨b8, 0, none⟩ = false := HF.out.frozen 0
                have HN : Hid (FO w (wr.setCell ⟨b8, 0, none⟩ (.bool true)) b8 { s.want with q := true } pv u9 s.args) := Lib.hid (HF.out.set 0 (.bool true) { s.want with q := true } rfl rfl)
                by_cases hst : st = true
                · subst hst
                  have HE : Hid (stepF s kk tx true = ⟨s.args, w1 ++ [110], { s.want with q := true }⟩) := Lib.hid (by rw [hk_]; unfold stepF; simp only [HW1.out]; rfl)
                  clear hk_
                  go_wp2_with fail
                  go_roundw
                  case rel =>
                    refine ⟨k + 1, pv, by omega, by simp, ?_, ?_⟩
                    · rw [HSU.out.2, HE.out, ← str_app]; rfl
                    · rw [HSU.out.2, HE.out]; exact HN.out
                  case measure => simp [intOf]; omega
                · have hst : st = false := by simpa using hst
                  subst hst
                  have HE : Hid (stepF s kk tx false = ⟨s.args ++ [str (w1 ++ [110])], [], { s.want with q := true }⟩) := Lib.hid (by rw [hk_]; unfold stepF; simp only [HW1.out]; rfl)
                  clear hk_
                  go_wp2_with (at_builtin; refine append_tn rfl (.tmp 128) (.tmp 130) rfl (b8 + 1) _ s.args [str (w1 ++ [110])] _ 1 (by rw [← str_app]; rfl) rfl rfl HN.out.owa _ rfl (by simp [World.setCell]) (by omega) HN.out.sz ?_)
                  intro av' w5 ho hpp
                  have HM := Lib.hid (HN.out.app ho hpp)
                  clear ho hpp
                  go_wp2_with fail
                  go_roundw
                  case rel =>
                    refine ⟨k + 1, pv, by omega, by simp, ?_, ?_⟩
                    · rw [HSU.out.2, HE.out]; rfl
                    · rw [HSU.out.2, HE.out]; exact HM.out
                  case measure => simp [intOf]; omega
              by_cases hk_ : kk = 1
              · have z0 : ((kk : Int) == 0) = false := by simp; omega
                have z1 : ((kk : Int) == 1) = true := by simp; omega
                have c0 : wr.cell? ⟨b8, 1, none⟩ = some (.bool s.want.e) := HF.out.cell 1
                have c0f : wr.frozen? ⟨b8, 1, none⟩ = false := HF.out.frozen 1
                have HN : Hid (FO w (wr.setCell ⟨b8, 1, none⟩ (.bool true)) b8 { s.want with e := true } pv u9 s.args) := Lib.hid (HF.out.set 1 (.bool true) { s.want with e := true } rfl rfl)
                by_cases hst : st = true
                · subst hst
                  have HE : Hid (stepF s kk tx true = ⟨s.args, w1 ++ [69], { s.want with e := true }⟩) := Lib.hid (by rw [hk_]; unfold stepF; simp only [HW1.out]; rfl)
                  clear hk_
                  go_wp2_with fail
                  go_roundw
                  case rel =>
                    refine ⟨k + 1, pv, by omega, by simp, ?_, ?_⟩
                    · rw [HSU.out.2, HE.out, ← str_app]; rfl
                    · rw [HSU.out.2, HE.out]; exact HN.out
                  case measure => simp [intOf]; omega
                · have hst : st = false := by simpa using hst
                  subst hst
                  have HE : Hid (stepF s kk tx false = ⟨s.args ++ [str (w1 ++ [69])], [], { s.want with e := true }⟩) := Lib.hid (by rw [hk_]; unfold stepF; simp only [HW1.out]; rfl)
                  clear hk_
                  go_wp2_with (at_builtin; refine append_tn rfl (.tmp 128) (.tmp 130) rfl (b8 + 1) _ s.args [str (w1 ++ [69])] _ 1 (by rw [← str_app]; rfl) rfl rfl HN.out.owa _ rfl (by simp [World.setCell]) (by omega) HN.out.sz ?_)
                  intro av' w5 ho hpp
                  have HM := Lib.hid (HN.out.app ho hpp)
                  clear ho hpp
                  go_wp2_with fail
                  go_roundw
                  case rel =>
                    refine ⟨k + 1, pv, by omega, by simp, ?_, ?_⟩
                    · rw [HSU.out.2, HE.out]; rfl
                    · rw [HSU.out.2, HE.out]; exact HM.out
                  case measure => simp [intOf]; omega
              by_cases hk_ : kk = 2
              · have z0 : ((kk : Int) == 0) = false := by simp; omega
                have z1 : ((kk : Int) == 1) = false := by simp; omega
                have z2 : ((kk : Int) == 2) = true := by simp; omega
                have c0 : wr.cell? ⟨b8, 2, none⟩ = some (.bool s.want.a) := HF.out.cell 2
                have c0f : wr.frozen? ⟨b8, 2, none⟩ = false := HF.out.frozen 2
                have HN : Hid (FO w (wr.setCell ⟨b8, 2, none⟩ (.bool true)) b8 { s.want with a := true } pv u9 s.args) := Lib.hid (HF.out.set 2 (.bool true) { s.want with a := true } rfl rfl)
                by_cases hst : st = true
                · subst hst
                  have HE : Hid (stepF s kk tx true = ⟨s.args, w1 ++ [115], { s.want with a := true }⟩) := Lib.hid (by rw [hk_]; unfold stepF; simp only [HW1.out]; rfl)
                  clear hk_
                  go_wp2_with fail
                  go_roundw
                  case rel =>
                    refine ⟨k + 1, pv, by omega, by simp, ?_, ?_⟩
                    · rw [HSU.out.2, HE.out, ← str_app]; rfl
                    · rw [HSU.out.2, HE.out]; exact HN.out
                  case measure => simp [intOf]; omega
                · have hst : st = false := by simpa using hst
                  subst hst
                  have HE : Hid (stepF s kk tx false = ⟨s.args ++ [str (w1 ++ [115])], [], { s.want with a := true }⟩) := Lib.hid (by rw [hk_]; unfold stepF; simp only [HW1.out]; rfl)
                  clear hk_
                  go_wp2_with (at_builtin; refine append_tn rfl (.tmp 128) (.tmp 130) rfl (b8 + 1) _ s.args [str (w1 ++ [115])] _ 1 (by rw [← str_app]; rfl) rfl rfl HN.out.owa _ rfl (by simp [World.setCell]) (by omega) HN.out.sz ?_)
                  intro av' w5 ho hpp
                  have HM := Lib.hid (HN.out.app ho hpp)
                  clear ho hpp
                  go_wp2_with fail
                  go_roundw
                  case rel =>
                    refine ⟨k + 1, pv, by omega, by simp, ?_, ?_⟩
                    · rw [HSU.out.2, HE.out]; rfl
                    · rw [HSU.out.2, HE.out]; exact HM.out
                  case measure => simp [intOf]; omega
              by_cases hk_ : kk = 3
              · have z0 : ((kk : Int) == 0) = false := by simp; omega
                have z1 : ((kk : Int) == 1) = false := by simp; omega
                have z2 : ((kk : Int) == 2) = false := by simp; omega
                have z3 : ((kk : Int) == 3) = true := by simp; omega
                have c0 : wr.cell? ⟨b8, 3, none⟩ = some (.bool s.want.i) := HF.out.cell 3
                have c0f : wr.frozen? ⟨b8, 3, none⟩ = false := HF.out.frozen 3
                have c1 : (wr.setCell ⟨b8, 3, none⟩ (.bool true)).cell? ⟨b8, 2, none⟩ = some (.bool s.want.a) := (HF.out.set 3 (.bool true) { s.want with i := true } rfl rfl).cell 2
                have c1f : (wr.setCell ⟨b8, 3, none⟩ (.bool true)).frozen? ⟨b8, 2, none⟩ = false := (HF.out.set 3 (.bool true) { s.want with i := true } rfl rfl).frozen 2
                have HN : Hid (FO w ((wr.setCell ⟨b8, 3, none⟩ (.bool true)).setCell ⟨b8, 2, none⟩ (.bool true)) b8 { s.want with i := true, a := true } pv u9 s.args) := Lib.hid ((HF.out.set 3 (.bool true) { s.want with i := true } rfl rfl).set 2 (.bool true) { s.want with i := true, a := true } rfl rfl)
                by_cases hst : st = true
                · subst hst
                  have HE : Hid (stepF s kk tx true = ⟨s.args, w1 ++ [105], { s.want with i := true, a := true }⟩) := Lib.hid (by rw [hk_]; unfold stepF; simp only [HW1.out]; rfl)
                  clear hk_
                  go_wp2_with fail
                  go_roundw
                  case rel =>
                    refine ⟨k + 1, pv, by omega, by simp, ?_, ?_⟩
                    · rw [HSU.out.2, HE.out, ← str_app]; rfl
                    · rw [HSU.out.2, HE.out]; exact HN.out
                  case measure => simp [intOf]; omega
                · have hst : st = false := by simpa using hst
                  subst hst
                  have HE : Hid (stepF s kk tx false = ⟨s.args ++ [str (w1 ++ [105])], [], { s.want with i := true, a := true }⟩) := Lib.hid (by rw [hk_]; unfold stepF; simp only [HW1.out]; rfl)
                  clear hk_
                  go_wp2_with (at_builtin; refine append_tn rfl (.tmp 128) (.tmp 130) rfl (b8 + 1) _ s.args [str (w1 ++ [105])] _ 1 (by rw [← str_app]; rfl) rfl rfl HN.out.owa _ rfl (by simp [World.setCell]) (by omega) HN.out.sz ?_)
                  intro av' w5 ho hpp
                  have HM := Lib.hid (HN.out.app ho hpp)
                  clear ho hpp
                  go_wp2_with fail
                  go_roundw
                  case rel =>
                    refine ⟨k + 1, pv, by omega, by simp, ?_, ?_⟩
                    · rw [HSU.out.2, HE.out]; rfl
                    · rw [HSU.out.2, HE.out]; exact HM.out
                  case measure => simp [intOf]; omega
              have y0 : ((kk : Int) == 0) = false := by simp; omega
              have y1 : ((kk : Int) == 1) = false := by simp; omega
              have y2 : ((kk : Int) == 2) = false := by simp; omega
              have y3 : ((kk : Int) == 3) = false := by simp; omega
              obtain ⟨f, hf⟩ : ∃ f, (kk % 2 == 1) = f := ⟨_, rfl⟩
              have hfi : ((kk : Int) % 2 == 1) = f := by rw [← hf]; rcases Nat.mod_two_eq_zero_or_one kk with h | h <;> rw [h, show ((kk : Int) % 2) = ((kk % 2 : Nat) : Int) by omega, h] <;> rfl
              have HFE := Lib.hid hf
              have H4 := Lib.hid (show ¬ kk < 4 by omega)
              clear hf hsz1 hk_
              go_upto_if 52 with fail
              go_cut [14] (fun v14 wx => v14 = .string (str [argC f]) ∧ wr = wx)
              case first =>
                cases f with
                | true =>
                  go_wp2_with fail
                  go_meet
                  case rel => exact ⟨rfl, rfl⟩
                | false =>
                  go_wp2_with fail
                  go_meet
                  case rel => exact ⟨rfl, rfl⟩
              case rest =>
                obtain ⟨rfl, rfl⟩ := hcut
                clear y0 y1 y2 y3
                have c4 : wr.cell? ⟨b8, 4, none⟩ = some pv := HF.out.cell 4
                have c4f : wr.frozen? ⟨b8, 4, none⟩ = false := HF.out.frozen 4
                have c4a : ((wr.alloc (.cells #[.bool f, .string tx] 38)).drew).cell? ⟨b8, 4, none⟩ = some pv := by
                  show (wr.alloc (.cells #[.bool f, .string tx] 38)).cell? ⟨b8, 4, none⟩ = some pv
                  rw [cell_of_row _ b8 4 _ _ (0, 0) (box_below HF.out.box ((Below.refl _ wr).alloc (Nat.le_refl _) _))]
                  rfl
                go_upto_region 18 with fail
                go_cut [] (fun wx => PushP w wx b8 (push s.want f tx) u9 s.args)
                case first =>
                  go_region_law ((refine step_pt (by rfl) _ _ (by rfl) (b8 + 1) pv s.want.parts f tx (by rfl) HF.out.own (by rfl) (by omega) HF.out.sz ?_; intro g cap wn ho hpp; obtain ⟨hN, g1, g2⟩ := HF.out.push ho hpp))
                  all_goals
                    have HN := Lib.hid hN
                    clear hN ho hpp c4 c4a c4f q1 q2
                    go_wp2_with fail
                    go_meet
                    case rel => exact ⟨_, HN.out⟩
                case rest =>
                  clear c4 c4f c4a q1 q2 hfi
                  obtain ⟨pv', hN⟩ := hcut
                  have HN := Lib.hid hN
                  clear hN
                  generalize wc = W5 at HN ⊢
                  have q1 : W5.cell? ⟨b, o + k * 3 + 1, none⟩ = some (.string tx) := by rw [HN.out.bel.cell (World.block_lt_of_cell? w _ HRR.out.1)]; exact HRR.out.1
                  have q2 : W5.cell? ⟨b, o + k * 3 + 2, none⟩ = some (.bool st) := by rw [HN.out.bel.cell (World.block_lt_of_cell? w _ HRR.out.2)]; exact HRR.out.2
                  have hsz1 : (str w1).size = w1.length := str_size w1
                  have hszf : (str [argC f]).size = 1 := str_size [argC f]
                  have hszs : (str w1 ++ str [argC f]).size = w1.length + 1 := by rw [ByteArray.size_append, hsz1, hszf]
                  by_cases hst : st = true ∧ tx ≠ ByteArray.empty
                  · obtain ⟨hst, htx⟩ := hst
                    subst hst
                    have hqt : (ByteArray.toList tx == []) = false := by rw [nil_eqd]; exact decide_eq_false htx
                    have hqu := is_empt hqt
                    have HTX := Lib.hid htx
                    clear htx
                    have HE : Hid (stepF s kk tx true = ⟨s.args ++ [str (w1 ++ argC f :: tx.data.toList)], [], push s.want f tx⟩) := Lib.hid (by unfold stepF; simp only [HW1.out]; rw [if_neg H4.out, if_pos ⟨trivial, HTX.out⟩, HFE.out])
                    go_wp2_with (at_builtin; refine append_tn rfl (.tmp 78) (.tmp 88) rfl (b8 + 1) _ s.args [str (w1 ++ argC f :: tx.data.toList)] _ 1 (str_three w1 _ tx) rfl rfl HN.out.owa _ rfl (by simp) (by omega) HN.out.sz ?_)
                    intro av' w6 ho hpp
                    have HM := Lib.hid (HN.out.app ho hpp)
                    clear ho hpp
                    go_wp2_with fail
                    go_roundw
                    case rel =>
                      refine ⟨k + 1, pv', by omega, by simp, ?_, ?_⟩
                      · rw [HSU.out.2, HE.out]; rfl
                      · rw [HSU.out.2, HE.out]; exact HM.out
                    case measure => simp [intOf]; omega
                  · have HE : Hid (stepF s kk tx st = ⟨s.args ++ [str (w1 ++ [argC f]), tx], [], push s.want f tx⟩) := Lib.hid (by unfold stepF; simp only [HW1.out]; rw [if_neg H4.out, if_neg hst, HFE.out])
                    by_cases hs1 : st = true
                    · have hte : tx = ByteArray.empty := by
                        by_cases h : tx = ByteArray.empty
                        · exact h
                        · exact absurd ⟨hs1, h⟩ hst
                      subst hs1
                      have hqt : (ByteArray.toList tx == []) = true := by rw [nil_eqd]; exact decide_eq_true hte
                      have hqu := is_empt hqt
                      clear hte hst
                      go_wp2_with (at_builtin; refine append_tn rfl (.tmp 90) (.tmp 99) rfl (b8 + 1) _ s.args [str (w1 ++ [argC f]), tx] _ 2 (by rw [← str_app]; rfl) rfl rfl HN.out.owa _ rfl (by simp) (by omega) HN.out.sz ?_)
                      intro av' w6 ho hpp
                      have HM := Lib.hid (HN.out.app ho hpp)
                      clear ho hpp
                      go_wp2_with fail
                      go_roundw
                      case rel =>
                        refine ⟨k + 1, pv', by omega, by simp, ?_, ?_⟩
                        · rw [HSU.out.2, HE.out]; rfl
                        · rw [HSU.out.2, HE.out]; exact HM.out
                      case measure => simp [intOf]; omega
                    · have hs2 : st = false := by simpa using hs1
                      subst hs2
                      clear hst hs1
                      go_wp2_with (at_builtin; refine append_tn rfl (.tmp 90) (.tmp 99) rfl (b8 + 1) _ s.args [str (w1 ++ [argC f]), tx] _ 2 (by rw [← str_app]; rfl) rfl rfl HN.out.owa _ rfl (by simp) (by omega) HN.out.sz ?_)
                      intro av' w6 ho hpp
                      have HM := Lib.hid (HN.out.app ho hpp)
                      clear ho hpp
                      go_wp2_with fail
                      go_roundw
                      case rel =>
                        refine ⟨k + 1, pv', by omega, by simp, ?_, ?_⟩
                        · rw [HSU.out.2, HE.out]; rfl
                        · rw [HSU.out.2, HE.out]; exact HM.out
                      case measure => simp [intOf]; omega
end Go.Proofs.Ytdbkoephkdfbfaa

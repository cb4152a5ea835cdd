/-
  FillParses: every row of marks.
-/
import Derived.Test.YtdbkoephkdfbfaaDoorRefParse16
import Derived.Test.YtdbkoephkdfbfaaDoorWideM
import Derived.Test.YtdbkoephkdfbfaaDoorCopyM
import Derived.Test.YtdbkoephkdfbfaaDoorEqP
import Derived.Test.YtdbkoephkdfbfaaDoorEqMarks
import Derived.Test.YtdbkoephkdfbfaaDoorLong
import Derived.Test.YtdbkoephkdfbfaaDoorWorks16
import Derived.Test.YtdbkoephkdfbfaaDoorBagPcQ
import Derived.Test.YtdbkoephkdfbfaaDoorBagP
namespace Go.Proofs.YtdbkoephkdfbfaaDoor
open Go.RowKit

/-- What Parse answers. -/
def parE (l : List Mk) : Int := match parseR l [] [] with | some _ => 0 | none => 61
def parAt (l : List Mk) : Int := match parseR l [] [] with | some _ => 0 | none => (l.length : Int) - 1
def parP (l : List Mk) : List Pc := (parseR l [] []).getD []
def ParPost (w : World) (l : List Mk) (e : Ending) (w' : World) : Prop :=
  ∃ (a : Option Addr) (c : Nat) (L : List PcV), e = .returned (.tuple #[.slice a L.length c, .int .i64 (parE l), .int .i64 (parAt l)]) ∧ OwnPs w' w.heap.size (.slice a L.length c) L ∧ plainP L = parP l ∧ L.length ≤ 2 * l.length + 2 ∧ (∀ y ∈ parP l, goodP y l.length) ∧ Below w.heap.size w w'
theorem par_some {w w' : World} {l : List Mk} {q : List Pc} {v : Value} {L : List PcV} {e : Ending} (h : parseR l [] [] = some q) (he : e = .returned (.tuple #[v, .int .i64 0, .int .i64 0])) (ho : OwnPs w' w.heap.size v L) (hp : plainP L = q) (hl : L.length ≤ 2 * l.length + 2) (hG : ∀ y ∈ q, goodP y l.length) (hb : Below w.heap.size w w') : ParPost w l e w' := by
  obtain ⟨a, c, rfl⟩ := own_shape ho.own
  refine ⟨a, c, L, ?_, ho, ?_, hl, ?_, hb⟩
  · unfold parE parAt; rw [h]; exact he
  · unfold parP; rw [h]; exact hp
  · unfold parP; rw [h]; exact hG
theorem par_none {w w' : World} {l : List Mk} {e : Ending} (h : parseR l [] [] = none) (he : e = .returned (.tuple #[.slice none 0 0, .int .i64 61, .int .i64 ((l.length : Int) - 1)])) (hb : Below w.heap.size w w') : ParPost w l e w' := by
  refine ⟨none, 0, [], ?_, OwnPs.nil _ _, ?_, Nat.zero_le _, ?_, hb⟩
  · unfold parE parAt; rw [h]; exact he
  · unfold parP; rw [h]; rfl
  · unfold parP; rw [h]; intro y hy; simp at hy
theorem parse_par (w : World) (a : Option Addr) (n c : Nat) (l : List Mk) (hb : SM w (.slice a n c) l) (hn : n ≤ 2147483648) : Calls Tryd.prog 30 #[.slice a n c] w (ParPost w l) :=
  (parse_any w a n c l hb hn).mono fun e w' hP => by
    cases h : parseR l [] [] with
    | some q =>
      obtain ⟨hb, v, L, he, ho, hp, hl, hG⟩ := parsed hP h
      exact par_some h he (ho.mono (by omega)) hp hl hG hb
    | none =>
      obtain ⟨hb, he⟩ := unparsed hP h
      exact par_none h he hb
theorem rparse_par (w : World) (a : Option Addr) (n c : Nat) (l : List Mk) (hb : SM w (.slice a n c) l) (hn : n ≤ 2147483648) : Calls Tryd.prog 31 #[.slice a n c] w (ParPost w l) :=
  (rparse_any w a n c l hb hn).mono fun e w' hP => by
    unfold RParsePost at hP
    cases h : parseR l [] [] with
    | some q =>
      rw [h] at hP
      obtain ⟨hb, v, L, he, ho, hp, hl, hG⟩ := hP
      exact par_some h he ho hp (by omega) hG hb
    | none =>
      rw [h] at hP
      exact par_none h hP.2 hP.1
theorem OwnPs.psp {w : World} {base : Nat} {v : Value} {L : List PcV} {P : List Pc} {n : Nat} (h : OwnPs w base v L) (hp : plainP L = P) (hG : ∀ y ∈ P, goodP y n) (hn : n ≤ 2147483648) (hl : L.length ≤ 2 * n + 2) : PS w v P := by
  subst hp
  refine h.ps (fun x hx => ?_) (by omega)
  have := hG (x.1, x.2.2) (List.mem_map.2 ⟨x, hx, rfl⟩)
  exact ⟨this.1, this.2.1, Nat.le_trans this.2.2 (by omega)⟩
/-- All blocks of the pieces and of their texts lie from A on, below B. -/
def InB (A B : Nat) (v : Value) (L : List PcV) : Prop := (∀ k, v.ownBlock = some k → A ≤ k ∧ k < B) ∧ ∀ x ∈ L, ∀ k, x.2.1.ownBlock = some k → A ≤ k ∧ k < B
theorem OwnPs.inB {w : World} {base A B : Nat} {v : Value} {L : List PcV} (h : OwnPs w base v L) (hA : A ≤ base) (hB : w.heap.size ≤ B) : InB A B v L :=
  ⟨fun k e => by have := World.ownsRow.lt h.own k e; omega, fun x hx k e => by have := World.ownsRow.lt (h.txt x hx) k e; omega⟩

theorem rowm_set1 : ∀ (l : List Mk) (i : Nat) (x : Int), i < l.length →
    (l.flatMap fun m => [Value.int .u8 m.1, Value.bool m.2]).set (i * 2) (.int .u8 x) = (l.set i (x, (l[i]?.getD (0, false)).2)).flatMap fun m => [Value.int .u8 m.1, Value.bool m.2]
  | [], i, x, h => absurd h (Nat.not_lt_zero _)
  | m :: l, 0, x, _ => by simp
  | m :: l, i + 1, x, h => by
    have := rowm_set1 l i x (by simpa using h)
    rw [List.flatMap_cons, List.set_cons_succ, List.flatMap_cons, show (i + 1) * 2 = i * 2 + 1 + 1 by omega]
    simpa using this
theorem Arrm.setB {w : World} {g : Nat} {T : TypeId} {l : List Mk} (h : Arrm w g T l) (i : Nat) (hi : i < l.length) (x : Int) : Arrm (w.setCell ⟨g, i * 2, none⟩ (.int .u8 x)) g T (l.set i (x, (l[i]?.getD (0, false)).2)) := by
  unfold Arrm
  rw [heap_setCell_same w g (i * 2) _ T _ h]
  congr 2
  apply Array.ext'
  simp only [rowm, List.setIfInBounds_toArray]
  exact rowm_set1 l i x hi
theorem isM_set {l : List Mk} (h : IsM l) (i : Nat) (x : Int) (p : Bool) (h0 : 0 ≤ x) (h1 : x ≤ 255) : IsM (l.set i (x, p)) := fun j => by
  rw [List.getElem?_set]
  split
  · split
    · simp; omega
    · simp
  · exact h j
theorem GQs.below {W w w' : World} {bg mp B : Nat} (h : GQs W w bg mp B) (hb : Below w.heap.size w w') : GQs W w' bg mp B := by
  obtain ⟨mb, fs, bb, pb, vb, lb, Cb, vp, lp, Cp, h, hx⟩ := h
  exact ⟨mb, fs, bb, pb, vb, lb, Cb, vp, lp, Cp, { h with bag := (hb.block bg h.bag.lt).trans h.bag, kb := h.kb.below hb, kp := h.kp.below hb, bel := h.bel.trans (hb.mono h.bel.size) }, hx⟩

/-- The marks that are written over, and what was answered before. -/
structure PX (W w : World) (gi n : Nat) (m : List Mk) (vp : Value) (Lp : List PcV) (vq : Value) (Lq : List PcV) (vw : Value) (Lw : List PcV) : Prop where
  bel : Below W.heap.size W w
  lo : W.heap.size ≤ gi
  arr : Arrm w gi 82 m
  len : m.length = n + 64
  isM : IsM m
  p : OwnPs w (gi + 1) vp Lp
  q : OwnPs w (gi + 1) vq Lq
  w_ : OwnPs w (gi + 1) vw Lw
section
variable {W w w' : World} {gi n : Nat} {m : List Mk} {vp vq vw : Value} {Lp Lq Lw : List PcV}
theorem PX.below (h : PX W w gi n m vp Lp vq Lq vw Lw) (hb : Below w.heap.size w w') : PX W w' gi n m vp Lp vq Lq vw Lw :=
  { h with bel := h.bel.trans (hb.mono h.bel.size), arr := (hb.block gi h.arr.lt).trans h.arr, p := h.p.below hb, q := h.q.below hb, w_ := h.w_.below hb }
theorem PX.set (h : PX W w gi n m vp Lp vq Lq vw Lw) (i : Nat) (hi : i < n) (x : Int) (h0 : 0 ≤ x) (h1 : x ≤ 255) : PX W (w.setCell ⟨gi, i * 2, none⟩ (.int .u8 x)) gi n (m.set i (x, (m[i]?.getD (0, false)).2)) vp Lp vq Lq vw Lw :=
  { h with
    bel := h.bel.setCell h.lo _
    arr := h.arr.setB i (by rw [h.len]; omega) x
    len := by rw [List.length_set, h.len]
    isM := isM_set h.isM i x _ h0 h1
    p := h.p.setBelow (a := ⟨gi, i * 2, none⟩) (Nat.lt_succ_self gi) _
    q := h.q.setBelow (a := ⟨gi, i * 2, none⟩) (Nat.lt_succ_self gi) _
    w_ := h.w_.setBelow (a := ⟨gi, i * 2, none⟩) (Nat.lt_succ_self gi) _ }
theorem PX.sm (h : PX W w gi n m vp Lp vq Lq vw Lw) (hn : n ≤ 2147483648) : SM w (.slice (some ⟨gi, 0, none⟩) n (n + 64)) (m.take n) := h.arr.take_sm h.isM (by rw [h.len]; omega) (by omega) _
end

set_option maxHeartbeats 4000000 in
set_option maxRecDepth 100000 in
theorem fparses_walk (W : World) (a : Option Addr) (n c : Nat) (l : List Mk) (hb : SM W (.slice a n c) l) :
    Calls Tryd.prog 4 #[.slice a n c] W fun e w' => e = .returned (.bool true) ∧ Below W.heap.size W w' := by
  obtain ⟨hl, hn⟩ := hb.len
  have SP := Lib.hid hb
  have HLEN := Lib.hid hl
  clear hb hl
  go_enter Tryd.func4, Tryd.ntmps4
  go_wp2_with fail
  refine (works_any W).mono ?_
  rintro e w1 ⟨rfl, hb1⟩
  have HB := Lib.hid hb1
  clear hb1
  have HL := Lib.hid (long_any w1 n (by omega))
  go_wp2_with fail
  refine HL.out.mono ?_
  rintro e w' ⟨rfl, rfl⟩
  clear HL
  by_cases hbig : 2147483647 < n
  · have hd : decide (2147483647 < n) = true := by simp; omega
    rw [hd]
    go_wp2_with fail
    go_ret
    exact ⟨rfl, HB.out⟩
  have hd : decide (2147483647 < n) = false := by simp; omega
  rw [hd]
  have hn2 : n ≤ 2147483647 := by omega
  have HLN : Hid (l.length ≤ 2147483648) := Lib.hid (by rw [HLEN.out]; omega)
  clear hd hbig hn
  have HW1 := Lib.hid (widem_any w1 _ l (SP.out.below HB.out) (by rw [HLEN.out]; exact hn2))
  rw [HLEN.out] at HW1
  go_wp2_with fail
  refine HW1.out.mono ?_
  rintro e w2 ⟨rfl, harr, hb2⟩
  obtain ⟨gi, hgi⟩ : ∃ gi, w1.heap.size = gi := ⟨_, rfl⟩
  have HGI : Hid (W.heap.size ≤ gi) := Lib.hid (by rw [← hgi]; exact HB.out.size)
  have HB := Lib.hid (HB.out.trans (hb2.mono HB.out.size))
  rw [hgi] at harr ⊢
  have hgs : gi + 1 ≤ w2.heap.size := harr.lt
  have HA := Lib.hid harr
  have HIM := Lib.hid (widem_isM l SP.out.1)
  have HWL : Hid ((widem l).length = n + 64) := Lib.hid (by rw [widem_len, HLEN.out])
  have HTK : Hid ((widem l).take n = l) := Lib.hid (by rw [← HLEN.out]; exact widem_take l)
  have HSM : Hid (∀ w, Arrm w gi 82 (widem l) → SM w (.slice (some ⟨gi, 0, none⟩) n (n + 64)) l) := Lib.hid fun w h => by
    have := h.take_sm (n := n) HIM.out (by rw [HWL.out]; omega) (by omega) (n + 64)
    rwa [HTK.out] at this
  clear HW1 hb2 harr hgi
  have HC := Lib.hid (parse_par w2 _ n (n + 64) l (HSM.out _ HA.out) (by omega))
  go_wp2_with fail
  refine HC.out.mono ?_
  rintro e w3 ⟨ap, cp, Lp, rfl, hop, hpp, hpl, hpg, hb3⟩
  have HG := Lib.hid hpg
  have HPP := Lib.hid (And.intro hpp hpl)
  have HOP := Lib.hid (hop.mono hgs)
  have HRP : Hid (InB 0 w3.heap.size (.slice ap Lp.length cp) Lp) := Lib.hid (hop.inB (Nat.zero_le _) (Nat.le_refl _))
  have HA := Lib.hid ((hb3.block gi HA.out.lt).trans HA.out)
  have HB := Lib.hid (HB.out.trans (hb3.mono HB.out.size))
  have hs3 := hb3.size
  have HA : Hid (Arrm w3 gi 82 (widem l)) := HA
  clear HC hb3 hop hpp hpl hpg
  have HC := Lib.hid (parse_par w3 _ n (n + 64) l (HSM.out _ HA.out) (by omega))
  go_wp2_with fail
  refine HC.out.mono ?_
  rintro e w4 ⟨aq, cq, Lq, rfl, hoq, hqp, hql, -, hb4⟩
  have HQP := Lib.hid (And.intro hqp hql)
  have HOQ := Lib.hid (hoq.mono (Nat.le_trans hgs hs3))
  have HRQ : Hid (InB w3.heap.size w4.heap.size (.slice aq Lq.length cq) Lq) := Lib.hid (hoq.inB (Nat.le_refl _) (Nat.le_refl _))
  have HOP := Lib.hid (HOP.out.below hb4)
  have HA : Hid (Arrm w4 gi 82 (widem l)) := Lib.hid ((hb4.block gi HA.out.lt).trans HA.out)
  have HB := Lib.hid (HB.out.trans (hb4.mono HB.out.size))
  have hs4 := hb4.size
  clear HC hb4 hoq hqp hql
  have HC := Lib.hid (rparse_par w4 _ n c l (SP.out.below HB.out) (by omega))
  go_wp2_with fail
  refine HC.out.mono ?_
  rintro e w5 ⟨aw, cw, Lw, rfl, how, hwp, hwl, -, hb5⟩
  have HWP := Lib.hid (And.intro hwp hwl)
  have hX : PX W w5 gi n (widem l) (.slice ap Lp.length cp) Lp (.slice aq Lq.length cq) Lq (.slice aw Lw.length cw) Lw :=
    ⟨HB.out.trans (hb5.mono HB.out.size), HGI.out, (hb5.block gi HA.out.lt).trans HA.out, HWL.out, HIM.out, HOP.out.below hb5, HOQ.out.below hb5, how.mono (by omega)⟩
  have HX := Lib.hid hX
  obtain ⟨B1, hB1⟩ : ∃ B1, w3.heap.size = B1 := ⟨_, rfl⟩
  obtain ⟨B2, hB2⟩ : ∃ B2, w4.heap.size = B2 := ⟨_, rfl⟩
  have hs5 := hb5.size
  rw [hB1] at HRP HRQ hs4
  rw [hB2] at HRQ hs4 hs5
  have HSZ : Hid (B1 ≤ B2 ∧ B2 ≤ w5.heap.size) := Lib.hid ⟨hs4, hs5⟩
  have HB12 : Hid (B1 ≤ B2) := Lib.hid hs4
  clear HC hb5 how hwp hwl hX HA HOP HOQ HB hs3 hs4 hs5 hgs hB1 hB2
  have HE := Lib.hid (eqMarks_any w5 _ _ l l (HSM.out _ HX.out.arr) (SP.out.below HX.out.bel))
  rw [show decide (l = l) = true by simp] at HE
  go_wp2_with fail
  refine HE.out.mono ?_
  rintro e w6 ⟨rfl, n6, rfl⟩
  have HX := Lib.hid (HX.out.below (below_drewN (Below.refl _ _) n6))
  have HSZ : Hid (B1 ≤ B2 ∧ B2 ≤ (w5.drewN n6).heap.size) := HSZ
  generalize w5.drewN n6 = w6 at HX HSZ ⊢
  clear HE
  have HE := Lib.hid (sparem_any w6 gi n 82 hn2 (widem l) HWL.out (fun j h1 h2 => widem_hi l j (by rw [HLEN.out]; exact h1) (by rw [HLEN.out]; exact h2)) HX.out.arr)
  go_wp2_with fail
  refine HE.out.mono ?_
  rintro e w7 ⟨rfl, n7, rfl⟩
  have HX := Lib.hid (HX.out.below (below_drewN (Below.refl _ _) n7))
  have HSZ : Hid (B1 ≤ B2 ∧ B2 ≤ (w6.drewN n7).heap.size) := HSZ
  generalize w6.drewN n7 = w7 at HX HSZ ⊢
  clear HE
  obtain ⟨z, hz⟩ : ∃ z, parE l = z := ⟨_, rfl⟩
  obtain ⟨y, hy⟩ : ∃ y, parAt l = y := ⟨_, rfl⟩
  rw [hz, hy]
  have hq1 : (z != z) = false := by simp
  have hq2 : (y != y) = false := by simp
  clear hz hy
  have HE := Lib.hid (eqPieces_any w7 _ _ _ (parP l) (HX.out.p.psp HPP.out.1 HG.out HLN.out HPP.out.2) _ _ _ (parP l) (HX.out.w_.psp HWP.out.1 HG.out HLN.out HWP.out.2))
  rw [show decide (parP l = parP l) = true by simp] at HE
  go_wp2_with fail
  refine HE.out.mono ?_
  rintro e w8 ⟨rfl, hb8⟩
  have HX := Lib.hid (HX.out.below hb8)
  have HSZ : Hid (B1 ≤ B2 ∧ B2 ≤ w8.heap.size) := Lib.hid ⟨HSZ.out.1, Nat.le_trans HSZ.out.2 hb8.size⟩
  clear HE hb8
  have HE := Lib.hid (eqPieces_any w8 _ _ _ (parP l) (HX.out.q.psp HQP.out.1 HG.out HLN.out HQP.out.2) _ _ _ (parP l) (HX.out.w_.psp HWP.out.1 HG.out HLN.out HWP.out.2))
  rw [show decide (parP l = parP l) = true by simp] at HE
  go_wp2_with fail
  refine HE.out.mono ?_
  rintro e w9 ⟨rfl, hb9⟩
  have HX := Lib.hid (HX.out.below hb9)
  have HSZ : Hid (B1 ≤ B2 ∧ B2 ≤ w9.heap.size) := Lib.hid ⟨HSZ.out.1, Nat.le_trans HSZ.out.2 hb9.size⟩
  clear HE hb9 hq1 hq2
  go_wp2_with fail
  go_loopw [15] (fun x wr => ∃ (i : Nat) (m : List Mk), i ≤ n ∧ x = .int .i64 i ∧ PX W wr gi n m (.slice ap Lp.length cp) Lp (.slice aq Lq.length cq) Lq (.slice aw Lw.length cw) Lw ∧ B2 ≤ wr.heap.size) (fun x _ => n - (intOf x).toNat)
  case atStart => exact ⟨0, _, Nat.zero_le _, rfl, HX.out, HSZ.out.2⟩
  case round =>
    clear HX
    obtain ⟨i, m, hi, rfl, hX, hsz⟩ := hrel
    have HX := Lib.hid hX
    by_cases hlt : i < n
    · obtain ⟨hc, -⟩ := hX.arr.cell i (by rw [hX.len]; omega)
      have hf := hX.arr.frozen (i * 2)
      have hxb := hX.isM i
      have HS : Hid (∀ x, 0 ≤ x → x ≤ 255 → PX W (wr.setCell ⟨gi, i * 2, none⟩ (.int .u8 x)) gi n (m.set i (x, (m[i]?.getD (0, false)).2)) (.slice ap Lp.length cp) Lp (.slice aq Lq.length cq) Lq (.slice aw Lw.length cw) Lw) := Lib.hid fun x h0 h1 => HX.out.set i hlt x h0 h1
      generalize m[i]?.getD (0, false) = x at hc hxb HS
      obtain ⟨x1, x2⟩ := x
      simp only at hc hxb HS
      have hx2 := bits8 (c := 4) (by decide +kernel) x1 hxb.1 hxb.2
      have HR := Lib.hid (And.intro (HS.out _ hx2.1 hx2.2) (show B2 ≤ (wr.setCell ⟨gi, i * 2, none⟩ (.int .u8 (bits .xor .u8 x1 4))).heap.size by rw [setCell_size]; exact hsz))
      clear hX HS hx2 hxb hsz
      go_wp2_with fail
      go_roundw
      case rel => exact ⟨i + 1, _, by omega, by go_num, HR.out.1, HR.out.2⟩
      case measure => simp [intOf]; omega
    · have HSZ := Lib.hid hsz
      clear hX hsz
      have HE := Lib.hid (eqPieces_any wr _ _ _ (parP l) (HX.out.p.psp HPP.out.1 HG.out HLN.out HPP.out.2) _ _ _ (parP l) (HX.out.w_.psp HWP.out.1 HG.out HLN.out HWP.out.2))
      rw [show decide (parP l = parP l) = true by simp] at HE
      go_wp2_with fail
      refine HE.out.mono ?_
      rintro e w10 ⟨rfl, hb10⟩
      have HX := Lib.hid (HX.out.below hb10)
      have HSZ := Lib.hid (Nat.le_trans HSZ.out hb10.size)
      clear HE hb10
      obtain ⟨l2, hl2⟩ : ∃ l2, m.take n = l2 := ⟨_, rfl⟩
      have HL2 := Lib.hid hl2
      have HLN2 : Hid (l2.length = n) := Lib.hid (by rw [← hl2, List.length_take, HX.out.len]; omega)
      have HC := Lib.hid (copyM_any w10 ⟨gi, 0, none⟩ n (n + 64) l2 (by rw [← hl2]; exact HX.out.sm (by omega)))
      clear hl2
      go_wp2_with fail
      refine HC.out.mono ?_
      rintro e w11 ⟨vo, rfl, hoo, hb11⟩
      have HX := Lib.hid (HX.out.below hb11)
      have HSZ := Lib.hid (Nat.le_trans HSZ.out hb11.size)
      have HIM2 : Hid (IsM l2) := Lib.hid fun i => by
        rw [← HL2.out]
        by_cases hi : i < n
        · rw [List.getElem?_take_of_lt hi]; exact HX.out.isM i
        · rw [List.getElem?_eq_none (by rw [List.length_take]; omega)]; simp
      obtain ⟨ao, co, rfl⟩ := own_shape hoo
      rw [HLN2.out] at hoo ⊢
      have HOO := Lib.hid hoo
      have hs11 : W.heap.size ≤ w11.heap.size := HX.out.bel.size
      clear HC hb11 hoo
      have HC := Lib.hid (parse_par w11 _ n (n + 64) l2 (by rw [← HL2.out]; exact HX.out.sm (by omega)) (by omega))
      go_wp2_with fail
      refine HC.out.mono ?_
      rintro e w12 ⟨ar, cr, Lr, rfl, hor, hrp, hrl, hrg, hb12⟩
      have HG2 := Lib.hid hrg
      have HRPP := Lib.hid (And.intro hrp hrl)
      have HX := Lib.hid (HX.out.below hb12)
      have HRR : Hid (InB B2 w12.heap.size (.slice ar Lr.length cr) Lr) := Lib.hid (hor.inB HSZ.out (Nat.le_refl _))
      have HOR := Lib.hid (hor.mono hs11)
      have HOO := Lib.hid (own_below HOO.out hb12)
      have HSZ := Lib.hid (Nat.le_trans HSZ.out hb12.size)
      have HSO : Hid (SM w12 (.slice ao n co) l2) := Lib.hid (OwnM.sm (base := w10.heap.size) HOO.out HIM2.out (by rw [HLN2.out]; omega))
      clear HC hb12 hor hrp hrl hrg hs11
      have HC := Lib.hid (rparse_par w12 _ n co l2 (HSO.out) (by omega))
      go_wp2_with fail
      refine HC.out.mono ?_
      rintro e w13 ⟨au, cu, Lu, rfl, hou, hup, hul, -, hb13⟩
      have HUP := Lib.hid (And.intro hup hul)
      have hs12 : W.heap.size ≤ w12.heap.size := HX.out.bel.size
      have HX := Lib.hid (HX.out.below hb13)
      have HOU := Lib.hid (hou.mono hs12)
      have HOR := Lib.hid (HOR.out.below hb13)
      have hsz12 := HSZ.out
      clear HC hb13 hou hup hul hs12 HOO HSZ
      obtain ⟨B3, hB3⟩ : ∃ B3, w12.heap.size = B3 := ⟨_, rfl⟩
      rw [hB3] at HRR
      have HSZ : Hid (B2 ≤ B3) := Lib.hid (by rw [← hB3]; exact hsz12)
      have HOP := Lib.hid (HX.out.p.mono (Nat.le_trans HX.out.lo (Nat.le_succ gi)))
      have HOQ := Lib.hid (HX.out.q.mono (Nat.le_trans HX.out.lo (Nat.le_succ gi)))
      have HBL := Lib.hid HX.out.bel
      clear hB3 hsz12 HX
      have hb := (Below.refl w13.heap.size w13).alloc (Nat.le_refl _) bagZero
      have HQ := Lib.hid (GQs.start HBL.out 0)
      have HOP := Lib.hid (HOP.out.below hb)
      have HOQ := Lib.hid (HOQ.out.below hb)
      have HOR := Lib.hid (HOR.out.below hb)
      have HOU := Lib.hid (HOU.out.below hb)
      clear hb HBL
      obtain ⟨bg, hbg⟩ : ∃ bg, w13.heap.size = bg := ⟨_, rfl⟩
      rw [hbg] at HQ
      go_upto_region 21 with fail
      change Code.wp _ _ _ _ (w13.alloc bagZero)
      generalize w13.alloc bagZero = w14 at HQ HOP HOQ HOR HOU ⊢
      clear hbg
      have HTX : Hid (∀ (L : List PcV) (P : List Pc) (m : Nat), plainP L = P → (∀ y ∈ P, goodP y m) → m ≤ 2147483648 → ∀ x ∈ L, x.2.2.length ≤ 140737488351232) := Lib.hid fun L P m hp hG hm x hx => by
        subst hp
        have := (hG (x.1, x.2.2) (List.mem_map.2 ⟨x, hx, rfl⟩)).2.2
        simp only at this
        omega
      have hlp := HPP.out.2
      have hlq := HQP.out.2
      have hlr := HRPP.out.2
      have hll := HLEN.out
      have hll2 := HLN2.out
      have HA := Lib.hid (addPieces_any W w14 bg 0 0 B1 Lp _ HQ.out (by omega) HOP.out (by omega) (HTX.out Lp _ _ HPP.out.1 HG.out HLN.out) HRP.out.1 HRP.out.2 (Nat.zero_le _))
      clear hlp
      have HLQ := Lib.hid (And.intro hlq (And.intro hlr (And.intro hll hll2)))
      clear hlq hlr hll hll2
      go_wp2_with fail
      refine HA.out.mono ?_
      rintro e w15 ⟨rfl, k1, k2, hQ⟩
      have HQ := Lib.hid hQ
      have HOQ := Lib.hid (HOQ.out.keepT k1 k2)
      have HOR := Lib.hid (HOR.out.keepT k1 k2)
      have HOU := Lib.hid (HOU.out.keepT k1 k2)
      clear HA k1 k2 hQ HOP
      have HA := Lib.hid (addPieces_any W w15 bg 1 B1 B2 Lq _ HQ.out (by omega) HOQ.out (by have := HLQ.out; omega) (HTX.out Lq _ _ HQP.out.1 HG.out HLN.out) HRQ.out.1 HRQ.out.2 HB12.out)
      go_wp2_with fail
      refine HA.out.mono ?_
      rintro e w16 ⟨rfl, k1, k2, hQ⟩
      have HQ := Lib.hid hQ
      have HOR := Lib.hid (HOR.out.keepT k1 k2)
      have HOU := Lib.hid (HOU.out.keepT k1 k2)
      clear HA k1 k2 hQ HOQ
      obtain ⟨z2, hz2⟩ : ∃ z, parE l2 = z := ⟨_, rfl⟩
      rw [hz2]
      have hq : (z2 == z2) = true := by simp
      clear hz2
      have HE := Lib.hid (eqPieces_any w16 _ _ _ (parP l2) (HOR.out.psp HRPP.out.1 HG2.out (by rw [HLN2.out]; omega) HRPP.out.2) _ _ _ (parP l2) (HOU.out.psp HUP.out.1 HG2.out (by rw [HLN2.out]; omega) HUP.out.2))
      rw [show decide (parP l2 = parP l2) = true by simp] at HE
      go_wp2_with fail
      refine HE.out.mono ?_
      rintro e w17 ⟨rfl, hb17⟩
      have HQ := Lib.hid (HQ.out.below hb17)
      have HOR := Lib.hid (HOR.out.below hb17)
      clear HE hb17 HOU hq
      have HA := Lib.hid (addPieces_any W w17 bg 2 B2 B3 Lr _ HQ.out (by omega) HOR.out (by have := HLQ.out; omega) (HTX.out Lr _ _ HRPP.out.1 HG2.out (by rw [HLN2.out]; omega)) HRR.out.1 HRR.out.2 HSZ.out)
      go_wp2_with fail
      refine HA.out.mono ?_
      rintro e w18 ⟨rfl, -, -, hQ⟩
      have HQ := Lib.hid hQ
      clear HA hQ HOR
      have HA := Lib.hid (HQ.out.apart (by omega))
      go_wp2_with fail
      refine HA.out.mono ?_
      rintro e w19 ⟨rfl, hbe⟩
      have HB := Lib.hid hbe
      clear hbe HA HQ
      go_wp2_with fail
      go_ret
      exact ⟨rfl, HB.out⟩
end Go.Proofs.YtdbkoephkdfbfaaDoor

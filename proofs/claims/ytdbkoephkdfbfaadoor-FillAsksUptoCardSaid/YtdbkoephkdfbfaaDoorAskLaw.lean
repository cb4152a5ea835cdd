/-
  FillAsks: Most, Shaped and Print of every list of pieces.
-/
import Derived.Test.YtdbkoephkdfbfaaDoorRefPrint
import Derived.Test.YtdbkoephkdfbfaaDoorWideP
import Derived.Test.YtdbkoephkdfbfaaDoorEqP
import Derived.Test.YtdbkoephkdfbfaaDoorEqMarks
import Derived.Test.YtdbkoephkdfbfaaDoorLong
import Derived.Test.YtdbkoephkdfbfaaDoorWorks16
import Derived.Test.YtdbkoephkdfbfaaDoorBagMkG
namespace Go.Proofs.YtdbkoephkdfbfaaDoor
open Go.RowKit

/-- What Print answers. -/
def askE (p : List Pc) : Int := if shapedL p = true then 0 else 61
def askL (p : List Pc) : List Mk := if shapedL p = true then asMarks (printB p) else []
def AskPost (w : World) (z : Int) (l : List Mk) (e : Ending) (w' : World) : Prop := ∃ a c, e = .returned (.tuple #[.slice a l.length c, .int .i64 z]) ∧ OwnM w' w.heap.size (.slice a l.length c) l ∧ Below w.heap.size w w'
theorem ask_yes {w w' : World} {p : List Pc} {e : Ending} (h : shapedL p = true) (hP : PrintPost w (asMarks (printB p)) e w') : AskPost w (askE p) (askL p) e w' := by
  obtain ⟨v, rfl, ho, hb⟩ := hP
  obtain ⟨a, c, rfl⟩ := own_shape ho
  unfold askE askL
  rw [if_pos h, if_pos h]
  exact ⟨a, c, rfl, ho, hb⟩
theorem ask_no {w w' : World} {p : List Pc} {e : Ending} (h : shapedL p = false) (he : e = .returned (.tuple #[.slice none 0 0, .int .i64 61])) (hb : Below w.heap.size w w') : AskPost w (askE p) (askL p) e w' := by
  unfold askE askL
  rw [if_neg (by simp [h]), if_neg (by simp [h])]
  exact ⟨none, 0, he, OwnM.nil _ _, hb⟩
theorem print_ask (w : World) (ap : Option Addr) (np cp : Nat) (p : List Pc) (sp : PS w (.slice ap np cp) p) (hsum : p.length + bytesP p ≤ 4294967296) : Calls Tryd.prog 40 #[.slice ap np cp] w (AskPost w (askE p) (askL p)) := by
  cases h : shapedL p with
  | true => exact (print_yes w ap np cp p sp h hsum).mono fun e w' hP => ask_yes h hP
  | false => exact (print_no w ap np cp p sp h).mono fun e w' ⟨he, hb⟩ => ask_no h he hb
theorem rprint_ask (w : World) (ap : Option Addr) (np cp : Nat) (p : List Pc) (sp : PS w (.slice ap np cp) p) (hsum : p.length + bytesP p ≤ 4294967296) : Calls Tryd.prog 41 #[.slice ap np cp] w (AskPost w (askE p) (askL p)) := by
  cases h : shapedL p with
  | true => exact (rprint_yes w ap np cp p sp h hsum).mono fun e w' hP => ask_yes h hP
  | false => exact (rprint_no w ap np cp p sp h).mono fun e w' ⟨he, hb⟩ => ask_no h he hb
theorem ask_isM (p : List Pc) (h : ∀ x ∈ p, IsI x.1 ∧ IsB x.2) : IsM (askL p) := by
  unfold askL
  split
  · rename_i hs
    intro i
    have hk : ∀ y ∈ printB p, 0 ≤ y ∧ y ≤ 255 := by
      intro y hy
      unfold printB at hy
      rw [List.mem_flatMap] at hy
      obtain ⟨x, hx, hy⟩ := hy
      obtain ⟨k, hk, rfl⟩ := List.getElem_of_mem hx
      have hat := shaped_at p hs k hk
      rw [List.getElem?_eq_getElem hk] at hat
      simp only [Option.getD_some] at hat
      have hB := (h _ (List.getElem_mem hk)).2
      unfold pieceB at hy
      split at hy
      · rw [List.mem_flatMap] at hy
        obtain ⟨b, hb, hy⟩ := hy
        obtain ⟨j, hj, rfl⟩ := List.getElem_of_mem hb
        have := hB j
        rw [List.getElem?_eq_getElem hj] at this
        simp only [Option.getD_some] at this
        unfold wrB at hy
        split at hy
        · simp at hy; omega
        · split at hy
          · simp at hy; omega
          · simp at hy; omega
      · split at hy
        · simp at hy; omega
        · simp at hy; omega
    by_cases hi : i < (asMarks (printB p)).length
    · have hi' : i < (printB p).length := by rwa [asMarks_len] at hi
      have e : (asMarks (printB p))[i]? = some ((printB p)[i], false) := by unfold asMarks; simp [hi']
      rw [e]
      exact hk _ (List.getElem_mem hi')
    · rw [List.getElem?_eq_none (by omega)]; simp
  · exact isM_nil
theorem ask_len (p : List Pc) (hsum : p.length + bytesP p ≤ 4294967296) : (askL p).length ≤ 70368744175616 := by
  unfold askL
  split
  · rw [asMarks_len]; have := print_len p; omega
  · simp
theorem PS.texts {w : World} {a : Option Addr} {n c : Nat} {p : List Pc} (h : PS w (.slice a n c) p) : ∀ x ∈ p, IsI x.1 ∧ IsB x.2 := by
  intro x hx
  obtain ⟨k, hk, rfl⟩ := List.getElem_of_mem hx
  have h1 := h.1 k
  obtain ⟨hl, -⟩ := h.len
  obtain ⟨b, o, -, hr⟩ := h.read k (by omega)
  obtain ⟨-, ad, m, cc, -, hs, -⟩ := hr k (by omega)
  have hB := hs.1
  rw [List.getElem?_eq_getElem hk] at h1 hB
  exact ⟨h1, hB⟩
theorem PS.txt_len2 {w : World} {a : Option Addr} {n c : Nat} {p : List Pc} (h : PS w (.slice a n c) p) (j : Nat) (hj : j < p.length) : (p[j]?.getD (0, [])).2.length ≤ 140737488351232 := by
  obtain ⟨hl, -, -, -⟩ := h.len
  obtain ⟨b, o, -, hr⟩ := h.read j (by omega)
  obtain ⟨-, ad, k, cc, -, hs, -, -⟩ := hr j (by omega)
  have := hs.len
  omega

/-- What is there behind the three Prints. -/
structure AX (W w : World) (gi : Nat) (p : List Pc) (gb : Nat → Nat) (m : List VV) (l : List Mk) (va vb vc : Value) : Prop where
  wp : WP w gi p gb m
  bel : Below W.heap.size W w
  a : OwnM w W.heap.size va l
  b : OwnM w W.heap.size vb l
  c : OwnM w W.heap.size vc l
  ap : Apart va vb
theorem AX.below {W w w' : World} {gi : Nat} {p : List Pc} {gb : Nat → Nat} {m : List VV} {l : List Mk} {va vb vc : Value} (h : AX W w gi p gb m l va vb vc) (hb : Below w.heap.size w w') : AX W w' gi p gb m l va vb vc :=
  { h with wp := h.wp.below hb, bel := h.bel.trans (hb.mono h.bel.size), a := own_below h.a hb, b := own_below h.b hb, c := own_below h.c hb }
theorem OwnM.mono {w : World} {base base' : Nat} {v : Value} {l : List Mk} (h : OwnM w base v l) (hb : base' ≤ base) : OwnM w base' v l :=
  ⟨h.1, h.2.imp_right fun ⟨g, cap, cur, e, hg, r⟩ => ⟨g, cap, cur, e, by omega, r⟩⟩

set_option maxHeartbeats 4000000 in
set_option maxRecDepth 100000 in
theorem asks_walk (W : World) (ap : Option Addr) (np cp : Nat) (p : List Pc) (sp : PS W (.slice ap np cp) p) (hsum : p.length + bytesP p ≤ 1048576) :
    Calls Tryd.prog 5 #[.slice ap np cp] W fun e w' => e = .returned (.bool true) ∧ Below W.heap.size W w' := by
  obtain ⟨hpl, hpn, -, -⟩ := sp.len
  subst hpl
  have SP := Lib.hid sp
  have HSUM : Hid (p.length + bytesP p ≤ 4294967296) := Lib.hid (by omega)
  have hple : p.length ≤ 1048576 := by omega
  clear sp hsum
  go_enter Tryd.func5, Tryd.ntmps5
  go_wp2_with fail
  refine (works_any W).mono ?_
  rintro e w1 ⟨rfl, hb1⟩
  have HB := Lib.hid hb1
  clear hb1
  have HL := Lib.hid (long_any w1 p.length (by omega))
  go_wp2_with fail
  refine HL.out.mono ?_
  rintro e w' ⟨rfl, rfl⟩
  have hd : decide (2147483647 < p.length) = false := by simp; omega
  rw [hd]
  clear HL hd
  have HW1 := Lib.hid (wideP_any w1 _ p (SP.out.below HB.out) (by omega))
  go_wp2_with fail
  refine HW1.out.mono ?_
  rintro e w3 ⟨gb, m, rfl, hwp, -, hb3⟩
  obtain ⟨gi, hgi⟩ : ∃ gi, w1.heap.size = gi := ⟨_, rfl⟩
  have HB := Lib.hid (HB.out.trans (hb3.mono HB.out.size))
  rw [hgi] at hwp ⊢
  have WPH := Lib.hid hwp
  clear HW1 hb3 hwp hgi
  have HC := Lib.hid (fmost_any w3 _ _ _ p (WPH.out.ps SP.out))
  go_wp2_with fail
  refine HC.out.mono ?_
  rintro e w4 ⟨rfl, hb4⟩
  have WPH := Lib.hid (WPH.out.below hb4)
  have HB := Lib.hid (HB.out.trans (hb4.mono HB.out.size))
  clear HC hb4
  have HC := Lib.hid (shaped_any w4 _ _ _ p (WPH.out.ps SP.out))
  go_wp2_with fail
  refine HC.out.mono ?_
  rintro e w5 ⟨rfl, hb5⟩
  have WPH := Lib.hid (WPH.out.below hb5)
  have HB := Lib.hid (HB.out.trans (hb5.mono HB.out.size))
  clear HC hb5
  have HC := Lib.hid (print_ask w5 _ _ _ p (WPH.out.ps SP.out) HSUM.out)
  have HIM := Lib.hid (ask_isM p SP.out.texts)
  have HLE := Lib.hid (ask_len p HSUM.out)
  obtain ⟨z, hz⟩ : ∃ z, askE p = z := ⟨_, rfl⟩
  obtain ⟨l, hl⟩ : ∃ l, askL p = l := ⟨_, rfl⟩
  have HZL := Lib.hid (And.intro hz hl)
  rw [hl] at HIM HLE
  rw [hz, hl] at HC
  clear hz hl
  go_wp2_with fail
  refine HC.out.mono ?_
  rintro e w6 ⟨aa, ca, rfl, hoa, hb6⟩
  have HOA := Lib.hid (hoa.mono HB.out.size)
  have WPH := Lib.hid (WPH.out.below hb6)
  have HB := Lib.hid (HB.out.trans (hb6.mono HB.out.size))
  clear HC hb6 hoa
  have HC := Lib.hid (print_ask w6 _ _ _ p (WPH.out.ps SP.out) HSUM.out)
  rw [HZL.out.1, HZL.out.2] at HC
  go_wp2_with fail
  refine HC.out.mono ?_
  rintro e w7 ⟨ab, cb, rfl, hob, hb7⟩
  have HAP : Hid (Apart (.slice aa l.length ca) (.slice ab l.length cb)) := Lib.hid fun k h1 h2 => by
    have := (World.ownsRow.lt HOA.out k h1).2
    have := (World.ownsRow.lt hob k h2).1
    omega
  have HOA := Lib.hid (own_below HOA.out hb7)
  have HOB := Lib.hid (hob.mono HB.out.size)
  have WPH := Lib.hid (WPH.out.below hb7)
  have HB := Lib.hid (HB.out.trans (hb7.mono HB.out.size))
  clear HC hb7 hob
  have HC := Lib.hid (rprint_ask w7 _ _ _ p (SP.out.below HB.out) HSUM.out)
  rw [HZL.out.1, HZL.out.2] at HC
  go_wp2_with fail
  refine HC.out.mono ?_
  rintro e w8 ⟨ac, cc, rfl, hoc, hb8⟩
  have hX : AX W w8 gi p gb m l (.slice aa l.length ca) (.slice ab l.length cb) (.slice ac l.length cc) :=
    ⟨WPH.out.below hb8, HB.out.trans (hb8.mono HB.out.size), own_below HOA.out hb8, own_below HOB.out hb8, hoc.mono HB.out.size, HAP.out⟩
  have HX := Lib.hid hX
  clear HC hb8 hoc hX HOA HOB WPH HB HAP
  have HE := Lib.hid (eqPieces_any w8 _ _ _ p (HX.out.wp.ps SP.out) ap p.length cp p (SP.out.below HX.out.bel))
  rw [show decide (p = p) = true by simp] at HE
  go_wp2_with fail
  refine HE.out.mono ?_
  rintro e w9 ⟨rfl, hb9⟩
  have HX := Lib.hid (HX.out.below hb9)
  clear HE hb9
  have HE := Lib.hid (spareP_any w9 gi p gb m HX.out.wp (by omega) SP.out.txt_len2)
  go_wp2_with fail
  refine HE.out.mono ?_
  rintro e w10 ⟨rfl, n10, rfl⟩
  have HX := Lib.hid (HX.out.below (below_drewN (Below.refl _ _) n10))
  generalize w9.drewN n10 = w10 at HX ⊢
  clear HE
  have HE := Lib.hid (rmost_any w10 ap p.length cp p (SP.out.below HX.out.bel))
  go_wp2_with fail
  refine HE.out.mono ?_
  rintro e w11 ⟨rfl, n11, rfl⟩
  have HX := Lib.hid (HX.out.below (below_drewN (Below.refl _ _) n11))
  generalize w10.drewN n11 = w11 at HX ⊢
  have hq1 : (mostL p != mostL p) = false := by simp
  clear HE
  have HE := Lib.hid (rshaped_any w11 ap p.length cp p (SP.out.below HX.out.bel))
  go_wp2_with fail
  refine HE.out.mono ?_
  rintro e w12 ⟨rfl, hb12⟩
  have HX := Lib.hid (HX.out.below hb12)
  have hq2 : (shapedL p != shapedL p) = false := by simp
  have hq3 : (z != z) = false := by simp
  clear HE hb12
  have HE := Lib.hid (eqMarks_any w12 _ _ l l (OwnM.sm HX.out.a HIM.out HLE.out) (OwnM.sm HX.out.c HIM.out HLE.out))
  rw [show decide (l = l) = true by simp] at HE
  go_wp2_with fail
  refine HE.out.mono ?_
  rintro e w13 ⟨rfl, n13, rfl⟩
  have HX := Lib.hid (HX.out.below (below_drewN (Below.refl _ _) n13))
  generalize w12.drewN n13 = w13 at HX ⊢
  clear HE
  have HE := Lib.hid (eqMarks_any w13 _ _ l l (OwnM.sm HX.out.b HIM.out HLE.out) (OwnM.sm HX.out.c HIM.out HLE.out))
  rw [show decide (l = l) = true by simp] at HE
  go_wp2_with fail
  refine HE.out.mono ?_
  rintro e w14 ⟨rfl, n14, rfl⟩
  have HX := Lib.hid (HX.out.below (below_drewN (Below.refl _ _) n14))
  generalize w13.drewN n14 = w14 at HX ⊢
  clear HE
  have hb := (Below.refl w14.heap.size w14).alloc (Nat.le_refl _) bagZero
  have HG := Lib.hid (GM.start HX.out.bel)
  have HX := Lib.hid (HX.out.below hb)
  clear hb
  obtain ⟨bg, hbg⟩ : ∃ bg, w14.heap.size = bg := ⟨_, rfl⟩
  rw [hbg] at HG
  go_upto_region 14 with fail
  change Code.wp _ _ _ _ (w14.alloc bagZero)
  generalize w14.alloc bagZero = w15 at HG HX ⊢
  clear hbg hq1 hq2 hq3
  have HA := Lib.hid (HG.out.add (by omega) HX.out.a HLE.out (fun j hj => absurd hj (Nat.not_lt_zero _)))
  go_wp2_with fail
  refine HA.out.mono ?_
  rintro e w16 ⟨rfl, hk, fs, bv, hG⟩
  have HG := Lib.hid hG
  have HOB := Lib.hid (hk.own HX.out.b)
  have HAP := Lib.hid HX.out.ap
  clear hk hG HA HX
  have HA := Lib.hid (HG.out.add (by omega) HOB.out HLE.out (fun j hj => by
    obtain rfl : j = 0 := by omega
    rw [snoc_same]
    exact HAP.out))
  go_wp2_with fail
  refine HA.out.mono ?_
  rintro e w17 ⟨rfl, -, fs, bv, hG⟩
  have HG := Lib.hid hG
  clear hG HA
  have HA := Lib.hid (HG.out.apart (by omega))
  go_wp2_with fail
  refine HA.out.mono ?_
  rintro e w18 ⟨rfl, hb⟩
  have HB := Lib.hid hb
  clear hb HA HG
  go_wp2_with fail
  go_ret
  exact ⟨rfl, HB.out⟩
end Go.Proofs.YtdbkoephkdfbfaaDoor

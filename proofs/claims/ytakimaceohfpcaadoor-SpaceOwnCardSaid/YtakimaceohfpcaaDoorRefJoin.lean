/-
  galleyref25.Space: joined, Put, Join, Do.
-/
import Derived.Test.YtakimaceohfpcaaDoorRefOps
import Derived.Test.YtakimaceohfpcaaDoorStepE
namespace Go.Proofs.YtakimaceohfpcaaDoor
open Go.RowKit

theorem Rp.sbn {w : World} {g base : Nat} {most : Int} {pv hv : Value} {p h : List Int} (s : Rp w g base most pv hv p h) : (∃ a c, pv = .slice a p.length c ∧ (a = none → c = 0)) ∧ ∃ a c, hv = .slice a h.length c ∧ (a = none → c = 0) := by
  obtain ⟨a, c, e, -, hn, -⟩ := s.op.sbn s.bp s.len2P
  obtain ⟨a2, c2, e2, -, hn2, -⟩ := s.oh.sbn s.bh s.len2H
  exact ⟨⟨a, c, e, hn⟩, a2, c2, e2, hn2⟩
def jnd (a b : List Int) : List Int := a ++ [10] ++ b
theorem jnd_len (a b : List Int) : ((jnd a b).length : Int) = (a.length : Int) + 1 + (b.length : Int) := by unfold jnd; simp; omega
set_option maxRecDepth 100000 in
set_option maxHeartbeats 1000000 in
theorem joined_any (w : World) (va : Value) (ab : Option Addr) (n c : Nat) (a b : List Int) (sa : SB w va a) (sb : SB w (.slice ab n c) b) (hN : ab = none → c = 0) (hl : a.length + 1 + n ≤ 140737488351232) :
    Calls Tryd.prog 132 #[va, .slice ab n c] w (TwinPost w (jnd a b)) := by
  have HN := Lib.hid hN
  have HSB := Lib.hid sb
  have hBa := sa.1
  have hbn := sb.len.1
  have HC := Lib.hid (copy_any w va a sa)
  have HBa := Lib.hid hBa
  have HBn := Lib.hid hbn
  obtain ⟨-, aa, ca, rfl, -⟩ := sa
  clear hN sb hBa hbn
  go_enter Tryd.func132, Tryd.ntmps132
  go_wp2_with fail
  refine HC.out.mono ?_
  rintro e w1 ⟨v1, rfl, ho, hb⟩
  obtain ⟨a1, c1, rfl⟩ := ho.shape
  clear HC
  go_wp2_with (at_builtin; refine append_b1 rfl (.tmp 8) (.tmp 9) rfl w.heap.size _ a 10 rfl ho rfl (by omega) hb.size ?_)
  intro v2 w2 o2 hA
  have hl2 : (a ++ [10]).length = a.length + 1 := by rw [List.length_append]; rfl
  have hl2' : (a ++ [10]).length ≤ a.length + 1 := Nat.le_of_eq hl2
  have hb2 := hA.bel _ _ hb (Nat.le_refl _)
  have sb2 := HSB.out.below hb2
  obtain ⟨a2, c2, rfl⟩ := o2.shape
  generalize hq : a ++ [10] = q at o2 hl2 hl2' hA
  have HQ := Lib.hid hq
  have HL2 := Lib.hid hl2
  have hbs := hb2.size
  have HB2 := Lib.hid hb2
  clear hq hl2 hA ho hb
  obtain ⟨qn, hqn⟩ : ∃ qn, q.length = qn := ⟨_, rfl⟩
  have HQN := Lib.hid hqn
  have hq2 : qn ≤ a.length + 1 := by omega
  have ho2 : OwnB w2 w.heap.size (.slice a2 qn c2) q := by rw [← hqn]; exact o2
  rw [hqn]
  clear o2 hl2' hqn
  go_wp2_with (at_builtin; refine append_sbp rfl (.tmp 11) (.tmp 12) rfl w.heap.size _ q b ab n c rfl ho2 rfl HN.out sb2 (by have := HQN.out; omega) hbs ?_)
  intro v3 w3 o3 hA
  have H : TwinPost w (jnd a b) (.returned v3) w3 := ⟨v3, rfl, by unfold jnd; rw [HQ.out]; exact o3, hA.bel _ _ HB2.out (Nat.le_refl _)⟩
  obtain ⟨a3, c3, rfl⟩ := o3.shape
  have HH := Lib.hid H
  clear H o3 hA ho2 sb2
  go_wp2_with fail
  go_ret
  exact HH.out

abbrev M3 := List Int × List Int × Int
def mPut (most : Int) (b p h : List Int) : M3 := if (b.length : Int) ≤ most then (b, h, 0) else (p, h, 62)
def mJoin (most : Int) (b p h : List Int) : M3 := if (p.length : Int) + 1 + (b.length : Int) ≤ most then (jnd p b, h, 0) else (p, h, 62)
def mDo (most c : Int) (p h : List Int) : M3 :=
  if c = 103 then (h, h, 0) else if c = 71 then (if (p.length : Int) + 1 + (h.length : Int) ≤ most then (jnd p h, h, 0) else (p, h, 62)) else if c = 104 then (p, p, 0)
  else if c = 72 then (if (h.length : Int) + 1 + (p.length : Int) ≤ most then (p, jnd h p, 0) else (p, h, 62)) else if c = 120 then (h, p, 0) else (p, h, 1)
abbrev RM (w : World) (g base : Nat) (most : Int) (pv hv : Value) (M : M3) : Ending → World → Prop := RpPost w g base most pv hv M.1 M.2.1 (.int .i64 M.2.2)
/-- set, whatever comes in. -/
def mSet (most : Int) (a b p h : List Int) : M3 := if most < (a.length : Int) ∨ most < (b.length : Int) then (p, h, 62) else (a, b, 0)
theorem rset_any (w : World) (g base : Nat) (most : Int) (pv hv : Value) (p h : List Int) (s : Rp w g base most pv hv p h) (va vb : Value) (a b : List Int) (sa : SB w va a) (sb : SB w vb b) :
    Calls Tryd.prog 130 #[.pointer (some ⟨g, 0, none⟩), va, vb] w (RM w g base most pv hv (mSet most a b p h)) := by
  by_cases hl : most < (a.length : Int) ∨ most < (b.length : Int)
  · unfold mSet
    rw [if_pos hl]
    exact (rset_no w g base most pv hv p h s va vb a b sa sb hl).mono fun _ _ ⟨e, e2⟩ => by subst e2; exact ⟨pv, hv, e, s, SpStep.ofBelow (Below.refl _ _) s.base_le⟩
  · unfold mSet
    rw [if_neg hl]
    exact rset_yes w g base most pv hv p h s va vb a b sa sb (by omega) (by omega)
theorem mSet_put {most : Int} {b p h : List Int} (lh : (h.length : Int) ≤ most) : mSet most b h p h = mPut most b p h := by
  unfold mSet mPut
  by_cases hb : (b.length : Int) ≤ most
  · rw [if_neg (by omega), if_pos hb]
  · rw [if_pos (by omega), if_neg hb]
theorem rput_any (w : World) (g base : Nat) (most : Int) (pv hv : Value) (p h : List Int) (s : Rp w g base most pv hv p h) (a : Option Addr) (n c : Nat) (b : List Int) (sb : SB w (.slice a n c) b) :
    Calls Tryd.prog 113 #[.pointer (some ⟨g, 0, none⟩), .slice a n c] w (RM w g base most pv hv (mPut most b p h)) := by
  have HP := Lib.hid (rset_any w g base most pv hv p h s _ _ b h sb s.sbH)
  rw [mSet_put s.lh] at HP
  obtain ⟨-, -, c2, -⟩ := s.cells
  have HS := Lib.hid s
  clear s
  go_enter Tryd.func113, Tryd.ntmps113
  go_wp2_with fail
  refine (rnone_no w g base most pv hv p h HS.out).mono ?_
  rintro e w' ⟨rfl, rfl⟩
  go_wp2_with fail
  refine HP.out.mono ?_
  intro e w1 hR
  obtain ⟨rfl, -⟩ := hR.get
  have HR := Lib.hid hR
  clear hR
  go_wp2_with fail
  go_ret
  exact HR.out
set_option maxRecDepth 100000 in
set_option maxHeartbeats 2000000 in
theorem rjoin_any (w : World) (g base : Nat) (most : Int) (pv hv : Value) (p h : List Int) (s : Rp w g base most pv hv p h) (a : Option Addr) (n c : Nat) (b : List Int) (sb : SB w (.slice a n c) b) (hN : a = none → c = 0) (hn : n ≤ 140737486254080) :
    Calls Tryd.prog 115 #[.pointer (some ⟨g, 0, none⟩), .slice a n c] w (RM w g base most pv hv (mJoin most b p h)) := by
  have s1 := s.below (Below.refl _ _).drew
  have HJ := Lib.hid (joined_any w.drew pv a n c p b s1.sbP (sb.below (Below.refl _ _).drew) hN (by have := s.lp; have := s.lm; omega))
  have hM : mSet most (jnd p b) h p h = mJoin most b p h := by
    rw [mSet_put s.lh]
    unfold mPut mJoin
    rw [jnd_len]
  have HM := Lib.hid hM
  have HB : Hid (IsB (jnd p b)) := Lib.hid (isB_append _ _ (isB_append _ _ s.bp (isB_one 10 (by omega) (by omega))) sb.1)
  have hlen : (jnd p b).length ≤ 140737488351232 := by
    have h1 := s.lp; have h2 := s.lm; have h3 := sb.len.1
    have h4 := jnd_len p b; omega
  obtain ⟨-, c1, c2, -⟩ := s.cells
  have HS := Lib.hid s
  have HS1 := Lib.hid s1
  clear s sb hN hM s1
  go_enter Tryd.func115, Tryd.ntmps115
  go_wp2_with fail
  refine (rnone_no w g base most pv hv p h HS.out).mono ?_
  rintro e w' ⟨rfl, rfl⟩
  go_wp2_with fail
  go_region_law (first | (refine step_callsE (R := fun v w' => OwnB w' w.drew.heap.size v (jnd p b) ∧ Below w.drew.heap.size w.drew w') (by rfl) 132 _ _ (by rfl) _ (by rfl) (fun _ => by kernel_rfl) HJ.out ?_; rintro v1 w1 ⟨ho, hb⟩; have s2 := HS1.out.below hb; have k1 : w1.cell? ⟨g, 1, none⟩ = some pv := s2.cells.2.1; have k2 : w1.cell? ⟨g, 2, none⟩ = some hv := s2.cells.2.2.1; have sj := ho.sb HB.out hlen; have HST := Lib.hid (SpStep.ofBelow (g := g) (pv := pv) (hv := hv) hb (HS1.out.base_le))) | (refine step_callsE (R := fun v w' => RM w1 g base most pv hv (mJoin most b p h) (.returned v) w') (by rfl) 130 _ _ (by rfl) _ (by rfl) (fun _ => by kernel_rfl) ((by have := rset_any w1 g base most pv hv p h s2 _ _ _ h sj s2.sbH; rw [HM.out] at this; exact this.mono fun _ _ hR => ⟨_, hR.get.1, by obtain ⟨e, -⟩ := hR.get; subst e; exact hR⟩)) ?_; intro v3 w3 hR; obtain ⟨e3, -⟩ := hR.get; simp only [Ending.returned.injEq] at e3; subst e3; have HR := Lib.hid (RpPost.after HST.out hR); clear hR))
  all_goals
    clear k1 k2 ho hb s2 sj
    go_wp2_with fail
    go_ret
    exact RpPost.after (SpStep.ofBelow (Below.refl _ _).drew HS.out.base_le) HR.out
theorem rdo_no (w : World) (g base : Nat) (most c : Int) (pv hv : Value) (p h : List Int) (s : Rp w g base most pv hv p h) (h1 : c ≠ 103) (h2 : c ≠ 71) (h3 : c ≠ 104) (h4 : c ≠ 72) (h5 : c ≠ 120) :
    Calls Tryd.prog 116 #[.pointer (some ⟨g, 0, none⟩), .int .u8 c] w fun e w' => e = .returned (.int .i64 1) ∧ w = w' := by
  have e1 : (c == 103) = false := by simpa using h1
  have e2 : (c == 71) = false := by simpa using h2
  have e3 : (c == 104) = false := by simpa using h3
  have e4 : (c == 72) = false := by simpa using h4
  have e5 : (c == 120) = false := by simpa using h5
  have HS := Lib.hid s
  clear s h1 h2 h3 h4 h5
  go_enter Tryd.func116, Tryd.ntmps116
  go_wp2_with fail
  refine (rnone_no w g base most pv hv p h HS.out).mono ?_
  rintro e w' ⟨rfl, rfl⟩
  go_wp2_with fail
  go_ret
  exact ⟨rfl, rfl⟩
set_option maxHeartbeats 2000000 in
set_option maxRecDepth 100000 in
theorem rdo_two (w : World) (g base : Nat) (most : Int) (pv hv : Value) (p h : List Int) (s : Rp w g base most pv hv p h) :
    Calls Tryd.prog 116 #[.pointer (some ⟨g, 0, none⟩), .int .u8 103] w (RM w g base most pv hv (mSet most h h p h)) ∧
    Calls Tryd.prog 116 #[.pointer (some ⟨g, 0, none⟩), .int .u8 104] w (RM w g base most pv hv (mSet most p p p h)) ∧
    Calls Tryd.prog 116 #[.pointer (some ⟨g, 0, none⟩), .int .u8 120] w (RM w g base most pv hv (mSet most h p p h)) := by
  have s1 := s.below (Below.refl _ _).drew
  obtain ⟨-, c1, c2, -⟩ := s.cells
  have HA := Lib.hid (rset_any w.drew g base most pv hv p h s1 _ _ _ _ s1.sbH s1.sbH)
  have HB := Lib.hid (rset_any w.drew g base most pv hv p h s1 _ _ _ _ s1.sbP s1.sbP)
  have HC := Lib.hid (rset_any w.drew g base most pv hv p h s1 _ _ _ _ s1.sbH s1.sbP)
  have HS := Lib.hid s
  clear s s1
  refine ⟨?_, ?_, ?_⟩
  · go_enter Tryd.func116, Tryd.ntmps116
    go_wp2_with fail
    refine (rnone_no w g base most pv hv p h HS.out).mono ?_
    rintro e w' ⟨rfl, rfl⟩
    go_wp2_with fail
    go_still_tail 9, (by kernel_rfl)
    change wpList _ _ _ _ _ w.drew
    go_wp2_with fail
    refine HA.out.mono ?_
    intro e w3 hR
    obtain ⟨rfl, -⟩ := hR.get
    have HR := Lib.hid hR
    clear hR c1 c2
    go_wp2_with fail
    go_ret
    exact RpPost.after (SpStep.ofBelow (Below.refl _ _).drew HS.out.base_le) HR.out
  · go_enter Tryd.func116, Tryd.ntmps116
    go_wp2_with fail
    refine (rnone_no w g base most pv hv p h HS.out).mono ?_
    rintro e w' ⟨rfl, rfl⟩
    go_wp2_with fail
    go_still_tail 9, (by kernel_rfl)
    change wpList _ _ _ _ _ w.drew
    go_wp2_with fail
    refine HB.out.mono ?_
    intro e w3 hR
    obtain ⟨rfl, -⟩ := hR.get
    have HR := Lib.hid hR
    clear hR c1 c2
    go_wp2_with fail
    go_ret
    exact RpPost.after (SpStep.ofBelow (Below.refl _ _).drew HS.out.base_le) HR.out
  · go_enter Tryd.func116, Tryd.ntmps116
    go_wp2_with fail
    refine (rnone_no w g base most pv hv p h HS.out).mono ?_
    rintro e w' ⟨rfl, rfl⟩
    go_wp2_with fail
    go_still_tail 9, (by kernel_rfl)
    change wpList _ _ _ _ _ w.drew
    go_wp2_with fail
    refine HC.out.mono ?_
    intro e w3 hR
    obtain ⟨rfl, -⟩ := hR.get
    have HR := Lib.hid hR
    clear hR c1 c2
    go_wp2_with fail
    go_ret
    exact RpPost.after (SpStep.ofBelow (Below.refl _ _).drew HS.out.base_le) HR.out
set_option maxRecDepth 100000 in
set_option maxHeartbeats 4000000 in
theorem rdo_more (w : World) (g base : Nat) (most : Int) (pv hv : Value) (p h : List Int) (s : Rp w g base most pv hv p h) :
    Calls Tryd.prog 116 #[.pointer (some ⟨g, 0, none⟩), .int .u8 71] w (RM w g base most pv hv (mSet most (jnd p h) h p h)) ∧
    Calls Tryd.prog 116 #[.pointer (some ⟨g, 0, none⟩), .int .u8 72] w (RM w g base most pv hv (mSet most p (jnd h p) p h)) := by
  have s1 := s.below (Below.refl _ _).drew
  obtain ⟨⟨ap, cp, rfl, np⟩, ah, ch, rfl, nh⟩ := s.sbn
  have hlp := s.lp; have hlh := s.lh; have hlm := s.lm
  have HJ := Lib.hid (joined_any w.drew _ ah h.length ch p h s1.sbP s1.sbH nh (by omega))
  have HK := Lib.hid (joined_any w.drew _ ap p.length cp h p s1.sbH s1.sbP np (by omega))
  have HB : Hid (IsB (jnd p h)) := Lib.hid (isB_append _ _ (isB_append _ _ s.bp (isB_one 10 (by omega) (by omega))) s.bh)
  have HB2 : Hid (IsB (jnd h p)) := Lib.hid (isB_append _ _ (isB_append _ _ s.bh (isB_one 10 (by omega) (by omega))) s.bp)
  have hlen : (jnd p h).length ≤ 140737488351232 := by have h4 := jnd_len p h; omega
  have hlen2 : (jnd h p).length ≤ 140737488351232 := by have h4 := jnd_len h p; omega
  obtain ⟨-, c1, c2, -⟩ := s.cells
  have HS := Lib.hid s
  have HS1 := Lib.hid s1
  clear s s1 np nh hlp hlh hlm
  refine ⟨?_, ?_⟩
  · go_enter Tryd.func116, Tryd.ntmps116
    go_wp2_with fail
    refine (rnone_no w g base most _ _ p h HS.out).mono ?_
    rintro e w' ⟨rfl, rfl⟩
    go_wp2_with fail
    go_region_law (first | (refine step_callsE (R := fun v w' => OwnB w' w.drew.heap.size v (jnd p h) ∧ Below w.drew.heap.size w.drew w') (by rfl) 132 _ _ (by rfl) _ (by rfl) (fun _ => by kernel_rfl) HJ.out ?_; rintro v1 w1 ⟨ho, hb⟩; have s2 := HS1.out.below hb; have k1 := s2.cells.2.1; have k2 := s2.cells.2.2.1; have sj := ho.sb HB.out hlen; have HST := Lib.hid (SpStep.ofBelow (g := g) (pv := .slice ap p.length cp) (hv := .slice ah h.length ch) hb (HS1.out.base_le))) | (refine step_callsE (R := fun v w' => RM w1 g base most (.slice ap p.length cp) (.slice ah h.length ch) (mSet most (jnd p h) h p h) (.returned v) w') (by rfl) 130 _ _ (by rfl) _ (by rfl) (fun _ => by kernel_rfl) ((rset_any w1 g base most _ _ p h s2 _ _ _ h sj s2.sbH).mono fun _ _ hR => ⟨_, hR.get.1, by obtain ⟨e, -⟩ := hR.get; subst e; exact hR⟩) ?_; intro v3 w3 hR; obtain ⟨e3, -⟩ := hR.get; simp only [Ending.returned.injEq] at e3; subst e3; have HR := Lib.hid (RpPost.after HST.out hR); clear hR))
    all_goals
      clear k1 k2 ho hb s2 sj
      go_wp2_with fail
      go_ret
      exact RpPost.after (SpStep.ofBelow (Below.refl _ _).drew HS.out.base_le) HR.out
  · go_enter Tryd.func116, Tryd.ntmps116
    go_wp2_with fail
    refine (rnone_no w g base most _ _ p h HS.out).mono ?_
    rintro e w' ⟨rfl, rfl⟩
    go_wp2_with fail
    go_region_law (first | (refine step_callsE (R := fun v w' => OwnB w' w.drew.heap.size v (jnd h p) ∧ Below w.drew.heap.size w.drew w') (by rfl) 132 _ _ (by rfl) _ (by rfl) (fun _ => by kernel_rfl) HK.out ?_; rintro v1 w1 ⟨ho, hb⟩; have s2 := HS1.out.below hb; have k1 := s2.cells.2.1; have k2 := s2.cells.2.2.1; have sj := ho.sb HB2.out hlen2; have HST := Lib.hid (SpStep.ofBelow (g := g) (pv := .slice ap p.length cp) (hv := .slice ah h.length ch) hb (HS1.out.base_le))) | (refine step_callsE (R := fun v w' => RM w1 g base most (.slice ap p.length cp) (.slice ah h.length ch) (mSet most p (jnd h p) p h) (.returned v) w') (by rfl) 130 _ _ (by rfl) _ (by rfl) (fun _ => by kernel_rfl) ((rset_any w1 g base most _ _ p h s2 _ _ p _ s2.sbP sj).mono fun _ _ hR => ⟨_, hR.get.1, by obtain ⟨e, -⟩ := hR.get; subst e; exact hR⟩) ?_; intro v3 w3 hR; obtain ⟨e3, -⟩ := hR.get; simp only [Ending.returned.injEq] at e3; subst e3; have HR := Lib.hid (RpPost.after HST.out hR); clear hR))
    all_goals
      clear k1 k2 ho hb s2 sj
      go_wp2_with fail
      go_ret
      exact RpPost.after (SpStep.ofBelow (Below.refl _ _).drew HS.out.base_le) HR.out
theorem rdo_any (w : World) (g base : Nat) (most c : Int) (pv hv : Value) (p h : List Int) (s : Rp w g base most pv hv p h) :
    Calls Tryd.prog 116 #[.pointer (some ⟨g, 0, none⟩), .int .u8 c] w (RM w g base most pv hv (mDo most c p h)) := by
  have lp := s.lp; have lh := s.lh
  unfold mDo
  by_cases h1 : c = 103
  · subst h1
    have := (rdo_two w g base most pv hv p h s).1
    rw [mSet, if_neg (by omega)] at this
    exact this
  by_cases h2 : c = 71
  · subst h2
    have := (rdo_more w g base most pv hv p h s).1
    rw [mSet_put lh, mPut, jnd_len] at this
    exact this
  by_cases h3 : c = 104
  · subst h3
    have := (rdo_two w g base most pv hv p h s).2.1
    rw [mSet, if_neg (by omega)] at this
    exact this
  by_cases h4 : c = 72
  · subst h4
    have := (rdo_more w g base most pv hv p h s).2
    rw [mSet, jnd_len] at this
    rw [if_neg h1, if_neg h2, if_neg h3, if_pos rfl]
    by_cases hr : (h.length : Int) + 1 + (p.length : Int) ≤ most
    · rw [if_pos hr]; rw [if_neg (by omega)] at this; exact this
    · rw [if_neg hr]; rw [if_pos (by omega)] at this; exact this
  by_cases h5 : c = 120
  · subst h5
    have := (rdo_two w g base most pv hv p h s).2.2
    rw [mSet, if_neg (by omega)] at this
    exact this
  rw [if_neg h1, if_neg h2, if_neg h3, if_neg h4, if_neg h5]
  exact (rdo_no w g base most c pv hv p h s h1 h2 h3 h4 h5).mono fun _ _ ⟨e, e2⟩ => by subst e2; exact ⟨pv, hv, e, s, SpStep.ofBelow (Below.refl _ _) s.base_le⟩
end Go.Proofs.YtakimaceohfpcaaDoor

/-
  Layer 3: a try.
-/
import Derived.Test.YtaeiijncklmfdaaDkC
import Derived.BigQuiet
namespace Go.Proofs.Ytaeiijncklmfdaa
open Go.RowKit

def inc64 (x : Int) : Int := wrap64 (x + 1)
theorem DkAt.frz {w : World} {base d : Nat} {s : DkS} {c : Nat → Nat} {fo du : Nat} {pe pl : Value} {bv : Nat → Value} (h : DkAt w base d s c fo du pe pl bv) (i : Nat) : w.frozen? ⟨d, i, none⟩ = false := frozen_of_row w d i _ _ h.disk
def tryM (s : DkS) : Int × DkS := match s.plan with
  | [] => (0, { s with tries := inc64 s.tries })
  | (n, e) :: r => if n = inc64 s.tries then (e, { s with tries := inc64 s.tries, plan := r, power := if e = 24 then false else s.power }) else (0, { s with tries := inc64 s.tries })
section
variable (w : World) {base d : Nat} {s : DkS} {c : Nat → Nat} {fo du : Nat} {pe pl : Value} {bv : Nat → Value}
def TryPost (w : World) (base d : Nat) (s : DkS) (c : Nat → Nat) (fo du : Nat) (pe : Value) (bv : Nat → Value) (e : Ending) (w' : World) : Prop :=
  e = .returned (.int .i64 (tryM s).1) ∧ ∃ pl', DkAt w' base d (tryM s).2 c fo du pe pl' bv ∧ Stp w w' base c c
theorem PlAt.tail {w : World} {c : Nat → Nat} {a : Option Addr} {cap : Nat} {x : Int × Int} {r : List (Int × Int)} (h : PlAt w c (.slice a (r.length + 1) cap) (x :: r)) :
    ∃ g o, a = some ⟨g, o, none⟩ ∧ w.cell? ⟨g, o, none⟩ = some (.int .i64 x.1) ∧ w.cell? ⟨g, o + 1, none⟩ = some (.int .i64 x.2) ∧ c g = 5 ∧ 1 ≤ cap ∧ PlAt w c (.slice (some ⟨g, o + 2, none⟩) r.length (cap - 1)) r ∧ (cap = 1 → PlAt w c (.slice (some ⟨g, o, none⟩) r.length 0) r) := by
  obtain ⟨a', cap', he, h1, h2, h3, h4⟩ := h
  simp only [Value.slice.injEq] at he
  obtain ⟨rfl, -, rfl⟩ := he
  simp only [List.length_cons] at h1 h2 h4
  cases a with
  | none => exact absurd (h3 rfl) (by omega)
  | some b =>
    obtain ⟨g, o, rfl, hc, hlt, hi⟩ := h4 b rfl
    have h0 := hi 0 (by omega)
    refine ⟨g, o, rfl, by simpa using h0.1, by simpa using h0.2, hc, by omega, ⟨_, _, rfl, by omega, by omega, (fun e => by cases e), fun b hb => ?_⟩, fun h1c => ⟨_, _, rfl, by omega, by omega, (fun e => by cases e), fun b hb => by cases hb; exact ⟨g, o, rfl, hc, hlt, fun i hi' => absurd hi' (by omega)⟩⟩⟩
    cases hb
    refine ⟨g, o + 2, rfl, hc, hlt, fun i hi' => ?_⟩
    have := hi (i + 1) (by omega)
    rw [show o + 2 + i * 2 = o + (i + 1) * 2 by omega]
    simpa using this
theorem DkAt.drewN {w : World} {base d : Nat} {s : DkS} {c : Nat → Nat} {fo du : Nat} {pe pl : Value} {bv : Nat → Value} (h : DkAt w base d s c fo du pe pl bv) (n : Nat) : DkAt (w.drewN n) base d s c fo du pe pl bv := h.keep (Nat.le_refl _) fun _ _ => rfl
theorem Stp.drewN {w w' : World} {base : Nat} {c c' : Nat → Nat} (h : Stp w w' base c c') (n : Nat) : Stp w (w'.drewN n) base c c' :=
  ⟨h.keep, h.old, h.bel.trans ((below_drewN (Below.refl _ w') n).mono (Nat.le_trans h.le h.bel.size)), h.le⟩
set_option maxHeartbeats 1000000 in
theorem try_yes (h : DkAt w base d s c fo du pe pl bv) : Calls Try.prog 61 #[ptD d] w (TryPost w base d s c fo du pe bv) := by
  obtain ⟨-, h1, -, -, -, h5, h6, -, -⟩ := h.cell
  have hz := h.frz 6
  have hzz1 := h.frz 1
  have hzz5 := h.frz 5
  have hT := h.setTries (inc64 s.tries)
  have sT := Stp.set h d 6 (by rw [h.cd]; decide) (.int .i64 (inc64 s.tries))
  obtain ⟨-, k1, -, -, -, k5, k6, -, -⟩ := hT.cell
  have hpl := h.plan
  obtain ⟨a, cap, he⟩ : ∃ a cap, pl = .slice a s.plan.length cap := by obtain ⟨a, cap, e, _⟩ := hpl; exact ⟨a, cap, e⟩
  subst he
  unfold TryPost tryM
  cases hs : s.plan with
  | nil =>
    rw [hs] at h5 k5
    simp only
    have HT := Lib.hid hT
    have HS := Lib.hid sT
    clear h hT sT hpl
    unfold inc64 at k5 k6 ⊢
    unfold ptD
    simp only [List.length_nil] at h5 k5
    go_enter Try.func61, Try.ntmps61
    go_wp2_with fail
    go_quiet (fail)
    go_wp2_with fail
    go_ret
    have := (HT.out.drewN nq).same (s' := { s with plan := [], tries := inc64 s.tries }) (by rw [← hs])
    exact ⟨rfl, _, this, HS.out.drewN nq⟩
  | cons x r =>
    obtain ⟨x1, x2⟩ := x
    rw [hs] at h5 k5 hpl
    obtain ⟨g, o, rfl, p1, p2, hg5, hcap, hpt0, hpt10⟩ := hpl.tail
    have hgd : g ≠ d := fun e => by rw [e, h.cd] at hg5; cases hg5
    have q1 := cell_setCell_far p1 (p := ⟨d, 6, none⟩) hgd (.int .i64 (inc64 s.tries))
    have q2 := cell_setCell_far p2 (p := ⟨d, 6, none⟩) hgd (.int .i64 (inc64 s.tries))
    simp only
    have HT := Lib.hid hT
    have HS := Lib.hid sT
    have hz5 := hT.frz 5
    have hkp : ∀ {v}, PlAt w c v r → PlAt (w.setCell ⟨d, 6, none⟩ (.int .i64 (inc64 s.tries))) c v r := fun hp => hp.keep (by simp) fun g' hg' _ => ⟨heap_setCell_other w ⟨d, 6, none⟩ g' _ fun e => (by simp only at e; rw [e, h.cd] at hg'; cases hg'), hg'⟩
    have hpt := hkp hpt0
    have hpt1 := fun e => hkp (hpt10 e)
    have hcd := h.cd
    clear h hpl hpt0 hpt10 hkp
    by_cases hx : x1 = inc64 s.tries
    · rw [if_pos hx]
      have HCAP := Lib.hid hcap
      by_cases hc1 : cap = 1
      · have hrl : r.length + 1 ≤ 1 := by
          have := hpt1 hc1
          obtain ⟨_, _, he, _, h2, _⟩ := this
          simp only [Value.slice.injEq] at he
          omega
        obtain rfl : r = [] := List.eq_nil_of_length_eq_zero (by omega)
        by_cases h24 : x2 = 24
        · rw [if_pos h24]
          have hP := hT.setPlan (.slice (some ⟨g, o, none⟩) 0 0) [] (hpt1 hc1)
          obtain ⟨-, m1, -⟩ := hP.cell
          have hz1 := hP.frz 1
          have sP := sT.trans (Stp.set hT d 5 (by rw [hcd]; decide) (.slice (some ⟨g, o, none⟩) 0 0))
          have hW := hP.setPower false
          have sW := sP.trans (Stp.set hP d 1 (by rw [hcd]; decide) (.bool false))
          have HP := Lib.hid hP
          have HPS := Lib.hid sP
          have HW := Lib.hid hW
          have HWS := Lib.hid sW
          clear hT sT hP sP hW sW hpt hpt1 hcd
          subst hc1
          unfold inc64 at k5 k6 q1 q2 hz5 m1 hz1 hx ⊢
          unfold ptD
          simp only [List.length_cons] at h5 k5
          subst hx
          subst h24
          go_enter Try.func61, Try.ntmps61
          go_wp2_with fail
          go_quiet (fail)
          go_wp2_with fail
          go_ret
          exact ⟨rfl, _, HW.out.drewN nq, HWS.out.drewN nq⟩
        · skip
          have hP := hT.setPlan (.slice (some ⟨g, o, none⟩) 0 0) [] (hpt1 hc1)
          obtain ⟨-, m1, -⟩ := hP.cell
          have hz1 := hP.frz 1
          have sP := sT.trans (Stp.set hT d 5 (by rw [hcd]; decide) (.slice (some ⟨g, o, none⟩) 0 0))
          have hW := hP.setPower false
          have sW := sP.trans (Stp.set hP d 1 (by rw [hcd]; decide) (.bool false))
          have HP := Lib.hid hP
          have HPS := Lib.hid sP
          have HW := Lib.hid hW
          have HWS := Lib.hid sW
          clear hT sT hP sP hW sW hpt hpt1 hcd
          subst hc1
          unfold inc64 at k5 k6 q1 q2 hz5 m1 hz1 hx ⊢
          unfold ptD
          simp only [List.length_cons] at h5 k5
          subst hx
          have hd24 : decide (x2 = 24) = false := by simpa using h24
          rw [if_neg h24]
          go_enter Try.func61, Try.ntmps61
          go_wp2_with fail
          go_quiet (fail)
          go_wp2_with fail
          go_ret
          exact ⟨rfl, _, HP.out.drewN nq, HPS.out.drewN nq⟩
      · by_cases h24 : x2 = 24
        · rw [if_pos h24]
          have hP := hT.setPlan (.slice (some ⟨g, o + 2, none⟩) r.length (cap - 1)) r (hpt)
          obtain ⟨-, m1, -⟩ := hP.cell
          have hz1 := hP.frz 1
          have sP := sT.trans (Stp.set hT d 5 (by rw [hcd]; decide) (.slice (some ⟨g, o + 2, none⟩) r.length (cap - 1)))
          have hW := hP.setPower false
          have sW := sP.trans (Stp.set hP d 1 (by rw [hcd]; decide) (.bool false))
          have HP := Lib.hid hP
          have HPS := Lib.hid sP
          have HW := Lib.hid hW
          have HWS := Lib.hid sW
          clear hT sT hP sP hW sW hpt hpt1 hcd
          have hcd1 : decide (cap = 1) = false := by simpa using hc1
          have hcd2 : decide (cap - 1 = 0) = false := by simp; omega
          unfold inc64 at k5 k6 q1 q2 hz5 m1 hz1 hx ⊢
          unfold ptD
          simp only [List.length_cons] at h5 k5
          subst hx
          subst h24
          go_enter Try.func61, Try.ntmps61
          go_wp2_with fail
          go_quiet (fail)
          go_wp2_with fail
          go_ret
          exact ⟨rfl, _, HW.out.drewN nq, HWS.out.drewN nq⟩
        · skip
          have hP := hT.setPlan (.slice (some ⟨g, o + 2, none⟩) r.length (cap - 1)) r (hpt)
          obtain ⟨-, m1, -⟩ := hP.cell
          have hz1 := hP.frz 1
          have sP := sT.trans (Stp.set hT d 5 (by rw [hcd]; decide) (.slice (some ⟨g, o + 2, none⟩) r.length (cap - 1)))
          have hW := hP.setPower false
          have sW := sP.trans (Stp.set hP d 1 (by rw [hcd]; decide) (.bool false))
          have HP := Lib.hid hP
          have HPS := Lib.hid sP
          have HW := Lib.hid hW
          have HWS := Lib.hid sW
          clear hT sT hP sP hW sW hpt hpt1 hcd
          have hcd1 : decide (cap = 1) = false := by simpa using hc1
          have hcd2 : decide (cap - 1 = 0) = false := by simp; omega
          unfold inc64 at k5 k6 q1 q2 hz5 m1 hz1 hx ⊢
          unfold ptD
          simp only [List.length_cons] at h5 k5
          subst hx
          have hd24 : decide (x2 = 24) = false := by simpa using h24
          rw [if_neg h24]
          go_enter Try.func61, Try.ntmps61
          go_wp2_with fail
          go_quiet (fail)
          go_wp2_with fail
          go_ret
          exact ⟨rfl, _, HP.out.drewN nq, HPS.out.drewN nq⟩
    · rw [if_neg hx]
      clear hT sT hpt hpt1 hcd
      unfold inc64 at k5 k6 q1 q2 hz5 hx ⊢
      unfold ptD
      simp only [List.length_cons] at h5 k5
      have hd : (x1 != wrap64 (s.tries + 1)) = true := by simpa using hx
      go_enter Try.func61, Try.ntmps61
      go_wp2_with fail
      go_quiet (fail)
      go_wp2_with fail
      go_ret
      have := (HT.out.drewN nq).same (s' := { s with plan := (x1, x2) :: r, tries := inc64 s.tries }) (by rw [← hs])
      exact ⟨rfl, _, this, HS.out.drewN nq⟩
end
end Go.Proofs.Ytaeiijncklmfdaa

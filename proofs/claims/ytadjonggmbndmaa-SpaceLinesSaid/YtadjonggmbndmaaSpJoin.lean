/-
  space.Space: Join.
-/
import Derived.Test.YtadjonggmbndmaaSpWorks
import Derived.Test.YtadjonggmbndmaaRws
namespace Go.Proofs.Ytadjonggmbndmaa
open Go.RowKit

set_option maxRecDepth 100000 in
theorem spJoin_yes (w : World) (g base : Nat) (most : Int) (pv hv : Value) (p h : List Int) (s : Sp w g base most pv hv p h) (a : Option Addr) (n c : Nat) (b : List Int) (sb : SB w (.slice a n c) b) (hN : a = none → c = 0)
    (hap : ∀ k, (Value.slice a n c).ownBlock = some k → pv.ownBlock ≠ some k) (hroom : (p.length : Int) + 1 + (n : Int) ≤ most) :
    Calls Try.prog 38 #[.pointer (some ⟨g, 0, none⟩), .slice a n c] w (SpPost w g base most pv hv (p ++ [10] ++ b) h (.int .i64 0)) := by
  have HJ := Lib.hid (joinP_yes w g base most pv hv p h s a n c b sb hN hap hroom)
  clear hN hap sb
  go_enter Try.func38, Try.ntmps38
  go_wp2_with fail
  refine (isSpace_yes w g base most pv hv p h s).mono ?_
  rintro e w' ⟨rfl, rfl⟩
  clear s
  go_wp2_with fail
  refine HJ.out.mono ?_
  intro e w1 hP
  obtain ⟨rfl, pv', hv', h1, h2⟩ := hP.get
  have H := Lib.hid hP
  clear h1 h2 hP
  go_wp2_with fail
  go_ret
  exact H.out
set_option maxRecDepth 100000 in
theorem spJoin_no (w : World) (g base : Nat) (most : Int) (pv hv : Value) (p h : List Int) (s : Sp w g base most pv hv p h) (a : Option Addr) (n c : Nat) (hn : n ≤ 140737488351232) (hroom : most < (p.length : Int) + 1 + (n : Int)) :
    Calls Try.prog 38 #[.pointer (some ⟨g, 0, none⟩), .slice a n c] w (SpPost w g base most pv hv p h (.int .i64 62)) := by
  have HJ := Lib.hid (join_no w g base 2 most pv hv p h p s (.inl ⟨rfl, rfl⟩) a n c hn hroom)
  have HS := Lib.hid s
  go_enter Try.func38, Try.ntmps38
  go_wp2_with fail
  refine (isSpace_yes w g base most pv hv p h s).mono ?_
  rintro e w' ⟨rfl, rfl⟩
  clear s
  go_wp2_with fail
  refine HJ.out.mono ?_
  rintro e w1 ⟨rfl, m, rfl⟩
  have H := Lib.hid (show SpPost w g base most pv hv p h (.int .i64 62) (.returned (.int .i64 62)) (w.drewN m) from ⟨pv, hv, rfl, HS.out.drewN m, SpStep.drewN HS.out.base_le m⟩)
  go_wp2_with fail
  go_ret
  exact H.out

/-! ### A space beside a list of its lines -/
structure LinesAt (w : World) (g B b : Nat) (most : Int) (pv hv v : Value) (vs : List Value) (R : List (List Int)) : Prop where
  sp : Sp w g B most pv hv (joinL R) []
  rws : Rws w B b v vs R
  ap : ∀ u ∈ vs, Apart u pv ∧ Apart u hv
  nl : ∀ x ∈ R, NoNl x
  ne : R ≠ []

theorem LinesAt.below {w w' : World} {g B b : Nat} {most : Int} {pv hv v : Value} {vs : List Value} {R : List (List Int)} (h : LinesAt w g B b most pv hv v vs R) (hb : Below w.heap.size w w') : LinesAt w' g B b most pv hv v vs R :=
  { h with sp := h.sp.below hb, rws := h.rws.below hb }
theorem LinesAt.drewN {w : World} {g B b : Nat} {most : Int} {pv hv v : Value} {vs : List Value} {R : List (List Int)} (h : LinesAt w g B b most pv hv v vs R) (n : Nat) : LinesAt (w.drewN n) g B b most pv hv v vs R := h.below (below_drewN (Below.refl _ _) n)
theorem neR : (35 : TypeId) ≠ 5 := by decide
theorem neRS : (35 : TypeId) ≠ 74 := by decide
theorem win_ne {w : World} {g B b : Nat} {most : Int} {pv hv v : Value} {vs : List Value} {p h : List Int} (s : Sp w g B most pv hv p h) (k : Win w B b v vs) : b ≠ g ∧ pv.ownBlock ≠ some b ∧ hv.ownBlock ≠ some b := by
  obtain ⟨off, cap, cur, -, -, hb, -⟩ := k
  refine ⟨fun e => ?_, own_not s.op hb neR, own_not s.oh hb neR⟩
  subst e
  have := s.blk
  rw [hb] at this
  simp only [Option.some.injEq, Obj.cells.injEq] at this
  exact neRS this.2.1
theorem rws_mem {w : World} {B b : Nat} {v u : Value} {vs : List Value} {R : List (List Int)} (h : Rws w B b v vs R) (hu : u ∈ vs) : ∃ l, OwnB w B u l := by
  obtain ⟨i, hi⟩ := List.mem_iff_getElem?.1 hu
  have hlt := (List.getElem?_eq_some_iff.1 hi).1
  obtain ⟨u2, h1, h2, -⟩ := h.own i (by rw [← h.len]; exact hlt)
  rw [hi] at h1
  obtain rfl := Option.some.inj h1
  exact ⟨_, h2⟩
/-- A call at the space leaves the list of lines alone. -/
theorem LinesAt.step {w w' : World} {g B b : Nat} {most : Int} {pv hv pv' hv' v : Value} {vs : List Value} {R : List (List Int)} (h : LinesAt w g B b most pv hv v vs R) (st : SpStep w w' g B pv hv pv' hv') :
    Rws w' B b v vs R ∧ ∀ u ∈ vs, Apart u pv' ∧ Apart u hv' := by
  obtain ⟨hbg, hbp, hbh⟩ := win_ne h.sp h.rws.win
  refine ⟨h.rws.kept (st.blk b h.rws.win.lt hbg hbp hbh) (fun u hu k hk => ?_), fun u hu => ?_⟩
  · obtain ⟨l, ho⟩ := rws_mem h.rws hu
    have hlt := World.ownsRow.lt ho k hk
    exact st.blk k hlt.2 (fun e => own_not ho h.sp.blk neT (e ▸ hk)) (fun e => (h.ap u hu).1 k hk e) (fun e => (h.ap u hu).2 k hk e)
  · obtain ⟨l, ho⟩ := rws_mem h.rws hu
    have hg := own_not ho h.sp.blk neT
    exact (st.own ho hg (h.ap u hu).1 (h.ap u hu).2).2
theorem joinL_len : ∀ (R : List (List Int)), R.length ≤ (joinL R).length + 1
  | [] => by simp
  | [x] => by simp
  | x :: y :: r => by
    have := joinL_len (y :: r)
    rw [join_len]
    simp only [List.length_cons] at this ⊢
    omega
theorem LinesAt.few {w : World} {g B b : Nat} {most : Int} {pv hv v : Value} {vs : List Value} {R : List (List Int)} (h : LinesAt w g B b most pv hv v vs R) : R.length ≤ 1048577 ∧ (joinL R).length ≤ 1048576 ∧ ((joinL R).length : Int) ≤ most := by
  have := joinL_len R
  have h1 := h.sp.lp
  have h2 := h.sp.lm
  omega

/-- The line that was joined is put behind the list. -/
theorem LinesAt.push {w w' : World} {g B b b' : Nat} {most : Int} {pv hv v v' y : Value} {vs : List Value} {R : List (List Int)} {x : List Int} (s : Sp w g B most pv hv (joinL R ++ [10] ++ x) []) (hr : Rws w B b v vs R) (ha : ∀ u ∈ vs, Apart u pv ∧ Apart u hv) (hnl : ∀ x ∈ R, NoNl x) (hne : R ≠ []) (hx : NoNl x)
    (hw : Win w' B b' v' (vs ++ [y])) (hp : WinPost w w' B b b') (hy : OwnB w B y x) (hya : Apart y pv ∧ Apart y hv) (hB : IsB x) (hl : x.length ≤ 140737488351232) :
    LinesAt w' g B b' most pv hv v' (vs ++ [y]) (R ++ [x]) := by
  obtain ⟨hbg, hbp, hbh⟩ := win_ne s hr.win
  have hyb : y.ownBlock ≠ some b := by
    obtain ⟨off, cap, cur, -, -, hb, -⟩ := hr.win
    exact own_not hy hb neR
  refine ⟨?_, hr.append hw hp hy hyb hB hl, fun u hu => ?_, fun z hz => ?_, by simp⟩
  · have e : joinL (R ++ [x]) = joinL R ++ [10] ++ x := by rw [joinL_snoc R x hne]; simp
    rw [e]
    exact { s with blk := by rw [hp.blk g s.lt (Ne.symm hbg)]; exact s.blk, op := own_kept s.op hbp hp.blk, oh := own_kept s.oh hbh hp.blk }
  · rcases List.mem_append.1 hu with h | h
    · exact ha u h
    · rw [List.mem_singleton.1 h]; exact hya
  · rcases List.mem_append.1 hz with h | h
    · exact hnl z h
    · rw [List.mem_singleton.1 h]; exact hx

/-- What was made behind a space lies apart from its rows. -/
theorem own_new {w w' : World} {g B : Nat} {most : Int} {pv hv v : Value} {p h l : List Int} (s : Sp w g B most pv hv p h) (ho : OwnB w' w.heap.size v l) : v.ownBlock ≠ some g ∧ Apart v pv ∧ Apart v hv := by
  have hlt := World.ownsRow.lt ho
  have h1 := World.ownsRow.lt s.op
  have h2 := World.ownsRow.lt s.oh
  have hg := s.lt
  exact ⟨fun e => by have := (hlt g e).1; omega, fun k e1 e2 => by have := (hlt k e1).1; have := (h1 k e2).2; omega, fun k e1 e2 => by have := (hlt k e1).1; have := (h2 k e2).2; omega⟩
theorem SB.shape2 {w : World} {v : Value} {l : List Int} (h : SB w v l) : ∃ a n c, v = .slice a n c := by
  obtain ⟨-, a, c, rfl, -⟩ := h
  exact ⟨_, _, _, rfl⟩
end Go.Proofs.Ytadjonggmbndmaa

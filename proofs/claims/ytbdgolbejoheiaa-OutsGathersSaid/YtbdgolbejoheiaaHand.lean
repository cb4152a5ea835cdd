/-
  bytes.Clone of a list of bytes; outs.Out.handOn.
-/
import Derived.Test.YtbdgolbejoheiaaTake
import Derived.StillTailTactics
namespace Go.Proofs.Ytbdgolbejoheiaa
open Go.RowKit

attribute [local go_sem] Oper.semAt_some

/-- An empty list of bytes in a block of its own. -/
theorem own_zero (w : World) (base : Nat) (hb : base ≤ w.heap.size) : OwnB (w.alloc (.cells #[] 5)) base (.slice (some ⟨w.heap.size, 0, none⟩) 0 0) [] := by
  unfold OwnB
  exact World.ownsRow_made w #[] 0 hb (by unfold maxLen; omega) rfl
theorem eqlNilB (w : World) (b n c : Nat) : Sem.run Try.prog (binOp .eql 25 (.slice (some ⟨b, 0, none⟩) n c) (.slice none 0 0)) w = .ok (.bool false) w := by kernel_rfl
theorem clone_any (w : World) (b n c : Nat) (l : List Int) (hv : SB w (.slice (some ⟨b, 0, none⟩) n c) l) (hl : l.length ≤ 140737488351232) : Calls Try.prog 24 #[.slice (some ⟨b, 0, none⟩) n c] w (TwinPost w l) := by
  have hb0 := (Below.refl w.heap.size w).alloc (Nat.le_refl _) (.cells #[] 5)
  have hv1 := hv.below hb0
  have ho := own_zero w w.heap.size (Nat.le_refl _)
  have hs : w.heap.size ≤ (w.alloc (.cells #[] 5)).heap.size := by simp
  have hln := hv.len
  have hen := fun W => eqlNilB W b n c
  clear hv
  go_enter Try.func24, Try.ntmps24
  go_wp2_with (at_builtin; refine append_sbp rfl (.tmp 5) (.tmp 6) rfl w.heap.size _ [] l (some ⟨b, 0, none⟩) n c rfl ho rfl (fun e => by cases e) hv1 (by simp; omega) hs ?_)
  intro v' w1 ho1 hA1
  have hb1 := hA1.bel _ _ hb0 (Nat.le_refl _)
  clear hA1 ho hb0
  go_wp2_with fail
  go_ret
  exact ⟨_, rfl, ho1, hb1⟩

/-- A store into the output's own block. -/
theorem out_keep (W : World) (s : OSt) (i : Nat) (x : Value) : ∀ k, k ≠ s.bo → (W.setCell ⟨s.bo, i, none⟩ x).heap[k]? = W.heap[k]? := fun k hk => heap_setCell_other W ⟨s.bo, i, none⟩ k x hk
theorem OIs.setOut {W : World} {base : Nat} {s s' : OSt} (h : OIs W base s) (i : Nat) (x : Value) (hc : (outCells s).set i x = outCells s') (e1 : s'.bo = s.bo) (e2 : s'.bs = s.bs) (e3 : sinkCells s' = sinkCells s) (e4 : s'.sv = s.sv) (e5 : s'.tv = s.tv) (e6 : s'.vs = s.vs) (e7 : s'.us = s.us) (e8 : s'.said = s.said)
    (hg : (s'.gv = s.gv ∧ s'.g = s.g) ∨ (s'.gv = .slice none 0 0 ∧ s'.g = [])) : OIs (W.setCell ⟨s.bo, i, none⟩ x) base s' ∧ OUp W (W.setCell ⟨s.bo, i, none⟩ x) base s s' := by
  have hx := out_keep W s i x
  have ne : ∀ {e : TypeId} {v : Value} {z : Nat} {xs : List Value}, W.ownsRow base e 1 v z xs → TOut ≠ e → ∀ k, v.ownBlock = some k → k ≠ s.bo := fun ho hne k hk e => by
    subst e; exact h.o.ne_own ho hne hk
  have hgo : ∀ k, s'.gv.ownBlock = some k → s.gv.ownBlock = some k := fun k hk => by
    rcases hg with ⟨q, -⟩ | ⟨q, -⟩
    · rw [q] at hk; exact hk
    · rw [q] at hk; simp [Value.ownBlock] at hk
  refine ⟨⟨?_, ?_, ?_, ?_, ?_, ?_, ?_, ?_, ?_, ?_⟩, ?_, ?_, ?_, ?_, ?_⟩
  · rw [e1, ← hc]; exact h.o.set i x
  · rw [e2, e3]; exact h.k.keep (hx _ (h.o.ne_at h.k neOS).symm)
  · rcases hg with ⟨q, r⟩ | ⟨q, r⟩
    · rw [q, r]; exact own_keep h.og fun k e => hx k (ne h.og neOB k e)
    · rw [q, r]; exact OwnB.nil _ _
  · rw [e4, e6, e8]; exact own_keep h.osv fun k e => hx k (ne h.osv neOL k e)
  · rw [e5, e7, e8]; exact own_keep h.otv fun k e => hx k (ne h.otv neOL k e)
  · rw [e4, e5]; exact h.st
  · intro j hj
    rw [e8] at hj ⊢
    rw [e6]
    obtain ⟨v, g1, g2, g3, g4⟩ := h.row j hj
    refine ⟨v, g1, own_keep g2 fun k e => hx k (ne g2 neOB k e), fun k h1 h2 => g3 k (hgo k h1) h2, g4⟩
  · rcases hg with ⟨-, r⟩ | ⟨-, r⟩
    · rw [r]; exact h.gB
    · rw [r]; exact isB_nil
  · rw [e1]; exact h.bo_ge
  · rw [e2]; exact h.bs_ge
  · exact fun k _ hm => hx k (fun e => hm (.inl e))
  · rintro k (e | e | e | e | e)
    · exact .inl (.inl (by rw [e, e1]))
    · exact .inl (.inr (.inl (by rw [e, e2])))
    · exact .inl (.inr (.inr (.inl (hgo k e))))
    · exact .inl (.inr (.inr (.inr (.inl (by rw [← e4]; exact e)))))
    · exact .inl (.inr (.inr (.inr (.inr (by rw [← e5]; exact e)))))
  · rintro k ((e | e | e | e | e) | ⟨j, v, hj, g1, g2⟩)
    · exact .inl (.inl (.inl (by rw [e, e1])))
    · exact .inl (.inl (.inr (.inl (by rw [e, e2]))))
    · exact .inl (.inl (.inr (.inr (.inl (hgo k e)))))
    · exact .inl (.inl (.inr (.inr (.inr (.inl (by rw [← e4]; exact e))))))
    · exact .inl (.inl (.inr (.inr (.inr (.inr (by rw [← e5]; exact e))))))
    · exact .inl (.inr ⟨j, v, by rw [← e8]; exact hj, by rw [← e6]; exact g1, g2⟩)
  · exact fun B w0 h0 hB => h0.setCell (by have := h.bo_ge; show B ≤ s.bo; omega) x
  · simp
theorem OIs.setErr {W : World} {base : Nat} {s : OSt} (h : OIs W base s) (r : Int) : OIs (W.setCell ⟨s.bo, 3, none⟩ (.int .i64 r)) base { s with err := r } ∧ OUp W (W.setCell ⟨s.bo, 3, none⟩ (.int .i64 r)) base s { s with err := r } :=
  h.setOut 3 _ rfl rfl rfl rfl rfl rfl rfl rfl rfl (.inl ⟨rfl, rfl⟩)
theorem OIs.setCnt {W : World} {base : Nat} {s : OSt} (h : OIs W base s) (r : Int) : OIs (W.setCell ⟨s.bo, 4, none⟩ (.int .i64 r)) base { s with cnt := r } ∧ OUp W (W.setCell ⟨s.bo, 4, none⟩ (.int .i64 r)) base s { s with cnt := r } :=
  h.setOut 4 _ rfl rfl rfl rfl rfl rfl rfl rfl rfl (.inl ⟨rfl, rfl⟩)
theorem OIs.clear {W : World} {base : Nat} {s : OSt} (h : OIs W base s) : OIs (W.setCell ⟨s.bo, 2, none⟩ (.slice none 0 0)) base { s with gv := .slice none 0 0, g := [] } ∧ OUp W (W.setCell ⟨s.bo, 2, none⟩ (.slice none 0 0)) base s { s with gv := .slice none 0 0, g := [] } :=
  h.setOut 2 _ rfl rfl rfl rfl rfl rfl rfl rfl rfl (.inr ⟨rfl, rfl⟩)

theorem hand1_d (w : World) (u : FrameMode) (x bo : Nat) (hx : w.cell? ⟨x, 0, none⟩ = some (.pointer (some ⟨bo, 0, none⟩))) (v : Value) (hc : w.cell? ⟨bo, 2, none⟩ = some v) (hf : w.frozen? ⟨bo, 2, none⟩ = false) :
    CallsD Try.prog 23 #[.pointer (some ⟨x, 0, none⟩)] u w fun e u' w' => u' = u ∧ (e = .returned (.tuple #[]) ∧ w' = w.setCell ⟨bo, 2, none⟩ (.slice none 0 0)) := by
  go_enter_d Try.func23, Try.ntmps23
  go_wp2
  go_end0
  exact ⟨rfl, rfl⟩

/-- The same output and sink, by their constants. -/
structure Same (s s' : OSt) : Prop where
  bo : s'.bo = s.bo
  bs : s'.bs = s.bs
  size : s'.size = s.size
  fail : s'.fail = s.fail
  ferr : s'.ferr = s.ferr
theorem Same.trans {s s1 s2 : OSt} (h : Same s s1) (k : Same s1 s2) : Same s s2 := ⟨k.bo.trans h.bo, k.bs.trans h.bs, k.size.trans h.size, k.fail.trans h.fail, k.ferr.trans h.ferr⟩
theorem Same.refl (s : OSt) : Same s s := ⟨rfl, rfl, rfl, rfl, rfl⟩
/-- What is gathered, said, the error, the count. -/
abbrev OM := List Int × List (List Int) × Int × Int
def omOf (s : OSt) : OM := (s.g, s.said, s.err, s.cnt)
def handM (fail ferr : Int) (m : OM) : OM := if m.1 = [] then m else ([], m.2.1 ++ [m.1], (if ((m.2.1.length : Nat) : Int) + 1 = fail then ferr else 0), if (if ((m.2.1.length : Nat) : Int) + 1 = fail then ferr else 0) = 0 then m.2.2.2 + (m.1.length : Nat) else m.2.2.2)
def HandPost (W : World) (base : Nat) (s : OSt) (e : Ending) (W' : World) : Prop := e = .returned (.tuple #[]) ∧ ∃ s', Same s s' ∧ omOf s' = handM s.fail s.ferr (omOf s) ∧ OIs W' base s' ∧ OUp W W' base s s'

set_option maxRecDepth 100000 in
set_option maxHeartbeats 2000000 in
theorem handOn_any (W : World) (base : Nat) (s : OSt) (h : OIs W base s) (hbase : base ≤ W.heap.size) (hgl : s.g.length ≤ 140737488351232) (hcnt : 0 ≤ s.cnt ∧ s.cnt ≤ 4611686018427387904) (hlen : s.said.length < 4294967296) :
    Calls Try.prog 18 #[.pointer (some ⟨s.bo, 0, none⟩)] W (HandPost W base s) := by
  have hb1 := (Below.refl W.heap.size W).alloc (Nat.le_refl _) (.cells #[.pointer (some ⟨s.bo, 0, none⟩)] 23)
  have h1 := h.below hb1
  have hu1 := OUp.of_below base s hbase hb1
  have hx1 : At (W.alloc (.cells #[.pointer (some ⟨s.bo, 0, none⟩)] 23)) W.heap.size 23 [.pointer (some ⟨s.bo, 0, none⟩)] := At.new W _ _
  have hs1 : base ≤ (W.alloc (.cells #[.pointer (some ⟨s.bo, 0, none⟩)] 23)).heap.size := by simp; omega
  obtain ⟨ag, cg, hgv⟩ := h1.og.shape
  obtain ⟨gn, hgn⟩ : ∃ k, s.g.length = k := ⟨_, rfl⟩
  rw [hgn] at hgv hgl
  have HGV := Lib.hid hgv
  have HGN := Lib.hid hgn
  have hbox : ∀ k, Blk s k → k < W.heap.size := fun k hk => (h.lt k hk).1
  have HBX := Lib.hid hbox
  clear hb1 h hgv hgn hbox
  go_enter_defers Try.func18, Try.ntmps18
  go_upto_region 1 with fail
  generalize W.alloc (.cells #[.pointer (some ⟨s.bo, 0, none⟩)] 23) = W1 at h1 hu1 hx1 hs1 ⊢
  generalize hxe : W.heap.size = x at hx1 HBX ⊢
  have c0 : W1.cell? ⟨x, 0, none⟩ = some (.pointer (some ⟨s.bo, 0, none⟩)) := hx1.cell 0
  have c2 : W1.cell? ⟨s.bo, 2, none⟩ = some (.slice ag gn cg) := by rw [← HGV.out]; exact h1.o.cell 2
  by_cases h0 : gn = 0
  · subst h0
    have hg0 : s.g = [] := List.eq_nil_of_length_eq_zero HGN.out
    have HP : Hid (∃ s', Same s s' ∧ omOf s' = handM s.fail s.ferr (omOf s) ∧ OIs W1 base s' ∧ OUp W W1 base s s') := Lib.hid ⟨s, Same.refl s, by unfold handM; rw [if_pos (show (omOf s).1 = [] from hg0)], h1, hu1⟩
    clear h1 hu1 hx1 hg0 hxe
    go_wp2_with fail
    exact ⟨_, results_none rfl _ _ _, rfl, HP.out⟩
  · have hne : ((gn : Int) == 0) = false := by simp; omega
    have hne' : 0 < gn := by omega
    clear h0
    obtain ⟨gb, hag⟩ : ∃ gb, ag = some ⟨gb, 0, none⟩ := by
      have ho := h1.og
      rw [HGV.out] at ho
      rcases ho.2 with ⟨q, q0⟩ | ⟨g, cap, cur, q, -⟩
      · rw [HGN.out] at q0; omega
      · simp only [Value.slice.injEq] at q; exact ⟨g, q.1⟩
    subst hag
    have c1 : W1.cell? ⟨s.bo, 1, none⟩ = some (.func (.func 15) #[.pointer (some ⟨s.bs, 0, none⟩)] #[]) := h1.o.cell 1
    have h1d : OIs W1.drew base s := h1.below (Below.refl _ _).drew
    have hu1d : OUp W W1.drew base s s := hu1.trans (OUp.of_below base s hs1 (Below.refl W1.heap.size W1).drew)
    have hsg : SB W1.drew (.slice (some ⟨gb, 0, none⟩) gn cg) s.g := by rw [← HGV.out]; exact h1d.og.sb h1d.gB (by rw [HGN.out]; omega)
    have HCL := Lib.hid (clone_any W1.drew gb gn cg s.g hsg (by rw [HGN.out]; omega))
    have HI := Lib.hid h1d
    have HU := Lib.hid hu1d
    have HX1 := Lib.hid (show At W1.drew x 23 [.pointer (some ⟨s.bo, 0, none⟩)] from hx1)
    have hxl : x < W1.heap.size := hx1.lt
    have hs1d : base ≤ W1.drew.heap.size := hs1
    have hxld : x < W1.drew.heap.size := hxl
    clear h1 hu1 hx1 hsg h1d hu1d
    go_upto_region 3 with fail
    go_cut [] from 9 to 38 (fun wx => ∃ sv tv vc v, OIs wx base { tookSt s sv tv vc v s.g with err := takeErr s } ∧ OUp W wx base s { tookSt s sv tv vc v s.g with err := takeErr s } ∧ wx.cell? ⟨x, 0, none⟩ = some (.pointer (some ⟨s.bo, 0, none⟩)) ∧ x < wx.heap.size)
    case first =>
      go_region_held3 (fun w' => w'.cell? ⟨x, 0, none⟩ = some (.pointer (some ⟨s.bo, 0, none⟩)) ∧ w'.cell? ⟨s.bo, 1, none⟩ = some (.func (.func 15) #[.pointer (some ⟨s.bs, 0, none⟩)] #[]) ∧ w'.cell? ⟨s.bo, 2, none⟩ = some (.slice (some ⟨gb, 0, none⟩) gn cg))
        (first | exact ⟨c0, c1, c2⟩ | exact ⟨k0, k1, k2⟩ | exact ⟨j0, j1, j2⟩ | exact ⟨i0, i1, i2⟩)
        (first | (go_at_call 24; (with_reducible refine HCL.out.mono ?_); rintro e w3 ⟨cv, rfl, oc, hb3⟩; have hI3 := HI.out.below hb3; obtain ⟨ac, cc, hcv⟩ := oc.shape; subst hcv; have hx3 := HX1.out.below hb3; have k0 : w3.cell? ⟨x, 0, none⟩ = some (.pointer (some ⟨s.bo, 0, none⟩)) := hx3.cell 0; have k1 : w3.cell? ⟨s.bo, 1, none⟩ = some (.func (.func 15) #[.pointer (some ⟨s.bs, 0, none⟩)] #[]) := hI3.o.cell 1; have k2 : w3.cell? ⟨s.bo, 2, none⟩ = some (.slice (some ⟨gb, 0, none⟩) gn cg) := (by rw [← HGV.out]; exact hI3.o.cell 2); have hb3s := Nat.le_trans hs1d hb3.size) | (go_at_call 15; (with_reducible refine (take_any w3 base s hI3 hb3s ac s.g.length cc s.g (oc.mono hs1d) hI3.gB (by rw [HGN.out]; omega) hlen).mono ?_); rintro e w4 ⟨rfl, sv, tv, vc, hI4, hU4⟩; have hbl4 := (hU4.keep x (Nat.lt_of_lt_of_le hxld hb3.size) (fun hm => Nat.lt_irrefl _ (HBX.out x (.inl hm)))); have hx4 := hx3.keep hbl4; have j0 : w4.cell? ⟨x, 0, none⟩ = some (.pointer (some ⟨s.bo, 0, none⟩)) := hx4.cell 0; have j1 : w4.cell? ⟨s.bo, 1, none⟩ = some (.func (.func 15) #[.pointer (some ⟨s.bs, 0, none⟩)] #[]) := hI4.o.cell 1; have j2 : w4.cell? ⟨s.bo, 2, none⟩ = some (.slice (some ⟨gb, 0, none⟩) gn cg) := (by rw [← HGV.out]; exact hI4.o.cell 2); have j3 : w4.cell? ⟨s.bo, 3, none⟩ = some (.int .i64 s.err) := hI4.o.cell 3; have jf : w4.frozen? ⟨s.bo, 3, none⟩ = false := hI4.o.frozen 3; have hI5 := (hI4.setErr (takeErr s)).1; have hx5 : At (w4.setCell ⟨s.bo, 3, none⟩ (.int .i64 (takeErr s))) x 23 [.pointer (some ⟨s.bo, 0, none⟩)] := hx4.keep (heap_setCell_other w4 ⟨s.bo, 3, none⟩ x _ (fun e => Nat.lt_irrefl _ (HBX.out x (.inl (.inl e))))); have i0 : (w4.setCell ⟨s.bo, 3, none⟩ (.int .i64 (takeErr s))).cell? ⟨x, 0, none⟩ = some (.pointer (some ⟨s.bo, 0, none⟩)) := hx5.cell 0; have i1 : (w4.setCell ⟨s.bo, 3, none⟩ (.int .i64 (takeErr s))).cell? ⟨s.bo, 1, none⟩ = some (.func (.func 15) #[.pointer (some ⟨s.bs, 0, none⟩)] #[]) := hI5.o.cell 1; have i2 : (w4.setCell ⟨s.bo, 3, none⟩ (.int .i64 (takeErr s))).cell? ⟨s.bo, 2, none⟩ = some (.slice (some ⟨gb, 0, none⟩) gn cg) := (by rw [← HGV.out]; exact hI5.o.cell 2)))
      have hUf := ((HU.out.trans (OUp.of_below base s hs1d hb3)).trans hU4).trans (hI4.setErr (takeErr s)).2
      have hxlf : x < (w4.setCell ⟨s.bo, 3, none⟩ (.int .i64 (takeErr s))).heap.size := hx5.lt
      have HF : Hid (∃ sv tv vc v, OIs (w4.setCell ⟨s.bo, 3, none⟩ (.int .i64 (takeErr s))) base { tookSt s sv tv vc v s.g with err := takeErr s } ∧ OUp W (w4.setCell ⟨s.bo, 3, none⟩ (.int .i64 (takeErr s))) base s { tookSt s sv tv vc v s.g with err := takeErr s } ∧ (w4.setCell ⟨s.bo, 3, none⟩ (.int .i64 (takeErr s))).cell? ⟨x, 0, none⟩ = some (.pointer (some ⟨s.bo, 0, none⟩)) ∧ x < (w4.setCell ⟨s.bo, 3, none⟩ (.int .i64 (takeErr s))).heap.size) := Lib.hid ⟨sv, tv, vc, _, hI5, hUf, i0, hxlf⟩
      clear hUf hxlf hI5 hx5 i0 i1 i2 j0 j1 j2 j3 jf hx4 hbl4 hI4 hU4 k0 k1 k2 hx3 hI3 oc hb3 hb3s
      go_wp2_with fail
      go_meet
      case rel => exact HF.out
    case rest =>
      obtain ⟨sv, tv, vc, v, hI, hU, hb, hxw⟩ := hcut
      clear c0 c1 c2 HCL HI HU HX1
      have hTE : takeErr s = if ((s.said.length : Nat) : Int) + 1 = s.fail then s.ferr else 0 := rfl
      generalize takeErr s = r at hI hU hTE
      have c3 : wc.cell? ⟨s.bo, 3, none⟩ = some (.int .i64 r) := hI.o.cell 3
      have c2 : wc.cell? ⟨s.bo, 2, none⟩ = some (.slice (some ⟨gb, 0, none⟩) gn cg) := (by rw [← HGV.out]; exact hI.o.cell 2)
      have c4 : wc.cell? ⟨s.bo, 4, none⟩ = some (.int .i64 s.cnt) := hI.o.cell 4
      have hf4 : wc.frozen? ⟨s.bo, 4, none⟩ = false := hI.o.frozen 4
      have hf2 : wc.frozen? ⟨s.bo, 2, none⟩ = false := hI.o.frozen 2
      have HI := Lib.hid hI
      have HU := Lib.hid hU
      have HTE := Lib.hid hTE
      clear hI hU hTE
      have hgne : (omOf s).1 ≠ [] := fun e => by have e2 : s.g = [] := e; have := HGN.out; rw [e2] at this; simp at this; omega
      have HGE := Lib.hid hgne
      clear hgne
      by_cases hr : r = 0
      · have hrb : (r == 0) = true := by simpa using hr
        have HR := Lib.hid hr
        have a1 : IntKind.i64.wrap (s.cnt + (gn : Int)) = s.cnt + (gn : Int) := IntWalk.i64_in _ (by omega)
        have HID := Lib.hid (show OIs (wc.drewN 1) base _ from HI.out.below (below_drewN (Below.refl _ _) 1))
        have HUD := Lib.hid (show OUp W (wc.drewN 1) base s _ from HU.out.trans (OUp.of_below base _ (Nat.le_trans hbase HU.out.size) (below_drewN (Below.refl _ _) 1)))
        clear hr
        go_upto_region 5 with fail
        go_still_tail 12, (by kernel_rfl)
        have e : ({ heap := wc.heap, tape := wc.tape, drawn := wc.drawn + 1, os := wc.os, output := wc.output } : World) = wc.drewN 1 := rfl
        rw [e]
        clear e
        have b0 : (wc.drewN 1).cell? ⟨x, 0, none⟩ = some (.pointer (some ⟨s.bo, 0, none⟩)) := hb
        have b4 : (wc.drewN 1).cell? ⟨s.bo, 4, none⟩ = some (.int .i64 s.cnt) := c4
        have bf4 : (wc.drewN 1).frozen? ⟨s.bo, 4, none⟩ = false := hf4
        have hxs : x ≠ s.bo := fun e => Nat.lt_irrefl x (HBX.out x (.inl (.inl e)))
        have hct := HID.out.setCnt (s.cnt + (gn : Int))
        have b2' : ((wc.drewN 1).setCell ⟨s.bo, 4, none⟩ (.int .i64 (s.cnt + (gn : Int)))).cell? ⟨s.bo, 2, none⟩ = some (.slice (some ⟨gb, 0, none⟩) gn cg) := (by rw [← HGV.out]; exact hct.1.o.cell 2)
        have bf2' : ((wc.drewN 1).setCell ⟨s.bo, 4, none⟩ (.int .i64 (s.cnt + (gn : Int)))).frozen? ⟨s.bo, 2, none⟩ = false := hct.1.o.frozen 2
        have b0' : ((wc.drewN 1).setCell ⟨s.bo, 4, none⟩ (.int .i64 (s.cnt + (gn : Int)))).cell? ⟨x, 0, none⟩ = some (.pointer (some ⟨s.bo, 0, none⟩)) := (World.cell?_of_block (w := wc.drewN 1) (heap_setCell_other _ ⟨s.bo, 4, none⟩ x _ hxs)).trans b0
        have HCT := Lib.hid hct
        clear hct c3 c2 c4 hf4 hf2 hb
        go_wp2_with fail
        refine leaves_cons (f := 23) (args := #[.pointer (some ⟨x, 0, none⟩)]) (by simp) (by simp [go_sem]) ?_
        refine (hand1_d _ .returning x s.bo b0' _ b2' bf2').mono ?_
        rintro e u' w'' ⟨rfl, rfl, rfl⟩
        have hcl := HCT.out.1.clear
        refine ⟨_, results_none rfl _ _ _, rfl, _, ?_, ?_, hcl.1, (HUD.out.trans HCT.out.2).trans hcl.2⟩
        · exact ⟨rfl, rfl, rfl, rfl, rfl⟩
        · unfold handM
          rw [if_neg HGE.out]
          have e1 : (if (((omOf s).2.1.length : Nat) : Int) + 1 = s.fail then s.ferr else 0) = r := HTE.out.symm
          rw [e1, if_pos HR.out]
          show (([] : List Int), s.said ++ [s.g], r, s.cnt + (gn : Int)) = ([], s.said ++ [s.g], r, s.cnt + ((s.g.length : Nat) : Int))
          rw [HGN.out]
      · have hrb : (r == 0) = false := by simpa using hr
        have HR := Lib.hid hr
        clear hr
        go_wp2_with fail
        refine leaves_cons (f := 23) (args := #[.pointer (some ⟨x, 0, none⟩)]) (by simp) (by simp [go_sem]) ?_
        refine (hand1_d _ .returning x s.bo hb _ c2 hf2).mono ?_
        rintro e u' w'' ⟨rfl, rfl, rfl⟩
        have hcl := HI.out.clear
        refine ⟨_, results_none rfl _ _ _, rfl, _, ?_, ?_, hcl.1, HU.out.trans hcl.2⟩
        · exact ⟨rfl, rfl, rfl, rfl, rfl⟩
        · unfold handM
          rw [if_neg HGE.out]
          show (([] : List Int), s.said ++ [s.g], r, s.cnt) = ([], s.said ++ [s.g], _, _)
          have e1 : (if (((omOf s).2.1.length : Nat) : Int) + 1 = s.fail then s.ferr else 0) = r := HTE.out.symm
          rw [e1, if_neg HR.out]
          rfl
end Go.Proofs.Ytbdgolbejoheiaa

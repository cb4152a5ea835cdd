/-
  fill.written; fill.Print's closure.
-/
import Derived.Test.YtdbkoephkdfbfaaDoorSigns
import Derived.Test.YtdbkoephkdfbfaaDoorGroup
namespace Go.Proofs.YtdbkoephkdfbfaaDoor
open Go.RowKit

def WrittenPost (w : World) (l : List Int) (e : Ending) (w' : World) : Prop := e = .returned (.slice (some ⟨w.heap.size, 0, none⟩) l.length l.length) ∧ SB w' (.slice (some ⟨w.heap.size, 0, none⟩) l.length l.length) l ∧ Below w.heap.size w w'
theorem written_post (w : World) (l : List Int) (n : Nat) (cs : Array Value) (e : Ending) (he : e = .returned (.slice (some ⟨w.heap.size, 0, none⟩) n n)) (hn : n = l.length) (h : cs = row l) (hB : l.all (fun x => decide (0 ≤ x ∧ x ≤ 255)) = true) (hl : l.length ≤ 140737488351232) :
    WrittenPost w l e (w.alloc (.cells cs 5)) := by
  subst hn
  exact ⟨he, SB.lit w _ l cs (0, 0) _ h hB hl, (Below.refl _ w).alloc (Nat.le_refl _) _⟩
theorem all_one (b : Int) (h0 : 0 ≤ b) (h1 : b ≤ 255) : [b].all (fun x => decide (0 ≤ x ∧ x ≤ 255)) = true := by simp; omega
theorem all_two (a b : Int) (ha : 0 ≤ a ∧ a ≤ 255) (h0 : 0 ≤ b) (h1 : b ≤ 255) : [a, b].all (fun x => decide (0 ≤ x ∧ x ≤ 255)) = true := by simp; omega

set_option maxRecDepth 100000 in
theorem written_any (w : World) (b : Int) (h0 : 0 ≤ b) (h1 : b ≤ 255) : Calls Tryd.prog 99 #[.int .u8 b] w (WrittenPost w (wrB b)) := by
  unfold wrB
  by_cases h2 : b = 38 ∨ b = 92
  · rw [if_pos h2]
    rcases h2 with rfl | rfl
    · go_enter Tryd.func99, Tryd.ntmps99
      go_wp2
      go_ret
      exact written_post w [92, 38] 2 _ _ rfl rfl rfl (by decide) (by decide)
    · go_enter Tryd.func99, Tryd.ntmps99
      go_wp2
      go_ret
      exact written_post w [92, 92] 2 _ _ rfl rfl rfl (by decide) (by decide)
  · rw [if_neg h2]
    have hq1 : (b == 38) = false := beq_eq_false_iff_ne.2 (by omega)
    have hq2 : (b == 92) = false := beq_eq_false_iff_ne.2 (by omega)
    by_cases h3 : b = 10
    · rw [if_pos h3]
      subst h3
      clear hq1 hq2 h2
      go_enter Tryd.func99, Tryd.ntmps99
      go_wp2
      go_ret
      exact written_post w [92, 110] 2 _ _ rfl rfl rfl (by decide) (by decide)
    · rw [if_neg h3]
      have hq3 : (b == 10) = false := beq_eq_false_iff_ne.2 h3
      clear h2 h3
      go_enter Tryd.func99, Tryd.ntmps99
      go_wp2
      go_ret
      exact written_post w [b] 1 _ _ rfl rfl rfl (all_one b h0 h1) (by simp)

/-- What Print holds: the marks so far in a variable. -/
def Pt (w : World) (base go : Nat) (vo : Value) (m : List Mk) : Prop := w.heap[go]? = some (.cells #[vo] 72 (0, 0)) ∧ OwnM w base vo m ∧ go < base ∧ base ≤ w.heap.size
theorem OwnM.below {w w' : World} {base : Nat} {v : Value} {l : List Mk} (h : OwnM w base v l) (hb : Below w.heap.size w w') : OwnM w' base v l := own_below h hb
theorem Pt.below {w w' : World} {base go : Nat} {vo : Value} {m : List Mk} (h : Pt w base go vo m) (hb : Below w.heap.size w w') : Pt w' base go vo m := by
  obtain ⟨h1, h2, h3, h4⟩ := h
  exact ⟨by rw [hb.block go (by omega)]; exact h1, h2.below hb, h3, by have := hb.size; omega⟩
theorem Pt.far {w : World} {base go : Nat} {vo : Value} {m : List Mk} (h : Pt w base go vo m) {b : Nat} (hb : w.heap.size ≤ b) : b ≠ go ∧ vo.ownBlock ≠ some b :=
  ⟨by have := h.2.2.1; have := h.2.2.2; omega, fun e => by have := (World.ownsRow.lt h.2.1 b e).2; omega⟩
/-- All that lies below is as it was. -/
def KeptO (w w' : World) (go base : Nat) : Prop := ∀ B a, Below B a w → B ≤ go → B ≤ base → Below B a w'
theorem keptO_refl (w : World) (go base : Nat) : KeptO w w go base := fun _ _ h _ _ => h
theorem keptO_trans {w w1 w2 : World} {base go : Nat} (h1 : KeptO w w1 go base) (h2 : KeptO w1 w2 go base) : KeptO w w2 go base := fun B a h a1 a2 => h2 B a (h1 B a h a1 a2) a1 a2
theorem keptO_below {w w1 : World} {base go : Nat} (hb : Below w.heap.size w w1) (hs : base ≤ w.heap.size) : KeptO w w1 go base := fun B _ h _ h2 => h.trans (hb.mono (by omega))

theorem pt_app {w w' : World} {base go : Nat} {vo vo' : Value} {m m' : List Mk} (h : Pt w base go vo m) (hA : AppPost w w' base vo vo') (hown : OwnM w' base vo' m') :
    Pt (w'.setCell ⟨go, 0, none⟩ vo') base go vo' m' ∧ KeptO w (w'.setCell ⟨go, 0, none⟩ vo') go base ∧ w'.cell? ⟨go, 0, none⟩ = some vo ∧ w'.frozen? ⟨go, 0, none⟩ = false := by
  obtain ⟨h1, h2, h3, h4⟩ := h
  have g1 : w'.heap[go]? = some (.cells #[vo] 72 (0, 0)) := by rw [app_block hA h2 h3 h4]; exact h1
  exact ⟨⟨one_setCell g1, hown.setBelow (a := ⟨go, 0, none⟩) h3 _, h3, by rw [setCell_size]; exact Nat.le_trans h4 hA.size⟩, fun B a h b1 b2 => (hA.bel _ _ h b2).setCell (by exact b1) _, cell_of_one g1, free_of_one g1⟩
/-- Another block stays. -/
theorem pt_block {w w' : World} {base go b : Nat} {vo vo' : Value} (hA : AppPost w w' base vo vo') (hb : b < w.heap.size) (h1 : b ≠ go) (h2 : vo.ownBlock ≠ some b) : (w'.setCell ⟨go, 0, none⟩ vo').heap[b]? = w.heap[b]? ∧ vo'.ownBlock ≠ some b := by
  refine ⟨?_, fun e => ?_⟩
  · rw [heap_setCell_other _ _ _ _ (by first | exact h1 | exact fun e => h1 e.symm), hA.block b hb h2]
  · rcases hA.new b e with h | h
    · exact h2 h
    · omega

def PutPost (w : World) (base go : Nat) (m : List Mk) (e : Ending) (w' : World) : Prop := e = .returned (.tuple #[]) ∧ ∃ vo, Pt w' base go vo m ∧ KeptO w w' go base ∧ w.heap.size ≤ w'.heap.size

set_option maxHeartbeats 1000000 in
set_option maxRecDepth 100000 in
theorem put_any (w : World) (base go : Nat) (vo : Value) (m : List Mk) (hP : Pt w base go vo m) (b o n c : Nat) (l : List Int) (hs : SB w (.slice (some ⟨b, o, none⟩) n c) l) (hb1 : b ≠ go) (hb2 : vo.ownBlock ≠ some b) (hb3 : b < w.heap.size) (hml : m.length + n ≤ 70368744177664) :
    Calls Tryd.prog 98 #[.slice (some ⟨b, o, none⟩) n c, .pointer (some ⟨go, 0, none⟩)] w (PutPost w base go (m ++ asMarks l)) := by
  obtain ⟨hl, hn⟩ := hs.len
  have HL := Lib.hid hl
  have HB := Lib.hid hs.1
  have HC := Lib.hid hs.cells.2
  have HP := Lib.hid hP
  clear hl hs hP
  go_enter Tryd.func98, Tryd.ntmps98
  go_wp2
  go_loopw [7] (fun i wr => ∃ (k : Nat) (vo' : Value), k ≤ n ∧ i = .int .i64 k ∧ Pt wr base go vo' (m ++ asMarks (l.take k)) ∧ KeptO w wr go base ∧ wr.heap[b]? = w.heap[b]? ∧ vo'.ownBlock ≠ some b ∧ w.heap.size ≤ wr.heap.size) (fun i _ => n - (intOf i).toNat)
  case atStart => exact ⟨0, vo, Nat.zero_le _, rfl, by simp [asMarks]; exact HP.out, keptO_refl _ _ _, rfl, hb2, Nat.le_refl _⟩
  case round =>
    obtain ⟨k, v1, hk, rfl, hP, hK, hblk, hne, hsz⟩ := hrel
    have hlen : (m ++ asMarks (l.take k)).length ≤ m.length + k := by rw [List.length_append, asMarks_len, List.length_take]; omega
    have HBL := Lib.hid hblk
    clear hblk
    by_cases hlt : k < n
    · have hc : wr.cell? ⟨b, o + k, none⟩ = some (.int .u8 (l[k]?.getD 0)) := (World.cell?_of_block (a := ⟨b, o + k, none⟩) HBL.out).trans (HC.out k hlt)
      have hx := HB.out k
      have hst := take_snoc l k (by rw [HL.out]; exact hlt)
      generalize l[k]?.getD 0 = x at hc hx hst
      have HST : Hid (m ++ asMarks (l.take (k + 1)) = (m ++ asMarks (l.take k)) ++ [(x, false)]) := by rw [hst, asMarks_append, ← List.append_assoc]; exact Lib.hid rfl
      clear hst
      generalize m ++ asMarks (l.take k) = ex at hP hlen HST
      have hbs := hP.2.2.2
      obtain ⟨av, cv, rfl⟩ := own_shape hP.2.1
      have c1 := cell_of_one hP.1
      have HP1 := Lib.hid hP
      have ho := hP.2.1
      clear hP
      go_wp2_with (at_builtin; refine append_mk rfl (.tmp 11) (.tmp 14) rfl base _ ex [(x, false)] _ 1 rfl rfl rfl ho rfl (by omega) hbs ?_)
      intro v' w1 ho1 hA
      obtain ⟨g1, g2, g3, g4⟩ := pt_app HP1.out hA ho1
      obtain ⟨g5, g6⟩ := pt_block (go := go) hA (b := b) (by omega) hb1 hne
      have hsz1 := hA.size
      obtain ⟨av1, nv1, cv1, rfl⟩ : ∃ a n c, v' = .slice a n c := by obtain ⟨a, c, h⟩ := own_shape ho1; exact ⟨a, _, c, h⟩
      rw [← HST.out] at g1
      have G1 := Lib.hid g1
      have G2 := Lib.hid g2
      have G5 := Lib.hid (g5.trans HBL.out)
      clear g1 g2 g5 ho ho1 hA c1
      go_wp2_with fail
      go_roundw
      case rel => exact ⟨k + 1, _, by omega, by go_num, G1.out, keptO_trans hK G2.out, G5.out, g6, by rw [setCell_size]; omega⟩
      case measure => simp [intOf]; omega
    · have e : l.take k = l := List.take_of_length_le (by rw [HL.out]; omega)
      rw [e] at hP
      clear e hlen
      have HP1 := Lib.hid hP
      clear hP
      go_wp2_with fail
      go_end0
      exact ⟨rfl, v1, HP1.out, hK, hsz⟩
end Go.Proofs.YtdbkoephkdfbfaaDoor

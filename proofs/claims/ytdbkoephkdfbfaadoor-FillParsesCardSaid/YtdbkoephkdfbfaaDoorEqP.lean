/-
  galleyref00.EqPieces: two lists of pieces are the same.
-/
import Derived.Test.YtdbkoephkdfbfaaDoorPieces
import Derived.Test.YtdbkoephkdfbfaaDoorEq
import Derived.Deep.RegionHeld3
import Derived.Deep.DeepCutAuto
namespace Go.Proofs.YtdbkoephkdfbfaaDoor
open Go.RowKit

theorem eqPiece_any (w : World) (g1 g2 : Int) (a1 : Option Addr) (n1 c1 : Nat) (t1 : List Int) (s1 : SB w (.slice a1 n1 c1) t1) (a2 : Option Addr) (n2 c2 : Nat) (t2 : List Int) (s2 : SB w (.slice a2 n2 c2) t2) :
    Calls Tryd.prog 94 #[.agg #[.int .i64 g1, .slice a1 n1 c1], .agg #[.int .i64 g2, .slice a2 n2 c2]] w fun e w' => e = .returned (.bool (decide ((g1, t1) = (g2, t2)))) ∧ Below w.heap.size w w' := by
  have b1 := (Below.refl w.heap.size w).alloc (Nat.le_refl _) (.cells #[.int .i64 g1, .slice a1 n1 c1] 122)
  have b2 := b1.alloc b1.size (.cells #[.int .i64 g2, .slice a2 n2 c2] 122)
  have HE := Lib.hid (eqBytes_any _ _ _ t1 t2 (s1.below b2) (s2.below b2))
  by_cases hg : g1 = g2
  · subst hg
    have hd : Hid (decide ((g1, t1) = (g1, t2)) = decide (t1 = t2)) := by simp [Hid]
    have hq : (g1 == g1) = true := beq_self_eq_true g1
    clear b1 s1 s2
    go_enter Tryd.func94, Tryd.ntmps94
    go_wp2_with fail
    refine HE.out.mono ?_
    rintro e w1 ⟨rfl, n, rfl⟩
    have b3 := b2.trans ((below_drewN (Below.refl _ _) n).mono b2.size)
    clear HE
    go_wp2_with fail
    go_ret
    exact ⟨ret_bool hd.out.symm, b3⟩
  · have hq : (g1 == g2) = false := beq_eq_false_iff_ne.2 hg
    have hd : Hid (decide ((g1, t1) = (g2, t2)) = false) := by simp [Hid, hg]
    clear HE b1 s1 s2 hg
    go_enter Tryd.func94, Tryd.ntmps94
    go_wp2_with fail
    go_ret
    exact ⟨ret_bool hd.out.symm, b2⟩

theorem takeG_eq_step {α : Type} (d : α) (a b : List α) (k : Nat) (h : k < a.length) (hl : a.length = b.length) (ht : a.take k = b.take k) (he : a[k]?.getD d = b[k]?.getD d) : a.take (k + 1) = b.take (k + 1) := by
  rw [take_snocG a d k h, take_snocG b d k (by omega), ht, he]

/-- What a region over two pairs of cells holds. -/
def EqS (w w' : World) (b1 o1 b2 o2 : Nat) (x1 y1 x2 y2 : Value) : Prop :=
  (w'.cell? ⟨b1, o1, none⟩ = some x1 ∧ w'.cell? ⟨b1, o1 + 1, none⟩ = some y1) ∧ (w'.cell? ⟨b2, o2, none⟩ = some x2 ∧ w'.cell? ⟨b2, o2 + 1, none⟩ = some y2) ∧ Below w.heap.size w w'
theorem EqS.bel {w w' : World} {b1 o1 b2 o2 : Nat} {x1 y1 x2 y2 : Value} (h : EqS w w' b1 o1 b2 o2 x1 y1 x2 y2) : Below w.heap.size w w' := h.2.2
theorem EqS.drew {w w' : World} {b1 o1 b2 o2 : Nat} {x1 y1 x2 y2 : Value} (h : EqS w w' b1 o1 b2 o2 x1 y1 x2 y2) : EqS w w'.drew b1 o1 b2 o2 x1 y1 x2 y2 := ⟨h.1, h.2.1, h.2.2.drew⟩
theorem EqS.keep {w w' w2 : World} {b1 o1 b2 o2 : Nat} {x1 y1 x2 y2 : Value} (h : EqS w w' b1 o1 b2 o2 x1 y1 x2 y2) (hb : Below w'.heap.size w' w2) : EqS w w2 b1 o1 b2 o2 x1 y1 x2 y2 := by
  obtain ⟨⟨h1, h2⟩, ⟨h3, h4⟩, h5⟩ := h
  exact ⟨⟨(hb.cell (World.block_lt_of_cell? _ _ h1)).trans h1, (hb.cell (World.block_lt_of_cell? _ _ h2)).trans h2⟩, ⟨(hb.cell (World.block_lt_of_cell? _ _ h3)).trans h3, (hb.cell (World.block_lt_of_cell? _ _ h4)).trans h4⟩, h5.trans (hb.mono h5.size)⟩

set_option maxHeartbeats 2000000 in
theorem eqPieces_any (w : World) (aa : Option Addr) (na ca : Nat) (a : List Pc) (sa : PS w (.slice aa na ca) a) (ab : Option Addr) (nb cb : Nat) (b : List Pc) (sb : PS w (.slice ab nb cb) b) :
    Calls Tryd.prog 34 #[.slice aa na ca, .slice ab nb cb] w fun e w' => e = .returned (.bool (decide (a = b))) ∧ Below w.heap.size w w' := by
  obtain ⟨hal, han, _⟩ := sa.len
  obtain ⟨hbl, hbn, _⟩ := sb.len
  have HAL := Lib.hid hal
  have HBL := Lib.hid hbl
  clear hal hbl
  by_cases hl : na = nb
  · subst hl
    have hne : ((na : Int) != (na : Int)) = false := by rw [bne_eq_false_iff_eq]
    go_enter Tryd.func34, Tryd.ntmps34
    go_wp2
    go_loopw [5] (fun i wr => ∃ k : Nat, k ≤ na ∧ i = .int .i64 k ∧ a.take k = b.take k ∧ Below w.heap.size w wr) (fun i _ => na - (intOf i).toNat)
    case atStart => exact ⟨0, Nat.zero_le _, rfl, rfl, Below.refl _ _⟩
    case round =>
      obtain ⟨k, hk, rfl, ht, rb⟩ := hrel
      have Ht := Lib.hid ht
      have hbs := rb.size
      clear ht
      by_cases hlt : k < na
      · have sa1 := sa.below rb
        have sb1 := sb.below rb
        obtain ⟨ba, oa, rfl, hca⟩ := sa1.read k hlt
        obtain ⟨bb, ob, rfl, hcb⟩ := sb1.read k hlt
        obtain ⟨ha1, ada, ma, cca, ha2, sta, -, -⟩ := hca k hlt
        obtain ⟨hb1, adb, mb, ccb, hb2, stb, -, -⟩ := hcb k hlt
        have hst := fun he => takeG_eq_step (0, []) a b k (by rw [HAL.out]; exact hlt) (by rw [HAL.out, HBL.out]) Ht.out he
        have hnd : a[k]?.getD (0, []) ≠ b[k]?.getD (0, []) → decide (a = b) = false := by
          intro hne; simp; intro e; exact hne (by rw [e])
        clear hca hcb sa1 sb1
        generalize a[k]?.getD (0, []) = x at ha1 ha2 sta hst hnd
        generalize b[k]?.getD (0, []) = y at hb1 hb2 stb hst hnd
        obtain ⟨gx, tx⟩ := x
        obtain ⟨gy, ty⟩ := y
        simp only at ha1 ha2 sta hb1 hb2 stb
        have HST := Lib.hid hst
        have HND := Lib.hid hnd
        clear hst hnd
        go_upto_region 6 with fail
        go_cut [26] (fun v wx => v = .bool (!decide ((gx, tx) = (gy, ty))) ∧ Below w.heap.size w wx)
        case first =>
          have HC := Lib.hid (fun (W : World) (h : (W.cell? ⟨ba, oa + k * 2, none⟩ = some (.int .i64 gx) ∧ W.cell? ⟨ba, oa + k * 2 + 1, none⟩ = some (.slice ada ma cca)) ∧ (W.cell? ⟨bb, ob + k * 2, none⟩ = some (.int .i64 gy) ∧ W.cell? ⟨bb, ob + k * 2 + 1, none⟩ = some (.slice adb mb ccb)) ∧ Below wr.heap.size wr W) => eqPiece_any W gx gy ada ma cca tx (sta.below h.2.2) adb mb ccb ty (stb.below h.2.2))
          have HS : Hid (EqS wr wr ba (oa + k * 2) bb (ob + k * 2) (.int .i64 gx) (.slice ada ma cca) (.int .i64 gy) (.slice adb mb ccb)) := Lib.hid ⟨⟨ha1, ha2⟩, ⟨hb1, hb2⟩, Below.refl _ _⟩
          clear ha1 ha2 hb1 hb2 sta stb
          go_region_held3 (fun w' => (w'.cell? ⟨ba, oa + k * 2, none⟩ = some (.int .i64 gx) ∧ w'.cell? ⟨ba, oa + k * 2 + 1, none⟩ = some (.slice ada ma cca)) ∧ (w'.cell? ⟨bb, ob + k * 2, none⟩ = some (.int .i64 gy) ∧ w'.cell? ⟨bb, ob + k * 2 + 1, none⟩ = some (.slice adb mb ccb)) ∧ Below wr.heap.size wr w')
            (first | exact HS.out.drew | assumption | exact EqS.keep (by assumption) (by assumption))
            ((go_at_call 94; refine (HC.out _ (by assumption)).mono ?_; rintro e w' ⟨rfl, hb'⟩))
          obtain ⟨-, -, hB⟩ := (by assumption : (w'.cell? ⟨ba, oa + k * 2, none⟩ = some (.int .i64 gx) ∧ _) ∧ _ ∧ Below wr.heap.size wr w')
          go_wp2_with fail
          go_meet
          case rel => exact ⟨by simp, rb.trans (hB.mono hbs)⟩
        case rest =>
          obtain ⟨rfl, hb6⟩ := hcut
          clear ha1 ha2 hb1 hb2
          by_cases he : (gx, tx) = (gy, ty)
          · have hd : decide ((gx, tx) = (gy, ty)) = true := by simpa using he
            have Hst := Lib.hid (HST.out he)
            rw [hd]
            clear he hd
            go_wp2_with fail
            go_roundw
            case rel => exact ⟨k + 1, by omega, by go_num, Hst.out, hb6⟩
            case measure => simp [intOf]; omega
          · have hd : decide ((gx, tx) = (gy, ty)) = false := by simpa using he
            have Hd := Lib.hid (HND.out he)
            rw [hd]
            clear he hd
            go_wp2_with fail
            go_ret
            exact ⟨ret_bool Hd.out.symm, hb6⟩
      · have hd : decide (a = b) = true := by
          have := Ht.out
          rw [List.take_of_length_le (by rw [HAL.out]; omega), List.take_of_length_le (by rw [HBL.out]; omega)] at this
          simpa using this
        have Hd := Lib.hid hd
        clear hd
        go_wp2_with fail
        go_ret
        exact ⟨ret_bool Hd.out.symm, rb⟩
  · have hne : ((na : Int) != (nb : Int)) = true := by rw [bne_iff_ne]; omega
    have hd : Hid (decide (a = b) = false) := by
      simp only [Hid, decide_eq_false_iff_not]; intro e; exact hl (by rw [← HAL.out, ← HBL.out, e])
    clear hl
    go_enter Tryd.func34, Tryd.ntmps34
    go_wp2
    go_ret
    exact ⟨ret_bool hd.out.symm, Below.refl _ _⟩
end Go.Proofs.YtdbkoephkdfbfaaDoor

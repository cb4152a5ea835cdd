/-
  outs.Out.Write.
-/
import Derived.Test.YtbdgolbejoheiaaOps
import Derived.Test.YtbdgolbejoheiaaLists
import Derived.BigQuiet
namespace Go.Proofs.Ytbdgolbejoheiaa
open Go.RowKit

/-- v reads as the rows R as long as the blocks N lie. -/
def RBS (W : World) (N : Nat → Prop) (v : Value) (R : List (List Int)) : Prop := ∀ W' : World, W.heap.size ≤ W'.heap.size → (∀ k, N k → W'.heap[k]? = W.heap[k]?) → RB W' v R
theorem RBS.rb {W : World} {N : Nat → Prop} {v : Value} {R : List (List Int)} (h : RBS W N v R) : RB W v R := h W (Nat.le_refl _) fun _ _ => rfl
theorem RBS.up {W W1 : World} {N : Nat → Prop} {v : Value} {R : List (List Int)} (h : RBS W N v R) {base : Nat} {s s' : OSt} (hu : OUp W W1 base s s') (hN : ∀ k, N k → k < W.heap.size ∧ ¬ Mut s k) : RBS W1 N v R :=
  fun W' h1 h2 => h W' (Nat.le_trans hu.size h1) fun k hk => (h2 k hk).trans (hu.keep k (hN k hk).1 (hN k hk).2)

theorem own_slice {W : World} {base s n : Nat} {e : TypeId} {v : Value} {xs : List Value} (h : W.ownsRow base e s v n xs) : ∃ a m c, v = .slice a m c := by
  rcases h.2 with ⟨rfl, _⟩ | ⟨g, cap, cur, rfl, _⟩
  · exact ⟨_, _, _, rfl⟩
  · exact ⟨_, _, _, rfl⟩

/-- What is gathered grows. -/
theorem OIs.gather {W W' : World} {base : Nat} {s : OSt} {v' : Value} {p : List Int} (h : OIs W base s) (hp : AppPost W W' base s.gv v') (ho : OwnB W' base v' (s.g ++ p)) (hB : IsB p) :
    At W' s.bo TOut (outCells s) ∧ OIs (W'.setCell ⟨s.bo, 2, none⟩ v') base { s with gv := v', g := s.g ++ p } ∧ OUp W (W'.setCell ⟨s.bo, 2, none⟩ v') base s { s with gv := v', g := s.g ++ p } := by
  have kO : KeepT TOut W W' := KeepT.of_app h.og hp neOB.symm
  have kS : KeepT TSink W W' := KeepT.of_app h.og hp neSB.symm
  have kL : KeepT 25 W W' := KeepT.of_app h.og hp neBL
  have ho1 : At W' s.bo TOut (outCells s) := (kO s.bo _ h.o).trans h.o
  have hk1 : At W' s.bs TSink (sinkCells s) := (kS s.bs _ h.k).trans h.k
  have hx := out_keep W' s 2 v'
  have ne : ∀ {e : TypeId} {v : Value} {z : Nat} {xs : List Value}, W'.ownsRow base e 1 v z xs → TOut ≠ e → ∀ k, v.ownBlock = some k → k ≠ s.bo := fun ho hne k hk e => by
    subst e; exact ho1.ne_own ho hne hk
  have sv1 := kL.own h.osv
  have tv1 := kL.own h.otv
  refine ⟨ho1, ⟨ho1.set 2 v', hk1.keep (hx _ (ho1.ne_at hk1 neOS).symm), own_keep ho fun k e => hx k (ne ho neOB k e), own_keep sv1 fun k e => hx k (ne sv1 neOL k e), own_keep tv1 fun k e => hx k (ne tv1 neOL k e), h.st, fun j hj => ?_, isB_append _ _ h.gB hB, h.bo_ge, h.bs_ge⟩, ⟨fun k hk hm => ?_, ?_, ?_, fun B w0 h0 hb => ?_, ?_⟩⟩
  · obtain ⟨v, g1, g2, g3, g4⟩ := h.row j hj
    obtain ⟨q1, q2⟩ := hp.other base _ _ _ v _ g2 g3
    exact ⟨v, g1, own_keep q1 fun k e => hx k (ne q1 neOB k e), q2, g4⟩
  · exact (hx k fun e => hm (.inl e)).trans (hp.block k hk fun e => hm (.inr (.inr (.inl e))))
  · rintro k (e | e | e | e | e)
    · exact .inl (.inl e)
    · exact .inl (.inr (.inl e))
    · exact (hp.new k e).imp (fun e => .inr (.inr (.inl e))) id
    · exact .inl (.inr (.inr (.inr (.inl e))))
    · exact .inl (.inr (.inr (.inr (.inr e))))
  · rintro k ((e | e | e | e | e) | ⟨j, v, hj, g1, g2⟩)
    · exact .inl (.inl (.inl e))
    · exact .inl (.inl (.inr (.inl e)))
    · exact (hp.new k e).imp (fun e => .inl (.inr (.inr (.inl e)))) id
    · exact .inl (.inl (.inr (.inr (.inr (.inl e)))))
    · exact .inl (.inl (.inr (.inr (.inr (.inr e)))))
    · exact .inl (.inr ⟨j, v, hj, g1, g2⟩)
  · exact (hp.bel B w0 h0 hb).setCell (by have := h.bo_ge; show B ≤ s.bo; omega) v'
  · simpa using hp.size

theorem takeF_snoc (R : List (List Int)) (k : Nat) (h : k < R.length) : (R.take (k + 1)).flatten = (R.take k).flatten ++ R[k]?.getD [] := by
  rw [List.take_add_one, List.getElem?_eq_getElem h, List.flatten_append]
  congr 1
  exact List.append_nil _
theorem takeF_le (R : List (List Int)) (k : Nat) : (R.take k).flatten.length ≤ R.flatten.length := by
  have h : R.flatten.length = (R.take k).flatten.length + (R.drop k).flatten.length := by
    rw [← List.length_append, ← List.flatten_append, List.take_append_drop]
  omega
theorem takeF_row (R : List (List Int)) (k : Nat) (h : k < R.length) : (R.take k).flatten.length + (R[k]?.getD []).length ≤ R.flatten.length := by
  have := takeF_le R (k + 1)
  rw [takeF_snoc R k h, List.length_append] at this
  exact this

def gath (s : OSt) (gv : Value) (p : List Int) : OSt := { s with gv := gv, g := s.g ++ p }
theorem gath_nil (s : OSt) : gath s s.gv [] = s := by unfold gath; rw [List.append_nil]
theorem gath_gath (s : OSt) (gv gv2 : Value) (p q : List Int) : gath (gath s gv p) gv2 q = gath s gv2 (p ++ q) := by simp [gath]
def GI (W : World) (base : Nat) (s : OSt) (p : List Int) (wr : World) (gv : Value) : Prop := OIs wr base (gath s gv p) ∧ OUp W wr base s (gath s gv p)
def writeM (size fail ferr : Int) (R : List (List Int)) (m : OM) : OM := if m.2.2.1 ≠ 0 then m else if size ≤ (((m.1 ++ R.flatten).length : Nat) : Int) then handM fail ferr (m.1 ++ R.flatten, m.2) else (m.1 ++ R.flatten, m.2)
theorem GI.step {W wr W' : World} {base : Nat} {s : OSt} {p q : List Int} {gv v' : Value} (h : GI W base s p wr gv) (hp : AppPost wr W' base gv v') (ho : OwnB W' base v' ((s.g ++ p) ++ q)) (hB : IsB q) : At W' s.bo TOut (outCells (gath s gv p)) ∧ GI W base s (p ++ q) (W'.setCell ⟨s.bo, 2, none⟩ v') v' := by
  obtain ⟨g1, g2, g3⟩ := h.1.gather hp ho hB
  have e : gath s v' (p ++ q) = { gath s gv p with gv := v', g := (gath s gv p).g ++ q } := (gath_gath s gv v' p q).symm
  refine ⟨g1, ?_, ?_⟩
  · rw [e]; exact g2
  · rw [e]; exact h.2.trans g3

theorem writeM_eq (size fail ferr : Int) (R : List (List Int)) (m : OM) (h : m.2.2.1 = 0) : writeM size fail ferr R m = if size ≤ (((m.1 ++ R.flatten).length : Nat) : Int) then handM fail ferr (m.1 ++ R.flatten, m.2) else (m.1 ++ R.flatten, m.2) := by
  unfold writeM; rw [if_neg (by simp [h])]
theorem gath_same (s : OSt) (gv : Value) (p : List Int) : Same s (gath s gv p) := ⟨rfl, rfl, rfl, rfl, rfl⟩

set_option maxHeartbeats 2000000 in
theorem write_yes (W : World) (base : Nat) (s : OSt) (h : OIs W base s) (hbase : base ≤ W.heap.size) (N : Nat → Prop) (v : Value) (R : List (List Int)) (hR : RBS W N v R) (hN : ∀ k, N k → k < W.heap.size ∧ ¬ Mut s k) (hgl : s.g.length + R.flatten.length ≤ 1099511627776) (hcnt : 0 ≤ s.cnt ∧ s.cnt ≤ 4611686018427387904) (hlen : s.said.length < 4294967296) :
    Calls Try.prog 7 #[.pointer (some ⟨s.bo, 0, none⟩), v] W (FlushPost W base s (writeM s.size s.fail s.ferr R (omOf s))) := by
  obtain ⟨a, c, rfl, hn, -⟩ := hR.rb
  have c3 : W.cell? ⟨s.bo, 3, none⟩ = some (.int .i64 s.err) := h.o.cell 3
  have HM := Lib.hid (made_yes W base s h)
  have HE := Lib.hid (err_yes W base s h)
  have HI := Lib.hid h
  by_cases he : s.err = 0
  · have hb : (s.err != 0) = false := by simpa using he
    have hG0 : GI W base s [] W s.gv := by unfold GI; rw [gath_nil]; exact ⟨h, OUp.refl _ _ _⟩
    have HF := Lib.hid he
    have HR := Lib.hid hR
    have HNN := Lib.hid hN
    clear he h HE hR hN HI
    go_enter Try.func7, Try.ntmps7
    go_wp2_with fail
    refine HM.out.mono ?_
    rintro e w' ⟨rfl, rfl⟩
    go_wp2_with fail
    clear c3
    go_loopw [21] (fun i wr => ∃ (k : Nat) (gv : Value), k ≤ R.length ∧ i = .int .i64 k ∧ GI W base s (R.take k).flatten wr gv) (fun i _ => R.length - (intOf i).toNat)
    case atStart => exact ⟨0, s.gv, Nat.zero_le _, rfl, hG0⟩
    case round =>
      obtain ⟨k, gv, hk, rfl, hG⟩ := hrel
      clear hG0
      by_cases hlt : k < R.length
      · have hRr : RB wr (.slice a R.length c) R := HR.out wr hG.2.size fun j hj => hG.2.keep j (HNN.out j hj).1 (HNN.out j hj).2
        obtain ⟨b, o, rfl, hc⟩ := hRr.read k hlt
        obtain ⟨d1, m1, cc1, h1, s1, hm1, hd1⟩ := hc k hlt
        have c2 : wr.cell? ⟨s.bo, 2, none⟩ = some gv := hG.1.o.cell 2
        have hown : OwnB wr base gv (s.g ++ (R.take k).flatten) := hG.1.og
        have hbw : base ≤ wr.heap.size := Nat.le_trans hbase hG.2.size
        have hbnd := takeF_row R k hlt
        have hsn := takeF_snoc R k hlt
        have hml := s1.len
        generalize R[k]?.getD [] = p at s1 hbnd hsn hml
        generalize (R.take k).flatten = q at hG hown hbnd hsn
        obtain ⟨g1, hg1⟩ : ∃ g1, g1 = s.g ++ q := ⟨_, rfl⟩
        have hlg : g1.length = s.g.length + q.length := by rw [hg1]; exact List.length_append
        rw [← hg1] at hown
        have Hlg := Lib.hid hlg
        have Hg1 := Lib.hid hg1
        have HG := Lib.hid hG
        have Hsn := Lib.hid hsn
        have Hml := Lib.hid hml
        clear hc hRr hG hlg hsn hml hg1
        go_wp2_with (at_builtin; refine append_sbp rfl (.tmp 29) (.tmp 30) rfl base gv g1 p d1 m1 cc1 rfl hown rfl hd1 s1 (by have := Hlg.out; have := Hml.out; omega) hbw ?_)
        intro v' w1 ho1 hA1
        obtain ⟨ad', n', c', rfl⟩ := own_slice ho1
        rw [Hg1.out] at ho1
        obtain ⟨q1, q2⟩ := HG.out.step hA1 ho1 s1.1
        have c2' : w1.cell? ⟨s.bo, 2, none⟩ = some gv := q1.cell 2
        have hf2 := q1.frozen 2
        rw [← Hsn.out] at q2
        have HQ := Lib.hid q2
        clear q1 q2 hA1 ho1 hown s1 c2 h1
        go_wp2_with fail
        go_roundw
        case rel => exact ⟨k + 1, _, by omega, by go_num, HQ.out⟩
        case measure => simp [intOf]; omega
      · obtain rfl : k = R.length := by omega
        rw [List.take_length] at hG
        have hb2 : base ≤ wr.heap.size := Nat.le_trans hbase hG.2.size
        have hlg : (s.g ++ R.flatten).length = s.g.length + R.flatten.length := List.length_append
        obtain ⟨ad, cap, hgv, -⟩ := hG.1.og.sbn hG.1.gB (show (s.g ++ R.flatten).length ≤ _ by omega)
        replace hgv : gv = .slice ad (s.g ++ R.flatten).length cap := hgv
        subst hgv
        have c2 : wr.cell? ⟨s.bo, 2, none⟩ = some (.slice ad (s.g ++ R.flatten).length cap) := hG.1.o.cell 2
        have c0 : wr.cell? ⟨s.bo, 0, none⟩ = some (.int .i64 s.size) := hG.1.o.cell 0
        have c3 : wr.cell? ⟨s.bo, 3, none⟩ = some (.int .i64 s.err) := hG.1.o.cell 3
        have HW := writeM_eq s.size s.fail s.ferr R (omOf s) HF.out
        have hml : (s.g ++ R.flatten).length ≤ 140737488351232 := by omega
        by_cases hsz : s.size ≤ (((s.g ++ R.flatten).length : Nat) : Int)
        · have HH := Lib.hid (fun q => handOn_any (wr.drewN q) base (gath s (.slice ad (s.g ++ R.flatten).length cap) R.flatten) (hG.1.below (below_drewN (Below.refl _ _) q)) (by simpa using hb2) hml hcnt hlen)
          have HU := Lib.hid (fun q => hG.2.trans (OUp.of_below base (gath s (.slice ad (s.g ++ R.flatten).length cap) R.flatten) hb2 (below_drewN (Below.refl wr.heap.size wr) q)))
          have HW1 : Hid (writeM s.size s.fail s.ferr R (omOf s) = handM s.fail s.ferr (omOf (gath s (.slice ad (s.g ++ R.flatten).length cap) R.flatten))) := Lib.hid (by rw [HW]; exact if_pos hsz)
          clear HW hG hml hlg
          generalize (s.g ++ R.flatten).length = m at c2 hsz HH HU HW1
          go_wp2_with fail
          go_quiet (fail)
          clear c0 c2 c3
          go_wp2_with fail
          refine (HH.out _).mono ?_
          rintro e w1 ⟨rfl, s', hS, hO, hI1, hU1⟩
          have c3' : w1.cell? ⟨s.bo, 3, none⟩ = some (.int .i64 s'.err) := by
            have := hI1.o.cell 3
            rw [hS.bo] at this
            exact this
          have HP : Hid (FlushPost W base s (writeM s.size s.fail s.ferr R (omOf s)) (.returned (.int .i64 s'.err)) w1) := Lib.hid ⟨by rw [HW1.out]; exact congrArg (fun m : OM => Ending.returned (.int .i64 m.2.2.1)) hO, s', Same.trans (gath_same s _ _) hS, by rw [HW1.out]; exact hO, hI1, (HU.out _).trans hU1⟩
          clear hS hO hI1 hU1
          go_wp2_with fail
          go_ret
          exact HP.out
        · have hn2 : ¬ s.size ≤ (((s.g ++ R.flatten).length : Nat) : Int) := hsz
          have HP : Hid (∀ q, FlushPost W base s (writeM s.size s.fail s.ferr R (omOf s)) (.returned (.int .i64 s.err)) (wr.drewN q)) := Lib.hid (fun q => by
            rw [HW, if_neg (show ¬ s.size ≤ ((((omOf s).1 ++ R.flatten).length : Nat) : Int) from hsz)]
            exact ⟨rfl, gath s (.slice ad (s.g ++ R.flatten).length cap) R.flatten, gath_same s _ _, rfl, hG.1.below (below_drewN (Below.refl _ _) q), hG.2.trans (OUp.of_below base _ hb2 (below_drewN (Below.refl wr.heap.size wr) q))⟩)
          clear HW hG hml hlg hn2
          generalize (s.g ++ R.flatten).length = m at c2 hsz
          go_wp2_with fail
          go_quiet (fail)
          go_wp2_with fail
          go_ret
          exact HP.out _
  · have hb : (s.err != 0) = true := by simpa using he
    have hF : writeM s.size s.fail s.ferr R (omOf s) = omOf s := by unfold writeM; rw [if_pos]; simpa [omOf] using he
    have HP : Hid (FlushPost W base s (omOf s) (.returned (.int .i64 s.err)) W) := Lib.hid ⟨rfl, s, Same.refl s, rfl, HI.out, OUp.refl _ _ _⟩
    rw [hF]
    clear he hF h hR HI
    go_enter Try.func7, Try.ntmps7
    go_wp2_with fail
    refine HM.out.mono ?_
    rintro e w' ⟨rfl, rfl⟩
    go_wp2_with fail
    refine HE.out.mono ?_
    rintro e w' ⟨rfl, rfl⟩
    go_wp2_with fail
    go_ret
    exact HP.out
end Go.Proofs.Ytbdgolbejoheiaa

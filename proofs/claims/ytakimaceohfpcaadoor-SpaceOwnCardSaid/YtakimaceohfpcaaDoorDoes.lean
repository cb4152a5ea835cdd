/-
  galleylaw25.does: one call at a program's space and at the document's: the same answer.
-/
import Derived.Test.YtakimaceohfpcaaDoorRefAny
import Derived.Test.YtakimaceohfpcaaDoorWide
import Derived.Test.YtakimaceohfpcaaDoorEq
import Derived.OneCell
import Derived.StillTailTactics
namespace Go.Proofs.YtakimaceohfpcaaDoor
open Go.RowKit

theorem wide_sb {w : World} {g : Nat} {l : List Int} (h : Arr w g 5 (wide l)) (hB : IsB l) (hl : l.length ≤ 2147483647) : SB w (.slice (some ⟨g, 0, none⟩) l.length (l.length + 64)) l :=
  ⟨hB, _, _, rfl, by omega, .inr ⟨g, 0, rfl, fun i hi => by
    have := h.cell i (by rw [wide_len]; omega)
    rw [wide_lo l i hi] at this
    rw [Nat.zero_add]; exact this⟩⟩
/-- Two spaces, the program's and the document's, that are alike. -/
structure Two (w : World) (base : Nat) (most : Int) (o q : Option Ob) (p h : List Int) : Prop where
  s : SpO w base most o p h
  r : RpO w base most q p h
  is : o.isSome = q.isSome
  dj : ∀ k, FO o k → ¬ FO q k
  bs : base ≤ w.heap.size
def F2 (o q : Option Ob) (k : Nat) : Prop := FO o k ∨ FO q k
theorem Two.lt {w : World} {base : Nat} {most : Int} {o q : Option Ob} {p h : List Int} (t : Two w base most o q p h) : ∀ k, F2 o q k → k < w.heap.size := fun k hk => hk.elim (t.s.lt k) (t.r.lt k)
theorem Two.below {w w' : World} {base : Nat} {most : Int} {o q : Option Ob} {p h : List Int} (t : Two w base most o q p h) (hb : Below w.heap.size w w') : Two w' base most o q p h := ⟨t.s.below hb, t.r.below hb, t.is, t.dj, Nat.le_trans t.bs hb.size⟩
theorem Two.keep {w w' : World} {base : Nat} {most : Int} {o q : Option Ob} {p h : List Int} (t : Two w base most o q p h) (hk : ∀ k, F2 o q k → w'.heap[k]? = w.heap[k]?) (hs : w.heap.size ≤ w'.heap.size) : Two w' base most o q p h :=
  ⟨t.s.keep fun k e => hk k (.inl e), t.r.keep fun k e => hk k (.inr e), t.is, t.dj, Nat.le_trans t.bs hs⟩
/-- Behind the program's call: the document's space is as it was. -/
theorem Two.mid {w w1 : World} {base : Nat} {most : Int} {o q o' : Option Ob} {p h : List Int} (t : Two w base most o q p h) (u : Up w w1 base (FO o) (FO o')) : RpO w1 base most q p h ∧ (∀ k, FO o' k → ¬ FO q k) ∧ base ≤ w1.heap.size := by
  obtain ⟨h1, h2⟩ := u.apart (G := FO q) t.r.lt t.dj
  exact ⟨t.r.keep h1, h2, Nat.le_trans t.bs u.size⟩
theorem Two.both {w w1 w2 : World} {base : Nat} {most : Int} {o q o' q' : Option Ob} {p h p' h' : List Int} (t : Two w base most o q p h) (u : Up w w1 base (FO o) (FO o')) (e1 : o'.isSome = o.isSome) (s1 : SpO w1 base most o' p' h') (v : Up w1 w2 base (FO q) (FO q')) (e2 : q'.isSome = q.isSome) (s2 : RpO w2 base most q' p' h') :
    Two w2 base most o' q' p' h' ∧ Up w w2 base (F2 o q) (F2 o' q') := by
  obtain ⟨-, hd, hb⟩ := t.mid u
  obtain ⟨h1, h2⟩ := v.apart (G := FO o') s1.lt fun k a b => hd k b a
  refine ⟨⟨s1.keep h1, s2, by rw [e1, e2]; exact t.is, fun k a b => h2 k b a, Nat.le_trans hb v.size⟩, ?_⟩
  have u' : Up w w1 base (F2 o q) (F2 o' q) := u.more (fun k a => .inl a) fun k a => a.elim (fun b => .inl b) fun b => .inr (.inr b)
  have v' : Up w1 w2 base (F2 o' q) (F2 o' q') := v.more (fun k a => .inr a) fun k a => a.elim (fun b => .inr (.inl b)) fun b => .inl b
  exact u'.trans v'

def DoesPost (w : World) (base : Nat) (most : Int) (o q : Option Ob) (e : Ending) (w' : World) : Prop :=
  e = .returned (.bool true) ∧ ∃ o' q' p' h', ptO o' = ptO o ∧ ptO q' = ptO q ∧ Two w' base most o' q' p' h' ∧ Up w w' base (F2 o q) (F2 o' q')
/-- Behind the call: the list that was handed in, and the step, lie as they lay. -/
def MidD (w0 : World) (base : Nat) (most : Int) (o q : Option Ob) (bx gi : Nat) (cs : Array Value) (b : List Int) (w : World) : Prop :=
  ∃ o' q' p' h', ptO o' = ptO o ∧ ptO q' = ptO q ∧ Two w base most o' q' p' h' ∧ Up w0 w base (F2 o q) (F2 o' q') ∧ w.heap[bx]? = some (.cells cs 118 (0, 0)) ∧ Arr w gi 5 (wide b) ∧ ¬ F2 o' q' bx ∧ ¬ F2 o' q' gi
theorem mid_mk {w0 w w2 : World} {base : Nat} {most : Int} {o q o' q' : Option Ob} {bx gi : Nat} {cs : Array Value} {b p' h' : List Int} (hu : Up w0 w base (F2 o q) (F2 o q)) (hbx : w.heap[bx]? = some (.cells cs 118 (0, 0))) (hgi : Arr w gi 5 (wide b)) (n1 : ¬ F2 o q bx) (n2 : ¬ F2 o q gi)
    (e1 : ptO o' = ptO o) (e2 : ptO q' = ptO q) (t2 : Two w2 base most o' q' p' h') (u : Up w w2 base (F2 o q) (F2 o' q')) : MidD w0 base most o q bx gi cs b w2 := by
  have l1 : bx < w.heap.size := (Array.getElem?_eq_some_iff.1 hbx).1
  have l2 : gi < w.heap.size := hgi.lt
  refine ⟨o', q', p', h', e1, e2, t2, hu.trans u, (u.keep bx l1 n1).trans hbx, (u.keep gi l2 n2).trans hgi, fun e => ?_, fun e => ?_⟩
  · rcases u.new bx e with e | e
    · exact n1 e
    · omega
  · rcases u.new gi e with e | e
    · exact n2 e
    · omega

theorem first_ok {w : World} {base : Nat} {most : Int} {o : Option Ob} {p h : List Int} (s : SpO w base most o p h) : IsB (readO o (firstL p)) ∧ (readO o (firstL p)).length ≤ 140737488351232 := by
  cases o with
  | none => exact ⟨isB_nil, by simp [readO]⟩
  | some s0 =>
    have s : Sp w s0.g base most s0.pv s0.hv p h := s
    have hl := s.len2P
    show IsB (firstL p) ∧ (firstL p).length ≤ _
    rcases posL_cases p with ⟨-, -, e, -⟩ | ⟨i, hi, -, e, -⟩
    · rw [e]; exact ⟨s.bp, hl⟩
    · rw [e]; exact ⟨isB_cut _ _ _ s.bp, by rw [List.length_take, List.length_drop]; omega⟩
theorem mid_end {w0 w w' : World} {base : Nat} {most : Int} {o q : Option Ob} {bx gi : Nat} {cs : Array Value} {b : List Int} (h : MidD w0 base most o q bx gi cs b w) (hk : ∀ k, k < w.heap.size → k ≠ gi → w'.heap[k]? = w.heap[k]?) (hsz : w.heap.size ≤ w'.heap.size) (hbel : ∀ B w1, Below B w1 w → B ≤ gi → Below B w1 w') (hg : base ≤ gi) (hw : w0.heap.size ≤ gi) :
    DoesPost w0 base most o q (.returned (.bool true)) w' := by
  obtain ⟨o', q', p', h', e1, e2, t, u, -, -, -, ng⟩ := h
  refine ⟨rfl, o', q', p', h', e1, e2, t.keep (fun k hf => hk k (t.lt k hf) fun e => ng (by rw [← e]; exact hf)) hsz, ⟨fun k hlt hn => (hk k (Nat.lt_of_lt_of_le hlt u.size) (by omega)).trans (u.keep k hlt hn), u.new, fun B w1 h1 hB => hbel B w1 (u.bel B w1 h1 hB) (Nat.le_trans hB hg), Nat.le_trans u.size hsz⟩⟩

set_option maxHeartbeats 4000000 in
set_option maxRecDepth 100000 in
theorem does_any (w W0 : World) (most : Int) (o q : Option Ob) (p h : List Int) (k on d : Int) (a : Option Addr) (n c : Nat) (b : List Int) (t : Two w W0.heap.size most o q p h) (hbel : Below W0.heap.size W0 w) (sb : SB W0 (.slice a n c) b) (hN : a = none → c = 0) (hn : n ≤ 2147483647) :
    Calls Tryd.prog 68 #[ptO o, ptO q, .agg #[.int .i64 k, .int .i64 on, .int .u8 d, .slice a n c]] w (DoesPost w W0.heap.size most o q) := by
  obtain ⟨op, hop⟩ : ∃ op, ptO o = op := ⟨_, rfl⟩
  obtain ⟨qp, hqp⟩ : ∃ qp, ptO q = qp := ⟨_, rfl⟩
  obtain ⟨hlb, -⟩ := sb.len
  subst hlb
  have hbx : (w.alloc (.cells #[.int .i64 k, .int .i64 on, .int .u8 d, .slice a b.length c] 118 (0, 0))).heap[w.heap.size]? = some (.cells #[.int .i64 k, .int .i64 on, .int .u8 d, .slice a b.length c] 118 (0, 0)) := heap_alloc_new w _
  have hb1 : Below w.heap.size w (w.alloc (.cells #[.int .i64 k, .int .i64 on, .int .u8 d, .slice a b.length c] 118 (0, 0))) := (Below.refl _ w).alloc (Nat.le_refl _) _
  rw [hop, hqp]
  have HOP := Lib.hid hop
  have HQP := Lib.hid hqp
  have HN := Lib.hid hN
  have HT := Lib.hid t
  have HSB := Lib.hid sb
  have HBel := Lib.hid hbel
  clear hop hqp hN t sb hbel
  go_enter Tryd.func68, Tryd.ntmps68
  go_upto_region 1 with fail
  generalize hwb : w.alloc (.cells #[.int .i64 k, .int .i64 on, .int .u8 d, .slice a b.length c] 118) = wb at hbx hb1 ⊢
  have HSZ : Hid (wb.heap.size = w.heap.size + 1) := Lib.hid (by rw [← hwb]; simp)
  clear hwb
  have c3 : wb.cell? ⟨w.heap.size, 3, none⟩ = some (.slice a b.length c) := by rw [cell_of_row wb w.heap.size 3 _ _ (0, 0) hbx]; rfl
  have HW := Lib.hid (wide_any wb _ b (HSB.out.below (HBel.out.trans (hb1.mono HT.out.bs))) hn)
  go_wp2_with fail
  refine HW.out.mono ?_
  rintro e w1 ⟨rfl, hA, hb2⟩
  have hbel1 : Below W0.heap.size W0 w1 := (HBel.out.trans (hb1.mono HT.out.bs)).trans (hb2.mono (Nat.le_trans HT.out.bs hb1.size))
  have B1 := Lib.hid hbel1
  have hb12 : Below w.heap.size w w1 := hb1.trans (hb2.mono hb1.size)
  have T1 := Lib.hid (HT.out.below hb12)
  have HU1 := Lib.hid (Up.below (F2 o q) hb12 HT.out.bs)
  have BX1 := Lib.hid ((hb2.block w.heap.size (by have := HSZ.out; omega)).trans hbx)
  have HA1 := Lib.hid hA
  have SBI := Lib.hid (wide_sb hA HSB.out.1 hn)
  have L1 : Hid (w.heap.size < w1.heap.size ∧ wb.heap.size < w1.heap.size) := Lib.hid ⟨by have h1 := HSZ.out; have h2 := hb2.size; omega, hA.lt⟩
  have N1 : Hid (¬ F2 o q w.heap.size ∧ ¬ F2 o q wb.heap.size) := Lib.hid ⟨fun e => by have := HT.out.lt _ e; omega, fun e => by have h1 := HT.out.lt _ e; have h2 := HSZ.out; omega⟩
  have c0 : w1.cell? ⟨w.heap.size, 0, none⟩ = some (.int .i64 k) := by rw [cell_of_row w1 w.heap.size 0 _ _ (0, 0) BX1.out]; rfl
  have cc3 : w1.cell? ⟨w.heap.size, 3, none⟩ = some (.slice a b.length c) := by rw [cell_of_row w1 w.heap.size 3 _ _ (0, 0) BX1.out]; rfl
  have cc2 : w1.cell? ⟨w.heap.size, 2, none⟩ = some (.int .u8 d) := by rw [cell_of_row w1 w.heap.size 2 _ _ (0, 0) BX1.out]; rfl
  clear hbel1 hb12 hA hb1 hb2 hbx c3 HW
  go_upto_block 0 with fail
  go_cut [8] (fun v wx => v = .bool true ∧ MidD w W0.heap.size most o q w.heap.size wb.heap.size #[.int .i64 k, .int .i64 on, .int .u8 d, .slice a b.length c] b wx)
  case first =>
    by_cases k1 : k = 1
    · subst k1
      have HM : Hid (mOn q (mPut most b p h) p h = mOn o (mPut most b p h) p h) := Lib.hid (by unfold mOn; rw [T1.out.is])
      have HP := Lib.hid (putO w1 W0.heap.size most o p h T1.out.s T1.out.bs (some ⟨wb.heap.size, 0, none⟩) b.length (b.length + 64) b SBI.out)
      rw [HOP.out] at HP
      go_wp2_with fail
      refine HP.out.mono ?_
      rintro e w2 ⟨rfl, o', e1, e2, s1, u1⟩
      obtain ⟨r1, -, bs1⟩ := T1.out.mid u1
      have sb2 := HSB.out.below (u1.bel _ _ B1.out (Nat.le_refl _))
      have HR := Lib.hid (rputO w2 W0.heap.size most q p h r1 bs1 a b.length c b sb2)
      have bx2 : w2.heap[w.heap.size]? = some (.cells #[.int .i64 1, .int .i64 on, .int .u8 d, .slice a b.length c] 118 (0, 0)) := (u1.keep _ L1.out.1 fun e => N1.out.1 (.inl e)).trans BX1.out
      have c3 : w2.cell? ⟨w.heap.size, 3, none⟩ = some (.slice a b.length c) := by rw [cell_of_row w2 w.heap.size 3 _ _ (0, 0) bx2]; rfl
      have c2 : w2.cell? ⟨w.heap.size, 2, none⟩ = some (.int .u8 d) := by rw [cell_of_row w2 w.heap.size 2 _ _ (0, 0) bx2]; rfl
      rw [HQP.out] at HR
      have HH := Lib.hid (And.intro e1 (And.intro e2 (And.intro s1 u1)))
      clear e1 e2 s1 u1 r1 bs1 sb2 bx2
      go_wp2_with fail
      refine HR.out.mono ?_
      rintro e w3 ⟨rfl, q', f1, f2, s2, u2⟩
      obtain ⟨e1, e2, s1, u1⟩ := HH.out
      rw [HM.out] at s2 ⊢
      have hB := T1.out.both u1 e2 s1 u2 f2 s2
      have HF := Lib.hid (mid_mk HU1.out BX1.out HA1.out N1.out.1 N1.out.2 e1 f1 hB.1 hB.2)
      generalize (mOn o (mPut most b p h) p h).2.2 = x at *
      clear HH e1 e2 s1 u1 f1 f2 s2 u2 hB c2 c3 HR HM HP
      go_wp2_with fail
      go_meet
      case rel => exact ⟨rfl, HF.out⟩
    by_cases k2 : k = 2
    · subst k2
      have HM : Hid (mOn q (mJoin most b p h) p h = mOn o (mJoin most b p h) p h) := Lib.hid (by unfold mOn; rw [T1.out.is])
      have HP := Lib.hid (joinO w1 W0.heap.size most o p h T1.out.s T1.out.bs (some ⟨wb.heap.size, 0, none⟩) b.length (b.length + 64) b SBI.out (fun e => by cases e) (fun k e1 e2 => by simp only [Value.ownBlock, Option.some.injEq] at e1; subst e1; exact N1.out.2 (.inl e2)))
      rw [HOP.out] at HP
      go_wp2_with fail
      refine HP.out.mono ?_
      rintro e w2 ⟨rfl, o', e1, e2, s1, u1⟩
      obtain ⟨r1, -, bs1⟩ := T1.out.mid u1
      have sb2 := HSB.out.below (u1.bel _ _ B1.out (Nat.le_refl _))
      have HR := Lib.hid (rjoinO w2 W0.heap.size most q p h r1 bs1 a b.length c b sb2 HN.out (by omega))
      have bx2 : w2.heap[w.heap.size]? = some (.cells #[.int .i64 2, .int .i64 on, .int .u8 d, .slice a b.length c] 118 (0, 0)) := (u1.keep _ L1.out.1 fun e => N1.out.1 (.inl e)).trans BX1.out
      have c3 : w2.cell? ⟨w.heap.size, 3, none⟩ = some (.slice a b.length c) := by rw [cell_of_row w2 w.heap.size 3 _ _ (0, 0) bx2]; rfl
      have c2 : w2.cell? ⟨w.heap.size, 2, none⟩ = some (.int .u8 d) := by rw [cell_of_row w2 w.heap.size 2 _ _ (0, 0) bx2]; rfl
      rw [HQP.out] at HR
      have HH := Lib.hid (And.intro e1 (And.intro e2 (And.intro s1 u1)))
      clear e1 e2 s1 u1 r1 bs1 sb2 bx2
      go_wp2_with fail
      refine HR.out.mono ?_
      rintro e w3 ⟨rfl, q', f1, f2, s2, u2⟩
      obtain ⟨e1, e2, s1, u1⟩ := HH.out
      rw [HM.out] at s2 ⊢
      have hB := T1.out.both u1 e2 s1 u2 f2 s2
      have HF := Lib.hid (mid_mk HU1.out BX1.out HA1.out N1.out.1 N1.out.2 e1 f1 hB.1 hB.2)
      generalize (mOn o (mJoin most b p h) p h).2.2 = x at *
      clear HH e1 e2 s1 u1 f1 f2 s2 u2 hB c2 c3 HR HM HP
      go_wp2_with fail
      go_meet
      case rel => exact ⟨rfl, HF.out⟩
    by_cases k3 : k = 3
    · subst k3
      have HM : Hid (mOn q (mDo most d p h) p h = mOn o (mDo most d p h) p h) := Lib.hid (by unfold mOn; rw [T1.out.is])
      have HP := Lib.hid (doO w1 W0.heap.size most o p h T1.out.s T1.out.bs d)
      rw [HOP.out] at HP
      go_wp2_with fail
      refine HP.out.mono ?_
      rintro e w2 ⟨rfl, o', e1, e2, s1, u1⟩
      obtain ⟨r1, -, bs1⟩ := T1.out.mid u1
      have sb2 := HSB.out.below (u1.bel _ _ B1.out (Nat.le_refl _))
      have HR := Lib.hid (rdoO w2 W0.heap.size most q p h r1 bs1 d)
      have bx2 : w2.heap[w.heap.size]? = some (.cells #[.int .i64 3, .int .i64 on, .int .u8 d, .slice a b.length c] 118 (0, 0)) := (u1.keep _ L1.out.1 fun e => N1.out.1 (.inl e)).trans BX1.out
      have c3 : w2.cell? ⟨w.heap.size, 3, none⟩ = some (.slice a b.length c) := by rw [cell_of_row w2 w.heap.size 3 _ _ (0, 0) bx2]; rfl
      have c2 : w2.cell? ⟨w.heap.size, 2, none⟩ = some (.int .u8 d) := by rw [cell_of_row w2 w.heap.size 2 _ _ (0, 0) bx2]; rfl
      rw [HQP.out] at HR
      have HH := Lib.hid (And.intro e1 (And.intro e2 (And.intro s1 u1)))
      clear e1 e2 s1 u1 r1 bs1 sb2 bx2
      go_wp2_with fail
      refine HR.out.mono ?_
      rintro e w3 ⟨rfl, q', f1, f2, s2, u2⟩
      obtain ⟨e1, e2, s1, u1⟩ := HH.out
      rw [HM.out] at s2 ⊢
      have hB := T1.out.both u1 e2 s1 u2 f2 s2
      have HF := Lib.hid (mid_mk HU1.out BX1.out HA1.out N1.out.1 N1.out.2 e1 f1 hB.1 hB.2)
      generalize (mOn o (mDo most d p h) p h).2.2 = x at *
      clear HH e1 e2 s1 u1 f1 f2 s2 u2 hB c2 c3 HR HM HP
      go_wp2_with fail
      go_meet
      case rel => exact ⟨rfl, HF.out⟩
    by_cases k4 : k = 4
    · subst k4
      have HM : Hid (restO q p = restO o p ∧ foundO q p = foundO o p) := Lib.hid (by unfold restO foundO; rw [T1.out.is]; exact ⟨rfl, rfl⟩)
      have HP := Lib.hid (cutO w1 W0.heap.size most o p h T1.out.s T1.out.bs)
      rw [HOP.out] at HP
      go_wp2_with fail
      refine HP.out.mono ?_
      rintro e w2 ⟨rfl, o', e1, e2, s1, u1⟩
      obtain ⟨r1, -, bs1⟩ := T1.out.mid u1
      have sb2 := HSB.out.below (u1.bel _ _ B1.out (Nat.le_refl _))
      have HR := Lib.hid (rcutO w2 W0.heap.size most q p h r1 bs1)
      have bx2 : w2.heap[w.heap.size]? = some (.cells #[.int .i64 4, .int .i64 on, .int .u8 d, .slice a b.length c] 118 (0, 0)) := (u1.keep _ L1.out.1 fun e => N1.out.1 (.inl e)).trans BX1.out
      have c3 : w2.cell? ⟨w.heap.size, 3, none⟩ = some (.slice a b.length c) := by rw [cell_of_row w2 w.heap.size 3 _ _ (0, 0) bx2]; rfl
      have c2 : w2.cell? ⟨w.heap.size, 2, none⟩ = some (.int .u8 d) := by rw [cell_of_row w2 w.heap.size 2 _ _ (0, 0) bx2]; rfl
      rw [HQP.out] at HR
      have HH := Lib.hid (And.intro e1 (And.intro e2 (And.intro s1 u1)))
      clear e1 e2 s1 u1 r1 bs1 sb2 bx2
      go_wp2_with fail
      refine HR.out.mono ?_
      rintro e w3 ⟨rfl, q', f1, f2, s2, u2⟩
      obtain ⟨e1, e2, s1, u1⟩ := HH.out
      rw [HM.out.1] at s2
      rw [HM.out.2]
      have hB := T1.out.both u1 e2 s1 u2 f2 s2
      have HF := Lib.hid (mid_mk HU1.out BX1.out HA1.out N1.out.1 N1.out.2 e1 f1 hB.1 hB.2)
      generalize foundO o p = x at *
      clear HH e1 e2 s1 u1 f1 f2 s2 u2 hB c2 c3 HR HM HP
      go_wp2_with fail
      go_meet
      case rel => exact ⟨rfl, HF.out⟩
    by_cases k5 : k = 5
    · subst k5
      have HM : Hid (readO q (firstL p) = readO o (firstL p) ∧ foundO q p = foundO o p) := Lib.hid (by unfold readO foundO; rw [T1.out.is]; exact ⟨rfl, rfl⟩)
      have HOK := Lib.hid (first_ok T1.out.s)
      have HP := Lib.hid (firstO w1 W0.heap.size most o p h T1.out.s)
      rw [HOP.out] at HP
      go_wp2_with fail
      refine HP.out.mono ?_
      rintro e w2 ⟨v2, rfl, ho2, hb2⟩
      have T2 := Lib.hid (T1.out.below hb2)
      have hs2 := ho2.sb HOK.out.1 HOK.out.2
      have HR := Lib.hid (rfirstO w2 W0.heap.size most q p h T2.out.r)
      rw [HQP.out] at HR
      obtain ⟨a2, c2', rfl⟩ := ho2.shape
      have HB2 := Lib.hid hb2
      clear hb2 ho2
      go_wp2_with fail
      refine HR.out.mono ?_
      rintro e w3 ⟨v3, rfl, ho3, hb3⟩
      rw [HM.out.1] at ho3
      rw [HM.out.2]
      have hs3 := ho3.sb HOK.out.1 HOK.out.2
      obtain ⟨a3, c3', rfl⟩ := ho3.shape
      have HE := Lib.hid (eqBytes_any w3 _ _ _ _ (hs2.below hb3) hs3)
      have hb13 := HB2.out.trans (hb3.mono HB2.out.size)
      have HB3 := Lib.hid hb13
      have hdec : decide (readO o (firstL p) = readO o (firstL p)) = true := by simp
      rw [hdec] at HE
      generalize (readO o (firstL p)).length = rl at HE ⊢
      generalize foundO o p = x
      clear hb3 ho3 hs2 hs3 hb13 hdec HM HP HR
      go_wp2_with fail
      refine HE.out.mono ?_
      rintro e w4 ⟨rfl, nq, rfl⟩
      have hb4 : Below w1.heap.size w1 (w3.drewN nq) := below_drewN HB3.out nq
      have HF := Lib.hid (mid_mk HU1.out BX1.out HA1.out N1.out.1 N1.out.2 rfl rfl (T1.out.below hb4) (Up.below (F2 o q) hb4 T1.out.bs))
      clear hb4
      go_wp2_with fail
      go_meet
      case rel => exact ⟨rfl, HF.out⟩
    have g1 : (k == 1) = false := by simpa using k1
    have g2 : (k == 2) = false := by simpa using k2
    have g3 : (k == 3) = false := by simpa using k3
    have g4 : (k == 4) = false := by simpa using k4
    have g5 : (k == 5) = false := by simpa using k5
    have HF := Lib.hid (mid_mk HU1.out BX1.out HA1.out N1.out.1 N1.out.2 rfl rfl T1.out (Up.refl _ _ _))
    clear k1 k2 k3 k4 k5
    go_wp2_with fail
    go_meet
    case rel => exact ⟨rfl, HF.out⟩
  case rest =>
    obtain ⟨rfl, hM⟩ := hcut
    have HM := Lib.hid hM
    obtain ⟨o', q', p', h', -, -, t2, u2, bx2, ha2, -, -⟩ := hM
    have hbel2 : Below W0.heap.size W0 wc := u2.bel _ _ HBel.out (Nat.le_refl _)
    have sbi := wide_sb ha2 HSB.out.1 hn
    have HE := Lib.hid (eqBytes_any wc _ _ b b sbi (HSB.out.below hbel2))
    have hdec : decide (b = b) = true := by simp
    rw [hdec] at HE
    have HSP := fun q => Lib.hid (spare_any (wc.drewN q) wb.heap.size b.length 5 hn (wide b) (wide_len b) (fun j h1 h2 => wide_hi b j h1 h2) ha2)
    have c3 : wc.cell? ⟨w.heap.size, 3, none⟩ = some (.slice a b.length c) := by rw [cell_of_row wc w.heap.size 3 _ _ (0, 0) bx2]; rfl
    have HA2 := Lib.hid ha2
    clear t2 u2 bx2 ha2 hbel2 sbi hdec c0 cc2 cc3
    go_wp2_with fail
    refine HE.out.mono ?_
    rintro e w4 ⟨rfl, n4, rfl⟩
    have HS4 := HSP n4
    clear HSP c3
    go_wp2_with fail
    refine HS4.out.mono ?_
    rintro e w5 ⟨rfl, n5, rfl⟩
    have HW5 : Hid ((wc.drewN n4).drewN n5 = wc.drewN (n4 + n5)) := Lib.hid (World.drewN_drewN _ _ _)
    rw [HW5.out]
    have HI : Hid (w.heap.size ≤ wb.heap.size ∧ W0.heap.size ≤ wb.heap.size) := Lib.hid ⟨by have := HSZ.out; omega, by have h1 := HSZ.out; have h2 := HT.out.bs; omega⟩
    generalize hwd : wc.drewN (n4 + n5) = wd
    have HWD := Lib.hid hwd
    have hA0 : Arr wd wb.heap.size 5 (wide b) := by rw [← hwd]; exact HA2.out
    have K0 : (∀ k, k < wc.heap.size → k ≠ wb.heap.size → wd.heap[k]? = wc.heap[k]?) ∧ wc.heap.size ≤ wd.heap.size ∧ ∀ B w1, Below B w1 wc → B ≤ wb.heap.size → Below B w1 wd := by
      rw [← hwd]
      exact ⟨fun _ _ _ => rfl, Nat.le_refl _, fun B w1 h1 _ => below_drewN h1 _⟩
    clear hwd HS4 HE HW5 HWD
    go_wp2_with fail
    go_loopw [17] (fun x wr => ∃ (i : Nat) (m : List Int), i ≤ b.length ∧ x = .int .i64 i ∧ m.length = b.length + 64 ∧ Arr wr wb.heap.size 5 m ∧ (∀ k, k < wc.heap.size → k ≠ wb.heap.size → wr.heap[k]? = wc.heap[k]?) ∧ wc.heap.size ≤ wr.heap.size ∧ ∀ B w1, Below B w1 wc → B ≤ wb.heap.size → Below B w1 wr) (fun x _ => b.length - (intOf x).toNat)
    case atStart => exact ⟨0, wide b, Nat.zero_le _, rfl, wide_len b, hA0, K0⟩
    case round =>
      clear hA0 K0
      obtain ⟨i, m, hi, rfl, hm, hA, k1, k2, k3⟩ := hrel
      have Hm := Lib.hid hm
      have HK := Lib.hid (And.intro k1 (And.intro k2 k3))
      clear hm k1 k2 k3
      by_cases hlt : i < b.length
      · have hc0 := hA.cell i (by have := Hm.out; omega)
        have hf0 := hA.frozen i
        have hset := hA.set i 90
        have HF : Hid (m.length = b.length + 64 ∧ Arr (wr.setCell ⟨wb.heap.size, i, none⟩ (.int .u8 90)) wb.heap.size 5 (m.set i 90) ∧ (∀ k, k < wc.heap.size → k ≠ wb.heap.size → (wr.setCell ⟨wb.heap.size, i, none⟩ (.int .u8 90)).heap[k]? = wc.heap[k]?) ∧ wc.heap.size ≤ (wr.setCell ⟨wb.heap.size, i, none⟩ (.int .u8 90)).heap.size ∧ ∀ B w1, Below B w1 wc → B ≤ wb.heap.size → Below B w1 (wr.setCell ⟨wb.heap.size, i, none⟩ (.int .u8 90))) :=
          Lib.hid ⟨Hm.out, hset, fun k h1 h2 => (heap_setCell_other wr ⟨wb.heap.size, i, none⟩ k _ h2).trans (HK.out.1 k h1 h2), by simpa using HK.out.2.1, fun B w1 h1 h2 => (HK.out.2.2 B w1 h1 h2).setCell h2 _⟩
        generalize m[i]?.getD 0 = xi at hc0
        clear hA hset
        go_wp2_with fail
        go_roundw
        case rel => exact ⟨i + 1, m.set i 90, by omega, by go_num, by rw [List.length_set]; exact HF.out.1, HF.out.2⟩
        case measure => simp [intOf]; omega
      · have HF := Lib.hid (mid_end HM.out HK.out.1 HK.out.2.1 HK.out.2.2 HI.out.2 HI.out.1)
        clear hA
        go_wp2_with fail
        go_ret
        exact HF.out
end Go.Proofs.YtakimaceohfpcaaDoor

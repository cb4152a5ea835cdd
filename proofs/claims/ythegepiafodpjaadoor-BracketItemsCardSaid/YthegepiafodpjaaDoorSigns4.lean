/-
  galleylaw04: signs; marks behind a list of marks.
-/
import Derived.Test.YthegepiafodpjaaDoorOwnM
import Derived.Test.YthegepiafodpjaaDoorApp
import Derived.Test.YthegepiafodpjaaDoorCopyM
import Derived.Test.YthegepiafodpjaaDoorBrP
import Derived.Test.YthegepiafodpjaaDoorBase
import Derived.Laws.BytesString
namespace Go.Proofs.YthegepiafodpjaaDoor
open Go.RowKit

/-- append(out, marks..), just laid. -/
theorem append_mk {ops : Array Oper} {rest : List Oper} {o : Oper} {a : Act} {w : World} {Q : Exit → Act → World → Prop} (hgd : o.guard = none) (s x : Operand)
    (ho : o.op = .call { callee := .builtin .append, args := #[s, x], argTypes := #[22, 22] })
    (base : Nat) (v : Value) (xs ys : List Mk) (cs : Array Value) (n : Nat) (hcs : cs = (mkCells ys).toArray) (hn : ys.length = n) (hs : a.eval s = v) (hown : OwnM w base v xs) (hx : a.eval x = .slice (some ⟨w.heap.size, 0, none⟩) n n)
    (hsum : xs.length + n ≤ 70368744177664) (hbase : base ≤ w.heap.size)
    (h : ∀ v' w', OwnM w' base v' (xs ++ ys) → AppPost w w' base v v' → wpList Tryd.prog ops Q rest (a.put o.dst v') w') :
    wpList Tryd.prog ops Q (o :: rest) a (w.alloc (.cells cs 35)) := by
  obtain ⟨i0, hi, hz0, hz1, hz2⟩ := info_parts infoM
  subst hn
  refine append_new hgd s x 22 35 i0 (.agg #[.int .u8 0, .bool false]) 2 2 ho Tryd.underlying22 hi hz0 hz1 hz2 rfl (by decide) base v xs.length (mkCells xs) hs hown ys.length (mkCells ys) cs hcs (mkCells_len ys) (mkCells_one ys) hx (by unfold maxLen; omega) (by omega) hbase ?_
  intro v' w' h1 _ h2
  exact h v' w' (ownm_step rfl h1) h2

/-- A text's bytes. -/
def bytesL (s : ByteArray) : List Int := s.data.toList.map fun b => (b.toNat : Int)
theorem bytesL_len (s : ByteArray) : (bytesL s).length = s.size := by unfold bytesL; simp
theorem bytesL_get (s : ByteArray) (k : Nat) (h : k < s.size) : (bytesL s)[k]?.getD 0 = ((s[k]'h).toNat : Int) := by
  have h' : k < s.data.toList.length := by simpa using h
  unfold bytesL
  rw [List.getElem?_map, List.getElem?_eq_getElem h']
  rfl
theorem sg_len (l : List Int) : (sg l).length = l.length := by unfold sg; rw [List.length_map]
theorem sg_append (a b : List Int) : sg (a ++ b) = sg a ++ sg b := by unfold sg; rw [List.map_append]

def SignsPost (w : World) (l : List Mk) (e : Ending) (w' : World) : Prop := ∃ v, e = .returned v ∧ OwnM w' w.heap.size v l ∧ Below w.heap.size w w'

set_option maxHeartbeats 1000000 in
set_option maxRecDepth 100000 in
theorem signs_any (w : World) (s : ByteArray) (hs : s.size ≤ 2147483648) : Calls Tryd.prog 27 #[.string s] w (SignsPost w (sg (bytesL s))) := by
  go_enter Tryd.func27, Tryd.ntmps27
  go_wp2
  go_loopw [3, 4] (fun v i wr => ∃ k : Nat, k ≤ s.size ∧ i = .int .i64 k ∧ OwnM wr w.heap.size v (sg ((bytesL s).take k)) ∧ Below w.heap.size w wr) (fun _ i _ => s.size - (intOf i).toNat)
  case atStart => exact ⟨0, Nat.zero_le _, rfl, OwnM.nil _ _, Below.refl _ _⟩
  case round =>
    obtain ⟨k, hk, rfl, ho, rb⟩ := hrel
    have hbs := rb.size
    have hlen : (sg ((bytesL s).take k)).length ≤ k := by rw [sg_len, List.length_take]; omega
    by_cases hlt : k < s.size
    · have hst := take_snoc (bytesL s) k (by rw [bytesL_len]; exact hlt)
      rw [bytesL_get s k hlt] at hst
      have HST : Hid (sg ((bytesL s).take (k + 1)) = sg ((bytesL s).take k) ++ [(((s[k]'hlt).toNat : Int), false)]) := by rw [hst, sg_append]; exact Lib.hid rfl
      clear hst
      generalize sg ((bytesL s).take k) = ex at ho hlen HST
      go_wp2_with (at_builtin; refine append_mk rfl (.tmp 11) (.tmp 16) rfl w.heap.size _ ex [(((s[k]'hlt).toNat : Int), false)] _ 1 rfl rfl rfl ho rfl (by omega) hbs ?_)
      intro v' w1 ho1 hA
      have rb1 := hA.bel _ _ rb (Nat.le_refl _)
      rw [← HST.out] at ho1
      clear ho hA
      go_wp2_with fail
      go_roundw
      case rel => exact ⟨k + 1, by omega, by go_num, ho1, rb1⟩
      case measure => simp [intOf]; omega
    · have e : (bytesL s).take k = bytesL s := List.take_of_length_le (by rw [bytesL_len]; omega)
      rw [e] at ho
      clear e hlen
      go_wp2_with fail
      go_ret
      exact ⟨_, rfl, ho, rb⟩


/-- append(out, marks...). -/
theorem append_sm {ops : Array Oper} {rest : List Oper} {o : Oper} {a : Act} {w : World} {Q : Exit → Act → World → Prop} (hgd : o.guard = none) (s x : Operand)
    (ho : o.op = .call { callee := .builtin .append, args := #[s, x], argTypes := #[22, 22] })
    (base : Nat) (v : Value) (xs l : List Mk) (ad : Option Addr) (n c : Nat) (hs : a.eval s = v) (hown : OwnM w base v xs) (hx : a.eval x = .slice ad n c) (hN : ad = none → c = 0) (hb : SM w (.slice ad n c) l)
    (hsum : xs.length + n ≤ 70368744177664) (hbase : base ≤ w.heap.size)
    (h : ∀ v' w', OwnM w' base v' (xs ++ l) → AppPost w w' base v v' → wpList Tryd.prog ops Q rest (a.put o.dst v') w') :
    wpList Tryd.prog ops Q (o :: rest) a w := by
  obtain ⟨i0, hi, hz0, hz1, hz2⟩ := info_parts infoM
  cases ad with
  | none =>
    have hl : l = [] := by
      obtain ⟨_, _, _, he, _, h3⟩ := hb
      simp only [Value.slice.injEq] at he
      rcases h3 with h3 | ⟨b, o, hb, _⟩
      · exact h3
      · rw [← he.1] at hb; cases hb
    have hn := hb.len.1
    have hc := hN rfl
    subst hl hc
    simp only [List.length_nil] at hn
    subst hn
    refine wpList_append_own_none hgd s x 22 ho base 35 i0 2 Tryd.underlying22 hi v xs.length (mkCells xs) hs hown hx ?_
    exact h v w (by rw [List.append_nil]; exact hown) (app_post hown (Nat.le_refl _) hbase (Below.refl _ w) ⟨rfl, rfl, rfl, Nat.le_refl _, fun _ _ _ => rfl⟩ (.inl rfl))
  | some ad =>
    obtain ⟨hn, hnews⟩ := hb.newsM
    refine wpList_append_own_at _ hgd s x 22 ho base 35 i0 (.agg #[.int .u8 0, .bool false]) 2 2 Tryd.underlying22 hi hz0 hz1 hz2 rfl (by decide) v xs.length (mkCells xs) hs hown ad n c (mkCells l) hx (by rw [mkCells_len, hn]) hnews (mkCells_one l) (by unfold maxLen; omega) (by omega) hbase ?_
    intro v' w' hown' hgrow _ hat
    exact h v' w' (ownm_step hn.symm hown') (app_post hown (Nat.le_refl _) hbase (Below.refl _ w) hgrow hat)
theorem OwnM.shape {w : World} {base : Nat} {v : Value} {l : List Mk} (h : OwnM w base v l) : ∃ b c, v = .slice b l.length c ∧ (b = none → c = 0) := by
  rcases h.2 with ⟨rfl, hn⟩ | ⟨g, cap, cur, rfl, _⟩
  · exact ⟨none, 0, by rw [hn], fun _ => rfl⟩
  · exact ⟨_, _, rfl, fun h => by cases h⟩
theorem OwnM.below {w w' : World} {base : Nat} {v : Value} {l : List Mk} (h : OwnM w base v l) (hb : Below w.heap.size w w') : OwnM w' base v l :=
  World.ownsRow.kept h (row := none) ⟨hb.os, hb.tape, hb.output, hb.size, fun k hk _ => hb.block k hk⟩ (by cases v.ownBlock <;> simp)
theorem OwnM.mono {w : World} {base base' : Nat} {v : Value} {l : List Mk} (h : OwnM w base v l) (hb : base' ≤ base) : OwnM w base' v l :=
  ⟨h.1, h.2.imp_right fun ⟨g, cap, cur, e, hg, r⟩ => ⟨g, cap, cur, e, Nat.le_trans hb hg, r⟩⟩
/-- galleyref00.CopyMarks, of a nil list too. -/
theorem copyMn_any (w : World) (ad : Option Addr) (n c : Nat) (l : List Mk) (hN : ad = none → c = 0) (hb : SM w (.slice ad n c) l) : Calls Tryd.prog 15 #[.slice ad n c] w (TwinM w l) := by
  have HB := Lib.hid hb
  have HN := Lib.hid hN
  obtain ⟨hl, hn⟩ := hb.len
  clear hb hl hN
  go_enter Tryd.func15, Tryd.ntmps15
  go_wp2_with (at_builtin; refine append_sm rfl (.tmp 4) (.tmp 5) rfl w.heap.size _ [] l _ n c rfl (OwnM.nil _ _) rfl HN.out HB.out (by simp; omega) (Nat.le_refl _) ?_)
  intro v' w1 hown hA
  have HO : Hid (OwnM w1 w.heap.size v' l) := Lib.hid (by simpa using hown)
  have HB1 := Lib.hid (hA.bel _ _ (Below.refl _ w) (Nat.le_refl _))
  clear hown hA
  go_wp2_with fail
  go_ret
  exact ⟨_, rfl, HO.out, HB1.out⟩
end Go.Proofs.YthegepiafodpjaaDoor

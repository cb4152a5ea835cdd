/-
  table.Parse and galleyref15.Parse: the table that two rows of marks say.
-/
import Derived.Test.YtmmnebejmfmeeaaRefRow
import Derived.Test.YtmmnebejmfmeeaaRefNew
import Derived.Test.YtmmnebejmfmeeaaBackMath
namespace Go.Proofs.Ytmmnebejmfmeeaa
open Go.RowKit

/-- What both answer. -/
def parseOut (l m : List Mk) : Value := match saidL l, saidL m with
  | some a, some b => newOut a b
  | _, _ => .tuple #[.agg (row zrow), .int .i64 60]
theorem parseOut_none1 (l m : List Mk) (h : saidL l = none) : parseOut l m = .tuple #[.agg (row zrow), .int .i64 60] := by simp [parseOut, h]
theorem parseOut_none2 (l m : List Mk) (h : saidL m = none) : parseOut l m = .tuple #[.agg (row zrow), .int .i64 60] := by
  unfold parseOut
  rw [h]
  cases saidL l <;> rfl
theorem parseOut_some (l m : List Mk) (a b : List Int) (h : saidL l = some a) (k : saidL m = some b) : parseOut l m = newOut a b := by simp [parseOut, h, k]
theorem parseOut_any (l m : List Mk) : ∃ t f, parseOut l m = .tuple #[.agg (row t), .int .i64 f] ∧ t.length = 256 := by
  unfold parseOut
  split
  · obtain ⟨t, f, h, k, _⟩ := newOut_any _ _
    exact ⟨t, f, h, k⟩
  · exact ⟨zrow, 60, rfl, zrow_len⟩

/-- What a said row of marks is, plainly. -/
def SaidIs (w : World) (l : List Mk) (v : Value) (ok : Bool) : Prop := match saidL l with
  | some t => ok = true ∧ SB w v t
  | none => ok = false ∧ v = .slice none 0 0
theorem said_is_below (w w' : World) (l : List Mk) (v : Value) (ok : Bool) (hb : Below w.heap.size w w') (h : SaidIs w l v ok) : SaidIs w' l v ok := by
  unfold SaidIs at h ⊢
  revert h
  split
  · exact fun h => ⟨h.1, h.2.below hb⟩
  · exact id
theorem said_is_none (w : World) (l : List Mk) (v : Value) (ok : Bool) (hs : saidL l = none) (h : SaidIs w l v ok) : ok = false ∧ v = .slice none 0 0 := by
  unfold SaidIs at h
  rw [hs] at h
  exact h
theorem said_is_some (w : World) (l : List Mk) (v : Value) (ok : Bool) (t : List Int) (hs : saidL l = some t) (h : SaidIs w l v ok) : ok = true ∧ SB w v t := by
  unfold SaidIs at h
  rw [hs] at h
  exact h

set_option maxHeartbeats 1000000 in
set_option maxRecDepth 100000 in
theorem parse_any (w : World) (va vb : Value) (l m : List Mk) (sl : SM w va l) (sm : SM w vb m) :
    Calls Try.prog 17 #[va, vb] w fun e w' => e = .returned (parseOut l m) ∧ Below w.heap.size w w' := by
  have hz := zeroT
  have hbu := buildT
  have a0 : Arr (w.alloc (.cells (row zrow) 27)) w.heap.size 27 zrow := Arr.new _ _ _
  have ab : Below w.heap.size w (w.alloc (.cells (row zrow) 27)) := (Below.refl _ w).alloc (Nat.le_refl _) _
  have sl := sl.below ab
  have sm := sm.below ab
  go_enter Try.func17, Try.ntmps17
  go_wp2_with fail
  refine (said_any _ _ l sl).mono ?_
  rintro e w1 ⟨v1, ok1, rfl, h1, hb1⟩
  have a0 := a0.below hb1 a0.lt
  have sm := sm.below hb1
  have ab := ab.trans (hb1.mono ab.size)
  clear hb1 sl
  go_wp2_with fail
  refine (said_any _ _ m sm).mono ?_
  rintro e w2 ⟨v2, ok2, rfl, h2, hb2⟩
  have a0 := a0.below hb2 a0.lt
  have ab := ab.trans (hb2.mono ab.size)
  have h1' : SaidIs w2 l v1 ok1 := said_is_below _ _ _ _ _ hb2 h1
  have h2' : SaidIs w2 m v2 ok2 := h2
  clear hb2 sm h1 h2
  cases hs1 : saidL l with
  | none =>
    obtain ⟨rfl, rfl⟩ := said_is_none _ _ _ _ hs1 h1'
    have HP := Lib.hid (parseOut_none1 l m hs1)
    clear h1' h2' hs1
    go_wp2_with (refine wpList_store_row rfl 27 _ _ rfl rfl w.heap.size 27 _ _ rfl rfl a0 rfl (by rw [row_size]; exact infoT) (row_one _) ?_)
    exact ret_row_tmp (l := zrow) rfl rfl a0.setRow Try.underlying27 rfl infoT rfl ⟨by rw [HP.out]; rfl, below_setRow ab (Nat.le_refl _) _⟩
  | some a =>
    cases hs2 : saidL m with
    | none =>
      obtain ⟨rfl, _⟩ := said_is_some _ _ _ _ _ hs1 h1'
      obtain ⟨rfl, rfl⟩ := said_is_none _ _ _ _ hs2 h2'
      have HP := Lib.hid (parseOut_none2 l m hs2)
      clear h1' h2' hs1 hs2
      go_wp2_with (refine wpList_store_row rfl 27 _ _ rfl rfl w.heap.size 27 _ _ rfl rfl a0 rfl (by rw [row_size]; exact infoT) (row_one _) ?_)
      exact ret_row_tmp (l := zrow) rfl rfl a0.setRow Try.underlying27 rfl infoT rfl ⟨by rw [HP.out]; rfl, below_setRow ab (Nat.le_refl _) _⟩
    | some b =>
      obtain ⟨rfl, s1⟩ := said_is_some _ _ _ _ _ hs1 h1'
      obtain ⟨rfl, s2⟩ := said_is_some _ _ _ _ _ hs2 h2'
      obtain ⟨t, f, he, ht, _⟩ := newOut_any a b
      have HP := Lib.hid ((parseOut_some l m a b hs1 hs2).trans he)
      have HE := Lib.hid he
      have HT := Lib.hid ht
      clear h1' h2' hs1 hs2 he ht
      go_wp2_with fail
      refine (new_any _ _ _ _ _ s1 s2).mono ?_
      rw [HE.out]
      rintro e w3 ⟨rfl, hb3⟩
      have a0 := a0.below hb3 a0.lt
      have ab := ab.trans (hb3.mono ab.size)
      clear hb3 s1 s2
      go_wp2_with (refine wpList_store_row rfl 27 _ _ rfl rfl w.heap.size 27 _ _ rfl rfl a0 (by rw [row_size, row_size, HT.out]; rfl) (by rw [row_size, HT.out]; exact infoT) (row_one _) ?_)
      exact ret_row_tmp (l := t) rfl rfl a0.setRow Try.underlying27 rfl (by rw [HT.out]; exact infoT) rfl ⟨by rw [HP.out]; rfl, below_setRow ab (Nat.le_refl _) _⟩

set_option maxHeartbeats 1000000 in
set_option maxRecDepth 100000 in
theorem refParse_any (w : World) (va vb : Value) (l m : List Mk) (sl : SM w va l) (sm : SM w vb m) :
    Calls Try.prog 18 #[va, vb] w fun e w' => e = .returned (parseOut l m) ∧ Below w.heap.size w w' := by
  have hz := zeroT
  have hbu := buildT
  have a0 : Arr (w.alloc (.cells (row zrow) 27)) w.heap.size 27 zrow := Arr.new _ _ _
  have ab : Below w.heap.size w (w.alloc (.cells (row zrow) 27)) := (Below.refl _ w).alloc (Nat.le_refl _) _
  have sl := sl.below ab
  have sm := sm.below ab
  go_enter Try.func18, Try.ntmps18
  go_wp2_with fail
  refine (refRow_any _ _ l sl).mono ?_
  rintro e w1 ⟨v1, ok1, rfl, h1, hb1⟩
  have a0 := a0.below hb1 a0.lt
  have sm := sm.below hb1
  have ab := ab.trans (hb1.mono ab.size)
  clear hb1 sl
  go_wp2_with fail
  refine (refRow_any _ _ m sm).mono ?_
  rintro e w2 ⟨v2, ok2, rfl, h2, hb2⟩
  have a0 := a0.below hb2 a0.lt
  have ab := ab.trans (hb2.mono ab.size)
  have h1' : SaidIs w2 l v1 ok1 := said_is_below _ _ _ _ _ hb2 h1
  have h2' : SaidIs w2 m v2 ok2 := h2
  clear hb2 sm h1 h2
  cases hs1 : saidL l with
  | none =>
    obtain ⟨rfl, rfl⟩ := said_is_none _ _ _ _ hs1 h1'
    have HP := Lib.hid (parseOut_none1 l m hs1)
    clear h1' h2' hs1
    go_wp2_with (refine wpList_store_row rfl 27 _ _ rfl rfl w.heap.size 27 _ _ rfl rfl a0 rfl (by rw [row_size]; exact infoT) (row_one _) ?_)
    exact ret_row_tmp (l := zrow) rfl rfl a0.setRow Try.underlying27 rfl infoT rfl ⟨by rw [HP.out]; rfl, below_setRow ab (Nat.le_refl _) _⟩
  | some a =>
    cases hs2 : saidL m with
    | none =>
      obtain ⟨rfl, _⟩ := said_is_some _ _ _ _ _ hs1 h1'
      obtain ⟨rfl, rfl⟩ := said_is_none _ _ _ _ hs2 h2'
      have HP := Lib.hid (parseOut_none2 l m hs2)
      clear h1' h2' hs1 hs2
      go_wp2_with (refine wpList_store_row rfl 27 _ _ rfl rfl w.heap.size 27 _ _ rfl rfl a0 rfl (by rw [row_size]; exact infoT) (row_one _) ?_)
      exact ret_row_tmp (l := zrow) rfl rfl a0.setRow Try.underlying27 rfl infoT rfl ⟨by rw [HP.out]; rfl, below_setRow ab (Nat.le_refl _) _⟩
    | some b =>
      obtain ⟨rfl, s1⟩ := said_is_some _ _ _ _ _ hs1 h1'
      obtain ⟨rfl, s2⟩ := said_is_some _ _ _ _ _ hs2 h2'
      obtain ⟨t, f, he, ht, _⟩ := newOut_any a b
      have HP := Lib.hid ((parseOut_some l m a b hs1 hs2).trans he)
      have HE := Lib.hid he
      have HT := Lib.hid ht
      clear h1' h2' hs1 hs2 he ht
      go_wp2_with fail
      refine (refNew_any _ _ _ _ _ s1 s2).mono ?_
      rw [HE.out]
      rintro e w3 ⟨rfl, hb3⟩
      have a0 := a0.below hb3 a0.lt
      have ab := ab.trans (hb3.mono ab.size)
      clear hb3 s1 s2
      go_wp2_with (refine wpList_store_row rfl 27 _ _ rfl rfl w.heap.size 27 _ _ rfl rfl a0 (by rw [row_size, row_size, HT.out]; rfl) (by rw [row_size, HT.out]; exact infoT) (row_one _) ?_)
      exact ret_row_tmp (l := t) rfl rfl a0.setRow Try.underlying27 rfl (by rw [HT.out]; exact infoT) rfl ⟨by rw [HP.out]; rfl, below_setRow ab (Nat.le_refl _) _⟩
end Go.Proofs.Ytmmnebejmfmeeaa

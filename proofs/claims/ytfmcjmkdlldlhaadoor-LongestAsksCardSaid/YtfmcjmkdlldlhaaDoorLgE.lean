/-
  longest.Search.Ends.
-/
import Derived.Test.YtfmcjmkdlldlhaaDoorLgP
import Derived.Test.YtfmcjmkdlldlhaaDoorLgR
import Derived.Laws.CopyOwn
namespace Go.Proofs.YtfmcjmkdlldlhaaDoor
open Go.RowKit

attribute [local go_sem] Oper.semAt_some

/-- An element of an owned row of single cells is written. -/
theorem own_put {W : World} {base n : Nat} {e : TypeId} {b c : Nat} {xs : List Value} (h : W.ownsRow base e 1 (.slice (some ⟨b, 0, none⟩) n c) n xs) (i : Nat) (x : Value) : (W.setCell ⟨b, i, none⟩ x).ownsRow base e 1 (.slice (some ⟨b, 0, none⟩) n c) n (xs.set i x) := by
  rcases h.2 with ⟨h1, _⟩ | ⟨g, cap, cur, h1, hb, hg, hnc, hcm, hs, ht⟩
  · simp at h1
  have h1' := h1
  simp only [Value.slice.injEq, Option.some.injEq, Addr.mk.injEq, and_true, true_and] at h1
  obtain ⟨rfl, rfl⟩ := h1
  refine ⟨by rw [List.length_set]; exact h.1, .inr ⟨b, c, cur.setIfInBounds i x, h1', hb, ?_, hnc, hcm, by simpa using hs, ?_⟩⟩
  · rw [heap_setCell_same W b i _ _ x hg]
  · rw [Array.toList_setIfInBounds, List.take_set, ht]
/-- A row that has room is taken longer. -/
theorem own_more {W : World} {base n n' : Nat} {e : TypeId} {a : Addr} {c : Nat} {xs : List Value} (h : W.ownsRow base e 1 (.slice (some a) n c) n xs) (hn : n' ≤ c) : ∃ ys, W.ownsRow base e 1 (.slice (some a) n' c) n' ys := by
  rcases h.2 with ⟨h1, _⟩ | ⟨g, cap, cur, h1, hb, hg, hnc, hcm, hs, ht⟩
  · simp at h1
  simp only [Value.slice.injEq, Option.some.injEq] at h1
  obtain ⟨rfl, _, rfl⟩ := h1
  exact ⟨cur.toList.take n', by simp; omega, .inr ⟨g, c, cur, rfl, hb, hg, hn, hcm, hs, by rw [Nat.mul_one]⟩⟩
theorem zeroBo (w : World) : (zeroValue 4).run Tryd.prog w = .ok (.bool false) w := by kernel_rfl
theorem clearBo {W : World} {base n : Nat} {b c : Nat} {xs : List Value} (h : W.ownsRow base 4 1 (.slice (some ⟨b, 0, none⟩) n c) n xs) (hn : 0 < n) (ty : TypeId) :
    (Builtin.clear_ #[71] ty #[.slice (some ⟨b, 0, none⟩) n c]).run Tryd.prog W = .ok (.tuple #[]) (W.setCells b 0 (List.replicate n (.bool false))) := by
  have hl := h.1
  exact Lib.run_clear_slice W _ _ ty _ Tryd.underlying71 zeroBo rfl rfl b 0 _ _ hn (fun j hj => (own_frozen h j (by omega)).1) (fun j hj => (own_frozen h j (by omega)).2)
def cellsB (B : List Bool) : List Value := B.map Value.bool
theorem cellsB_set (B : List Bool) (i : Nat) (x : Bool) : (cellsB B).set i (.bool x) = cellsB (B.set i x) := by simp [cellsB, List.map_set]

/-- What Ends tells its place of: in the row be, through the variables b7, b8. -/
def EJ (base b7 b8 be n ec p : Nat) (B : List Bool) (d : List Nat) (W : World) : Prop :=
  At W b7 71 [.slice (some ⟨be, 0, none⟩) n ec] ∧ At W b8 3 [.int .i64 (p : Int)] ∧ W.ownsRow base 4 1 (.slice (some ⟨be, 0, none⟩) n ec) n (cellsB (if d = [] then B else B.set p true)) ∧ base ≤ b7 ∧ base ≤ b8
def EF (b7 b8 be k : Nat) : Prop := k = b7 ∨ k = b8 ∨ k = be
theorem at_nb {W : World} {b : Nat} {T : TypeId} {l : List Value} (h : At W b T l) (hne : T ≠ 5) (cs : Array Value) (fz : Nat × Nat) : W.heap[b]? ≠ some (.cells cs 5 fz) := fun hh => by
  unfold At at h
  rw [hh] at h
  simp only [Option.some.injEq, Obj.cells.injEq] at h
  exact hne h.2.1.symm
theorem ends_dn (base b7 b8 be n ec p : Nat) (B : List Bool) (hp : p < n) : Dn 32 #[.pointer (some ⟨b7, 0, none⟩), .pointer (some ⟨b8, 0, none⟩)] base (EF b7 b8 be) (EJ base b7 b8 be n ec p B) := by
  refine ⟨?_, ?_, ?_, ?_, fun vs W => by kernel_rfl⟩
  · rintro d W ⟨h1, h2, h3, _⟩ k (rfl | rfl | rfl)
    · exact h1.lt
    · exact h2.lt
    · exact (World.ownsRow.lt h3 k rfl).2
  · rintro d W ⟨h1, h2, h3, _⟩ k (rfl | rfl | rfl) cs fz
    · exact at_nb h1 (by decide) cs fz
    · exact at_nb h2 (by decide) cs fz
    · exact own_nb h3 (by decide) rfl cs fz
  · rintro d W W' ⟨h1, h2, h3, h4⟩ hk
    exact ⟨h1.keep (hk _ (.inl rfl)), h2.keep (hk _ (.inr (.inl rfl))), own_blk h3 fun k e => hk k (by simp only [Value.ownBlock, Option.some.injEq] at e; exact .inr (.inr e.symm)), h4⟩
  · rintro d W ⟨h1, h2, h3, h4, h5⟩ f
    have hge : base ≤ be := (World.ownsRow.lt h3 be rfl).1
    have c7 : W.cell? ⟨b7, 0, none⟩ = some (.slice (some ⟨be, 0, none⟩) n ec) := h1.cell 0
    have c8 : W.cell? ⟨b8, 0, none⟩ = some (.int .i64 (p : Int)) := h2.cell 0
    have hlen := h3.1
    have hce := own_cell h3 p (by omega)
    have hcs : (W.cell? ⟨be, p, none⟩).isSome = true := by rw [hce.1, List.getElem?_eq_getElem (by omega)]; rfl
    obtain ⟨u, hu⟩ := Option.isSome_iff_exists.1 hcs
    have hfz := hce.2
    have hown := own_put h3 p (.bool true)
    have hA7 : At (W.setCell ⟨be, p, none⟩ (.bool true)) b7 71 [.slice (some ⟨be, 0, none⟩) n ec] := h1.keep (heap_setCell_other W ⟨be, p, none⟩ b7 _ fun e => (h1.ne_own h3 (by decide)) (by simp only at e; rw [e]; rfl))
    have hA8 : At (W.setCell ⟨be, p, none⟩ (.bool true)) b8 3 [.int .i64 (p : Int)] := h2.keep (heap_setCell_other W ⟨be, p, none⟩ b8 _ fun e => (h2.ne_own h3 (by decide)) (by simp only at e; rw [e]; rfl))
    have hset : (cellsB (if d = [] then B else B.set p true)).set p (.bool true) = cellsB (if d ++ [f] = [] then B else B.set p true) := by
      rw [cellsB_set, if_neg (by simp : ¬ d ++ [f] = [])]
      split
      · rfl
      · rw [List.set_set]
    rw [hset] at hown
    have HR := Lib.hid (show EJ base b7 b8 be n ec p B (d ++ [f]) (W.setCell ⟨be, p, none⟩ (.bool true)) from ⟨hA7, hA8, hown, h4, h5⟩)
    have HU := Lib.hid (Up.setf (w := W) (b := base) (i := p) (x := .bool true) (EF b7 b8 be) (.inr (.inr rfl)) hge)
    have hpI : (p : Int) < (n : Int) := by omega
    clear hcs hce hown hA7 hA8 hset h1 h2 h3
    show Calls _ _ #[.int .i64 (f : Int), .pointer (some ⟨b7, 0, none⟩), .pointer (some ⟨b8, 0, none⟩)] W _
    go_enter Tryd.func32, Tryd.ntmps32
    go_wp2_with fail
    go_end0
    exact ⟨rfl, HR.out, HU.out⟩

theorem cblk_not {W : World} {base : Nat} {M : List Ins} {s : SO} {fs : List Value} (h : Mid W base M s fs) {b : Nat} {T : TypeId} {l : List Value} (hb : At W b T l) (h1 : T ≠ TS) (h2 : T ≠ TI) (h3 : T ≠ 84) (h4 : T ≠ TT) (h5 : T ≠ 3) : ¬ CBlk s b := by
  rintro (e | e | e | e | e | e)
  · exact hb.ne_at h.o h1 e
  · exact hb.ne_own h.m h2 e
  · exact hb.ne_own h.st h3 e
  · exact hb.ne_own h.nw h4 e
  · exact hb.ne_own h.nx h4 e
  · exact hb.ne_own h.sk h5 e
/-- What Ends leaves: the row of ends in a block of its own. -/
def EndsPost (W : World) (base : Nat) (M : List Ins) (tx : List Int) (f : Nat) (s : SO) (e : Ending) (W' : World) : Prop :=
  ∃ g s', e = .returned (.slice (some ⟨g, 0, none⟩) (tx.length + 1) (tx.length + 1)) ∧ W.heap.size ≤ g ∧ At W' g 4 (cellsB (endsM M tx f).1) ∧ ¬ SBlk s' g ∧ s'.g = s.g ∧ s'.mv = s.mv ∧ s'.steps = (endsM M tx f).2 ∧ Sob W' base M s' ∧ Up W W' base (SBlk s) (SBlk s')
/-- The loop of Ends: ahead of place p. -/
structure EnR (W0 W : World) (base : Nat) (M : List Ins) (tx : List Int) (f : Nat) (s0 : SO) (p : Nat) (s : SO) (B : List Bool) (b7 b8 be ec : Nat) (a : Option Addr) (n cp : Nat) : Prop where
  mid : Mid W base M s (soCells s)
  stk : s.stk = []
  st : StOk M s
  same : s.g = s0.g ∧ s.mv = s0.mv
  ev : ∃ el, s.ev = .slice (some ⟨be, 0, none⟩) el ec
  en : ∃ el xs, W.ownsRow base 4 1 s.ev el xs
  ej : EJ base b7 b8 be (tx.length + 1) ec p B [] W
  far : ∀ k, EF b7 b8 be k → ¬ CBlk s k
  new : W0.heap.size ≤ b7 ∧ W0.heap.size ≤ b8
  thr : ∀ t : Nat × Nat, t ∈ s.now ↔ t.2 = f ∧ Ent M tx f t.1 p
  len : s.now.length ≤ 65541
  sp : s.steps ≤ (p - f) * 65540
  bl : B.length = tx.length + 1
  run : endsF M tx (tx.length + 1 - p) p s.now B s.steps = endsM M tx f
  up : Up W0 W base (SBlk s0) (fun k => CBlk s k ∨ EF b7 b8 be k)
  txr : TxR W a n cp tx
/-- A round of the loop. -/
theorem EnR.threads {W0 W : World} {base : Nat} {M : List Ins} {tx : List Int} {f : Nat} {s0 s : SO} {p : Nat} {B : List Bool} {b7 b8 be ec : Nat} {a : Option Addr} {n cp : Nat} (hG : Good M) (h : EnR W0 W base M tx f s0 p s B b7 b8 be ec a n cp) :
    s.now.Pairwise (fun a b => a.2 ≤ b.2) ∧ ∀ t ∈ s.now, t.1 < M.length := ⟨srt_one fun t ht => ((h.thr t).1 ht).1, fun t ht => run_lt M tx hG (((h.thr t).1 ht).2.run M tx)⟩
theorem EnR.run_next {W0 W : World} {base : Nat} {M : List Ins} {tx : List Int} {f : Nat} {s0 s : SO} {p : Nat} {B : List Bool} {b7 b8 be ec : Nat} {a : Option Addr} {n cp : Nat} (h : EnR W0 W base M tx f s0 p s B b7 b8 be ec a n cp) (hn : s.now ≠ []) (hp : p ≤ tx.length) :
    endsF M tx (tx.length + 1 - (p + 1)) (p + 1) (placeF M tx p s.now s.steps).nx (if (placeF M tx p s.now s.steps).dn = [] then B else B.set p true) (placeF M tx p s.now s.steps).sp = endsM M tx f := by
  have hr := h.run
  rw [show tx.length + 1 - p = (tx.length + 1 - (p + 1)) + 1 by omega, endsF, if_neg hn] at hr
  exact hr
theorem EnR.run_end {W0 W : World} {base : Nat} {M : List Ins} {tx : List Int} {f : Nat} {s0 s : SO} {p : Nat} {B : List Bool} {b7 b8 be ec : Nat} {a : Option Addr} {n cp : Nat} (h : EnR W0 W base M tx f s0 p s B b7 b8 be ec a n cp) (hn : s.now = []) : endsM M tx f = (B, s.steps) := by
  have hr := h.run
  rw [hn] at hr
  rw [← hr]
  cases tx.length + 1 - p with
  | zero => rfl
  | succ k => rw [endsF, if_pos rfl]
end Go.Proofs.YtfmcjmkdlldlhaaDoor

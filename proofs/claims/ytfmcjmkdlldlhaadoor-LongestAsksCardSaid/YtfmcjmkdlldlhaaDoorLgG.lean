/-
  longest.Search.Find: what it tells its place of; its loop.
-/
import Derived.Test.YtfmcjmkdlldlhaaDoorLgDd
import Derived.Test.YtfmcjmkdlldlhaaDoorLgE
namespace Go.Proofs.YtfmcjmkdlldlhaaDoor
open Go.RowKit

attribute [local go_sem] Oper.semAt_some

/-- Two results: a struct that lies in a block of its own, and a value in a slot. -/
theorem ret_cell_tmp {P : Program} {fn : Func} {p q : Tmp} {ty : TypeId} (h : fn.results = #[.cell p ty, .tmp q]) {R : Ending → World → Prop} {a : Act} {w : World} {g : Nat} {t : TypeId} {cs : List Value} {d : TypeDesc}
    (hp : a.tmps.getD p undef = .pointer (some ⟨g, 0, none⟩)) (hg : At w g t cs)
    (hu : P.underlying ty = some d) (hd : (match d with | .struct _ | .array _ _ => true | _ => false) = true) (hi : (P.info? ty).map (·.size) = some cs.length) (hdef : a.defers = [])
    (hR : R (.returned (.tuple #[.agg cs.toArray, a.tmps.getD q undef])) w) : bodyPost P fn R .ret a w := by
  have hp' : a.tmps[p]?.getD undef = .pointer (some ⟨g, 0, none⟩) := by simpa using hp
  refine bodyPost_ret (v := .tuple #[.agg cs.toArray, a.tmps.getD q undef]) ?_ hdef hR
  simp [results, h, hp', asAddr, run_loadVar_row w g t ty cs.toArray (0, 0) d hg hu hd (by simpa using hi)]

def spanC (b : Option (Nat × Nat)) : List Value := match b with
  | none => [.int .i64 0, .int .i64 0]
  | some (f, t) => [.int .i64 (f : Int), .int .i64 (t : Int)]
/-- What Find tells its place of, at b8 (the best), b9 (whether there is one), b10 (the place). -/
def FJ (base b8 b9 b10 p : Nat) (b : Option (Nat × Nat)) (d : List Nat) (W : World) : Prop :=
  At W b8 TSp (spanC (d.foldl (upB p) b)) ∧ At W b9 4 [.bool (d.foldl (upB p) b).isSome] ∧ At W b10 3 [.int .i64 (p : Int)] ∧ base ≤ b8 ∧ base ≤ b9 ∧ base ≤ b10
def FF (b8 b9 b10 k : Nat) : Prop := k = b8 ∨ k = b9 ∨ k = b10
theorem upB_isSome (p : Nat) (b : Option (Nat × Nat)) (f : Nat) : (upB p b f).isSome = true := by
  unfold upB
  split
  · rfl
  · split <;> rfl
theorem find_dn (base b8 b9 b10 p : Nat) (b : Option (Nat × Nat)) : Dn 29 #[.pointer (some ⟨b9, 0, none⟩), .pointer (some ⟨b8, 0, none⟩), .pointer (some ⟨b10, 0, none⟩)] base (FF b8 b9 b10) (FJ base b8 b9 b10 p b) := by
  refine ⟨?_, ?_, ?_, ?_, fun vs W => by kernel_rfl⟩
  · rintro d W ⟨h1, h2, h3, _⟩ k (rfl | rfl | rfl)
    · exact h1.lt
    · exact h2.lt
    · exact h3.lt
  · rintro d W ⟨h1, h2, h3, _⟩ k (rfl | rfl | rfl) cs fz
    · exact at_nb h1 (by decide) cs fz
    · exact at_nb h2 (by decide) cs fz
    · exact at_nb h3 (by decide) cs fz
  · rintro d W W' ⟨h1, h2, h3, h4⟩ hk
    exact ⟨h1.keep (hk _ (.inl rfl)), h2.keep (hk _ (.inr (.inl rfl))), h3.keep (hk _ (.inr (.inr rfl))), h4⟩
  · rintro d W ⟨h1, h2, h3, h4, h5, h6⟩ f
    have e98 : b9 ≠ b8 := h2.ne_at h1 (by decide)
    have e108 : b10 ≠ b8 := h3.ne_at h1 (by decide)
    have e109 : b10 ≠ b9 := h3.ne_at h2 (by decide)
    have hfold : ∀ b' : Option (Nat × Nat), d.foldl (upB p) b = b' → (d ++ [f]).foldl (upB p) b = upB p b' f := fun b' e => by rw [List.foldl_append, e]; rfl
    generalize hb' : d.foldl (upB p) b = b' at h1 h2
    have hfd := hfold b' hb'
    clear hfold hb'
    have c9 : W.cell? ⟨b9, 0, none⟩ = some (.bool b'.isSome) := h2.cell 0
    have f9 : W.frozen? ⟨b9, 0, none⟩ = false := h2.frozen 0
    have c10 : W.cell? ⟨b10, 0, none⟩ = some (.int .i64 (p : Int)) := h3.cell 0
    have f80 := h1.frozen 0
    have f81 := h1.frozen 1
    -- only the truth is written
    have hS1 : ∀ W' : World, At W' b8 TSp (spanC (upB p b' f)) → At W' b9 4 [.bool b'.isSome] → At W' b10 3 [.int .i64 (p : Int)] → FJ base b8 b9 b10 p b (d ++ [f]) (W'.setCell ⟨b9, 0, none⟩ (.bool true)) := fun W' a8 a9 a10 => by
      refine ⟨?_, ?_, ?_, h4, h5, h6⟩
      · rw [hfd]; exact a8.keep (heap_setCell_other W' ⟨b9, 0, none⟩ b8 _ e98.symm)
      · rw [hfd, upB_isSome]; exact a9.set 0 (.bool true)
      · exact a10.keep (heap_setCell_other W' ⟨b9, 0, none⟩ b10 _ e109)
    have hU9 : ∀ W' : World, Up W' (W'.setCell ⟨b9, 0, none⟩ (.bool true)) base (FF b8 b9 b10) (FF b8 b9 b10) := fun W' => Up.setf (FF b8 b9 b10) (.inr (.inl rfl)) h5
    have hU8 : Up W ((W.setCell ⟨b8, 0, none⟩ (.int .i64 (f : Int))).setCell ⟨b8, 1, none⟩ (.int .i64 (p : Int))) base (FF b8 b9 b10) (FF b8 b9 b10) := (Up.setf (w := W) (i := 0) (x := .int .i64 (f : Int)) (FF b8 b9 b10) (.inl rfl) h4).trans (Up.setf (i := 1) (x := .int .i64 (p : Int)) (FF b8 b9 b10) (.inl rfl) h4)
    show Calls _ _ #[.int .i64 (f : Int), .pointer (some ⟨b9, 0, none⟩), .pointer (some ⟨b8, 0, none⟩), .pointer (some ⟨b10, 0, none⟩)] W _
    have hnew : ∀ x y : Value, spanC b' = [x, y] → upB p b' f = some (f, p) → FJ base b8 b9 b10 p b (d ++ [f]) (((W.setCell ⟨b8, 0, none⟩ (.int .i64 (f : Int))).setCell ⟨b8, 1, none⟩ (.int .i64 (p : Int))).setCell ⟨b9, 0, none⟩ (.bool true)) := fun x y hxy hup => by
      refine hS1 _ ?_ ?_ ?_
      · rw [hup]
        rw [hxy] at h1
        exact (h1.set 0 (.int .i64 (f : Int))).set 1 (.int .i64 (p : Int))
      · exact (h2.keep (heap_setCell_other W ⟨b8, 0, none⟩ b9 _ e98)).keep (heap_setCell_other _ ⟨b8, 1, none⟩ b9 _ e98)
      · exact (h3.keep (heap_setCell_other W ⟨b8, 0, none⟩ b10 _ e108)).keep (heap_setCell_other _ ⟨b8, 1, none⟩ b10 _ e108)
    have HNW := Lib.hid hnew
    have HS1 := Lib.hid (fun a => hS1 W a h2 h3)
    have HU9 := Lib.hid hU9
    have HU8 := Lib.hid hU8
    have H1 := Lib.hid h1
    clear hnew hS1 hU9 hU8
    cases b' with
    | none =>
      have d80 : W.cell? ⟨b8, 0, none⟩ = some (.int .i64 0) := H1.out.cell 0
      have d81 : W.cell? ⟨b8, 1, none⟩ = some (.int .i64 0) := H1.out.cell 1
      have c9' : W.cell? ⟨b9, 0, none⟩ = some (.bool false) := c9
      clear c9 h1 h2 h3 hfd
      go_enter Tryd.func29, Tryd.ntmps29
      go_wp2_with fail
      go_end0
      exact ⟨rfl, HNW.out _ _ rfl rfl, HU8.out.trans (HU9.out _)⟩
    | some bb =>
      obtain ⟨b0, q⟩ := bb
      have d80 : W.cell? ⟨b8, 0, none⟩ = some (.int .i64 (b0 : Int)) := H1.out.cell 0
      have d81 : W.cell? ⟨b8, 1, none⟩ = some (.int .i64 (q : Int)) := H1.out.cell 1
      have c9' : W.cell? ⟨b9, 0, none⟩ = some (.bool true) := c9
      clear c9 h1 h2 h3 hfd
      by_cases hle : f ≤ b0
      · have hlb : decide (f ≤ b0) = true := decide_eq_true hle
        have hlI : (f : Int) ≤ (b0 : Int) := by omega
        have HLE := Lib.hid hle
        go_enter Tryd.func29, Tryd.ntmps29
        go_wp2_with fail
        go_end0
        exact ⟨rfl, HNW.out _ _ rfl (by simp [upB, HLE.out]), HU8.out.trans (HU9.out _)⟩
      · have hlb : decide (f ≤ b0) = false := decide_eq_false hle
        have hlI : ¬ (f : Int) ≤ (b0 : Int) := by omega
        have HLE := Lib.hid hle
        go_enter Tryd.func29, Tryd.ntmps29
        go_wp2_with fail
        go_end0
        exact ⟨rfl, HS1.out (by have e : upB p (some (b0, q)) f = some (b0, q) := by simp [upB]; intro h; exact absurd h HLE.out
                                rw [e]; exact H1.out), HU9.out W⟩

/-- The search in the midst of a round of Find: wr was the round's beginning, with the search s0. -/
structure FnS (wr w : World) (base : Nat) (M : List Ins) (tx : List Int) (p : Nat) (s0 s : SO) (b : Option (Nat × Nat)) (d : List Nat) (b6 b8 b9 b10 : Nat) (a : Option Addr) (n cp : Nat) : Prop where
  sob : Sob w base M s
  fj : FJ base b8 b9 b10 p b d w
  far : ∀ k, FF b8 b9 b10 k → ¬ SBlk s k
  r6 : At w b6 TSp [.int .i64 0, .int .i64 0] ∧ ¬ SBlk s b6
  up : Up wr w base (fun k => SBlk s0 k ∨ FF b8 b9 b10 k) (fun k => SBlk s k ∨ FF b8 b9 b10 k)
  txr : TxR w a n cp tx
section
variable {wr w w' : World} {base : Nat} {M : List Ins} {tx : List Int} {p : Nat} {s0 s s' : SO} {b : Option (Nat × Nat)} {d d' : List Nat} {b6 b8 b9 b10 : Nat} {a : Option Addr} {n cp : Nat}
theorem FnS.step (h : FnS wr w base M tx p s0 s b d b6 b8 b9 b10 a n cp) (hs : Sob w' base M s') (hu : Up w w' base (SBlk s) (SBlk s')) : FnS wr w' base M tx p s0 s' b d b6 b8 b9 b10 a n cp := by
  have D := find_dn base b8 b9 b10 p b
  have hnew : ∀ k, SBlk s' k → k < w.heap.size → SBlk s k := fun k hk hlt => by
    rcases hu.new k hk with e | e
    · exact e
    · omega
  exact ⟨hs, D.keep h.fj fun k hk => hu.keep k (D.lt h.fj k hk) (h.far k hk), fun k hk hc => h.far k hk (hnew k hc (D.lt h.fj k hk)), ⟨h.r6.1.keep (hu.keep b6 h.r6.1.lt h.r6.2), fun hc => h.r6.2 (hnew _ hc h.r6.1.lt)⟩,
    h.up.trans (hu.more (fun _ h => .inl h) fun _ h => h.imp_right .inr), h.txr.keep (.of_up hu h.sob.nb)⟩
theorem FnS.below (h : FnS wr w base M tx p s0 s b d b6 b8 b9 b10 a n cp) (hb : Below w.heap.size w w') : FnS wr w' base M tx p s0 s b d b6 b8 b9 b10 a n cp :=
  h.step (h.sob.below hb) (Up.below _ hb h.sob.size)
/-- A place has been gone through. -/
theorem FnS.placed (h : FnS wr w base M tx p s0 s b d b6 b8 b9 b10 a n cp) (h6 : ¬ FF b8 b9 b10 b6) (hm : Mid w' base M s' (soCells s')) (hk : s'.stk = []) (hst : StOk M s') (hev : s'.ev = s.ev) (hf : Frn w w' base s s' (FF b8 b9 b10) (FJ base b8 b9 b10 p b) d' a n cp tx) : FnS wr w' base M tx p s0 s' b d' b6 b8 b9 b10 a n cp := by
  have D := find_dn base b8 b9 b10 p b
  have hevk : ∀ k, s.ev.ownBlock = some k → w'.heap[k]? = w.heap[k]? := fun k hk => hf.up.keep k (h.sob.lt k (.inr hk)).1 fun e => e.elim (h.sob.ends_far k hk) fun e => h.far k e (.inr hk)
  have hnew : ∀ k, CBlk s' k → k < w.heap.size → CBlk s k ∨ FF b8 b9 b10 k := fun k hk hlt => by
    rcases hf.up.new k (.inl hk) with e | e
    · exact e
    · omega
  refine ⟨⟨hm, hk, hst.sr, ?_⟩, hf.jd, fun k hk hc => ?_, ⟨h.r6.1.keep (hf.up.keep b6 h.r6.1.lt fun e => e.elim (fun e => h.r6.2 (.inl e)) h6), fun hc => ?_⟩, h.up.trans (hf.up.more (fun k e => e.elim (fun e => .inl (.inl e)) .inr) fun k e => ?_), hf.txr⟩
  · obtain ⟨n, xs, ho⟩ := h.sob.en
    rw [hev]
    exact ⟨n, xs, own_blk ho hevk⟩
  · rcases hc with e | e
    · exact hf.dis k hk e
    · rw [hev] at e
      exact h.far k hk (.inr e)
  · rcases hc with e | e
    · rcases hnew _ e h.r6.1.lt with e | e
      · exact h.r6.2 (.inl e)
      · exact h6 e
    · rw [hev] at e
      exact h.r6.2 (.inr e)
  · rcases e with (e | e) | e
    · exact .inl (.inl e)
    · rw [hev] at e
      exact .inr (.inl (.inr e))
    · exact .inl (.inr e)
end
/-- Threads are deleted: the list at this place is another, in its old block. -/
theorem Sob.setNow {W W' : World} {base : Nat} {M : List Ins} {s : SO} {na : Option Addr} {L nc L' : Nat} {l : List (Nat × Nat)} (h : Sob W base M s) (hnv : s.nv = .slice na L nc) (ho : W'.ownsRow base TT 2 (.slice na L' nc) l.length (cellsT l)) (hL : L' = l.length) (hu : Up W W' base (fun k => (Value.slice na 0 0).ownBlock = some k) (fun k => (Value.slice na 0 0).ownBlock = some k)) :
    Sob (W'.setCell ⟨s.g, 5, none⟩ (.slice na L' nc)) base M { s with nv := .slice na L' nc, now := l } ∧ Up W (W'.setCell ⟨s.g, 5, none⟩ (.slice na L' nc)) base (SBlk s) (SBlk { s with nv := .slice na L' nc, now := l }) ∧ W'.cell? ⟨s.g, 5, none⟩ = some s.nv ∧ W'.frozen? ⟨s.g, 5, none⟩ = false := by
  subst hL
  have hbk : ∀ k, (Value.slice na 0 0).ownBlock = some k → s.nv.ownBlock = some k := fun k hk => by rw [hnv, ← hk]; exact own_len_eq
  have hkeep : ∀ {e : TypeId} {sz n : Nat} {v : Value} {xs : List Value}, W.ownsRow base e sz v n xs → e ≠ TT → W'.ownsRow base e sz v n xs := fun ho2 hne => own_blk ho2 fun k hk => hu.keep k (World.ownsRow.lt ho2 k hk).2 fun e => apart_types ho2 h.mid.nw hne k hk (hbk k e)
  have hA : At W' s.g TS (soCells s) := h.mid.o.keep (hu.keep s.g h.mid.o.lt fun e => h.mid.o.ne_own h.mid.nw neST (hbk _ e))
  have hnx : W'.ownsRow base TT 2 s.xv s.next.length (cellsT s.next) := own_blk h.mid.nx fun k hk => hu.keep k (World.ownsRow.lt h.mid.nx k hk).2 fun e => h.mid.ap k (hbk k e) hk
  have hm : Mid W' base M { s with nv := .slice na l.length nc, now := l } (soCells s) := ⟨hA, hkeep h.mid.m neTI.symm, hkeep h.mid.st neTW.symm, ho, hnx, hkeep h.mid.sk neTK.symm, fun k h1 h2 => h.mid.ap k (hbk k (by rw [← h1]; exact own_len_eq)) h2, h.mid.ge⟩
  have hm2 := hm.setf 5 (.slice na l.length nc)
  refine ⟨⟨⟨hm2.o, hm2.m, hm2.st, hm2.nw, hm2.nx, hm2.sk, hm2.ap, hm2.ge⟩, h.stk, h.sr, ?_⟩, ?_, hA.cell 5, hA.frozen 5⟩
  · obtain ⟨n, xs, he⟩ := h.en
    exact ⟨n, xs, own_set_at hA (hkeep he neBT) neBS.symm⟩
  · have e : SBlk s = SBlk { s with nv := .slice na l.length nc, now := l } := by
      funext k
      unfold SBlk
      rw [cblk_same (s1 := s) (s2 := { s with nv := .slice na l.length nc, now := l }) rfl rfl rfl (by rw [hnv]; exact own_len_eq) rfl rfl]
    rw [← e]
    exact (hu.more (fun k hk => .inl (.inr (.inr (.inr (.inl (hbk k hk)))))) fun k hk => .inr hk).trans (Up.setf (SBlk s) (.inl (.inl rfl)) h.mid.ge)
/-- One more thread at this place. -/
theorem Sob.appNow {W W' : World} {base : Nat} {M : List Ins} {s : SO} {v' : Value} {t : Nat × Nat} (h : Sob W base M s) (ho : W'.ownsRow base TT 2 v' (s.now.length + 1) (cellsT s.now ++ [.int .i64 (t.1 : Int), .int .i64 (t.2 : Int)])) (hp : AppPost W W' base s.nv v') :
    Sob (W'.setCell ⟨s.g, 5, none⟩ v') base M { s with nv := v', now := s.now ++ [t] } ∧ Up W (W'.setCell ⟨s.g, 5, none⟩ v') base (SBlk s) (SBlk { s with nv := v', now := s.now ++ [t] }) ∧ W'.cell? ⟨s.g, 5, none⟩ = some s.nv ∧ W'.frozen? ⟨s.g, 5, none⟩ = false := by
  have hA := h.mid.appN ho hp
  have hm := hA.1.setf 5 v'
  refine ⟨⟨⟨hm.o, hm.m, hm.st, hm.nw, hm.nx, hm.sk, hm.ap, hm.ge⟩, h.stk, h.sr, ?_⟩, ?_, hA.1.o.cell 5, hA.1.o.frozen 5⟩
  · obtain ⟨n, xs, he⟩ := h.en
    exact ⟨n, xs, own_set_at hA.1.o ((app_keepT h.mid.nw hp neBT.symm).own he) neBS.symm⟩
  · exact (hA.2.more (fun k hk => .inl hk) fun k hk => hk.elim .inl fun e => .inr (.inr e)).trans (Up.setf _ (.inl (.inl rfl)) hA.1.ge)
theorem Fnd.threads {M : List Ins} {tx : List Int} {f0 p : Nat} {L : List (Nat × Nat)} {b : Option (Nat × Nat)} (hG : Good M) (h : Fnd M tx f0 p L b) :
    (if b.isNone then L ++ [(0, p)] else L).Pairwise (fun a c => a.2 ≤ c.2) ∧ ∀ t ∈ (if b.isNone then L ++ [(0, p)] else L), t.1 < M.length := by
  constructor
  · split
    · rw [List.pairwise_append]
      refine ⟨h.srt, List.pairwise_singleton _ _, fun a ha c hc => ?_⟩
      simp only [List.mem_singleton] at hc
      subst hc
      exact Nat.le_of_lt (h.snd a ha).2.1
    · exact h.srt
  · intro t ht
    have hL : t ∈ L → t.1 < M.length := fun ht => run_lt M tx hG ((h.snd t ht).2.2.run M tx)
    split at ht
    · rcases List.mem_append.1 ht with h' | h'
      · exact hL h'
      · simp only [List.mem_singleton] at h'
        subst h'
        exact hG.pos
    · exact hL ht
end Go.Proofs.YtfmcjmkdlldlhaaDoor

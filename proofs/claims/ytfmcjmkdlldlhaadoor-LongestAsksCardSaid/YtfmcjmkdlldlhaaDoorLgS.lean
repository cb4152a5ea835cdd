/-
  A search as it lies in memory: its struct and the blocks of its lists; what each small step leaves.
-/
import Derived.Test.YtfmcjmkdlldlhaaDoorAppL
import Derived.Test.YtfmcjmkdlldlhaaDoorUp
import Derived.Test.YtfmcjmkdlldlhaaDoorLgM
import Derived.Deep.AppendLies
namespace Go.Proofs.YtfmcjmkdlldlhaaDoor
open Go.RowKit

abbrev TS : TypeId := 88
abbrev TI : TypeId := 43
abbrev TT : TypeId := 92
theorem neST : TS ≠ TT := by decide
theorem neSI : TS ≠ TI := by decide
theorem neSK : TS ≠ 3 := by decide
theorem neSW : TS ≠ 84 := by decide
theorem neTI : TT ≠ TI := by decide
theorem neTK : TT ≠ 3 := by decide
theorem neTW : TT ≠ 84 := by decide
theorem neKI : (3 : TypeId) ≠ TI := by decide
theorem neKW : (3 : TypeId) ≠ 84 := by decide
theorem neWI : (84 : TypeId) ≠ TI := by decide

theorem flat_len {α : Type} (f : α → List Value) (n : Nat) (hf : ∀ x, (f x).length = n) (l : List α) : (l.flatMap f).length = l.length * n := by
  induction l with
  | nil => simp
  | cons x l ih => rw [List.flatMap_cons, List.length_append, ih, hf, List.length_cons, Nat.add_mul, Nat.one_mul, Nat.add_comm]
theorem flat_get {α : Type} (f : α → List Value) (n : Nat) (hf : ∀ x, (f x).length = n) (l : List α) (i c : Nat) (hc : c < n) (x : α) (hx : l[i]? = some x) : (l.flatMap f)[i * n + c]? = (f x)[c]? := by
  induction l generalizing i with
  | nil => simp at hx
  | cons y l ih =>
    rw [List.flatMap_cons]
    cases i with
    | zero =>
      simp only [List.getElem?_cons_zero, Option.some.injEq] at hx
      subst hx
      rw [Nat.zero_mul, Nat.zero_add, List.getElem?_append_left (by rw [hf]; exact hc)]
    | succ i =>
      have := ih i (by simpa using hx)
      rw [List.getElem?_append_right (by rw [hf, Nat.succ_mul]; omega), hf, ← this]
      congr 1
      rw [Nat.succ_mul]
      omega
def encI (a : Ins) : List Value := [.int .i8 a.op, .int .u64 ((a.set[0]?.getD 0 : Nat) : Int), .int .u64 ((a.set[1]?.getD 0 : Nat) : Int), .int .u64 ((a.set[2]?.getD 0 : Nat) : Int), .int .u64 ((a.set[3]?.getD 0 : Nat) : Int), .int .i64 a.x, .int .i64 a.y]
def cellsI (M : List Ins) : List Value := M.flatMap encI
theorem cellsI_len (M : List Ins) : (cellsI M).length = M.length * 7 := flat_len encI 7 (fun _ => rfl) M
theorem cellsI_get {M : List Ins} {i c : Nat} (hc : c < 7) {a : Ins} (ha : M[i]? = some a) : (cellsI M)[i * 7 + c]? = (encI a)[c]? := flat_get encI 7 (fun _ => rfl) M i c hc a ha
def encT (t : Nat × Nat) : List Value := [.int .i64 (t.1 : Int), .int .i64 (t.2 : Int)]
def cellsT (L : List (Nat × Nat)) : List Value := L.flatMap encT
theorem cellsT_len (L : List (Nat × Nat)) : (cellsT L).length = L.length * 2 := flat_len encT 2 (fun _ => rfl) L
theorem cellsT_get {L : List (Nat × Nat)} {i c : Nat} (hc : c < 2) {t : Nat × Nat} (ht : L[i]? = some t) : (cellsT L)[i * 2 + c]? = (encT t)[c]? := flat_get encT 2 (fun _ => rfl) L i c hc t ht
theorem cellsT_snoc (L : List (Nat × Nat)) (t : Nat × Nat) : cellsT (L ++ [t]) = cellsT L ++ [.int .i64 (t.1 : Int), .int .i64 (t.2 : Int)] := by simp [cellsT, encT]
def cellsN (k : List Nat) : List Value := k.map fun (i : Nat) => .int .i64 (i : Int)
theorem cellsN_len (k : List Nat) : (cellsN k).length = k.length := by simp [cellsN]
theorem cellsN_append (a b : List Nat) : cellsN (a ++ b) = cellsN a ++ cellsN b := by simp [cellsN]

/-- The cells of an owned row. -/
theorem own_cell {W : World} {base s n : Nat} {e : TypeId} {g c : Nat} {xs : List Value} (h : W.ownsRow base e s (.slice (some ⟨g, 0, none⟩) n c) n xs) (j : Nat) (hj : j < xs.length) : W.cell? ⟨g, j, none⟩ = xs[j]? ∧ W.frozen? ⟨g, j, none⟩ = false := by
  rcases h.2 with ⟨h1, _⟩ | ⟨g', cap, cur, h1, _, hg, _, _, hs, ht⟩
  · simp at h1
  · simp only [Value.slice.injEq, Option.some.injEq, Addr.mk.injEq, and_true, true_and] at h1
    obtain ⟨rfl, rfl⟩ := h1
    refine ⟨?_, frozen_of_row W g j cur e hg⟩
    have hl := h.1
    rw [cell_of_row W g j cur _ (0, 0) hg, ← ht, List.getElem?_take_of_lt (by omega)]
    simp
theorem own_some {W : World} {base s n : Nat} {e : TypeId} {v : Value} {xs : List Value} (h : W.ownsRow base e s v n xs) (hn : 0 < n) : ∃ g c, v = .slice (some ⟨g, 0, none⟩) n c := by
  obtain ⟨g, c, h1, _⟩ := World.ownsRow.form h hn
  exact ⟨g, c, h1⟩

/-- A search: its block, the values of its lists, what they hold (the stack's top first). -/
structure SO where
  g : Nat
  mv : Value
  stv : Value
  nv : Value
  xv : Value
  kv : Value
  ev : Value
  sz : List Int
  stamp : Int
  steps : Nat
  now : List (Nat × Nat)
  next : List (Nat × Nat)
  stk : List Nat
def soCells (s : SO) : List Value := [.bool true, s.mv, s.stv, .int .i16 s.stamp, .int .i64 (s.steps : Int), s.nv, s.xv, s.kv, s.ev]
/-- A search, its struct's cells being fs. -/
structure Mid (W : World) (base : Nat) (M : List Ins) (s : SO) (fs : List Value) : Prop where
  o : At W s.g TS fs
  m : W.ownsRow base TI 7 s.mv M.length (cellsI M)
  st : W.ownsRow base 84 1 s.stv s.sz.length (s.sz.map (Value.int .i16))
  nw : W.ownsRow base TT 2 s.nv s.now.length (cellsT s.now)
  nx : W.ownsRow base TT 2 s.xv s.next.length (cellsT s.next)
  sk : W.ownsRow base 3 1 s.kv s.stk.length (cellsN s.stk.reverse)
  ap : Apart s.nv s.xv
  ge : base ≤ s.g
/-- The blocks of a search. -/
def CBlk (s : SO) (k : Nat) : Prop := k = s.g ∨ s.mv.ownBlock = some k ∨ s.stv.ownBlock = some k ∨ s.nv.ownBlock = some k ∨ s.xv.ownBlock = some k ∨ s.kv.ownBlock = some k
section
variable {W W' : World} {base : Nat} {M : List Ins} {s : SO} {fs : List Value}
theorem Mid.lt (h : Mid W base M s fs) : ∀ k, CBlk s k → k < W.heap.size ∧ base ≤ k := by
  rintro k (rfl | e | e | e | e | e)
  · exact ⟨h.o.lt, h.ge⟩
  · exact (World.ownsRow.lt h.m k e).symm
  · exact (World.ownsRow.lt h.st k e).symm
  · exact (World.ownsRow.lt h.nw k e).symm
  · exact (World.ownsRow.lt h.nx k e).symm
  · exact (World.ownsRow.lt h.sk k e).symm
theorem Mid.keep (h : Mid W base M s fs) (hk : ∀ k, k < W.heap.size → CBlk s k → W'.heap[k]? = W.heap[k]?) : Mid W' base M s fs :=
  have hx : ∀ k, CBlk s k → W'.heap[k]? = W.heap[k]? := fun k hc => hk k (h.lt k hc).1 hc
  { h with
    o := h.o.keep (hx _ (.inl rfl))
    m := own_blk h.m fun k e => hx k (.inr (.inl e))
    st := own_blk h.st fun k e => hx k (.inr (.inr (.inl e)))
    nw := own_blk h.nw fun k e => hx k (.inr (.inr (.inr (.inl e))))
    nx := own_blk h.nx fun k e => hx k (.inr (.inr (.inr (.inr (.inl e)))))
    sk := own_blk h.sk fun k e => hx k (.inr (.inr (.inr (.inr (.inr e))))) }
theorem Mid.below (h : Mid W base M s fs) (hb : Below W.heap.size W W') : Mid W' base M s fs := h.keep fun k hk _ => hb.block k hk
theorem own_set_at {b : Nat} {T e : TypeId} {l : List Value} {sz n i : Nat} {v x : Value} {xs : List Value} (h : At W b T l) (ho : W.ownsRow base e sz v n xs) (hne : T ≠ e) : (W.setCell ⟨b, i, none⟩ x).ownsRow base e sz v n xs :=
  own_blk ho fun k hk => heap_setCell_other W ⟨b, i, none⟩ k x fun e2 => by
    simp only at e2
    subst e2
    exact h.ne_own ho hne hk
/-- A field is written. -/
theorem Mid.setf (h : Mid W base M s fs) (i : Nat) (x : Value) : Mid (W.setCell ⟨s.g, i, none⟩ x) base M s (fs.set i x) :=
  { h with
    o := h.o.set i x
    m := own_set_at h.o h.m neSI
    st := own_set_at h.o h.st neSW
    nw := own_set_at h.o h.nw neST
    nx := own_set_at h.o h.nx neST
    sk := own_set_at h.o h.sk neSK }
theorem Up.setf {w : World} {b g i : Nat} {x : Value} (F : Nat → Prop) (hg : F g) (hb : b ≤ g) : Up w (w.setCell ⟨g, i, none⟩ x) b F F :=
  ⟨fun k _ hn => heap_setCell_other w ⟨g, i, none⟩ k x (fun e => hn (by simp only at e; rw [e]; exact hg)), fun _ h => .inl h, fun _ _ h hB => h.setCell (by show _ ≤ g; omega) x, by simp⟩
theorem app_keepT {e e2 : TypeId} {b b2 sz n : Nat} {v v' : Value} {xs : List Value} (hv : W.ownsRow b e2 sz v n xs) (hp : AppPost W W' b2 v v') (hne : e2 ≠ e) : KeepT e W W' := KeepT.of_app hv hp hne
/-- One more thread for the next place. -/
theorem Mid.appX (h : Mid W base M s fs) {v' : Value} {t : Nat × Nat} (ho : W'.ownsRow base TT 2 v' (s.next.length + 1) (cellsT s.next ++ [.int .i64 (t.1 : Int), .int .i64 (t.2 : Int)])) (hp : AppPost W W' base s.xv v') :
    Mid W' base M { s with xv := v', next := s.next ++ [t] } fs ∧ Up W W' base (CBlk s) (CBlk { s with xv := v', next := s.next ++ [t] }) := by
  have hnw := hp.other base _ _ _ s.nv _ h.nw h.ap.symm
  refine ⟨⟨(app_keepT h.nx hp neST.symm _ _ h.o).trans h.o, (app_keepT h.nx hp neTI).own h.m, (app_keepT h.nx hp neTW).own h.st, hnw.1, ?_, (app_keepT h.nx hp neTK).own h.sk, hnw.2.symm, h.ge⟩, ⟨fun k hk hn => hp.block k hk fun e => hn (.inr (.inr (.inr (.inr (.inl e))))), fun k hk => ?_, hp.bel, hp.size⟩⟩
  · show W'.ownsRow base TT 2 v' (s.next ++ [t]).length _
    rw [List.length_append, cellsT_snoc]
    exact ho
  · rcases hk with e | e | e | e | e | e
    · exact .inl (.inl e)
    · exact .inl (.inr (.inl e))
    · exact .inl (.inr (.inr (.inl e)))
    · exact .inl (.inr (.inr (.inr (.inl e))))
    · exact (hp.new k e).imp (fun e => .inr (.inr (.inr (.inr (.inl e))))) id
    · exact .inl (.inr (.inr (.inr (.inr (.inr e)))))
/-- One more thread at this place. -/
theorem Mid.appN (h : Mid W base M s fs) {v' : Value} {t : Nat × Nat} (ho : W'.ownsRow base TT 2 v' (s.now.length + 1) (cellsT s.now ++ [.int .i64 (t.1 : Int), .int .i64 (t.2 : Int)])) (hp : AppPost W W' base s.nv v') :
    Mid W' base M { s with nv := v', now := s.now ++ [t] } fs ∧ Up W W' base (CBlk s) (CBlk { s with nv := v', now := s.now ++ [t] }) := by
  have hnx := hp.other base _ _ _ s.xv _ h.nx h.ap
  refine ⟨⟨(app_keepT h.nw hp neST.symm _ _ h.o).trans h.o, (app_keepT h.nw hp neTI).own h.m, (app_keepT h.nw hp neTW).own h.st, ?_, hnx.1, (app_keepT h.nw hp neTK).own h.sk, hnx.2, h.ge⟩, ⟨fun k hk hn => hp.block k hk fun e => hn (.inr (.inr (.inr (.inl e)))), fun k hk => ?_, hp.bel, hp.size⟩⟩
  · show W'.ownsRow base TT 2 v' (s.now ++ [t]).length _
    rw [List.length_append, cellsT_snoc]
    exact ho
  · rcases hk with e | e | e | e | e | e
    · exact .inl (.inl e)
    · exact .inl (.inr (.inl e))
    · exact .inl (.inr (.inr (.inl e)))
    · exact (hp.new k e).imp (fun e => .inr (.inr (.inr (.inl e)))) id
    · exact .inl (.inr (.inr (.inr (.inr (.inl e)))))
    · exact .inl (.inr (.inr (.inr (.inr (.inr e)))))
/-- More on the stack. -/
theorem Mid.appK (h : Mid W base M s fs) {v' : Value} {ts k' : List Nat} {n : Nat} (hn : s.stk.length + ts.length = n) (hk' : k' = ts.reverse ++ s.stk) (ho : W'.ownsRow base 3 1 v' n (cellsN s.stk.reverse ++ cellsN ts)) (hp : AppPost W W' base s.kv v') :
    Mid W' base M { s with kv := v', stk := k' } fs ∧ Up W W' base (CBlk s) (CBlk { s with kv := v', stk := k' }) := by
  subst hn hk'
  refine ⟨⟨(app_keepT h.sk hp neSK.symm _ _ h.o).trans h.o, (app_keepT h.sk hp neKI).own h.m, (app_keepT h.sk hp neKW).own h.st, (app_keepT h.sk hp neTK.symm).own h.nw, (app_keepT h.sk hp neTK.symm).own h.nx, ?_, h.ap, h.ge⟩, ⟨fun k hk hn => hp.block k hk fun e => hn (.inr (.inr (.inr (.inr (.inr e))))), fun k hk => ?_, hp.bel, hp.size⟩⟩
  · show W'.ownsRow base 3 1 v' (ts.reverse ++ s.stk).length (cellsN (ts.reverse ++ s.stk).reverse)
    rw [List.length_append, List.length_reverse, List.reverse_append, List.reverse_reverse, cellsN_append, Nat.add_comm]
    exact ho
  · rcases hk with e | e | e | e | e | e
    · exact .inl (.inl e)
    · exact .inl (.inr (.inl e))
    · exact .inl (.inr (.inr (.inl e)))
    · exact .inl (.inr (.inr (.inr (.inl e))))
    · exact .inl (.inr (.inr (.inr (.inr (.inl e)))))
    · exact (hp.new k e).imp (fun e => .inr (.inr (.inr (.inr (.inr e))))) id
/-- A shorter window of an owned row. -/
theorem own_win {sz n n0 : Nat} {e : TypeId} {a : Option Addr} {c : Nat} {xs ys : List Value} (h : W.ownsRow base e sz (.slice a n c) n xs) (hn : n0 ≤ n) (hy : ys = xs.take (n0 * sz)) : W.ownsRow base e sz (.slice a n0 c) n0 ys := hy ▸ own_pre h hn
/-- The top of the stack is taken. -/
theorem Mid.pop (h : Mid W base M s fs) {a : Option Addr} {n c i : Nat} {k : List Nat} (hv : s.kv = .slice a (n + 1) c) (hs : s.stk = i :: k) (hn : k.length = n) : Mid W base M { s with kv := .slice a n c, stk := k } fs := by
  have hsk := h.sk
  rw [hv, hs, List.length_cons, hn] at hsk
  refine { h with sk := ?_ }
  show W.ownsRow base 3 1 (.slice a n c) k.length (cellsN k.reverse)
  rw [hn]
  refine own_win hsk (by omega) ?_
  rw [List.reverse_cons, cellsN_append, Nat.mul_one, List.take_left' (by simp [cellsN, hn])]
theorem Mid.top (h : Mid W base M s fs) {b n c i : Nat} {k : List Nat} (hv : s.kv = .slice (some ⟨b, 0, none⟩) (n + 1) c) (hs : s.stk = i :: k) (hn : k.length = n) : W.cell? ⟨b, n, none⟩ = some (.int .i64 (i : Int)) := by
  have hsk := h.sk
  rw [hv, hs, List.length_cons, hn] at hsk
  rw [(own_cell hsk n (by simp [cellsN, hn])).1, List.reverse_cons, cellsN_append, List.getElem?_append_right (by simp [cellsN, hn])]
  simp [cellsN, hn]
/-- A stamp is written. -/
theorem Mid.sett (h : Mid W base M s fs) {b n c : Nat} (hv : s.stv = .slice (some ⟨b, 0, none⟩) n c) (i : Nat) (x : Int) : Mid (W.setCell ⟨b, i, none⟩ (.int .i16 x)) base M { s with sz := s.sz.set i x } fs := by
  have hst := h.st
  rcases hst.2 with ⟨h1, _⟩ | ⟨g', cap, cur, h1, hb, hg, hnc, hcm, hs, ht⟩
  · rw [hv] at h1; simp at h1
  have h1' := h1
  rw [hv] at h1
  simp only [Value.slice.injEq, Option.some.injEq, Addr.mk.injEq, and_true] at h1
  obtain ⟨rfl, rfl, rfl⟩ := h1
  have hA : At W b 84 cur.toList := by unfold At; rw [Array.toArray_toList]; exact hg
  refine ⟨?_, own_set_at hA h.m neWI, ?_, own_set_at hA h.nw neTW.symm, own_set_at hA h.nx neTW.symm, own_set_at hA h.sk neKW.symm, h.ap, h.ge⟩
  · refine h.o.keep (heap_setCell_other W ⟨b, i, none⟩ s.g _ fun e => ?_)
    simp only at e
    have := h.o.ne_own hst neSW
    rw [hv, ← e] at this
    exact this rfl
  · show World.ownsRow _ base 84 1 s.stv (s.sz.set i x).length ((s.sz.set i x).map (Value.int .i16))
    rw [List.length_set]
    refine ⟨by simp, .inr ⟨b, c, cur.setIfInBounds i (.int .i16 x), h1', hb, ?_, hnc, hcm, by simpa using hs, ?_⟩⟩
    · rw [heap_setCell_same W b i _ _ (.int .i16 x) hg]
    · rw [Array.toList_setIfInBounds, List.take_set, ht, List.map_set]
theorem Mid.stamp_at (h : Mid W base M s fs) {b n c : Nat} (hv : s.stv = .slice (some ⟨b, 0, none⟩) n c) (i : Nat) (hi : i < s.sz.length) : W.cell? ⟨b, i, none⟩ = some (.int .i16 (s.sz[i]?.getD 0)) ∧ W.frozen? ⟨b, i, none⟩ = false := by
  have hst := h.st
  obtain ⟨rfl⟩ : n = s.sz.length := by
    rw [hv] at hst
    exact own_len hst
  rw [hv] at hst
  have := own_cell hst i (by simpa using hi)
  refine ⟨this.1.trans ?_, this.2⟩
  simp [hi]
end
end Go.Proofs.YtfmcjmkdlldlhaaDoor

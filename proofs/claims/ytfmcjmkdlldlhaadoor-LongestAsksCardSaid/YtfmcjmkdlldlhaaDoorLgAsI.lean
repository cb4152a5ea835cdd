/-
  The state of LongestAsks' loop over what is asked.
-/
import Derived.Test.YtfmcjmkdlldlhaaDoorBagBoM
import Derived.Test.YtfmcjmkdlldlhaaDoorLgAsM
import Derived.Test.YtfmcjmkdlldlhaaDoorLgRn
namespace Go.Proofs.YtfmcjmkdlldlhaaDoor
open Go.RowKit
attribute [local go_sem] Oper.semAt_some

set_option maxRecDepth 100000 in
theorem addBools_full (w : World) (bg n : Nat) (fs : List Value) (b : Option Addr) (c : Nat) (v : Value) (hbag : BagAt w bg fs) (hd : fs[2]? = some (.slice b n c)) (hm : 400 ≤ n) :
    Calls Tryd.prog 16 #[.pointer (some ⟨bg, 0, none⟩), v] w fun e w' => e = .returned undef ∧ w = w' := by
  have hc : w.cell? ⟨bg, 2, none⟩ = some (.slice b n c) := (hbag.cell 2).trans hd
  have hm' : decide ((n : Int) < 400) = false := by simp; omega
  clear hbag hd
  go_enter Tryd.func16, Tryd.ntmps16
  go_wp2_with fail
  go_end0
  exact ⟨rfl, rfl⟩

/-- A list of bools that fills its block. -/
theorem own_bools {W : World} {lo g : Nat} {l : List Bool} (h : At W g 4 (cellsB l)) (hlo : lo ≤ g) (hl : l.length ≤ maxLen) : W.ownsRow lo 4 1 (.slice (some ⟨g, 0, none⟩) l.length l.length) l.length (l.map Value.bool) :=
  ⟨by simp, .inr ⟨g, l.length, (cellsB l).toArray, rfl, hlo, h, Nat.le_refl _, hl, by simp [cellsB], by simp only [cellsB, Nat.mul_one]; exact List.take_of_length_le (by simp)⟩⟩
/-- A list of bools of its own, in none of the blocks F. -/
def BoV (W : World) (lo : Nat) (v : Value) (l : List Bool) (F : Nat → Prop) : Prop := W.ownsRow lo 4 1 v l.length (cellsB l) ∧ ∀ k, v.ownBlock = some k → ¬ F k
section
variable {W W' : World} {lo lo' : Nat} {v : Value} {l : List Bool} {F F' : Nat → Prop}
theorem EndV.bo (h : EndV W lo v l F) (hl : l.length ≤ maxLen) : BoV W lo v l F := by
  rcases h with ⟨rfl, rfl⟩ | ⟨g, rfl, h1, h2, h3⟩
  · exact ⟨World.ownsRow_nil _ _ _ _, fun k e => by cases e⟩
  · exact ⟨own_bools h2 h1 hl, fun k e => by
      simp only [Value.ownBlock, Option.some.injEq] at e
      subst e
      exact h3⟩
theorem BoV.lt (h : BoV W lo v l F) {k : Nat} (e : v.ownBlock = some k) : k < W.heap.size ∧ lo ≤ k := (World.ownsRow.lt h.1 k e).symm
theorem BoV.keep (h : BoV W lo v l F) (hk : ∀ k, k < W.heap.size → lo ≤ k → ¬ F k → W'.heap[k]? = W.heap[k]? ∧ ¬ F' k) : BoV W' lo v l F' :=
  ⟨own_blk h.1 fun k e => (hk k (h.lt e).1 (h.lt e).2 (h.2 k e)).1, fun k e => (hk k (h.lt e).1 (h.lt e).2 (h.2 k e)).2⟩
theorem BoV.keepT (h : BoV W lo v l F) (hk : KeepT 4 W W') : BoV W' lo v l F := ⟨hk.own h.1, h.2⟩
theorem BoV.base (h : BoV W lo v l F) (hl : lo' ≤ lo) : BoV W lo' v l F := ⟨own_base h.1 hl, h.2⟩
theorem BoV.below (h : BoV W lo v l F) (hb : Below W.heap.size W W') : BoV W' lo v l F := h.keep fun k h1 _ h3 => ⟨hb.block k h1, h3⟩
theorem BoV.one (h : BoV W lo v l F) : v.oneCell' = true := by
  obtain ⟨a, c, rfl⟩ := own_shape h.1
  rfl
theorem BoV.bsb (h : BoV W lo v l F) (hl : l.length ≤ 9223372036854775807) : BSb W v l := by
  by_cases h0 : l.length = 0
  · obtain ⟨a, c, rfl⟩ := own_shape h.1
    have : l = [] := List.eq_nil_of_length_eq_zero h0
    subst this
    exact ⟨a, c, rfl, hl, .inl rfl⟩
  · obtain ⟨g, c, rfl⟩ := own_some h.1 (by omega)
    refine ⟨_, _, rfl, hl, .inr ⟨g, 0, rfl, fun i hi => ?_⟩⟩
    rw [Nat.zero_add, (own_cell h.1 i (by simpa [cellsB] using hi)).1, cellsB, List.getElem?_map, List.getElem?_eq_getElem hi]
    rfl
/-- A list of lists of bools in memory; the blocks F are not its own. -/
structure AQ (W : World) (lo : Nat) (al : Value) (vals : List Value) (ls : List (List Bool)) (F : Nat → Prop) : Prop where
  own : W.ownsRow lo 71 1 al vals.length vals
  far : ∀ k, al.ownBlock = some k → ¬ F k
  len : vals.length = ls.length
  el : ∀ (j : Nat) (v : Value), vals[j]? = some v → BoV W lo v (ls[j]?.getD []) F
end
section
variable {W W' : World} {lo : Nat} {al : Value} {vals : List Value} {ls : List (List Bool)} {F F' : Nat → Prop}
theorem AQ.nil (W : World) (lo : Nat) (F : Nat → Prop) : AQ W lo (.slice none 0 0) [] [] F :=
  ⟨World.ownsRow_nil _ _ _ _, fun k h => (by cases h), rfl, fun j v h => (by simp at h)⟩
theorem AQ.keep (h : AQ W lo al vals ls F) (hk : ∀ k, k < W.heap.size → lo ≤ k → ¬ F k → W'.heap[k]? = W.heap[k]? ∧ ¬ F' k) : AQ W' lo al vals ls F' :=
  ⟨own_blk h.own fun k e => (hk k (World.ownsRow.lt h.own k e).2 (World.ownsRow.lt h.own k e).1 (h.far k e)).1, fun k e => (hk k (World.ownsRow.lt h.own k e).2 (World.ownsRow.lt h.own k e).1 (h.far k e)).2, h.len,
    fun j v hv => (h.el j v hv).keep fun k h1 h2 h3 => ⟨(hk k h1 h2 h3).1, (hk k h1 h2 h3).2⟩⟩
theorem AQ.below (h : AQ W lo al vals ls F) (hb : Below W.heap.size W W') : AQ W' lo al vals ls F := h.keep fun k h1 _ h3 => ⟨hb.block k h1, h3⟩
theorem AQ.up {base : Nat} (h : AQ W lo al vals ls F) (hu : Up W W' base F F') : AQ W' lo al vals ls F' := h.keep fun k h1 _ h3 => ⟨hu.keep k h1 h3, fun h4 => (hu.new k h4).elim h3 fun h5 => by omega⟩
theorem AQ.push {al' v : Value} {l : List Bool} (h : AQ W lo al vals ls F) (he : BoV W lo v l F) (ho : W'.ownsRow lo 71 1 al' (vals.length + 1) (vals ++ [v])) (hp : AppPost W W' lo al al') (hF : ∀ k, F k → k < W.heap.size) : AQ W' lo al' (vals ++ [v]) (ls ++ [l]) F := by
  have hkt : KeepT 4 W W' := app_keepT h.own hp (by decide)
  refine ⟨by rw [List.length_append]; exact ho, fun k e hf => ?_, by simp [h.len], fun j x hx => ?_⟩
  · rcases hp.new k e with h1 | h1
    · exact h.far k h1 hf
    · have := hF k hf; omega
  · rw [List.getElem?_append] at hx
    split at hx
    · rename_i hj
      rw [List.getElem?_append_left (by rw [← h.len]; exact hj)]
      exact (h.el j x hx).keepT hkt
    · rename_i hj
      rw [List.getElem?_append_right (by rw [← h.len]; omega)]
      rw [← h.len]
      have hj0 : j - vals.length = 0 := by
        by_cases h0 : j - vals.length = 0
        · exact h0
        · rw [List.getElem?_eq_none (by simp; omega)] at hx; cases hx
      rw [hj0] at hx ⊢
      simp only [List.getElem?_cons_zero, Option.some.injEq] at hx
      subst hx
      exact he.keepT hkt
/-- An element of it. -/
theorem AQ.read (h : AQ W lo al vals ls F) {a : Option Addr} {n c : Nat} (hv : al = .slice a n c) (j : Nat) (hj : j < ls.length) : n = ls.length ∧ ∃ g v, a = some ⟨g, 0, none⟩ ∧ W.cell? ⟨g, j, none⟩ = some v ∧ BoV W lo v (ls[j]?.getD []) F := by
  subst hv
  have ho := h.own
  have hn := own_len ho
  obtain ⟨g, c', hv⟩ := own_some ho (by rw [h.len]; omega)
  simp only [Value.slice.injEq] at hv
  obtain ⟨rfl, -, rfl⟩ := hv
  have hjv : j < vals.length := by rw [h.len]; exact hj
  have hg := List.getElem?_eq_getElem hjv
  rw [hn] at ho
  exact ⟨hn.trans h.len, g, _, rfl, (own_cell (hn ▸ ho) j hjv).1.trans hg, h.el j _ hg⟩
/-- What the blocks that are kept bear on such lists. -/
theorem AQ.other (h : AQ W lo al vals ls F) (hk : ∀ k, al.ownBlock = some k → W'.heap[k]? = W.heap[k]?) (hT : KeepT 4 W W') : AQ W' lo al vals ls F :=
  ⟨own_blk h.own hk, h.far, h.len, fun j v hv => (h.el j v hv).keepT hT⟩
theorem AQ.lt (h : AQ W lo al vals ls F) {k : Nat} (hk : al.ownBlock = some k) : k < W.heap.size := (World.ownsRow.lt h.own k hk).2
end
theorem Bags.keepT2 {w w' : World} {base : Nat} {e : TypeId} {size m : Nat} {vs : Nat → Value} {len : Nat → Nat} {C : Nat → List Value} (h : Bags w base e size m vs len C) (hk : KeepT e w w') : Bags w' base e size m vs len C := h.keepT hk
theorem GO.keepT {W w w' : World} {bg m : Nat} {fs : List Value} {bv : Value} {vs : Nat → Value} {len : Nat → Nat} {C : Nat → List Value} (h : GO W w bg m fs bv vs len C) (h1 : KeepT 65 w w') (h2 : ∀ k, bv.ownBlock = some k → w'.heap[k]? = w.heap[k]?) (h3 : KeepT 4 w w') (hb : Below W.heap.size W w') : GO W w' bg m fs bv vs len C :=
  { h with
    bag := h.bag.keepT h1
    kd := ⟨h.kd.hd, own_blk h.kd.own h2, h.kd.b.keepT h3, h.kd.lim⟩
    bel := hb }

structure AS where
  s : SO
  rg : Nat
  mv : Value
  bg : Nat
  m : Nat
  fs : List Value
  bv : Value
  vs : Nat → Value
  len : Nat → Nat
  C : Nat → List Value
  tv : Value
  tvs : List Value
  wv : Value
  wvs : List Value

structure AsI (w wr : World) (base rbase : Nat) (M : List Ins) (a : AS) (lt lw : List (List Bool)) : Prop where
  bel : Below w.heap.size w wr
  b1 : w.heap.size ≤ base
  b2 : w.heap.size ≤ rbase
  sob : Sob wr base M a.s
  rat : At wr a.rg TRS [a.mv, .bool true]
  rlo : rbase ≤ a.rg
  row : wr.ownsRow rbase TI 7 a.mv M.length (cellsI M)
  rS : ∀ k, a.rg = k ∨ a.mv.ownBlock = some k → ¬ SBlk a.s k
  go : GO w wr a.bg a.m a.fs a.bv a.vs a.len a.C
  gS : ∀ k, GOB a.bg a.m a.bv a.vs k → ¬ SBlk a.s k
  m4 : a.m ≤ 400
  told : AQ wr w.heap.size a.tv a.tvs lt (SBlk a.s)
  was : AQ wr w.heap.size a.wv a.wvs lw (SBlk a.s)
  tw : ∀ k, a.tv.ownBlock = some k → a.wv.ownBlock ≠ some k
  tb : ∀ k, a.tv.ownBlock = some k → a.bv.ownBlock ≠ some k
  wb : ∀ k, a.wv.ownBlock = some k → a.bv.ownBlock ≠ some k
section
variable {w wr w' : World} {base rbase : Nat} {M : List Ins} {a : AS} {lt lw : List (List Bool)}
theorem AsI.rsob (h : AsI w wr base rbase M a lt lw) : RSob wr rbase M a.rg := ⟨_, h.rat, h.rlo, h.row⟩
/-- What writes to bytes alone, or to nothing, keeps it. -/
theorem AsI.keep (h : AsI w wr base rbase M a lt lw) (hb : Below w.heap.size w w') (hk : ∀ k, k < wr.heap.size → (∀ cs fz, wr.heap[k]? ≠ some (.cells cs 5 fz)) → w'.heap[k]? = wr.heap[k]?) : AsI w w' base rbase M a lt lw := by
  have hT : ∀ T : TypeId, T ≠ 5 → KeepT T wr w' := fun T hne k cur hc => hk k (Array.getElem?_eq_some_iff.1 hc).1 fun cs fz e => by
    rw [hc] at e
    injection e with e
    injection e with _ e2 _
    exact hne e2
  have hO : ∀ {T : TypeId} {b sz n : Nat} {v : Value} {xs : List Value}, wr.ownsRow b T sz v n xs → T ≠ 5 → ∀ k, v.ownBlock = some k → w'.heap[k]? = wr.heap[k]? := fun ho hne k e => hk k (World.ownsRow.lt ho k e).2 (own_nb ho hne e)
  exact { h with
    bel := hb
    sob := h.sob.keep fun k hk' => hk k (h.sob.lt k hk').1 (h.sob.nb k hk')
    rat := (hT TRS (by decide) _ _ h.rat).trans h.rat
    row := (hT TI (by decide)).own h.row
    go := h.go.keepT (hT _ (by decide)) (hO h.go.kd.own (by decide)) (hT _ (by decide)) hb
    told := h.told.other (hO h.told.own (by decide)) (hT _ (by decide))
    was := h.was.other (hO h.was.own (by decide)) (hT _ (by decide)) }
theorem AsI.below (h : AsI w wr base rbase M a lt lw) (hb : Below wr.heap.size wr w') : AsI w w' base rbase M a lt lw :=
  h.keep (h.bel.trans (hb.mono h.bel.size)) fun k hk _ => hb.block k hk
/-- A byte is written. -/
theorem AsI.txt (h : AsI w wr base rbase M a lt lw) {g : Nat} {l : List Value} (hg : At wr g 5 l) (hlo : w.heap.size ≤ g) (i : Nat) (v : Value) : AsI w (wr.setCell ⟨g, i, none⟩ v) base rbase M a lt lw :=
  h.keep (h.bel.setCell (p := ⟨g, i, none⟩) hlo v) fun k _ hn => heap_setCell_other wr ⟨g, i, none⟩ k v fun e => by
    subst e
    exact hn _ _ hg
/-- The search is asked. -/
theorem AsI.ups (h : AsI w wr base rbase M a lt lw) {s' : SO} (hu : Up wr w' base (SBlk a.s) (SBlk s')) (hs : Sob w' base M s') : AsI w w' base rbase M { a with s := s' } lt lw := by
  have hnew : ∀ k, k < wr.heap.size → ¬ SBlk a.s k → ¬ SBlk s' k := fun k h1 h2 h3 => by
    rcases hu.new k h3 with e | e
    · exact h2 e
    · omega
  have hb := hu.bel _ _ h.bel h.b1
  have hrow := fun k e => (World.ownsRow.lt h.row k e).2
  exact {
    bel := hb
    b1 := h.b1
    b2 := h.b2
    sob := hs
    rat := (hu.keep _ h.rat.lt (h.rS _ (.inl rfl))).trans h.rat
    rlo := h.rlo
    row := own_blk h.row fun k e => hu.keep k (hrow k e) (h.rS k (.inr e))
    rS := fun k e => hnew k (by
      rcases e with rfl | e
      · exact h.rat.lt
      · exact hrow k e) (h.rS k e)
    go := h.go.keep (fun k e => hu.keep k (h.go.lt e).1 (h.gS k e)) hb
    gS := fun k e => hnew k (h.go.lt e).1 (h.gS k e)
    m4 := h.m4
    told := h.told.up hu
    was := h.was.up hu
    tw := h.tw
    tb := h.tb
    wb := h.wb }
/-- One more list was told. -/
theorem AsI.push_told (h : AsI w wr base rbase M a lt lw) {v tv' : Value} {l : List Bool} (he : BoV wr w.heap.size v l (SBlk a.s)) (ho : w'.ownsRow w.heap.size 71 1 tv' (a.tvs.length + 1) (a.tvs ++ [v])) (hp : AppPost wr w' w.heap.size a.tv tv') : AsI w w' base rbase M { a with tv := tv', tvs := a.tvs ++ [v] } (lt ++ [l]) lw := by
  have hT : ∀ T : TypeId, T ≠ 71 → KeepT T wr w' := fun T hne => app_keepT h.told.own hp hne.symm
  have hb := hp.bel _ _ h.bel (Nat.le_refl _)
  have hfar : ∀ k, k < wr.heap.size → a.tv.ownBlock ≠ some k → tv'.ownBlock ≠ some k := fun k h1 h2 h3 => by
    rcases hp.new k h3 with e | e
    · exact h2 e
    · omega
  exact {
    bel := hb
    b1 := h.b1
    b2 := h.b2
    sob := h.sob.app hp h.told.far
    rat := (hT TRS (by decide) _ _ h.rat).trans h.rat
    rlo := h.rlo
    row := (hT TI (by decide)).own h.row
    rS := h.rS
    go := h.go.keepT (hT _ (by decide)) (fun k e => hp.block k (World.ownsRow.lt h.go.kd.own k e).2 fun e2 => h.tb k e2 e) (hT _ (by decide)) hb
    gS := h.gS
    m4 := h.m4
    told := h.told.push he ho hp fun k hk => (h.sob.lt k hk).1
    was := h.was.other (fun k e => hp.block k (h.was.lt e) fun e2 => h.tw k e2 e) (hT _ (by decide))
    tw := fun k e1 e2 => hfar k (h.was.lt e2) (fun e3 => h.tw k e3 e2) e1
    tb := fun k e1 e2 => hfar k (World.ownsRow.lt h.go.kd.own k e2).2 (fun e3 => h.tb k e3 e2) e1
    wb := h.wb }
/-- One more list was copied. -/
theorem AsI.push_was (h : AsI w wr base rbase M a lt lw) {v wv' : Value} {l : List Bool} (he : BoV wr w.heap.size v l (SBlk a.s)) (ho : w'.ownsRow w.heap.size 71 1 wv' (a.wvs.length + 1) (a.wvs ++ [v])) (hp : AppPost wr w' w.heap.size a.wv wv') : AsI w w' base rbase M { a with wv := wv', wvs := a.wvs ++ [v] } lt (lw ++ [l]) := by
  have hT : ∀ T : TypeId, T ≠ 71 → KeepT T wr w' := fun T hne => app_keepT h.was.own hp hne.symm
  have hb := hp.bel _ _ h.bel (Nat.le_refl _)
  have hfar : ∀ k, k < wr.heap.size → a.wv.ownBlock ≠ some k → wv'.ownBlock ≠ some k := fun k h1 h2 h3 => by
    rcases hp.new k h3 with e | e
    · exact h2 e
    · omega
  exact {
    bel := hb
    b1 := h.b1
    b2 := h.b2
    sob := h.sob.app hp h.was.far
    rat := (hT TRS (by decide) _ _ h.rat).trans h.rat
    rlo := h.rlo
    row := (hT TI (by decide)).own h.row
    rS := h.rS
    go := h.go.keepT (hT _ (by decide)) (fun k e => hp.block k (World.ownsRow.lt h.go.kd.own k e).2 fun e2 => h.wb k e2 e) (hT _ (by decide)) hb
    gS := h.gS
    m4 := h.m4
    told := h.told.other (fun k e => hp.block k (h.told.lt e) fun e2 => h.tw k e e2) (hT _ (by decide))
    was := h.was.push he ho hp fun k hk => (h.sob.lt k hk).1
    tw := fun k e1 e2 => hfar k (h.told.lt e1) (fun e3 => h.tw k e1 e3) e2
    tb := h.tb
    wb := fun k e1 e2 => hfar k (World.ownsRow.lt h.go.kd.own k e2).2 (fun e3 => h.wb k e3 e2) e1 }
/-- A list of ends is put into the bag; one too many is left out. -/
def AsAdd (w wr : World) (base rbase : Nat) (M : List Ins) (a : AS) (lt lw : List (List Bool)) (e : Ending) (w' : World) : Prop :=
  e = .returned undef ∧ KeepT 4 wr w' ∧ KeepT 5 wr w' ∧ ∃ (m : Nat) (fs : List Value) (bv : Value) (vs : Nat → Value) (len : Nat → Nat) (C : Nat → List Value), AsI w w' base rbase M { a with m := m, fs := fs, bv := bv, vs := vs, len := len, C := C } lt lw
theorem AsI.add (h : AsI w wr base rbase M a lt lw) {lo : Nat} {v : Value} {l : List Bool} (he : BoV wr lo v l (SBlk a.s)) (hlo : w.heap.size ≤ lo) (hn : l.length ≤ 140737488355000) (hap : ∀ j, j < a.m → ∀ k, (a.vs j).ownBlock = some k → k < lo) :
    Calls Tryd.prog 16 #[.pointer (some ⟨a.bg, 0, none⟩), v] wr (AsAdd w wr base rbase M a lt lw) := by
  by_cases hm : a.m < 400
  · obtain ⟨ua, uc, rfl⟩ := own_shape he.1
    have hv : wr.ownsRow lo 4 1 (.slice ua l.length uc) l.length (l.map Value.bool) := he.1
    have hvo := own_base hv hlo
    have hAp : ∀ j, j < a.m → Apart (a.vs j) (.slice ua l.length uc) := fun j hj k e1 e2 => by
      have := hap j hj k e1
      have := (World.ownsRow.lt hv k e2).1
      omega
    refine (addBools_any wr w.heap.size a.bg a.m a.fs a.bv (firstN a.vs a.m) ua l.length uc h.go.bag h.go.kd.hd h.go.kd.own hm h.go.bel.size).mono ?_
    rintro e w' ⟨rfl, bv', hA⟩
    have hT : ∀ T : TypeId, T ≠ 71 → T ≠ 65 → KeepT T wr w' := hA.keep
    have hb := hA.bel _ _ h.bel (Nat.le_refl _) h.go.lo
    have hfar : ∀ k, k < wr.heap.size → a.bv.ownBlock ≠ some k → bv'.ownBlock ≠ some k := fun k h1 h2 h3 => by
      rcases hA.new k h3 with e | e
      · exact h2 e
      · omega
    have hbgT : ∀ {v : Value} {n : Nat} {xs : List Value} {k : Nat}, wr.ownsRow w.heap.size 71 1 v n xs → v.ownBlock = some k → k ≠ a.bg := fun {v n xs k} ho e e2 => by
      subst e2
      exact At.ne_own (l := a.fs) h.go.bag ho (by decide) e
    refine ⟨rfl, hT _ (by decide) (by decide), hT _ (by decide) (by decide), a.m + 1, a.fs.set 2 bv', bv', snoc a.vs a.m (.slice ua l.length uc), snoc a.len a.m l.length, snoc a.C a.m (l.map Value.bool), ?_⟩
    exact {
      bel := hb
      b1 := h.b1
      b2 := h.b2
      sob := h.sob.keep fun k hk => hA.blk k (h.sob.lt k hk).1 (fun e => h.gS k (.inl e) hk) fun e => h.gS k (.inr (.inl e)) hk
      rat := (hT TRS (by decide) (by decide) _ _ h.rat).trans h.rat
      rlo := h.rlo
      row := (hT TI (by decide) (by decide)).own h.row
      rS := h.rS
      go := ⟨hA.bag, by rw [List.length_set, h.go.flen], fun i hi hne => by
        rw [List.getElem?_set_ne (fun e => hne e.symm)]
        exact h.go.z i hi hne, h.go.kd.add hA (by rw [h.go.flen]; omega) neOL neOG hvo hn hAp, h.go.lo, hb⟩
      gS := fun k e hk => by
        rcases e with e | e | ⟨j, hj, e⟩
        · exact h.gS k (.inl e) hk
        · rcases hA.new k e with e2 | e2
          · exact h.gS k (.inr (.inl e2)) hk
          · have := (h.sob.lt k hk).1; omega
        · by_cases hjm : j = a.m
          · subst hjm
            simp only [snoc_same] at e
            exact he.2 k e hk
          · have hj' : j < a.m := by have : j < a.m + 1 := hj; omega
            simp only [snoc_lt _ _ hj'] at e
            exact h.gS k (.inr (.inr ⟨j, hj', e⟩)) hk
      m4 := hm
      told := h.told.other (fun k e => hA.blk k (h.told.lt e) (hbgT h.told.own e) fun e2 => h.tb k e e2) (hT _ (by decide) (by decide))
      was := h.was.other (fun k e => hA.blk k (h.was.lt e) (hbgT h.was.own e) fun e2 => h.wb k e e2) (hT _ (by decide) (by decide))
      tw := h.tw
      tb := fun k e1 e2 => hfar k (h.told.lt e1) (fun e3 => h.tb k e1 e3) e2
      wb := fun k e1 e2 => hfar k (h.was.lt e1) (fun e3 => h.wb k e1 e3) e2 }
  · have hm4 := h.m4
    obtain ⟨b, c, hbv⟩ := own_shape h.go.kd.own
    refine (addBools_full wr a.bg a.m a.fs b c v h.go.bag (hbv ▸ h.go.kd.hd) (by omega)).mono ?_
    rintro e w' ⟨rfl, rfl⟩
    exact ⟨rfl, KeepT.refl _ _, KeepT.refl _ _, a.m, a.fs, a.bv, a.vs, a.len, a.C, h⟩
/-- The state at the loop's start. -/
theorem AsI.start (hb : Below w.heap.size w wr) (h1 : w.heap.size ≤ base) (h2 : w.heap.size ≤ rbase) {s : SO} (hs : Sob wr base M s) {rg : Nat} (hr : RSob wr rbase M rg) (hrS : ∀ k, rbase ≤ k → ¬ SBlk s k) :
    ∃ mv, AsI w (wr.alloc bagZero) base rbase M ⟨s, rg, mv, wr.heap.size, 0, heads0, .slice none 0 0, fun _ => undef, fun _ => 0, fun _ => [], .slice none 0 0, [], .slice none 0 0, []⟩ [] [] := by
  obtain ⟨mv, hA, hlo, ho⟩ := hr
  have hal : Below wr.heap.size wr (wr.alloc bagZero) := (Below.refl wr.heap.size wr).alloc (Nat.le_refl _) _
  exact ⟨mv, {
    bel := hb.alloc hb.size _
    b1 := h1
    b2 := h2
    sob := hs.below hal
    rat := hA.below hal
    rlo := hlo
    row := World.ownsRow.alloc ho _
    rS := fun k e => hrS k (by
      rcases e with rfl | e
      · exact hlo
      · exact (World.ownsRow.lt ho k e).1)
    go := GO.start hb
    gS := fun k e hk => by
      have hlt := (hs.lt k hk).1
      rcases e with e | e | ⟨j, hj, e⟩
      · have e : k = wr.heap.size := e
        omega
      · cases e
      · exact absurd hj (Nat.not_lt_zero _)
    m4 := Nat.zero_le _
    told := AQ.nil _ _ _
    was := AQ.nil _ _ _
    tw := fun k e => by cases e
    tb := fun k e => by cases e
    wb := fun k e => by cases e }⟩
end
end Go.Proofs.YtfmcjmkdlldlhaaDoor

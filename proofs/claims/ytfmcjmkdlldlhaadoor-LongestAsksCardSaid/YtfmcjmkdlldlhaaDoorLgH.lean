/-
  longest.Search.Find: the walk.
-/
import Derived.Test.YtfmcjmkdlldlhaaDoorLgG
import Derived.Test.YtfmcjmkdlldlhaaDoorLgQ
import Derived.Test.YtfmcjmkdlldlhaaDoorLgR
import Derived.Deep.LoopGhost
namespace Go.Proofs.YtfmcjmkdlldlhaaDoor
open Go.RowKit

attribute [local go_sem] Oper.semAt_some

def spanA (b : Option (Nat × Nat)) : Array Value := (spanC b).toArray
/-- What Find leaves. -/
def FindPost (W : World) (base : Nat) (M : List Ins) (tx : List Int) (f : Nat) (s : SO) (e : Ending) (W' : World) : Prop :=
  e = .returned (.tuple #[.agg (spanA (findM M tx f).1), .bool (findM M tx f).1.isSome]) ∧ ∃ s', s'.g = s.g ∧ s'.mv = s.mv ∧ s'.steps = (findM M tx f).2 ∧ Sob W' base M s' ∧ Up W W' base (SBlk s) (SBlk s')
/-- The loop of Find: ahead of place p. -/
structure FnR (W0 W : World) (base : Nat) (M : List Ins) (tx : List Int) (f : Nat) (s0 : SO) (p : Nat) (s : SO) (b : Option (Nat × Nat)) (b8 b9 b10 : Nat) (a : Option Addr) (n cp : Nat) : Prop where
  sob : Sob W base M s
  st : StOk M s
  same : s.g = s0.g ∧ s.mv = s0.mv
  fj : FJ base b8 b9 b10 p b [] W
  far : ∀ k, FF b8 b9 b10 k → ¬ SBlk s k
  new : W0.heap.size ≤ b8 ∧ W0.heap.size ≤ b9 ∧ W0.heap.size ≤ b10
  fnd : Fnd M tx f p s.now b
  len : s.now.length ≤ 65541
  sp : s.steps ≤ (p - f) * 65540
  run : findF M tx (tx.length + 1 - p) p s.now b s.steps = findM M tx f
  up : Up W0 W base (SBlk s0) (fun k => SBlk s k ∨ FF b8 b9 b10 k)
  txr : TxR W a n cp tx
set_option maxRecDepth 100000 in
set_option maxHeartbeats 8000000 in
theorem find_yes (W : World) (base : Nat) (M : List Ins) (s : SO) (h : Sob W base M s) (hG : Good M) (hM : M.length ≤ 65540) (hC : ∀ x ∈ M, IsC x.set ∧ (x.op = 4 ∨ x.op = 5 → 0 ≤ x.x) ∧ (x.op = 5 → 0 ≤ x.y)) (tx : List Int) (a : Option Addr) (n cp : Nat) (ht : TxR W a n cp tx) (f : Nat) (hf : f ≤ tx.length) (hn : tx.length ≤ 4194304) :
    Calls Tryd.prog 11 #[.pointer (some ⟨s.g, 0, none⟩), .slice a n cp, .int .i64 (f : Int)] W (FindPost W base M tx f s) := by
  obtain rfl : tx.length = n := ht.1.len.1
  -- the result's own cells
  have hb6 := (Below.refl W.heap.size W).alloc (Nat.le_refl _) (.cells #[.int .i64 0, .int .i64 0] TSp)
  have hA6 : At (W.alloc (.cells #[.int .i64 0, .int .i64 0] TSp)) W.heap.size TSp [.int .i64 0, .int .i64 0] := At.new W _ _
  have hs6 := h.below hb6
  have HU6 := Lib.hid (Up.below (SBlk s) hb6 h.size)
  have HA6 := Lib.hid hA6
  have HS6 := Lib.hid hs6
  have HT6 := Lib.hid (ht.keep (.of_below hb6))
  have HG := Lib.hid hG
  have HC := Lib.hid hC
  have H6 := Lib.hid (And.intro h.size (fun k hk => (h.lt k hk).1))
  have hrd := ready_yes (W.alloc (.cells #[.int .i64 0, .int .i64 0] TSp)) base M s hs6 hM hG.pos tx.length f hf
  have HRD := Lib.hid hrd
  clear h ht hG hC hrd hb6 hA6 hs6
  go_enter Tryd.func11, Tryd.ntmps11
  go_upto_region 1 with fail
  generalize W.alloc (.cells #[.int .i64 0, .int .i64 0] TSp) = w0 at HU6 HA6 HS6 HT6 HRD ⊢
  go_wp2_with fail
  refine HRD.out.mono ?_
  rintro e w1 ⟨rfl, s1, e1, e2, e3, e4, e5, hst, hs1, hu1⟩
  have HS1 := Lib.hid hs1
  have HU1 := Lib.hid (HU6.out.trans hu1)
  have HE := Lib.hid (And.intro e1 (And.intro e2 (And.intro e3 (And.intro e4 (And.intro e5 hst)))))
  have HT1 := Lib.hid (HT6.out.keep (.of_up hu1 HS6.out.nb))
  have HN6 := Lib.hid (show ¬ SBlk s1 W.heap.size from fun hc => by
    rcases hu1.new _ hc with e | e
    · exact Nat.lt_irrefl _ (H6.out.2 _ e)
    · have := HA6.out.lt; omega)
  have HA1 := Lib.hid (HA6.out.keep (hu1.keep W.heap.size HA6.out.lt fun hc => Nat.lt_irrefl _ (H6.out.2 _ hc)))
  clear hs1 hu1 e1 e2 e3 e4 e5 hst HRD HS6 HA6 HT6
  go_upto_region 3 with fail
  obtain ⟨N, hN⟩ : ∃ N, tx.length = N := ⟨_, rfl⟩
  have HN := Lib.hid hN
  rw [hN] at hn hf HT1 ⊢
  clear hN
  go_wp2_with fail
  -- the three variables
  obtain ⟨w4, hw4⟩ : ∃ w4, w4 = ((w1.alloc (.cells #[.int .i64 0, .int .i64 0] TSp)).alloc (.cells #[.bool false] 4)).alloc (.cells #[.int .i64 (f : Int)] 3) := ⟨_, rfl⟩
  have hb4 : Below w1.heap.size w1 w4 := by
    rw [hw4]
    exact (((Below.refl w1.heap.size w1).alloc (Nat.le_refl _) _).alloc (by simp) _).alloc (by simp; omega) _
  have hsz4 : w4.heap.size = w1.heap.size + 3 := by rw [hw4]; simp
  have hA8 : At w4 w1.heap.size TSp [.int .i64 0, .int .i64 0] := by
    rw [hw4]
    exact ((At.new w1 TSp [.int .i64 0, .int .i64 0]).below ((Below.refl _ _).alloc (Nat.le_refl _) _)).below ((Below.refl _ _).alloc (Nat.le_refl _) _)
  have hA9 : At w4 (w1.heap.size + 1) 4 [.bool false] := by
    rw [hw4]
    have h := At.new (w1.alloc (.cells #[.int .i64 0, .int .i64 0] TSp)) 4 [.bool false]
    rw [World.size_alloc] at h
    exact h.below ((Below.refl _ _).alloc (Nat.le_refl _) _)
  have hA10 : At w4 (w1.heap.size + 1 + 1) 3 [.int .i64 (f : Int)] := by
    rw [hw4]
    have h := At.new ((w1.alloc (.cells #[.int .i64 0, .int .i64 0] TSp)).alloc (.cells #[.bool false] 4)) 3 [.int .i64 (f : Int)]
    rw [World.size_alloc, World.size_alloc] at h
    exact h
  have hle : W.heap.size ≤ w1.heap.size := HU1.out.size
  have hbl : base ≤ w1.heap.size := Nat.le_trans H6.out.1 hle
  have hE0 : FnR W w4 base M tx f s f s1 none w1.heap.size (w1.heap.size + 1) (w1.heap.size + 1 + 1) a N cp := by
    refine ⟨HS1.out.below hb4, HE.out.2.2.2.2.2, ⟨HE.out.1, HE.out.2.1⟩, ⟨hA8, hA9, hA10, hbl, by omega, by omega⟩, ?_, ⟨hle, by omega, by omega⟩, ?_, ?_, ?_, ?_, ?_, HT1.out.keep (.of_below hb4)⟩
    · rintro k (rfl | rfl | rfl) hc
      all_goals have := (HS1.out.lt _ hc).1; omega
    · rw [HE.out.2.2.2.1]
      refine ⟨List.Pairwise.nil, fun t ht => (by cases ht), fun g hg hb j hj => ?_, fun g q hg hq he => ?_⟩
      · simp only [BTo] at hb; omega
      · have := isEnd_le M tx he
        omega
    · rw [HE.out.2.2.2.1]; simp
    · rw [HE.out.2.2.2.2.1]; omega
    · rw [HE.out.2.2.2.1, HE.out.2.2.2.2.1]; rfl
    · refine ⟨fun k hk hn => (hb4.block k (Nat.lt_of_lt_of_le hk hle)).trans (HU1.out.keep k hk hn), fun k hk => ?_, fun B w0 h0 hB => (HU1.out.bel B w0 h0 hB).trans (hb4.mono (by omega)), Nat.le_trans hle hb4.size⟩
      rcases hk with hk | rfl | rfl | rfl
      · exact HU1.out.new k hk
      · exact .inr hle
      · right; omega
      · right; omega
  have HE0 := Lib.hid hE0
  have HA4 := Lib.hid (HA1.out.below hb4)
  have HFR := Lib.hid (show ∀ k, FF w1.heap.size (w1.heap.size + 1) (w1.heap.size + 1 + 1) k → W.heap.size < k by
    have := HA1.out.lt
    rintro k (rfl | rfl | rfl) <;> omega)
  have HH := Lib.hid hf
  rw [← hw4]
  clear hw4 hb4 hsz4 hA8 hA9 hA10 hle hbl hE0 HS1 HU1 HE HT1 HA1 HU6 hf
  generalize w1.heap.size = b8 at HE0 HFR ⊢
  obtain ⟨b6, hb6⟩ : ∃ b6, W.heap.size = b6 := ⟨_, rfl⟩
  have HB6 := Lib.hid hb6
  rw [hb6] at HA4 HFR HN6 ⊢
  clear hb6
  obtain ⟨b9, hb9⟩ : ∃ b9, b8 + 1 = b9 := ⟨_, rfl⟩
  rw [hb9] at HE0 HFR ⊢
  clear hb9
  go_loopg [10] (N + 2 - f) (fun gk v10 wr => ∃ p sE b b10, v10 = .pointer (some ⟨b10, 0, none⟩) ∧ f ≤ p ∧ p ≤ N + 1 ∧ gk = N + 2 - p ∧ FnR W wr base M tx f s p sE b b8 b9 b10 a N cp ∧ At wr b6 TSp [.int .i64 0, .int .i64 0] ∧ ¬ SBlk sE b6 ∧ ∀ k, FF b8 b9 b10 k → b6 < k)
  case atStart => exact ⟨f, s1, none, _, rfl, Nat.le_refl _, by have := HH.out; omega, rfl, HE0.out, HA4.out, HN6.out, HFR.out⟩
  case round =>
    clear HE0 HA4 HN6 HFR
    obtain ⟨p, sE, b, b10, rfl, hfp, hpN, hgk, hE, hA6, hn6, hff⟩ := hrel
    have HE := Lib.hid hE
    have HA := Lib.hid (And.intro hA6 (And.intro hn6 hff))
    have hg : sE.g = s.g := hE.same.1
    obtain ⟨na, nc, hnv⟩ := own_shape hE.sob.mid.nw
    have c5 : wr.cell? ⟨s.g, 5, none⟩ = some (.slice na sE.now.length nc) := by
      rw [← hg]
      exact (hE.sob.mid.o.cell 5).trans (congrArg some hnv)
    have c10 : wr.cell? ⟨b10, 0, none⟩ = some (.int .i64 (p : Int)) := hE.fj.2.2.1.cell 0
    have c9 : wr.cell? ⟨b9, 0, none⟩ = some (.bool b.isSome) := hE.fj.2.1.cell 0
    have HGK := Lib.hid (And.intro hgk (And.intro hg hnv))
    clear hE hA6 hn6 hff hgk hg hnv
    obtain ⟨L, hL⟩ : ∃ L, sE.now.length = L := ⟨_, rfl⟩
    rw [hL] at c5
    have HL := Lib.hid hL
    clear hL
    by_cases hend : N < p ∨ (b.isSome = true ∧ L = 0)
    · have hres : findM M tx f = (b, sE.steps) := by
        have hr := HE.out.run
        rw [← hr]
        rcases hend with h | ⟨h1, h2⟩
        · rw [show tx.length + 1 - p = 0 by have := HN.out; omega]; rfl
        · have hnow : sE.now = [] := List.eq_nil_of_length_eq_zero (by rw [HL.out]; exact h2)
          rw [hnow]
          cases tx.length + 1 - p with
          | zero => rfl
          | succ k => rw [findF, if_pos (by rw [h1]; rfl)]
      have HRS := Lib.hid hres
      clear hres
      obtain ⟨x, y, hxy⟩ : ∃ x y : Int, spanC b = [.int .i64 x, .int .i64 y] := by
        cases b with
        | none => exact ⟨0, 0, rfl⟩
        | some bb => exact ⟨bb.1, bb.2, rfl⟩
      have hA8 : At wr b8 TSp [.int .i64 x, .int .i64 y] := by rw [← hxy]; exact HE.out.fj.1
      have c80 : wr.cell? ⟨b8, 0, none⟩ = some (.int .i64 x) := hA8.cell 0
      have c81 : wr.cell? ⟨b8, 1, none⟩ = some (.int .i64 y) := hA8.cell 1
      have d60 : wr.cell? ⟨b6, 0, none⟩ = some (.int .i64 0) := HA.out.1.cell 0
      have d61 : wr.cell? ⟨b6, 1, none⟩ = some (.int .i64 0) := HA.out.1.cell 1
      have g60 := HA.out.1.frozen 0
      have g61 := HA.out.1.frozen 1
      have hfin : At ((wr.setCell ⟨b6, 0, none⟩ (.int .i64 x)).setCell ⟨b6, 1, none⟩ (.int .i64 y)).drew b6 TSp [.int .i64 x, .int .i64 y] := ((HA.out.1.set 0 (.int .i64 x)).set 1 (.int .i64 y)).below (Below.refl _ _).drew
      have hoth : ∀ k, k ≠ b6 → ((wr.setCell ⟨b6, 0, none⟩ (.int .i64 x)).setCell ⟨b6, 1, none⟩ (.int .i64 y)).drew.heap[k]? = wr.heap[k]? := fun k hk => (heap_setCell_other _ ⟨b6, 1, none⟩ k _ hk).trans (heap_setCell_other wr ⟨b6, 0, none⟩ k _ hk)
      have hbel : Below b6 wr ((wr.setCell ⟨b6, 0, none⟩ (.int .i64 x)).setCell ⟨b6, 1, none⟩ (.int .i64 y)).drew := (((Below.refl b6 wr).setCell (p := ⟨b6, 0, none⟩) (Nat.le_refl b6) (.int .i64 x)).setCell (p := ⟨b6, 1, none⟩) (Nat.le_refl b6) (.int .i64 y)).drew
      have HFN := Lib.hid hfin
      have HOT := Lib.hid hoth
      have HBL := Lib.hid hbel
      have HXY := Lib.hid hxy
      have hne96 : b9 ≠ b6 := fun e => by have := HA.out.2.2 b9 (.inr (.inl rfl)); omega
      have c9s : (wr.setCell ⟨b6, 0, none⟩ (.int .i64 x)).cell? ⟨b9, 0, none⟩ = some (.bool b.isSome) := cell_setCell_far c9 hne96 _
      have c9t : ((wr.setCell ⟨b6, 0, none⟩ (.int .i64 x)).setCell ⟨b6, 1, none⟩ (.int .i64 y)).cell? ⟨b9, 0, none⟩ = some (.bool b.isSome) := cell_setCell_far c9s hne96 _
      clear hA8 hfin hoth hbel hxy hne96
      have HEND := Lib.hid hend
      have hexit : (N < p ∧ decide (p ≤ N) = false) ∨ (p ≤ N ∧ decide (p ≤ N) = true ∧ b.isSome = true ∧ L = 0) := by
        by_cases h : p ≤ N
        · right
          rcases hend with h' | h'
          · omega
          · exact ⟨h, decide_eq_true h, h'.1, h'.2⟩
        · exact .inl ⟨by omega, decide_eq_false h⟩
      clear hend
      rcases hexit with ⟨he1, he2⟩ | ⟨he1, he2, he3, rfl⟩
      · have heI : ¬ (p : Int) ≤ (N : Int) := by omega
        have heI2 : decide ((p : Int) ≤ (N : Int)) = false := decide_eq_false heI
        go_wp2_with fail
        go_region
        all_goals
          go_wp2_with fail
          refine ret_cell_tmp (g := b6) (cs := [.int .i64 x, .int .i64 y]) rfl rfl HFN.out Tryd.underlying68 rfl (by kernel_rfl) rfl ?_
          have hsob := HE.out.sob.keep (W' := ((wr.setCell ⟨b6, 0, none⟩ (.int .i64 x)).setCell ⟨b6, 1, none⟩ (.int .i64 y)).drew) fun k hk => HOT.out k fun e => HA.out.2.1 (e ▸ hk)
          have hu : Up W ((wr.setCell ⟨b6, 0, none⟩ (.int .i64 x)).setCell ⟨b6, 1, none⟩ (.int .i64 y)).drew base (SBlk s) (SBlk sE) := ⟨fun k hk hn => (HOT.out k (by have := HB6.out; omega)).trans (HE.out.up.keep k hk hn), fun k hk => HE.out.up.new k (.inl hk), fun B w0 h0 hB => (HE.out.up.bel B w0 h0 hB).trans (HBL.out.mono (by have := HB6.out; have := H6.out.1; omega)), by have := HE.out.up.size; have := HBL.out.size; omega⟩
          refine ⟨?_, sE, HE.out.same.1, HE.out.same.2, by rw [HRS.out], hsob, hu⟩
          rw [HRS.out]
          simp only [spanA]
          rw [HXY.out]
          first | rfl | (rw [he3]; rfl)
      · have heI : (p : Int) ≤ (N : Int) := by omega
        have heI2 : decide ((p : Int) ≤ (N : Int)) = true := decide_eq_true heI
        rw [he3] at c9 c9s c9t
        go_wp2_with fail
        go_region
        all_goals
          go_wp2_with fail
          refine ret_cell_tmp (g := b6) (cs := [.int .i64 x, .int .i64 y]) rfl rfl HFN.out Tryd.underlying68 rfl (by kernel_rfl) rfl ?_
          have hsob := HE.out.sob.keep (W' := ((wr.setCell ⟨b6, 0, none⟩ (.int .i64 x)).setCell ⟨b6, 1, none⟩ (.int .i64 y)).drew) fun k hk => HOT.out k fun e => HA.out.2.1 (e ▸ hk)
          have hu : Up W ((wr.setCell ⟨b6, 0, none⟩ (.int .i64 x)).setCell ⟨b6, 1, none⟩ (.int .i64 y)).drew base (SBlk s) (SBlk sE) := ⟨fun k hk hn => (HOT.out k (by have := HB6.out; omega)).trans (HE.out.up.keep k hk hn), fun k hk => HE.out.up.new k (.inl hk), fun B w0 h0 hB => (HE.out.up.bel B w0 h0 hB).trans (HBL.out.mono (by have := HB6.out; have := H6.out.1; omega)), by have := HE.out.up.size; have := HBL.out.size; omega⟩
          refine ⟨?_, sE, HE.out.same.1, HE.out.same.2, by rw [HRS.out], hsob, hu⟩
          rw [HRS.out]
          simp only [spanA]
          rw [HXY.out]
          first | rfl | (rw [he3]; rfl)
    · have hpn : p ≤ N := by
        by_cases h : p ≤ N
        · exact h
        · exact absurd (.inl (by omega)) hend
      have hnow : ¬ (b.isSome && sE.now.isEmpty) = true := by
        intro h
        simp only [Bool.and_eq_true, List.isEmpty_iff] at h
        exact hend (.inr ⟨h.1, by rw [← HL.out, h.2]; rfl⟩)
      have heI : (p : Int) ≤ (N : Int) := by omega
      have heI2 : decide ((p : Int) ≤ (N : Int)) = true := decide_eq_true heI
      have hS0 : FnS wr wr base M tx p sE sE b [] b6 b8 b9 b10 a N cp := ⟨HE.out.sob, HE.out.fj, HE.out.far, ⟨HA.out.1, HA.out.2.1⟩, Up.refl _ _ _, HE.out.txr⟩
      have HS0 := Lib.hid hS0
      have HNO := Lib.hid (And.intro hpn hnow)
      have hend2 : b = none ∨ ∃ bb, b = some bb ∧ 0 < L := by
        cases b with
        | none => exact .inl rfl
        | some bb => exact .inr ⟨bb, rfl, by
            by_cases h : L = 0
            · exact absurd (.inr ⟨rfl, h⟩) hend
            · omega⟩
      have HEND := Lib.hid hend2
      clear hS0 hend hnow hend2
      have hpre : True := trivial
      go_upto_region 6 with fail
      go_cut [34] from 19 to 34 (fun v wx => v = .bool true ∧ wr = wx)
      case first =>
        rcases HEND.out with rfl | ⟨bb, rfl, hLp⟩
        · have c9' : wr.cell? ⟨b9, 0, none⟩ = some (.bool false) := c9
          clear c9
          go_wp2_with fail
          go_meet
          case rel => exact ⟨rfl, rfl⟩
        · have c9' : wr.cell? ⟨b9, 0, none⟩ = some (.bool true) := c9
          have hLI : (0 : Int) < (L : Int) := by omega
          clear c9
          go_wp2_with fail
          go_meet
          case rel => exact ⟨rfl, rfl⟩
      case rest =>
      obtain ⟨e34, ew⟩ := hcut
      subst e34 ew
      clear c10 heI heI2
      go_upto_if 38 with fail
      go_cut [] from 39 to 49 (fun wx => ∃ sF, sF.now = (if b.isNone then sE.now ++ [(0, p)] else sE.now) ∧ sF.g = sE.g ∧ sF.mv = sE.mv ∧ sF.steps = sE.steps ∧ StOk M sF ∧ FnS wr wx base M tx p sE sF b [] b6 b8 b9 b10 a N cp)
      case first =>
        cases b with
        | some bb => 
          have c9' : wr.cell? ⟨b9, 0, none⟩ = some (.bool true) := c9
          clear c9
          go_wp2_with fail
          go_meet
          case rel => exact ⟨sE, rfl, rfl, rfl, rfl, HE.out.st, HS0.out⟩
        | none =>
          have c9' : wr.cell? ⟨b9, 0, none⟩ = some (.bool false) := c9
          clear c9
          have hs0 := HE.out.sob.size
          have HSd := Lib.hid (HS0.out.below (Below.refl wr.heap.size wr).drew)
          have hwd : base ≤ wr.drew.heap.size := hs0
          have c10 : wr.cell? ⟨b10, 0, none⟩ = some (.int .i64 (p : Int)) := HE.out.fj.2.2.1.cell 0
          have c5d : wr.drew.cell? ⟨s.g, 5, none⟩ = some (.slice na L nc) := c5
          have c10d : wr.drew.cell? ⟨b10, 0, none⟩ = some (.int .i64 (p : Int)) := c10
          have c5a : ∀ o, (wr.alloc o).cell? ⟨s.g, 5, none⟩ = some (.slice na L nc) := fun o => Lib.cell?_alloc_some o c5
          have c10a : ∀ o, (wr.alloc o).cell? ⟨b10, 0, none⟩ = some (.int .i64 (p : Int)) := fun o => Lib.cell?_alloc_some o c10
          have hown : wr.drew.ownsRow base TT 2 (.slice na L nc) L (cellsT sE.now) := by
            have h := HSd.out.sob.mid.nw
            rw [HGK.out.2.2, HL.out] at h
            exact h
          have HOW := Lib.hid hown
          have hm2 : L + 1 ≤ 8796093022208 := by have := HE.out.len; have := HL.out; omega
          clear hown
          go_wp2_with fail
          go_region_law (first | (refine step_appT (w := wr.drew) (by rfl) _ _ (by rfl) base (.slice na L nc) L (cellsT sE.now) (0, p) _ (by rfl) (by rfl) (by rfl) HOW.out (by rfl) hm2 hwd ?_; intro gn cap w8 ho8 hp8; have hz := HSd.out.sob.appNow (v' := .slice (some ⟨gn, 0, none⟩) (L + 1) cap) (t := (0, p)) (by rw [HL.out]; exact ho8) (by rw [HGK.out.2.2, HL.out]; exact hp8); have c58 : w8.cell? ⟨s.g, 5, none⟩ = some (.slice na L nc) := by { have h := hz.2.2.1; rw [HGK.out.2.1, HGK.out.2.2, HL.out] at h; exact h }; have f58 : w8.frozen? ⟨s.g, 5, none⟩ = false := by { have h := hz.2.2.2; rw [HGK.out.2.1] at h; exact h }))
          all_goals
            have HZ := Lib.hid (And.intro hz.1 hz.2.1)
            clear hz ho8 hp8
            go_wp2_with fail
            go_meet
            case rel =>
              have hz1 := HSd.out.step HZ.out.1 HZ.out.2
              have hw8 : w8.setCell ⟨sE.g, 5, none⟩ (.slice (some ⟨gn, 0, none⟩) (L + 1) cap) = w8.setCell ⟨s.g, 5, none⟩ (.slice (some ⟨gn, 0, none⟩) (L + 1) cap) := by rw [HGK.out.2.1]
              rw [hw8] at hz1
              exact ⟨{ sE with nv := .slice (some ⟨gn, 0, none⟩) (L + 1) cap, now := sE.now ++ [(0, p)] }, rfl, rfl, rfl, rfl, HE.out.st, hz1⟩
      case rest =>
      obtain ⟨sF, k1, k2, k3, k4, k5, hS⟩ := hcut
      have HS := Lib.hid hS
      have HK := Lib.hid (And.intro k1 (And.intro k2 (And.intro k3 (And.intro k4 k5))))
      clear hS k1 k2 k3 k4 k5 c5 c9 HS0
      generalize wc = w2 at HS ⊢
      have hthr := HE.out.fnd.threads HG.out
      have hspb : (p - f) * 65540 + 65540 ≤ 1099511627776 := by
        have h1 : (p - f) ≤ 4194304 := by have := HNO.out.1; omega
        exact Nat.le_trans (Nat.add_le_add_right (Nat.mul_le_mul_right 65540 h1) 65540) (by decide)
      have D := find_dn base b8 b9 b10 p b
      have hPL := place_any' w2 base M tx p sF a N cp D HG.out hM HC.out HS.out.sob.mid HK.out.2.2.2.2 HS.out.txr (by rw [HN.out]; exact HNO.out.1) (by rw [HK.out.1]; exact hthr.1) (by rw [HK.out.1]; exact hthr.2)
        (by rw [HK.out.1]; have := HE.out.len; split <;> simp <;> omega) HS.out.sob.stk HS.out.fj (fun k hk hc => HS.out.far k hk (.inl hc)) (by rw [HK.out.2.2.2.1]; have := HE.out.sp; omega)
      rw [HK.out.2.1, HGK.out.2.1] at hPL
      have HPL := Lib.hid hPL
      have c10 : w2.cell? ⟨b10, 0, none⟩ = some (.int .i64 (p : Int)) := HS.out.fj.2.2.1.cell 0
      clear hPL D hthr hspb
      go_upto_region 11 with fail
      refine HPL.out.mono ?_
      rintro e w' ⟨rfl, s', g1, g2, g3, g4, g5, g6, g7, g8, g9⟩
      have HP := Lib.hid (HS.out.placed (fun h => by have := HA.out.2.2 b6 h; omega) g8 g6 g7 g3 g9)
      have HS' := Lib.hid (And.intro g1 (And.intro g2 (And.intro g4 (And.intro g5 g7))))
      clear g1 g2 g3 g4 g5 g6 g7 g8 g9 c10 HPL
      have hL1 : (if b.isNone then sE.now ++ [(0, p)] else sE.now) = sF.now := HK.out.1.symm
      obtain ⟨dn, hdn⟩ : ∃ dn, (placeF M tx p sF.now sF.steps).dn = dn := ⟨_, rfl⟩
      rw [hdn] at HP
      have HDN := Lib.hid (And.intro hdn hL1)
      clear hdn hL1
      obtain ⟨b', hb'⟩ : ∃ b', dn.foldl (upB p) b = b' := ⟨_, rfl⟩
      have HB' := Lib.hid hb'
      have c9 : w'.cell? ⟨b9, 0, none⟩ = some (.bool b'.isSome) := by rw [← hb']; exact HP.out.fj.2.1.cell 0
      clear hb'
      cases hbb : b' with
      | none =>
        subst hbb
        have c9' : w'.cell? ⟨b9, 0, none⟩ = some (.bool false) := c9
        clear c9
        obtain ⟨sG, hsG⟩ : ∃ sG, sG = s' := ⟨_, rfl⟩
        obtain ⟨wq, hwq⟩ : ∃ wq, wq = w' := ⟨_, rfl⟩
        have HG2 : Hid (sG.now = cutB none s'.now ∧ sG.g = s'.g ∧ sG.mv = s'.mv ∧ sG.steps = s'.steps ∧ StOk M sG ∧ FnS wr wq base M tx p sE sG b dn b6 b8 b9 b10 a N cp) := by rw [hsG, hwq]; exact ⟨rfl, rfl, rfl, rfl, HS'.out.2.2.2.2, HP.out⟩
        obtain ⟨b', hb0⟩ : ∃ b' : Option (Nat × Nat), none = b' := ⟨_, rfl⟩
        rw [hb0] at HG2 HB'
        clear hb0
        rw [← hwq] at c9' ⊢
        clear hwq hsG
        -- the round's end: HG: what is known at wq of sG
        have c10 : wq.cell? ⟨b10, 0, none⟩ = some (.int .i64 (p : Int)) := HG2.out.2.2.2.2.2.fj.2.2.1.cell 0
        have hwp : IntKind.i64.wrap ((p : Int) + 1) = (p : Int) + 1 := IntWalk.i64_in _ (by omega)
        go_wp2_with fail
        have hb := (Below.refl wq.heap.size wq).alloc (Nat.le_refl _) (.cells #[.int .i64 ((p : Int) + 1)] 3)
        have hA10 : At (wq.alloc (.cells #[.int .i64 ((p : Int) + 1)] 3)) wq.heap.size 3 [.int .i64 ((p + 1 : Nat) : Int)] := At.new wq _ _
        have hpl := place_any M tx p HG.out sF.now sF.steps (by rw [HK.out.1]; exact (HE.out.fnd.threads HG.out).1) (by rw [HK.out.1]; exact (HE.out.fnd.threads HG.out).2)
        have hnew : FnR W (wq.alloc (.cells #[.int .i64 ((p : Int) + 1)] 3)) base M tx f s (p + 1) sG b' b8 b9 wq.heap.size a N cp := by
          obtain ⟨k1, k2, k3, k4, k5, hS⟩ := HG2.out
          have e1 : sF.now = (if b.isNone then sE.now ++ [(0, p)] else sE.now) := HK.out.1
          have hfst := HE.out.fnd.step M tx HG.out hfp sE.steps
          rw [← e1, ← HK.out.2.2.2.1, HDN.out.1, HB'.out] at hfst
          have hgn : sG.now = cutB b' (placeF M tx p sF.now sF.steps).nx := by rw [k1, HS'.out.2.2.1]
          have hgs : sG.steps = (placeF M tx p sF.now sF.steps).sp := by rw [k4, HS'.out.2.2.2.1]
          refine ⟨hS.sob.below hb, k5, ⟨by rw [k2, HS'.out.1, HK.out.2.1]; exact HE.out.same.1, by rw [k3, HS'.out.2.1, HK.out.2.2.1]; exact HE.out.same.2⟩, ⟨?_, ?_, hA10, hS.fj.2.2.2.1, hS.fj.2.2.2.2.1, hS.sob.size⟩, ?_, ⟨HE.out.new.1, HE.out.new.2.1, ?_⟩, ?_, ?_, ?_, ?_, ?_, hS.txr.keep (.of_below hb)⟩
          · have h := hS.fj.1
            rw [HB'.out] at h
            exact h.below hb
          · have h := hS.fj.2.1
            rw [HB'.out] at h
            exact h.below hb
          · rintro k (rfl | rfl | rfl)
            · exact hS.far _ (.inl rfl)
            · exact hS.far _ (.inr (.inl rfl))
            · exact fun hc => Nat.lt_irrefl _ (hS.sob.lt _ hc).1
          · exact Nat.le_trans HE.out.up.size hS.up.size
          · rw [hgn]; exact hfst
          · have h1 : (cutB b' (placeF M tx p sF.now sF.steps).nx).length ≤ (placeF M tx p sF.now sF.steps).nx.length := by
              unfold cutB
              split
              · exact Nat.le_refl _
              · exact List.length_filter_le _ _
            rw [hgn]
            have := hpl.nxl
            omega
          · rw [hgs]
            have h1 := hpl.cnt
            have h2 := HE.out.sp
            rw [← HK.out.2.2.2.1] at h2
            have h3 : (p + 1 - f) * 65540 = (p - f) * 65540 + 65540 := by rw [show p + 1 - f = (p - f) + 1 by omega, Nat.succ_mul]
            omega
          · have hr := HE.out.run
            rw [show tx.length + 1 - p = (tx.length + 1 - (p + 1)) + 1 by have := HN.out; have := HNO.out.1; omega, findF, if_neg HNO.out.2, ← e1, ← HK.out.2.2.2.1, HDN.out.1, HB'.out, ← hgn, ← hgs] at hr
            exact hr
          · have hu := HE.out.up.trans hS.up
            refine ⟨fun k hk hn => (hb.block k (Nat.lt_of_lt_of_le hk hu.size)).trans (hu.keep k hk hn), fun k hk => ?_, fun B' w0 h0 hB => (hu.bel B' w0 h0 hB).trans (hb.mono (by have := hS.sob.size; omega)), Nat.le_trans hu.size hb.size⟩
            rcases hk with e | rfl | rfl | rfl
            · exact hu.new k (.inl e)
            · exact .inr HE.out.new.1
            · exact .inr HE.out.new.2.1
            · exact .inr hu.size
        have hA6' : At (wq.alloc (.cells #[.int .i64 ((p : Int) + 1)] 3)) b6 TSp [.int .i64 0, .int .i64 0] := HG2.out.2.2.2.2.2.r6.1.below hb
        have hlt6 : b6 < wq.heap.size := HG2.out.2.2.2.2.2.r6.1.lt
        have HNW := Lib.hid (And.intro hnew hA6')
        clear hb hA10 hpl hnew hA6'
        go_roundg (N + 2 - (p + 1))
        case measure => have := HGK.out.1; have := HNO.out.1; omega
        case rel =>
          refine ⟨p + 1, sG, b', wq.heap.size, rfl, by omega, by have := HNO.out.1; omega, rfl, HNW.out.1, HNW.out.2, HG2.out.2.2.2.2.2.r6.2, ?_⟩
          rintro k (rfl | rfl | rfl)
          · exact HA.out.2.2 _ (.inl rfl)
          · exact HA.out.2.2 _ (.inr (.inl rfl))
          · exact hlt6
      | some bb =>
        obtain ⟨bf, bt⟩ := bb
        subst hbb
        have c9' : w'.cell? ⟨b9, 0, none⟩ = some (.bool true) := c9
        obtain ⟨ma, mc, hmv⟩ := own_shape HP.out.sob.mid.nw
        have hA8 : At w' b8 TSp [.int .i64 (bf : Int), .int .i64 (bt : Int)] := by
          have h := HP.out.fj.1
          rw [HB'.out] at h
          exact h
        have hgs : s'.g = s.g := by rw [HS'.out.1, HK.out.2.1, HGK.out.2.1]
        have c5 : w'.cell? ⟨s.g, 5, none⟩ = some (.slice ma s'.now.length mc) := by
          rw [← hgs]
          exact (HP.out.sob.mid.o.cell 5).trans (congrArg some hmv)
        have hpl0 := place_any M tx p HG.out sF.now sF.steps (by rw [HK.out.1]; exact (HE.out.fnd.threads HG.out).1) (by rw [HK.out.1]; exact (HE.out.fnd.threads HG.out).2)
        have hlen : s'.now.length ≤ 140000 := by rw [HS'.out.2.2.1]; have := hpl0.nxl; omega
        have hown : w'.ownsRow base TT 2 (.slice ma s'.now.length mc) s'.now.length (cellsT s'.now) := by rw [← hmv]; exact HP.out.sob.mid.nw
        have HDE := Lib.hid (delete_any w' base b8 bf bt hA8 ma s'.now.length mc s'.now hown hlen HP.out.sob.size)
        have HMV := Lib.hid (And.intro hmv hgs)
        clear c9 hA8 hpl0 hlen hown hmv hgs
        generalize s'.now.length = L2 at c5 HDE HMV
        go_wp2_with fail
        refine HDE.out.mono ?_
        rintro e w3 ⟨rfl, ho, hu⟩
        have hz := HP.out.sob.setNow (HMV.out.1) ho rfl hu
        have c53 : w3.cell? ⟨s.g, 5, none⟩ = some (.slice ma L2 mc) := by
          have h := hz.2.2.1
          rw [HMV.out.2, HMV.out.1] at h
          exact h
        have f53 : w3.frozen? ⟨s.g, 5, none⟩ = false := by
          have h := hz.2.2.2
          rw [HMV.out.2] at h
          exact h
        have hz1 := HP.out.step hz.1 hz.2.1
        have hw3 : w3.setCell ⟨s'.g, 5, none⟩ (.slice ma (keepL bf s'.now).length mc) = w3.setCell ⟨s.g, 5, none⟩ (.slice ma (keepL bf s'.now).length mc) := by rw [HMV.out.2]
        rw [hw3] at hz1
        obtain ⟨sG, hsG⟩ : ∃ sG : SO, sG = { s' with nv := .slice ma (keepL bf s'.now).length mc, now := keepL bf s'.now } := ⟨_, rfl⟩
        rw [← hsG] at hz1
        have HZ := Lib.hid hz1
        have HSG := Lib.hid hsG
        clear hz hz1 ho hu c5 hw3 hsG HDE
        generalize (keepL bf s'.now).length = L3 at HZ HSG ⊢
        go_upto_region 13 with fail
        generalize w3.setCell ⟨s.g, 5, none⟩ (.slice ma L3 mc) = wq at HZ ⊢
        have HG2 : Hid (sG.now = cutB (some (bf, bt)) s'.now ∧ sG.g = s'.g ∧ sG.mv = s'.mv ∧ sG.steps = s'.steps ∧ StOk M sG ∧ FnS wr wq base M tx p sE sG b dn b6 b8 b9 b10 a N cp) := by
          have e := HSG.out
          exact ⟨by rw [e]; rfl, by rw [e], by rw [e], by rw [e], by rw [e]; exact HS'.out.2.2.2.2, HZ.out⟩
        obtain ⟨b', hb0⟩ : ∃ b' : Option (Nat × Nat), some (bf, bt) = b' := ⟨_, rfl⟩
        rw [hb0] at HG2 HB'
        clear hb0 c53 f53
        -- the round's end: HG: what is known at wq of sG
        have c10 : wq.cell? ⟨b10, 0, none⟩ = some (.int .i64 (p : Int)) := HG2.out.2.2.2.2.2.fj.2.2.1.cell 0
        have hwp : IntKind.i64.wrap ((p : Int) + 1) = (p : Int) + 1 := IntWalk.i64_in _ (by omega)
        go_wp2_with fail
        have hb := (Below.refl wq.heap.size wq).alloc (Nat.le_refl _) (.cells #[.int .i64 ((p : Int) + 1)] 3)
        have hA10 : At (wq.alloc (.cells #[.int .i64 ((p : Int) + 1)] 3)) wq.heap.size 3 [.int .i64 ((p + 1 : Nat) : Int)] := At.new wq _ _
        have hpl := place_any M tx p HG.out sF.now sF.steps (by rw [HK.out.1]; exact (HE.out.fnd.threads HG.out).1) (by rw [HK.out.1]; exact (HE.out.fnd.threads HG.out).2)
        have hnew : FnR W (wq.alloc (.cells #[.int .i64 ((p : Int) + 1)] 3)) base M tx f s (p + 1) sG b' b8 b9 wq.heap.size a N cp := by
          obtain ⟨k1, k2, k3, k4, k5, hS⟩ := HG2.out
          have e1 : sF.now = (if b.isNone then sE.now ++ [(0, p)] else sE.now) := HK.out.1
          have hfst := HE.out.fnd.step M tx HG.out hfp sE.steps
          rw [← e1, ← HK.out.2.2.2.1, HDN.out.1, HB'.out] at hfst
          have hgn : sG.now = cutB b' (placeF M tx p sF.now sF.steps).nx := by rw [k1, HS'.out.2.2.1]
          have hgs : sG.steps = (placeF M tx p sF.now sF.steps).sp := by rw [k4, HS'.out.2.2.2.1]
          refine ⟨hS.sob.below hb, k5, ⟨by rw [k2, HS'.out.1, HK.out.2.1]; exact HE.out.same.1, by rw [k3, HS'.out.2.1, HK.out.2.2.1]; exact HE.out.same.2⟩, ⟨?_, ?_, hA10, hS.fj.2.2.2.1, hS.fj.2.2.2.2.1, hS.sob.size⟩, ?_, ⟨HE.out.new.1, HE.out.new.2.1, ?_⟩, ?_, ?_, ?_, ?_, ?_, hS.txr.keep (.of_below hb)⟩
          · have h := hS.fj.1
            rw [HB'.out] at h
            exact h.below hb
          · have h := hS.fj.2.1
            rw [HB'.out] at h
            exact h.below hb
          · rintro k (rfl | rfl | rfl)
            · exact hS.far _ (.inl rfl)
            · exact hS.far _ (.inr (.inl rfl))
            · exact fun hc => Nat.lt_irrefl _ (hS.sob.lt _ hc).1
          · exact Nat.le_trans HE.out.up.size hS.up.size
          · rw [hgn]; exact hfst
          · have h1 : (cutB b' (placeF M tx p sF.now sF.steps).nx).length ≤ (placeF M tx p sF.now sF.steps).nx.length := by
              unfold cutB
              split
              · exact Nat.le_refl _
              · exact List.length_filter_le _ _
            rw [hgn]
            have := hpl.nxl
            omega
          · rw [hgs]
            have h1 := hpl.cnt
            have h2 := HE.out.sp
            rw [← HK.out.2.2.2.1] at h2
            have h3 : (p + 1 - f) * 65540 = (p - f) * 65540 + 65540 := by rw [show p + 1 - f = (p - f) + 1 by omega, Nat.succ_mul]
            omega
          · have hr := HE.out.run
            rw [show tx.length + 1 - p = (tx.length + 1 - (p + 1)) + 1 by have := HN.out; have := HNO.out.1; omega, findF, if_neg HNO.out.2, ← e1, ← HK.out.2.2.2.1, HDN.out.1, HB'.out, ← hgn, ← hgs] at hr
            exact hr
          · have hu := HE.out.up.trans hS.up
            refine ⟨fun k hk hn => (hb.block k (Nat.lt_of_lt_of_le hk hu.size)).trans (hu.keep k hk hn), fun k hk => ?_, fun B' w0 h0 hB => (hu.bel B' w0 h0 hB).trans (hb.mono (by have := hS.sob.size; omega)), Nat.le_trans hu.size hb.size⟩
            rcases hk with e | rfl | rfl | rfl
            · exact hu.new k (.inl e)
            · exact .inr HE.out.new.1
            · exact .inr HE.out.new.2.1
            · exact .inr hu.size
        have hA6' : At (wq.alloc (.cells #[.int .i64 ((p : Int) + 1)] 3)) b6 TSp [.int .i64 0, .int .i64 0] := HG2.out.2.2.2.2.2.r6.1.below hb
        have hlt6 : b6 < wq.heap.size := HG2.out.2.2.2.2.2.r6.1.lt
        have HNW := Lib.hid (And.intro hnew hA6')
        clear hb hA10 hpl hnew hA6'
        go_roundg (N + 2 - (p + 1))
        case measure => have := HGK.out.1; have := HNO.out.1; omega
        case rel =>
          refine ⟨p + 1, sG, b', wq.heap.size, rfl, by omega, by have := HNO.out.1; omega, rfl, HNW.out.1, HNW.out.2, HG2.out.2.2.2.2.2.r6.2, ?_⟩
          rintro k (rfl | rfl | rfl)
          · exact HA.out.2.2 _ (.inl rfl)
          · exact HA.out.2.2 _ (.inr (.inl rfl))
          · exact hlt6
end Go.Proofs.YtfmcjmkdlldlhaaDoor

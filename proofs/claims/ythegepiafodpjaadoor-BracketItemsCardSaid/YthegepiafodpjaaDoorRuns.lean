/-
  class.Runs: the runs of a class, rising.
-/
import Derived.Test.YthegepiafodpjaaDoorRunsM
import Derived.Maps.AppendAt
namespace Go.Proofs.YthegepiafodpjaaDoor
open Go.RowKit Go.Shelf

attribute [local go_sem] Oper.semAt_some

def RunsIn (w : World) (pre : List Byt) (W : World) : Prop :=
  (∃ v, Boxed W (w.heap.size + 1) 92 v ∧ W.ownsRow w.heap.size 95 2 v (runsOf pre).length (cellsR (runsOf pre)) ∧ (runsOf pre = [] → v = .slice none 0 0))

def RunsPost (w : World) (rs : List (Nat × Nat)) (e : Ending) (w' : World) : Prop := ∃ v, e = .returned v ∧ OwnRn w' w.heap.size v rs ∧ Below w.heap.size w w'

set_option maxRecDepth 100000 in
set_option maxHeartbeats 2000000 in
theorem runs_in (n : Nat) (hn : 3 ≤ n) (w : World) (c : List Nat) (hc : IsC c) :
    CallsIn Fence.wide n Tryd.prog 36 #[.agg (row64 c)] w (RunsPost w (runsOf (elemsL c))) := by
  have h1 : 1 ≤ n := by omega
  have HC := Lib.hid hc
  obtain ⟨i0, hi, hz0, hz1, hz2⟩ := info_partsQ infoRun
  obtain ⟨p0, p1, p2, p3, rfl⟩ := isC_words c hc
  have hr : row64 [p0, p1, p2, p3] = #[.int .u64 (p0 : Int), .int .u64 (p1 : Int), .int .u64 (p2 : Int), .int .u64 (p3 : Int)] := rfl
  have hA := fun w : World => (callsIn_wide (n := n - 1)).2 (all_any w [p0, p1, p2, p3])
  rw [hr] at hA ⊢
  have a0 : Arr64 (w.alloc (.cells #[.int .u64 (p0 : Int), .int .u64 (p1 : Int), .int .u64 (p2 : Int), .int .u64 (p3 : Int)] 28)) w.heap.size 28 [p0, p1, p2, p3] := heap_alloc_new w _
  have a0 := a0.alloc (.cells #[.slice none 0 0] 92)
  obtain ⟨c0, c1, c2, c3⟩ := a0.four rfl
  refine callsIn_of_wp_marks Tryd.func36 rfl trivial ?_ rfl
  simp only [Tryd.ntmps36, List.size_toArray, List.length_cons, List.length_nil, Nat.reduceAdd, Nat.reduceSub, Array.replicate_succ, Array.replicate_zero, List.push_toArray, List.append_toArray, List.nil_append, List.cons_append]
  gi_wp2_with fail
  refine ⟨trivial, (hA _).mono ?_⟩
  rintro e w2 ⟨rfl, rfl⟩
  have r1 := Boxed.new (w.alloc (.cells #[.int .u64 (p0 : Int), .int .u64 (p1 : Int), .int .u64 (p2 : Int), .int .u64 (p3 : Int)] 28)) 92 (.slice none 0 0)
  have a2 : Arr64 (((w.alloc (.cells #[.int .u64 (p0 : Int), .int .u64 (p1 : Int), .int .u64 (p2 : Int), .int .u64 (p3 : Int)] 28)).alloc (.cells #[.slice none 0 0] 92)).alloc (.cells #[.int .u64 (p0 : Int), .int .u64 (p1 : Int), .int .u64 (p2 : Int), .int .u64 (p3 : Int)] 28)) (w.heap.size + 1 + 1) 28 [p0, p1, p2, p3] := heap_alloc3 w _ _ _
  have hB0 := (below_alloc2 w (.cells #[.int .u64 (p0 : Int), .int .u64 (p1 : Int), .int .u64 (p2 : Int), .int .u64 (p3 : Int)] 28) (.cells #[.slice none 0 0] 92)).alloc (by simp; omega) (.cells #[.int .u64 (p0 : Int), .int .u64 (p1 : Int), .int .u64 (p2 : Int), .int .u64 (p3 : Int)] 28)
  simp only [World.size_alloc] at r1
  clear a0 hr hc c0 c1 c2 c3 hA
  generalize Value.agg #[Value.int .u64 (p0 : Int), .int .u64 (p1 : Int), .int .u64 (p2 : Int), .int .u64 (p3 : Int)] = ag
  gi_wp2_with fail
  have hsz : (((w.alloc (.cells #[.int .u64 (p0 : Int), .int .u64 (p1 : Int), .int .u64 (p2 : Int), .int .u64 (p3 : Int)] 28)).alloc (.cells #[.slice none 0 0] 92)).alloc (.cells #[.int .u64 (p0 : Int), .int .u64 (p1 : Int), .int .u64 (p2 : Int), .int .u64 (p3 : Int)] 28)).heap.size = w.heap.size + 1 + 1 + 1 := by simp
  have r2 := r1.alloc (.cells #[.int .u64 (p0 : Int), .int .u64 (p1 : Int), .int .u64 (p2 : Int), .int .u64 (p3 : Int)] 28)
  try simp only [World.size_alloc]
  generalize ((w.alloc (.cells #[.int .u64 (p0 : Int), .int .u64 (p1 : Int), .int .u64 (p2 : Int), .int .u64 (p3 : Int)] 28)).alloc (.cells #[.slice none 0 0] 92)).alloc (.cells #[.int .u64 (p0 : Int), .int .u64 (p1 : Int), .int .u64 (p2 : Int), .int .u64 (p3 : Int)] 28) = W0 at a2 hB0 hsz r2 ⊢
  clear r1
  refine wpIn_rangeFunc_ownG rfl h1 (gf := 76) (lb := #[.pointer (some ⟨w.heap.size + 1 + 1, 0, none⟩)]) rfl trivial (enters_of Tryd.func76 (by kernel_rfl) rfl)
    (all_stops (n - 1) (by omega) (w.heap.size + 1 + 1) [p0, p1, p2, p3] HC.out W0 a2) (keepB_t _) (keepB_b (by omega)) (Below.refl _ _) (fun _ => rfl)
    (fun pre W => (RunsIn w pre W ∧ Arr64 W (w.heap.size + 1 + 1) 28 [p0, p1, p2, p3]) ∧ Below w.heap.size w W)
    (fun _ _ _ => False)
    (OwnFrom.and (Own.from (fun s A B row hs hg hr => ⟨holdsRow_own w.heap.size (w.heap.size + 1) 92 95 2 (fun pre => (runsOf pre).length) (fun pre => cellsR (runsOf pre)) (fun pre v => runsOf pre = [] → v = .slice none 0 0) s A B row hs.1 hg hr, hs.2.kept hg hr⟩) _) (ownFrom_below (Nat.le_refl _) (by omega)))
    (fun _ _ _ _ _ hs _ _ => hs)
    ⟨⟨⟨_, r2, World.ownsRow_nil _ _ _ _, fun _ => rfl⟩, a2⟩, hB0⟩
    (fun x => { tmps := #[ag, .pointer (some ⟨w.heap.size, 0, none⟩), .slice none 0 0, .pointer (some ⟨w.heap.size + 1, 0, none⟩), .int .u8 (x.1 : Int), undef, ag, .func (.func 76) #[] #[.pointer (some ⟨w.heap.size + 1 + 1, 0, none⟩)], .int .u8 (x.1 : Int), undef, undef, undef, undef, undef, undef, undef, undef, undef, undef, undef, undef, undef, undef, undef, undef, undef, undef, undef, undef, undef, undef, undef, undef, undef, undef, undef, undef, undef, undef], defers := [] }) ?assign ?body ?done ?stop
  case assign =>
    intro l x W K hK
    gi_wp2
    exact hK
  case body =>
    rintro l pre x W ⟨⟨⟨v, hv, hrow, hnil⟩, ha⟩, hB⟩ hlt
    have hc := hv.cell
    have hf := hv.frozen
    have hpl := runsOf_len pre
    have HSN := Lib.hid (runsOf_snoc pre x)
    have HIR := Lib.hid (isR_of pre)
    have hx := x.2
    generalize x.1 = y at HSN hx ⊢
    generalize runsOf pre = rs at hrow hnil hpl HSN HIR
    rcases List.eq_nil_or_concat rs with rfl | ⟨L, r, rfl⟩
    · obtain rfl := hnil rfl
      clear hnil
      gi_wp2_with (gi_at_builtin; refine wpListIn_append_own _ (by rfl) (.tmp 32) (.tmp 36) 92 (by rfl) w.heap.size 95 i0 (.agg #[.int .u8 0, .int .u8 0]) 2 2 Tryd.underlying92 hi hz0 hz1 hz2 rfl (by decide) _ _ _ (by rfl) (hrow.alloc _) ⟨W.heap.size, 0, none⟩ 1 1 [.int .u8 (y : Int), .int .u8 (y : Int)] (by rfl) rfl (two_cells _ _ _ _) (by simp [Value.oneCell']) (by unfold maxLen; omega) (by omega) (by have := hB.size; rw [World.size_alloc]; omega) ?_; intro v' w1 hown' hgrow _; obtain ⟨g', cap', rfl⟩ := ownsRow_succ hown'; obtain ⟨hv1, hv2, hr2, hk2, hb2⟩ := hv.appended (by decide) hrow hB.size (by omega) hown' hgrow; have hc1 := hv1.cell; have hf1 := hv1.frozen; have HKB := Lib.hid (fun u => keep_append (B := w.heap.size + 1) ha hrow hgrow (by omega) u); clear hown' hgrow)
      refine ⟨hk2.from _, HKB.out _, ⟨⟨_, hv2, ?_, fun e => ?_⟩, (HKB.out _).arr ha⟩, hB.trans hb2⟩
      · rw [HSN.out, runStep_nil]; exact hr2
      · rw [HSN.out, runStep_nil] at e; cases e
    · obtain ⟨lo, hi2⟩ := r
      rw [List.concat_eq_append] at hrow hnil hpl HSN HIR
      obtain ⟨-, hr2'⟩ := HIR.out (lo, hi2) (List.mem_append.2 (.inr (by simp)))
      have hr2' : hi2 < 256 := hr2'
      rw [List.length_append, List.length_singleton] at hrow hpl
      obtain ⟨g, cap, rfl⟩ := ownsRow_succ hrow
      have hcl := hrow.cellAt (L.length * 2 + 1) (by omega)
      rw [cellsR_last] at hcl
      have hfl := hrow.frozenAt (L.length * 2 + 1)
      have hE := runStep_ext L (lo, hi2) y
      have hN := runStep_new L (lo, hi2) y
      have hst := hrow.stored (L.length * 2 + 1) (.int .u8 (y : Int))
      rw [cellsR_set] at hst
      have hgn := run_not_cls ha hrow
      have hgb := hv.not_row (by decide) hrow
      obtain ⟨m, hm⟩ : ∃ m, L.length = m := ⟨_, rfl⟩
      rw [hm] at hrow hpl hcl hfl hst hc hv hgn hgb
      have hlst : (L ++ [(lo, y)]).length = m + 1 := by rw [List.length_append, hm]; rfl
      have hlen2 : (L ++ [(lo, hi2)]).length = m + 1 := by rw [List.length_append, hm]; rfl
      have hmb : m < 256 := by omega
      have HST := Lib.hid hst
      have HLS := Lib.hid hlst
      have HL2 := Lib.hid hlen2
      have HGN := Lib.hid hgn
      have HGB := Lib.hid hgb
      have hcl : W.cell? ⟨g, m * 2 + 1, none⟩ = some (.int .u8 (hi2 : Int)) := hcl
      clear hnil hst hlst hlen2 hgn hgb hm
      by_cases he : hi2 + 1 = y
      · have HX := Lib.hid (hE he)
        have heq : ((hi2 : Int) + 1 == (y : Int)) = true := by rw [beq_iff_eq]; omega
        clear he hE hN
        gi_wp2_with fail
        refine ⟨(KeepsOthers.setCell _ _ _).from _, heap_setCell_other W ⟨g, m * 2 + 1, none⟩ _ _ (fun e => HGN.out (by rw [e]; rfl)), ⟨⟨_, hv.kept HST.out.2 HGB.out, ?_, fun e => ?_⟩, ?_⟩, hB.setCell (p := ⟨g, m * 2 + 1, none⟩) (hrow.lt g rfl).1 _⟩
        · rw [HSN.out, HX.out, HLS.out]; exact HST.out.1
        · rw [HSN.out, HX.out] at e; simp at e
        · exact ha.other _ (fun e => HGN.out (by rw [e]; rfl)) _
      · have HX := Lib.hid (hN he)
        have heq : ((hi2 : Int) + 1 == (y : Int)) = false := by rw [beq_eq_false_iff_ne]; omega
        clear he hE hN
        gi_wp2_with (gi_at_builtin; refine wpListIn_append_own _ (by rfl) (.tmp 32) (.tmp 36) 92 (by rfl) w.heap.size 95 i0 (.agg #[.int .u8 0, .int .u8 0]) 2 2 Tryd.underlying92 hi hz0 hz1 hz2 rfl (by decide) _ _ _ (by rfl) (hrow.alloc _) ⟨W.heap.size, 0, none⟩ 1 1 [.int .u8 (y : Int), .int .u8 (y : Int)] (by rfl) rfl (two_cells _ _ _ _) (by simp [Value.oneCell']) (by unfold maxLen; omega) (by omega) (by have := hB.size; rw [World.size_alloc]; omega) ?_; intro v' w1 hown' hgrow _; obtain ⟨g', cap', rfl⟩ := ownsRow_succ hown'; obtain ⟨hv1, hv2, hr2, hk2, hb2⟩ := hv.appended (by decide) hrow hB.size (by omega) hown' hgrow; have hc1 := hv1.cell; have hf1 := hv1.frozen; have HKB := Lib.hid (fun u => keep_append (B := w.heap.size + 1) ha hrow hgrow (by omega) u); clear hown' hgrow)
        refine ⟨hk2.from _, HKB.out _, ⟨⟨_, hv2, ?_, fun e => ?_⟩, (HKB.out _).arr ha⟩, hB.trans hb2⟩
        · rw [HSN.out, HX.out, cellsR_append, List.length_append, HL2.out]; exact hr2
        · rw [HSN.out, HX.out] at e; simp at e
  case done =>
    rintro D ys W hD rfl ⟨⟨⟨v, hv, hrow, -⟩, -⟩, hB⟩ hK
    have hc := hv.cell
    gi_wp2
    refine ⟨by simp, .inl ⟨_, _, rfl, run_takeDeferred hK, ?_⟩⟩
    exact ⟨_, results_tmp rfl _ _ _, v, rfl, ownsRow_putObj hrow _ hK rfl, hB.trans (belowK_b (w := w) (Nat.le_refl _) W D _ _ (by omega) hK rfl rfl)⟩
  case stop =>
    rintro D c pre W _ _ h _
    exact h.elim
theorem runs_any (w : World) (c : List Nat) (hc : IsC c) : Calls Tryd.prog 36 #[.agg (row64 c)] w (RunsPost w (runsOf (elemsL c))) :=
  callsIn_wide.1 (runs_in 3 (Nat.le_refl _) w c hc)
end Go.Proofs.YthegepiafodpjaaDoor

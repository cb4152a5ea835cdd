/-
  class.least: the least byte of a class; 256, if it has none.
-/
import Derived.Test.YtakimaceohfpcaaOnce
namespace Go.Proofs.Ytakimaceohfpcaa
open Go.RowKit Go.Shelf

attribute [local go_sem] Oper.semAt_some

def leastOf (l : List Byt) : Nat := match l with
  | [] => 256
  | x :: _ => x.1
def leastL (c : List Nat) : Nat := leastOf (elemsL c)
theorem leastOf_pre {x : Byt} {l : List Byt} (h : [x] <+: l) : leastOf l = x.1 := by
  obtain ⟨t, rfl⟩ := h
  rfl

theorem Arr64.kept {W W' : World} {g : Nat} {T : TypeId} {l : List Nat} {row : Option Nat} (h : Arr64 W g T l) (hg : W.grownBy W' row) (hr : ∀ r, row = some r → ∃ o : Obj, W.heap[r]? = some o ∧ o.isCells = false) : Arr64 W' g T l := by
  refine (hg.block g h.lt fun e => ?_).trans h
  obtain ⟨o, ho, hc⟩ := hr g e.symm
  rw [show W.heap[g]? = _ from h] at ho
  cases ho; cases hc

theorem boxed_keptC {W W' : World} {g : Nat} {T : TypeId} {v : Value} {row : Option Nat} (h : Boxed W g T v) (hg : W.grownBy W' row) (hr : ∀ r, row = some r → ∃ o : Obj, W.heap[r]? = some o ∧ o.isCells = false) : Boxed W' g T v := by
  refine h.kept hg fun e => ?_
  obtain ⟨o, ho, hc⟩ := hr g e.symm
  rw [show W.heap[g]? = _ from h] at ho
  cases ho; cases hc

set_option maxRecDepth 100000 in
set_option maxHeartbeats 2000000 in
theorem least_in (n : Nat) (hn : 3 ≤ n) (w : World) (c : List Nat) (hc : IsC c) :
    CallsIn Fence.wide n Try.prog 46 #[.agg (row64 c)] w fun e w' => e = .returned (.int .i64 (leastL c : Nat)) ∧ Below w.heap.size w w' ∧ w.drawn ≤ w'.drawn := by
  have h1 : 1 ≤ n := by omega
  have HC := Lib.hid hc
  obtain ⟨p0, p1, p2, p3, rfl⟩ := isC_words c hc
  have hr : row64 [p0, p1, p2, p3] = #[.int .u64 (p0 : Int), .int .u64 (p1 : Int), .int .u64 (p2 : Int), .int .u64 (p3 : Int)] := rfl
  have hA := fun w : World => (callsIn_wide (n := n - 1)).2 (all_any w [p0, p1, p2, p3])
  rw [hr] at hA ⊢
  have a0 : Arr64 (w.alloc (.cells #[.int .u64 (p0 : Int), .int .u64 (p1 : Int), .int .u64 (p2 : Int), .int .u64 (p3 : Int)] 24)) w.heap.size 24 [p0, p1, p2, p3] := heap_alloc_new w _
  have a0 := a0.alloc (.cells #[.int .i64 0] 3)
  obtain ⟨c0, c1, c2, c3⟩ := a0.four rfl
  refine callsIn_of_wp_marks Try.func46 rfl trivial ?_ rfl
  simp only [Try.ntmps46, List.size_toArray, List.length_cons, List.length_nil, Nat.reduceAdd, Nat.reduceSub, Array.replicate_succ, Array.replicate_zero, List.push_toArray, List.append_toArray, List.nil_append, List.cons_append]
  gi_wp2_with fail
  refine ⟨trivial, (hA _).mono ?_⟩
  rintro e w2 ⟨rfl, rfl⟩
  have r1 := Boxed.new (w.alloc (.cells #[.int .u64 (p0 : Int), .int .u64 (p1 : Int), .int .u64 (p2 : Int), .int .u64 (p3 : Int)] 24)) 3 (.int .i64 0)
  have a2 : Arr64 (((w.alloc (.cells #[.int .u64 (p0 : Int), .int .u64 (p1 : Int), .int .u64 (p2 : Int), .int .u64 (p3 : Int)] 24)).alloc (.cells #[.int .i64 0] 3)).alloc (.cells #[.int .u64 (p0 : Int), .int .u64 (p1 : Int), .int .u64 (p2 : Int), .int .u64 (p3 : Int)] 24)) (w.heap.size + 1 + 1) 24 [p0, p1, p2, p3] := heap_alloc3 w _ _ _
  have hB0 := (below_alloc2 w (.cells #[.int .u64 (p0 : Int), .int .u64 (p1 : Int), .int .u64 (p2 : Int), .int .u64 (p3 : Int)] 24) (.cells #[.int .i64 0] 3)).alloc (by simp; omega) (.cells #[.int .u64 (p0 : Int), .int .u64 (p1 : Int), .int .u64 (p2 : Int), .int .u64 (p3 : Int)] 24)
  simp only [World.size_alloc] at r1
  clear a0 hr hc c0 c1 c2 c3 hA
  generalize Value.agg #[Value.int .u64 (p0 : Int), .int .u64 (p1 : Int), .int .u64 (p2 : Int), .int .u64 (p3 : Int)] = ag
  gi_wp2_with fail
  have hsz : (((w.alloc (.cells #[.int .u64 (p0 : Int), .int .u64 (p1 : Int), .int .u64 (p2 : Int), .int .u64 (p3 : Int)] 24)).alloc (.cells #[.int .i64 0] 3)).alloc (.cells #[.int .u64 (p0 : Int), .int .u64 (p1 : Int), .int .u64 (p2 : Int), .int .u64 (p3 : Int)] 24)).heap.size = w.heap.size + 1 + 1 + 1 := by simp
  have r2 := r1.alloc (.cells #[.int .u64 (p0 : Int), .int .u64 (p1 : Int), .int .u64 (p2 : Int), .int .u64 (p3 : Int)] 24)
  have hd0 : w.drawn ≤ (((w.alloc (.cells #[.int .u64 (p0 : Int), .int .u64 (p1 : Int), .int .u64 (p2 : Int), .int .u64 (p3 : Int)] 24)).alloc (.cells #[.int .i64 0] 3)).alloc (.cells #[.int .u64 (p0 : Int), .int .u64 (p1 : Int), .int .u64 (p2 : Int), .int .u64 (p3 : Int)] 24)).drawn := Nat.le_refl _
  try simp only [World.size_alloc]
  generalize ((w.alloc (.cells #[.int .u64 (p0 : Int), .int .u64 (p1 : Int), .int .u64 (p2 : Int), .int .u64 (p3 : Int)] 24)).alloc (.cells #[.int .i64 0] 3)).alloc (.cells #[.int .u64 (p0 : Int), .int .u64 (p1 : Int), .int .u64 (p2 : Int), .int .u64 (p3 : Int)] 24) = W0 at a2 hB0 hsz r2 hd0 ⊢
  clear r1
  refine once_loop (by omega) (w.heap.size + 1 + 1) [p0, p1, p2, p3] HC.out (by rfl) a2
    (fun W => Boxed W (w.heap.size + 1) 3 (.int .i64 0) ∧ Below w.heap.size w W ∧ w.drawn ≤ W.drawn)
    (fun x W => Boxed W (w.heap.size + 1) 3 (.int .i64 (x.1 : Int)) ∧ Below w.heap.size w W ∧ w.drawn ≤ W.drawn)
    (fun W l o o' hs hl ho hc => ⟨boxed_keptC hs.1 (grownBy_putObj' W l o') (fun r e => by cases e; exact ⟨o, ho, hc⟩), hs.2.1.trans (below_put W l o o' (by omega) ho), hs.2.2⟩)
    (fun x W l o o' hs hl ho hc => ⟨boxed_keptC hs.1 (grownBy_putObj' W l o') (fun r e => by cases e; exact ⟨o, ho, hc⟩), hs.2.1.trans (below_put W l o o' (by omega) ho), hs.2.2⟩)
    (fun W W' hs hb hd => ⟨boxed_keptC hs.1 (grown_of_below hb) (fun r e => by cases e), hs.2.1.trans (hb.mono hs.2.1.size), Nat.le_trans hs.2.2 hd⟩)
    ⟨r2, hB0, hd0⟩
    (fun x => { tmps := #[ag, .pointer (some ⟨w.heap.size, 0, none⟩), .pointer (some ⟨w.heap.size + 1, 0, none⟩), .int .u8 (x.1 : Int), ag, .func (.func 48) #[] #[.pointer (some ⟨w.heap.size + 1 + 1, 0, none⟩)], .int .u8 (x.1 : Int), undef, undef], defers := [] }) ?assign ?body ?done ?stop
  case assign =>
    intro l x W K hK
    gi_wp2
    exact hK
  case body =>
    rintro l x W ⟨hbx, hB, hD⟩
    have hx := x.2
    have hcr := hbx.cell
    have hfr := hbx.frozen
    have hset := hbx.set (.int .i64 (x.1 : Int))
    gi_wp2
    exact ⟨(KeepsOthers.setCell _ _ _).from _, hB.setCell (p := ⟨w.heap.size + 1, 0, none⟩) (by simp) _⟩
  case done =>
    rintro D W hD hne ⟨hbx, hB, hdr⟩ hK
    have hcr := hbx.cell
    have hfr := hbx.frozen
    gi_wp2
    have hK' := (KeepsOthers.setCell W ⟨w.heap.size + 1, 0, none⟩ (.int .i64 256)).same D _ hK rfl
    refine ⟨by simp, .inl ⟨_, _, rfl, run_takeDeferred hK', ?_⟩⟩
    have hc5 := (boxed_keptC (hbx.set (.int .i64 256)) (grownBy_putObj' _ D (.deferred none)) (fun r e => by cases e; exact ⟨_, hK', rfl⟩)).cell
    refine ⟨.int .i64 256, ?_, by unfold leastL; rw [hne]; rfl, (hB.setCell (p := ⟨w.heap.size + 1, 0, none⟩) (by simp) _).trans (belowK_b (w := w) (Nat.le_refl _) _ D _ _ (by omega) hK' rfl rfl), hdr⟩
    simp [results, Try.f46, go_sem, hc5]
  case stop =>
    rintro D x W hD hpre ⟨hbx, hB, hdr⟩ hK
    gi_wp2
    refine ⟨by simp, .inl ⟨_, _, rfl, run_takeDeferred hK, ?_⟩⟩
    have hc5 := (boxed_keptC hbx (grownBy_putObj' _ D (.deferred none)) (fun r e => by cases e; exact ⟨_, hK, rfl⟩)).cell
    refine ⟨.int .i64 (x.1 : Int), ?_, by unfold leastL; rw [leastOf_pre hpre], hB.trans (belowK_b (w := w) (Nat.le_refl _) W D _ _ (by omega) hK rfl rfl), hdr⟩
    simp [results, Try.f46, go_sem, hc5]
theorem least_any (w : World) (c : List Nat) (hc : IsC c) : Calls Try.prog 46 #[.agg (row64 c)] w fun e w' => e = .returned (.int .i64 (leastL c : Nat)) ∧ Below w.heap.size w w' ∧ w.drawn ≤ w'.drawn :=
  callsIn_wide.1 (least_in 3 (Nat.le_refl _) w c hc)
end Go.Proofs.Ytakimaceohfpcaa

/-
  ClassRuns: the runs of every class; new memory.
-/
import Derived.Test.YtakimaceohfpcaaRunsW
import Derived.Test.YtakimaceohfpcaaRuns
import Derived.Test.YtakimaceohfpcaaWorks
import Derived.Deep.RegionHeld3
import Derived.BigQuiet
namespace Go.Proofs.Ytakimaceohfpcaa
open Go.RowKit

/-- The classes in their boxes, and lists that have been answered so far. -/
structure RP (W w : World) (b2 b3 : Nat) (c d : List Nat) (pd : List (Value × List (Nat × Nat))) : Prop where
  bel : Below W.heap.size W w
  le : W.heap.size ≤ b2
  a2 : Arr64 w b2 24 c
  a3 : Arr64 w b3 24 d
  own : ∀ x ∈ pd, OwnRn w W.heap.size x.1 x.2
  ap : pd.Pairwise fun x y => Apart x.1 y.1
theorem RP.below {W w w' : World} {b2 b3 : Nat} {c d : List Nat} {pd : List (Value × List (Nat × Nat))} (h : RP W w b2 b3 c d pd) (hb : Below w.heap.size w w') : RP W w' b2 b3 c d pd :=
  { h with bel := h.bel.trans (hb.mono h.bel.size), a2 := h.a2.below hb h.a2.lt, a3 := h.a3.below hb h.a3.lt, own := fun x hx => (h.own x hx).below hb }
theorem RP.twin {W w w' : World} {b2 b3 : Nat} {c d : List Nat} {pd : List (Value × List (Nat × Nat))} (h : RP W w b2 b3 c d pd) {v : Value} {rs : List (Nat × Nat)} (ho : OwnRn w' w.heap.size v rs) (hb : Below w.heap.size w w') : RP W w' b2 b3 c d (pd ++ [(v, rs)]) := by
  have tb := h.below hb
  refine { tb with own := fun x hx => ?_, ap := ?_ }
  · rcases List.mem_append.1 hx with e | e
    · exact tb.own x e
    · obtain rfl := List.mem_singleton.1 e
      exact ho.mono h.bel.size
  · refine List.pairwise_append.2 ⟨h.ap, List.pairwise_singleton _ _, fun x hx y hy => ?_⟩
    obtain rfl := List.mem_singleton.1 hy
    intro k h1 h2
    have h3 := (World.ownsRow.lt (h.own x hx) k h1).2
    have h4 := (World.ownsRow.lt ho k h2).1
    omega
theorem RP.forget {W w : World} {b2 b3 : Nat} {c d : List Nat} {pd : List (Value × List (Nat × Nat))} (h : RP W w b2 b3 c d pd) : RP W w b2 b3 c d [] := { h with own := (fun x hx => by cases hx), ap := List.Pairwise.nil }
theorem RP.drew_ {W w : World} {b2 b3 : Nat} {c d : List Nat} {pd : List (Value × List (Nat × Nat))} (h : RP W w b2 b3 c d pd) : RP W w.drew b2 b3 c d pd := h.below (Below.refl _ _).drew
theorem RP.alloc {W w : World} {b2 b3 : Nat} {c d : List Nat} {pd : List (Value × List (Nat × Nat))} (h : RP W w b2 b3 c d pd) (o : Obj) : RP W (w.alloc o) b2 b3 c d pd := h.below ((Below.refl _ w).alloc (Nat.le_refl _) o)
theorem fresh4 {w w' : World} {o : Obj} (hb : Below (w.alloc o).heap.size (w.alloc o) w') : w'.heap[w.heap.size]? = some o := (hb.block _ (by rw [World.size_alloc]; omega)).trans (heap_alloc_new w o)
theorem old4 {w w' : World} {g : Nat} {o : Obj} (hb : Below w.heap.size w w') (h : w.heap[g]? = some o) : w'.heap[g]? = some o := (hb.block g (Array.getElem?_eq_some_iff.1 h).1).trans h
def pk4 (a b c d : Value) : Nat → Value
  | 0 => a
  | 1 => b
  | 2 => c
  | _ => d
theorem RP.freshP {W X w' : World} {b2 b3 : Nat} {c d : List Nat} {pd : List (Value × List (Nat × Nat))} {o : Obj} (h : RP W X b2 b3 c d pd) (hb : Below (X.alloc o).heap.size (X.alloc o) w') : w'.heap[X.heap.size]? = some o ∧ W.heap.size ≤ X.heap.size := ⟨fresh4 hb, h.bel.size⟩
theorem RP.freshD {W X w' : World} {b2 b3 : Nat} {c d : List Nat} {pd : List (Value × List (Nat × Nat))} {o : Obj} (h : RP W X b2 b3 c d pd) (hb : Below (X.drew.alloc o).heap.size (X.drew.alloc o) w') : w'.heap[X.heap.size]? = some o ∧ W.heap.size ≤ X.heap.size := ⟨fresh4 (w := X.drew) hb, h.bel.size⟩
theorem RP.freshE {W X w' : World} {b2 b3 : Nat} {c d : List Nat} {pd : List (Value × List (Nat × Nat))} {o : Obj} (h : RP W X b2 b3 c d pd) (hb : Below (X.alloc o).drew.heap.size (X.alloc o).drew w') : w'.heap[X.heap.size]? = some o ∧ W.heap.size ≤ X.heap.size := ⟨fresh4 ((Below.refl _ (X.alloc o)).drew.trans hb), h.bel.size⟩
theorem oldP {W w w' : World} {g : Nat} {o : Obj} (hb : Below w.heap.size w w') (h : w.heap[g]? = some o ∧ W.heap.size ≤ g) : w'.heap[g]? = some o ∧ W.heap.size ≤ g := ⟨old4 hb h.1, h.2⟩
theorem RP.store4 {W w : World} {b2 b3 : Nat} {c d : List Nat} {pd : List (Value × List (Nat × Nat))} {g : Nat} {n : Value} (h : RP W w b2 b3 c d pd) (hA : w.heap[g]? = some (.cells #[n, n, n, n] TR4 (0, 0)) ∧ W.heap.size ≤ g) (x0 x1 x2 x3 : Value) :
    RP W ((((w.setCell ⟨g, 0, none⟩ x0).setCell ⟨g, 1, none⟩ x1).setCell ⟨g, 2, none⟩ x2).setCell ⟨g, 3, none⟩ x3) b2 b3 c d pd ∧ Arr4 ((((w.setCell ⟨g, 0, none⟩ x0).setCell ⟨g, 1, none⟩ x1).setCell ⟨g, 2, none⟩ x2).setCell ⟨g, 3, none⟩ x3) g (pk4 x0 x1 x2 x3) := by
  have h0 : Arr4 w g (fun _ => n) := hA.1
  have h4 := (((h0.set 0 (by omega) x0).set 1 (by omega) x1).set 2 (by omega) x2).set 3 (by omega) x3
  have nc : ∀ {b : Nat} {e : List Nat}, Arr64 w b 24 e → b ≠ g := fun {b e} ha e2 => by
    subst e2
    rw [show w.heap[b]? = _ from ha] at hA
    simp only [Option.some.injEq, Obj.cells.injEq] at hA
    exact absurd hA.1.2.1 (by decide)
  have n2 := nc h.a2
  have n3 := nc h.a3
  refine ⟨⟨(((h.bel.setCell hA.2 _).setCell hA.2 _).setCell hA.2 _).setCell hA.2 _, h.le, (((h.a2.other _ n2 _).other _ n2 _).other _ n2 _).other _ n2 _, (((h.a3.other _ n3 _).other _ n3 _).other _ n3 _).other _ n3 _, fun x hx => ?_, h.ap⟩, h4.congr fun k hk => ?_⟩
  · have hn := own_not4 (h.own x hx) h0
    exact ownsRow_setCell_other (ownsRow_setCell_other (ownsRow_setCell_other (ownsRow_setCell_other (h.own x hx) hn _) hn _) hn _) hn _
  · rcases (by omega : k = 0 ∨ k = 1 ∨ k = 2 ∨ k = 3) with rfl | rfl | rfl | rfl <;> rfl
theorem cells4 {w : World} {g : Nat} {a b c d : Value} {T : TypeId} (h : w.heap[g]? = some (.cells #[a, b, c, d] T (0, 0))) :
    (w.cell? ⟨g, 0, none⟩ = some a ∧ w.cell? ⟨g, 1, none⟩ = some b ∧ w.cell? ⟨g, 2, none⟩ = some c ∧ w.cell? ⟨g, 3, none⟩ = some d) ∧ w.frozen? ⟨g, 0, none⟩ = false ∧ w.frozen? ⟨g, 1, none⟩ = false ∧ w.frozen? ⟨g, 2, none⟩ = false ∧ w.frozen? ⟨g, 3, none⟩ = false :=
  ⟨⟨by rw [cell_of_row w g 0 _ _ (0, 0) h]; rfl, by rw [cell_of_row w g 1 _ _ (0, 0) h]; rfl, by rw [cell_of_row w g 2 _ _ (0, 0) h]; rfl, by rw [cell_of_row w g 3 _ _ (0, 0) h]; rfl⟩, frozen_of_row w g 0 _ _ h, frozen_of_row w g 1 _ _ h, frozen_of_row w g 2 _ _ h, frozen_of_row w g 3 _ _ h⟩
abbrev nil4 : Obj := .cells #[.slice none 0 0, .slice none 0 0, .slice none 0 0, .slice none 0 0] TR4
theorem new4 (w : World) : ((w.alloc nil4).cell? ⟨w.heap.size, 0, none⟩ = some (.slice none 0 0) ∧ (w.alloc nil4).cell? ⟨w.heap.size, 1, none⟩ = some (.slice none 0 0) ∧ (w.alloc nil4).cell? ⟨w.heap.size, 2, none⟩ = some (.slice none 0 0) ∧ (w.alloc nil4).cell? ⟨w.heap.size, 3, none⟩ = some (.slice none 0 0)) ∧ (w.alloc nil4).frozen? ⟨w.heap.size, 0, none⟩ = false ∧ (w.alloc nil4).frozen? ⟨w.heap.size, 1, none⟩ = false ∧ (w.alloc nil4).frozen? ⟨w.heap.size, 2, none⟩ = false ∧ (w.alloc nil4).frozen? ⟨w.heap.size, 3, none⟩ = false := cells4 (heap_alloc_new w nil4)
theorem zero4 (w : World) : (zeroValue 28).run Try.prog w = .ok (.agg #[.slice none 0 0, .slice none 0 0, .slice none 0 0, .slice none 0 0]) w := by kernel_rfl

structure S4 (W w : World) (b2 b3 : Nat) (c d : List Nat) (g : Nat) (vs : Nat → Value) (vw : Value) (rc rd : List (Nat × Nat)) : Prop where
  p : RP W w b2 b3 c d [(vs 0, rc), (vs 1, rc), (vs 2, rd), (vs 3, rc), (vw, rc)]
  a : Arr4 w g vs
  le : W.heap.size ≤ g
theorem S4.below {W w w' : World} {b2 b3 : Nat} {c d : List Nat} {g : Nat} {vs : Nat → Value} {vw : Value} {rc rd : List (Nat × Nat)} (h : S4 W w b2 b3 c d g vs vw rc rd) (hb : Below w.heap.size w w') : S4 W w' b2 b3 c d g vs vw rc rd := ⟨h.p.below hb, h.a.below hb, h.le⟩
def lenF (rc rd : List (Nat × Nat)) (k : Nat) : Nat := if k = 2 then rd.length else rc.length
def celF (rc rd : List (Nat × Nat)) (k : Nat) : List Value := if k = 2 then cellsR rd else cellsR rc
theorem celF_len (rc rd : List (Nat × Nat)) (k : Nat) : (celF rc rd k).length = lenF rc rd k * 2 := by
  unfold celF lenF
  by_cases h : k = 2
  · rw [if_pos h, if_pos h]; exact cellsR_len rd
  · rw [if_neg h, if_neg h]; exact cellsR_len rc
theorem lenF_le (rc rd : List (Nat × Nat)) (hc : rc.length ≤ 256) (hd : rd.length ≤ 256) (k : Nat) : lenF rc rd k ≤ 256 := by unfold lenF; split <;> assumption
theorem S4.r1 {W w : World} {b2 b3 : Nat} {c d : List Nat} {g : Nat} {vs : Nat → Value} {vw : Value} {rc rd : List (Nat × Nat)} (h : S4 W w b2 b3 c d g vs vw rc rd) : R1 W w b2 g c vs (lenF rc rd) vw rc (halfR (lenF rc rd) (celF rc rd) 0 0) := by
  have hap := h.p.ap
  simp only [List.pairwise_cons, List.mem_cons, List.not_mem_nil, or_false, forall_eq_or_imp, forall_eq, false_implies, implies_true, and_true, List.Pairwise.nil] at hap
  obtain ⟨⟨a01, a02, a03, a0w⟩, ⟨a12, a13, a1w⟩, ⟨a23, a2w⟩, a3w⟩ := hap
  rw [halfR_zero]
  refine ⟨h.p.bel, ⟨h.p.le, h.le⟩, h.p.a2, h.a, ⟨fun k hk => ?_, fun j k hj hk hne => ?_⟩, h.p.own (vw, rc) (by simp), fun j hj => ?_⟩
  · rcases (by omega : k = 0 ∨ k = 1 ∨ k = 2 ∨ k = 3) with rfl | rfl | rfl | rfl
    · exact h.p.own (vs 0, rc) (by simp)
    · exact h.p.own (vs 1, rc) (by simp)
    · exact h.p.own (vs 2, rd) (by simp)
    · exact h.p.own (vs 3, rc) (by simp)
  · rcases (by omega : j = 0 ∨ j = 1 ∨ j = 2 ∨ j = 3) with rfl | rfl | rfl | rfl <;> rcases (by omega : k = 0 ∨ k = 1 ∨ k = 2 ∨ k = 3) with rfl | rfl | rfl | rfl <;> first | exact absurd rfl hne | assumption | (apply Apart.symm; assumption)
  · rcases (by omega : j = 0 ∨ j = 1 ∨ j = 2 ∨ j = 3) with rfl | rfl | rfl | rfl <;> assumption
theorem R1.grown {W w : World} {b2 g : Nat} {c : List Nat} {vs : Nat → Value} {len : Nat → Nat} {vw : Value} {rw_ : List (Nat × Nat)} {C : Nat → List Value} (h : R1 W w b2 g c vs len vw rw_ (halfR len C 4 0)) :
    R2 W (w.alloc nil4) b2 g w.heap.size c vs len vw rw_ (fun _ => .slice none 0 0) 0 (fun _ => undef) (fun _ => undef) := by
  have hb := (Below.refl w.heap.size w).alloc (Nat.le_refl _) nil4
  have t := h.below hb
  refine ⟨⟨t.bel, ⟨t.le.1, t.le.2, h.bel.size, ?_, ?_⟩, t.a2, t.arr, heap_alloc_new w nil4, t.want⟩, ⟨⟨fun k hk => ?_, t.b.ap⟩, fun k hk => absurd hk (Nat.not_lt_zero _), fun k hk => absurd hk (Nat.not_lt_zero _), fun k _ hk => absurd hk (Nat.not_lt_zero _)⟩, fun k hk => absurd hk (Nat.not_lt_zero _), fun j _ h4 => t.apw j h4⟩
  · have := h.arr.lt; omega
  · have := h.a2.lt; omega
  · have := t.b.own k hk
    rwa [halfR_all len C 4 k hk] at this
/-- Four lists, in an array. -/
def L4 (W w : World) (b2 b3 : Nat) (c d : List Nat) (g : Nat) (rc rd : List (Nat × Nat)) : Prop :=
  ∃ vs, RP W w b2 b3 c d [(vs 0, rc), (vs 1, rc), (vs 2, rd), (vs 3, rc)] ∧ Arr4 w g vs ∧ W.heap.size ≤ g
theorem L4.mk {W w : World} {b2 b3 : Nat} {c d : List Nat} {g : Nat} {rc rd : List (Nat × Nat)} {n v0 v1 v2 v3 : Value} (h : RP W w b2 b3 c d ([] ++ [(v0, rc)] ++ [(v1, rc)] ++ [(v2, rd)] ++ [(v3, rc)])) (hA : w.heap[g]? = some (.cells #[n, n, n, n] TR4 (0, 0)) ∧ W.heap.size ≤ g) :
    L4 W ((((w.setCell ⟨g, 0, none⟩ v0).setCell ⟨g, 1, none⟩ v1).setCell ⟨g, 2, none⟩ v2).setCell ⟨g, 3, none⟩ v3) b2 b3 c d g rc rd :=
  ⟨pk4 v0 v1 v2 v3, (h.store4 hA v0 v1 v2 v3).1, (h.store4 hA v0 v1 v2 v3).2, hA.2⟩
theorem L4.mk2 {W w : World} {b2 b3 : Nat} {c d : List Nat} {rc rd : List (Nat × Nat)} {v0 v1 v2 v3 : Value} (h : RP W w b2 b3 c d ([] ++ [(v0, rc)] ++ [(v1, rc)] ++ [(v2, rd)] ++ [(v3, rc)])) : L4 W (w.alloc (.cells #[v0, v1, v2, v3] TR4)) b2 b3 c d w.heap.size rc rd :=
  ⟨pk4 v0 v1 v2 v3, h.alloc _, heap_alloc_new w _, h.bel.size⟩

set_option maxHeartbeats 4000000 in
set_option maxRecDepth 100000 in
theorem runsLaw_walk (HWK : ∀ W : World, Calls Try.prog 5 #[] W fun e w' => e = .returned (.bool true) ∧ Below W.heap.size W w') (W : World) (c d : List Nat) (hc : IsC c) (hd : IsC d) :
    Calls Try.prog 3 #[.agg (row64 c), .agg (row64 d)] W fun e w' => e = .returned (.bool true) ∧ Below W.heap.size W w' := by
  have a2 : Arr64 ((W.alloc (.cells (row64 c) 24)).alloc (.cells (row64 d) 24)) W.heap.size 24 c := (Arr64.new _ _ _).alloc _
  have a3 : Arr64 ((W.alloc (.cells (row64 c) 24)).alloc (.cells (row64 d) 24)) (W.heap.size + 1) 24 d := by
    have := Arr64.new (W.alloc (.cells (row64 c) 24)) 24 d
    rwa [World.size_alloc] at this
  have ab : Below W.heap.size W ((W.alloc (.cells (row64 c) 24)).alloc (.cells (row64 d) 24)) := ((Below.refl _ W).alloc (Nat.le_refl _) _).alloc (by simp) _
  have HRC : Hid (∀ W, Calls Try.prog 6 #[.agg (row64 c)] W (RunsPost W (runsOf (elemsL c)))) := Lib.hid fun W => runs_any W c hc
  have HRD : Hid (∀ W, Calls Try.prog 6 #[.agg (row64 d)] W (RunsPost W (runsOf (elemsL d)))) := Lib.hid fun W => runs_any W d hd
  have HQC : Hid (∀ W : World, Calls Try.prog 7 #[.agg (row64 c)] W fun e w' => ∃ v, e = .returned v ∧ OwnRn w' W.heap.size v (runsOf (elemsL c)) ∧ Below W.heap.size W w') := Lib.hid fun W => refRuns_any W c hc
  have HQD : Hid (∀ W : World, Calls Try.prog 7 #[.agg (row64 d)] W fun e w' => ∃ v, e = .returned v ∧ OwnRn w' W.heap.size v (runsOf (elemsL d)) ∧ Below W.heap.size W w') := Lib.hid fun W => refRuns_any W d hd
  have hnc : (runsOf (elemsL c)).length ≤ 256 := by have := runsOf_len (elemsL c); have := elemsU_len c 256; unfold elemsL at *; omega
  have hnd : (runsOf (elemsL d)).length ≤ 256 := by have := runsOf_len (elemsL d); have := elemsU_len d 256; unfold elemsL at *; omega
  obtain ⟨rc, hrc⟩ : ∃ rc, runsOf (elemsL c) = rc := ⟨_, rfl⟩
  obtain ⟨rd, hrd⟩ : ∃ rd, runsOf (elemsL d) = rd := ⟨_, rfl⟩
  rw [hrc] at HRC HQC hnc
  rw [hrd] at HRD HQD hnd
  obtain ⟨b2, hb2⟩ : ∃ b2, W.heap.size = b2 := ⟨_, rfl⟩
  obtain ⟨b3, hb3⟩ : ∃ b3, b2 + 1 = b3 := ⟨_, rfl⟩
  have HCC : Hid (∃ p0 p1 p2 p3 : Nat, row64 c = #[.int .u64 (p0 : Int), .int .u64 (p1 : Int), .int .u64 (p2 : Int), .int .u64 (p3 : Int)] ∧ ∀ w, Arr64 w b2 24 c → w.cell? ⟨b2, 0, none⟩ = some (.int .u64 (p0 : Int)) ∧ w.cell? ⟨b2, 1, none⟩ = some (.int .u64 (p1 : Int)) ∧ w.cell? ⟨b2, 2, none⟩ = some (.int .u64 (p2 : Int)) ∧ w.cell? ⟨b2, 3, none⟩ = some (.int .u64 (p3 : Int))) := Lib.hid (by
    obtain ⟨p0, p1, p2, p3, rfl⟩ := isC_words c hc
    exact ⟨p0, p1, p2, p3, rfl, fun W h => h.four rfl⟩)
  have HCD : Hid (∃ p0 p1 p2 p3 : Nat, row64 d = #[.int .u64 (p0 : Int), .int .u64 (p1 : Int), .int .u64 (p2 : Int), .int .u64 (p3 : Int)] ∧ ∀ w, Arr64 w b3 24 d → w.cell? ⟨b3, 0, none⟩ = some (.int .u64 (p0 : Int)) ∧ w.cell? ⟨b3, 1, none⟩ = some (.int .u64 (p1 : Int)) ∧ w.cell? ⟨b3, 2, none⟩ = some (.int .u64 (p2 : Int)) ∧ w.cell? ⟨b3, 3, none⟩ = some (.int .u64 (p3 : Int))) := Lib.hid (by
    obtain ⟨p0, p1, p2, p3, rfl⟩ := isC_words d hd
    exact ⟨p0, p1, p2, p3, rfl, fun W h => h.four rfl⟩)
  obtain ⟨p0, p1, p2, p3, ep, hcp⟩ := HCC.out
  obtain ⟨q0, q1, q2, q3, eq, hcq⟩ := HCD.out
  rw [ep] at a2 a3 ab HRC HQC ⊢
  rw [eq] at a2 a3 ab HRD HQD ⊢
  have HCP := Lib.hid hcp
  have HCQ := Lib.hid hcq
  have HWK := Lib.hid HWK
  have h4 := zero4
  clear hc hd hcp hcq ep eq HCC HCD hrc hrd
  go_enter Try.func3, Try.ntmps3
  go_upto_region 1 with fail
  generalize (W.alloc (.cells #[.int .u64 (p0 : Int), .int .u64 (p1 : Int), .int .u64 (p2 : Int), .int .u64 (p3 : Int)] 24)).alloc (.cells #[.int .u64 (q0 : Int), .int .u64 (q1 : Int), .int .u64 (q2 : Int), .int .u64 (q3 : Int)] 24) = w1 at a2 a3 ab ⊢
  have HP : Hid (RP W w1 b2 b3 c d []) := Lib.hid ⟨ab, by omega, (by rw [← hb2]; exact a2), (by rw [← hb3, ← hb2]; exact a3), (fun x hx => by cases hx), List.Pairwise.nil⟩
  have HB23 := Lib.hid (And.intro hb2 hb3)
  clear a2 a3 ab hb2 hb3
  have HX := Lib.hid (HWK.out w1)
  go_wp2_with fail
  refine HX.out.mono ?_
  rintro e w2 ⟨rfl, hb⟩
  have HP := Lib.hid (HP.out.below hb)
  clear hb HX
  have HPD := Lib.hid (fun n => (HP.out.forget).below (below_drewN (Below.refl _ _) n))
  have HP0 := HP.out
  have hI := HP.out
  have hId := HP.out.below (Below.refl _ _).drew
  have hS0 : ∀ w', RP W w' b2 b3 c d [] → w'.cell? ⟨b2, 0, none⟩ = some (.int .u64 (p0 : Int)) := fun w' h => (HCP.out w' h.a2).1
  have hS1 : ∀ w', RP W w' b2 b3 c d [] → w'.cell? ⟨b2, 1, none⟩ = some (.int .u64 (p1 : Int)) := fun w' h => (HCP.out w' h.a2).2.1
  have hS2 : ∀ w', RP W w' b2 b3 c d [] → w'.cell? ⟨b2, 2, none⟩ = some (.int .u64 (p2 : Int)) := fun w' h => (HCP.out w' h.a2).2.2.1
  have hS3 : ∀ w', RP W w' b2 b3 c d [] → w'.cell? ⟨b2, 3, none⟩ = some (.int .u64 (p3 : Int)) := fun w' h => (HCP.out w' h.a2).2.2.2
  have hT0 : ∀ w', RP W w' b2 b3 c d [] → w'.cell? ⟨b3, 0, none⟩ = some (.int .u64 (q0 : Int)) := fun w' h => (HCQ.out w' h.a3).1
  have hT1 : ∀ w', RP W w' b2 b3 c d [] → w'.cell? ⟨b3, 1, none⟩ = some (.int .u64 (q1 : Int)) := fun w' h => (HCQ.out w' h.a3).2.1
  have hT2 : ∀ w', RP W w' b2 b3 c d [] → w'.cell? ⟨b3, 2, none⟩ = some (.int .u64 (q2 : Int)) := fun w' h => (HCQ.out w' h.a3).2.2.1
  have hT3 : ∀ w', RP W w' b2 b3 c d [] → w'.cell? ⟨b3, 3, none⟩ = some (.int .u64 (q3 : Int)) := fun w' h => (HCQ.out w' h.a3).2.2.2
  go_upto_region 2 with fail
  go_cut [6] (fun v wx => ∃ g, v = .pointer (some ⟨g, 0, none⟩) ∧ L4 W wx b2 b3 c d g rc rd)
  case first =>
    go_region_held3 (fun w' => RP W w' b2 b3 c d [])
      (first | exact hI.forget | exact hId.forget | exact (hI.alloc _).forget | exact (hId.alloc _).forget | exact RP.alloc (by assumption) _ | exact ((hI.store4 hA _ _ _ _).1).forget | exact (((hI.alloc _).store4 ⟨heap_alloc_new _ _, hI.bel.size⟩ _ _ _ _).1).forget)
      (first | (go_at_call 6; (with_reducible refine (HRC.out _).mono ?_); rintro e w5 ⟨v1, rfl, ho5, hb5⟩; (first | have hA := HP0.freshD hb5 | have hA := HP0.freshE hb5 | have hA := hI.freshP hb5 | have hA := oldP hb5 hA | skip); (first | (have k0 := (cells4 hA.1).1.1; have k1 := (cells4 hA.1).1.2.1; have k2 := (cells4 hA.1).1.2.2.1; have k3 := (cells4 hA.1).1.2.2.2; have z0 := (cells4 hA.1).2.1; have z1 := (cells4 hA.1).2.2.1; have z2 := (cells4 hA.1).2.2.2.1; have z3 := (cells4 hA.1).2.2.2.2) | (have k0 := (new4 w5).1.1; have k1 := (new4 w5).1.2.1; have k2 := (new4 w5).1.2.2.1; have k3 := (new4 w5).1.2.2.2; have z0 := (new4 w5).2.1; have z1 := (new4 w5).2.2.1; have z2 := (new4 w5).2.2.2.1; have z3 := (new4 w5).2.2.2.2)); have hI := (by first | exact hI.twin ho5 hb5 | exact hId.twin ho5 hb5 | exact (hI.alloc _).twin ho5 hb5 | exact (hId.alloc _).twin ho5 hb5 | exact (hI.alloc _).drew_.twin ho5 hb5); obtain ⟨sa, sc, rfl⟩ := ho5.shape) | (go_at_call 6; (with_reducible refine (HRD.out _).mono ?_); rintro e w5 ⟨v1, rfl, ho5, hb5⟩; (first | have hA := HP0.freshD hb5 | have hA := HP0.freshE hb5 | have hA := hI.freshP hb5 | have hA := oldP hb5 hA | skip); (first | (have k0 := (cells4 hA.1).1.1; have k1 := (cells4 hA.1).1.2.1; have k2 := (cells4 hA.1).1.2.2.1; have k3 := (cells4 hA.1).1.2.2.2; have z0 := (cells4 hA.1).2.1; have z1 := (cells4 hA.1).2.2.1; have z2 := (cells4 hA.1).2.2.2.1; have z3 := (cells4 hA.1).2.2.2.2) | (have k0 := (new4 w5).1.1; have k1 := (new4 w5).1.2.1; have k2 := (new4 w5).1.2.2.1; have k3 := (new4 w5).1.2.2.2; have z0 := (new4 w5).2.1; have z1 := (new4 w5).2.2.1; have z2 := (new4 w5).2.2.2.1; have z3 := (new4 w5).2.2.2.2)); have hI := (by first | exact hI.twin ho5 hb5 | exact hId.twin ho5 hb5 | exact (hI.alloc _).twin ho5 hb5 | exact (hId.alloc _).twin ho5 hb5 | exact (hI.alloc _).drew_.twin ho5 hb5); obtain ⟨sa, sc, rfl⟩ := ho5.shape))
    all_goals
      clear hS0 hS1 hS2 hS3 hT0 hT1 hT2 hT3
      go_wp2_with fail
      go_meet
      case rel => first | exact ⟨_, rfl, L4.mk hI hA⟩ | exact ⟨_, rfl, L4.mk2 hI⟩
  case rest =>
    obtain ⟨g, rfl, vs, hP, hA4, hg⟩ := hcut
    have HP := Lib.hid hP
    have HA4 := Lib.hid (And.intro hA4 hg)
    clear hI hId hS0 hS1 hS2 hS3 hT0 hT1 hT2 hT3 HP0 HPD hP hA4 hg
    generalize wc = w3 at HP HA4 ⊢
    obtain ⟨x0, x1, x2, x3⟩ := HCP.out _ HP.out.a2
    have HX := Lib.hid (HQC.out w3)
    go_wp2_with fail
    refine HX.out.mono ?_
    rintro e w4 ⟨vw, rfl, how, hbw⟩
    have HA4 := Lib.hid (And.intro (HA4.out.1.below hbw) HA4.out.2)
    have HP := Lib.hid (HP.out.twin how hbw)
    obtain ⟨aw, cw, rfl⟩ := how.shape
    clear x0 x1 x2 x3 HX how hbw
    have HI : Hid (S4 W w4 b2 b3 c d g vs (.slice aw rc.length cw) rc rd) := Lib.hid ⟨HP.out, HA4.out.1, HA4.out.2⟩
    clear HP HA4
    have hI := HI.out
    have hId := hI.below (Below.refl _ _).drew
    have HD := Lib.hid (fun n => hI.below (below_drewN (Below.refl _ _) n))
    have hA0 : ∀ w', S4 W w' b2 b3 c d g vs (.slice aw rc.length cw) rc rd → w'.cell? ⟨g, 0, none⟩ = some (vs 0) := fun w' h => h.a.cell 0 (by omega)
    have hA1 : ∀ w', S4 W w' b2 b3 c d g vs (.slice aw rc.length cw) rc rd → w'.cell? ⟨g, 1, none⟩ = some (vs 1) := fun w' h => h.a.cell 1 (by omega)
    have hA2 : ∀ w', S4 W w' b2 b3 c d g vs (.slice aw rc.length cw) rc rd → w'.cell? ⟨g, 2, none⟩ = some (vs 2) := fun w' h => h.a.cell 2 (by omega)
    have hA3 : ∀ w', S4 W w' b2 b3 c d g vs (.slice aw rc.length cw) rc rd → w'.cell? ⟨g, 3, none⟩ = some (vs 3) := fun w' h => h.a.cell 3 (by omega)
    have hT0 : ∀ w', S4 W w' b2 b3 c d g vs (.slice aw rc.length cw) rc rd → w'.cell? ⟨b3, 0, none⟩ = some (.int .u64 (q0 : Int)) := fun w' h => (HCQ.out w' h.p.a3).1
    have hT1 : ∀ w', S4 W w' b2 b3 c d g vs (.slice aw rc.length cw) rc rd → w'.cell? ⟨b3, 1, none⟩ = some (.int .u64 (q1 : Int)) := fun w' h => (HCQ.out w' h.p.a3).2.1
    have hT2 : ∀ w', S4 W w' b2 b3 c d g vs (.slice aw rc.length cw) rc rd → w'.cell? ⟨b3, 2, none⟩ = some (.int .u64 (q2 : Int)) := fun w' h => (HCQ.out w' h.p.a3).2.2.1
    have hT3 : ∀ w', S4 W w' b2 b3 c d g vs (.slice aw rc.length cw) rc rd → w'.cell? ⟨b3, 3, none⟩ = some (.int .u64 (q3 : Int)) := fun w' h => (HCQ.out w' h.p.a3).2.2.2
    have HE0 : Hid (∀ w', S4 W w' b2 b3 c d g vs (.slice aw rc.length cw) rc rd → Calls Try.prog 8 #[vs 0, .slice aw rc.length cw] w' fun e w'' => e = .returned (.bool true) ∧ ∃ q, w'' = w'.drewN q) := Lib.hid fun w' h => sameRuns_yes w' _ _ _ _ rc (h.p.own (vs 0, rc) (by simp)) (h.p.own (.slice aw rc.length cw, rc) (by simp)) hnc
    have HE1 : Hid (∀ w', S4 W w' b2 b3 c d g vs (.slice aw rc.length cw) rc rd → Calls Try.prog 8 #[vs 1, .slice aw rc.length cw] w' fun e w'' => e = .returned (.bool true) ∧ ∃ q, w'' = w'.drewN q) := Lib.hid fun w' h => sameRuns_yes w' _ _ _ _ rc (h.p.own (vs 1, rc) (by simp)) (h.p.own (.slice aw rc.length cw, rc) (by simp)) hnc
    have HE3 : Hid (∀ w', S4 W w' b2 b3 c d g vs (.slice aw rc.length cw) rc rd → Calls Try.prog 8 #[vs 3, .slice aw rc.length cw] w' fun e w'' => e = .returned (.bool true) ∧ ∃ q, w'' = w'.drewN q) := Lib.hid fun w' h => sameRuns_yes w' _ _ _ _ rc (h.p.own (vs 3, rc) (by simp)) (h.p.own (.slice aw rc.length cw, rc) (by simp)) hnc
    have HE2 : Hid (∀ w', S4 W w' b2 b3 c d g vs (.slice aw rc.length cw) rc rd → ∀ b v, OwnRn w' b v rd → Calls Try.prog 8 #[vs 2, v] w' fun e w'' => e = .returned (.bool true) ∧ ∃ q, w'' = w'.drewN q) := Lib.hid fun w' h b v o => sameRuns_yes w' _ _ _ _ rd (h.p.own (vs 2, rd) (by simp)) o hnd
    have h40 := HWK
    go_upto_region 4 with fail
    go_cut [57] (fun v wx => v = .bool false ∧ S4 W wx b2 b3 c d g vs (.slice aw rc.length cw) rc rd)
    case first =>
      go_region_held3 (fun w' => S4 W w' b2 b3 c d g vs (.slice aw rc.length cw) rc rd)
        (first | exact hI | exact hId | exact HD.out _)
        (first | (go_at_call 7; (with_reducible refine (HQD.out _).mono ?_); rintro e w5 ⟨v10, rfl, ho5, hb5⟩; have hI := (by first | exact hI.below hb5 | exact hId.below hb5 | exact (HD.out _).below hb5); have HD := Lib.hid (fun n => hI.below (below_drewN (Below.refl _ _) n))) | (go_at_call 8; (with_reducible refine (HE0.out _ (by first | exact hI | exact hId | exact HD.out _)).mono ?_); rintro e w7 ⟨rfl, n0, rfl⟩; have hI := (by first | exact hI.below (below_drewN (Below.refl _ _) n0) | exact hId.below (below_drewN (Below.refl _ _) n0))) | (go_at_call 8; (with_reducible refine (HE1.out _ (by first | exact hI | exact hId | exact HD.out _)).mono ?_); rintro e w7 ⟨rfl, n1, rfl⟩; have hI := (by first | exact hI.below (below_drewN (Below.refl _ _) n1) | exact hId.below (below_drewN (Below.refl _ _) n1))) | (go_at_call 8; (with_reducible refine (HE3.out _ (by first | exact hI | exact hId | exact HD.out _)).mono ?_); rintro e w7 ⟨rfl, n3, rfl⟩; have hI := (by first | exact hI.below (below_drewN (Below.refl _ _) n3) | exact hId.below (below_drewN (Below.refl _ _) n3))) | (go_at_call 8; (with_reducible refine (HE2.out _ (by first | exact hI | exact hId | exact HD.out _) _ _ (by first | exact ho5 | exact OwnRn.below ho5 (below_drewN (Below.refl _ _) _))).mono ?_); rintro e w7 ⟨rfl, n2, rfl⟩; have hI := (by first | exact hI.below (below_drewN (Below.refl _ _) n2) | exact hId.below (below_drewN (Below.refl _ _) n2))))
      all_goals
        have HF := Lib.hid (fun n => HD.out n)
        clear hI hId hA0 hA1 hA2 hA3 hT0 hT1 hT2 hT3
        go_wp2_with fail
        go_meet
        case rel => exact ⟨rfl, HF.out _⟩
    case rest =>
      obtain ⟨rfl, hIz⟩ := hcut
      have HI := Lib.hid hIz
      clear hI hId HD hA0 hA1 hA2 hA3 hT0 hT1 hT2 hT3 HE0 HE1 HE2 HE3 hIz
      generalize wc = w5 at HI ⊢
      have HR0 := Lib.hid HI.out.r1
      have HLF := Lib.hid (lenF_le rc rd hnc hnd)
      have HCL := Lib.hid (celF_len rc rd)
      generalize lenF rc rd = len at HR0 HLF HCL
      generalize celF rc rd = C at HR0 HCL
      clear HI HQC HQD HRD HCQ HWK
      go_wp2_with fail
      go_loopw [8] (fun x wr => ∃ n : Nat, n ≤ 4 ∧ x = .int .i64 n ∧ R1 W wr b2 g c vs len (.slice aw rc.length cw) rc (halfR len C n 0)) (fun x _ => 4 - (intOf x).toNat)
      case atStart => exact ⟨0, by omega, rfl, HR0.out⟩
      case round =>
        clear HR0
        obtain ⟨n, hn, rfl, hR⟩ := hrel
        have HR := Lib.hid hR
        by_cases hlt : n < 4
        · have hlt' : (n : Int) < 4 := by omega
          have hw : IntKind.u8.wrap (n : Int) = (n : Int) := by rw [IntKind.wrap_u8]; omega
          obtain ⟨an, cn, hv⟩ := own_shape (hR.b.own n hlt)
          have HV := Lib.hid hv
          have hl0 := HLF.out n
          have HN := Lib.hid hlt
          obtain ⟨ln, hln⟩ : ∃ ln, len n = ln := ⟨_, rfl⟩
          have HLN := Lib.hid hln
          rw [hln] at hl0
          clear hR hv hln
          go_wp2_with fail
          go_loopw [9] (fun x wr => ∃ i : Nat, i ≤ ln ∧ x = .int .i64 i ∧ R1 W wr b2 g c vs len (.slice aw rc.length cw) rc (halfR len C n i)) (fun x _ => ln - (intOf x).toNat)
          case atStart => exact ⟨0, Nat.zero_le _, rfl, HR.out⟩
          case round =>
            clear HR
            obtain ⟨i, hi, rfl, hR⟩ := hrel
            have HR := Lib.hid hR
            have hca := hR.arr.cell n hlt
            rw [HV.out, HLN.out] at hca
            by_cases hil : i < ln
            · have ho := hR.b.own n hlt
              rw [HV.out] at ho
              obtain ⟨gn, cap, he, -⟩ : ∃ gn cap, Value.slice an (len n) cn = .slice (some ⟨gn, 0, none⟩) (len n) cap ∧ True := by
                rcases ho.2 with ⟨e1, e2⟩ | ⟨gn, cap, cur, e1, -⟩
                · have : len n = 0 := e2
                  have := HLN.out; omega
                · exact ⟨gn, cap, e1, trivial⟩
              simp only [Value.slice.injEq] at he
              obtain ⟨rfl, -, rfl⟩ := he
              have hsz : (halfR len C n i n).length = len n * 2 := ho.1
              have e0 : ∃ u, wr.cell? ⟨gn, i * 2, none⟩ = some u := ⟨_, (ho.cellAt (i * 2) (by have := HLN.out; omega)).trans (List.getElem?_eq_getElem (by have := HLN.out; omega))⟩
              have e1 : ∃ u, wr.cell? ⟨gn, i * 2 + 1, none⟩ = some u := ⟨_, (ho.cellAt (i * 2 + 1) (by have := HLN.out; omega)).trans (List.getElem?_eq_getElem (by have := HLN.out; omega))⟩
              obtain ⟨u0, e0⟩ := e0
              obtain ⟨u1, e1⟩ := e1
              have f0 := ho.frozenAt (i * 2)
              have f1 := ho.frozenAt (i * 2 + 1)
              have HF := Lib.hid (hR.put hlt (by have := HLN.out; omega) (HCL.out n) HV.out)
              clear hR ho hsz
              go_wp2_with fail
              go_roundw
              case rel => exact ⟨i + 1, by omega, by go_num, HF.out⟩
              case measure => simp [intOf]; omega
            · obtain rfl : i = ln := by omega
              have HF : Hid (R1 W wr b2 g c vs len (.slice aw rc.length cw) rc (halfR len C (n + 1) 0)) := Lib.hid (by
                rw [← halfR_next len C n (HCL.out n), HLN.out]; exact HR.out)
              clear hR
              go_wp2_with fail
              go_roundw
              case rel => exact ⟨n + 1, by have := HN.out; omega, by go_num, HF.out⟩
              case measure => simp [intOf]; omega
        · obtain rfl : n = 4 := by omega
          have HG := Lib.hid hR.grown
          obtain ⟨g10, hg10⟩ : ∃ g10, wr.heap.size = g10 := ⟨_, rfl⟩
          rw [hg10] at HG
          clear hR HR
          go_upto_region 14 with fail
          change Code.wp _ _ _ _ (wr.alloc nil4)
          generalize wr.alloc nil4 = w6 at HG ⊢
          clear hg10
          go_wp2_with fail
          go_loopw [11] (fun x wr => ∃ (n : Nat) (f ones mores : Nat → Value), n ≤ 4 ∧ x = .int .i64 n ∧ R2 W wr b2 g g10 c vs len (.slice aw rc.length cw) rc f n ones mores) (fun x _ => 4 - (intOf x).toNat)
          case atStart => exact ⟨0, _, _, _, by omega, rfl, HG.out⟩
          case round =>
            clear HG
            obtain ⟨n, f, ones, mores, hn, rfl, hG⟩ := hrel
            have HG := Lib.hid hG
            by_cases hlt : n < 4
            · have hlt' : (n : Int) < 4 := by omega
              have hw : IntKind.u8.wrap (n : Int) = (n : Int) := by rw [IntKind.wrap_u8]; omega
              have hca := hG.r.arr.cell n hlt
              have hcb := hG.r.arr2.cell n hlt
              have hfb := hG.r.arr2.frozen n
              have HS := Lib.hid (hG.start hlt)
              have HLT := Lib.hid hlt
              have hl0 := HLF.out n
              obtain ⟨an, cn, hv⟩ := own_shape (hG.gr.b.own n hlt)
              have HV := Lib.hid hv
              rw [hv] at hca
              rw [hv] at HS
              generalize f n = fn at hcb
              clear hG HG hv
              go_wp2_with fail
              go_loopw [12] (fun x wr => ∃ (i : Nat) (f : Nat → Value) (l o1 : Value), i ≤ 70 ∧ x = .int .i64 i ∧ RG W wr b2 g g10 c vs len (.slice aw rc.length cw) rc f n ones mores (len n + i) l o1) (fun x _ => 70 - (intOf x).toNat)
              case atStart => exact ⟨0, _, _, _, by omega, rfl, HS.out⟩
              case round =>
                clear HS
                obtain ⟨i, f, l, o1, hi, rfl, hG⟩ := hrel
                have HG := Lib.hid hG
                by_cases hil : i < 70
                · have hcb := hG.r.arr2.cell n hlt
                  rw [hG.fn] at hcb
                  obtain ⟨al, cl, hv⟩ := own_shape hG.gs.own
                  subst hv
                  have ho := hG.gs.own
                  have hbs := hG.r.bel.size
                  obtain ⟨q, hq⟩ : ∃ q, len n + i = q := ⟨_, rfl⟩
                  have HQ := Lib.hid hq
                  rw [hq] at ho hcb
                  have hqb : q ≤ 326 := by omega
                  clear hG hq
                  go_wp2_with (at_builtin; refine append_rv rfl (.tmp 94) (.tmp 98) rfl W.heap.size _ q _ (n : Int) 78 rfl ho rfl (by omega) hbs ?_)
                  intro l' w7 ho' hold hp
                  have hst : ∃ o2, RG W (w7.setCell ⟨g10, n, none⟩ l') b2 g g10 c vs len (.slice aw rc.length cw) rc (put4 f n l') n ones mores (len n + i + 1) l' o2 := by
                    have hX := HG.out
                    rw [HQ.out] at hX ⊢
                    exact hX.step HLT.out (by have := HQ.out; omega) ho' hold hp
                  have HST := Lib.hid hst
                  have ha7 : Arr4 w7 g10 f := HG.out.r.arr2.keep (hp.block g10 HG.out.r.arr2.lt (own_not4 ho HG.out.r.arr2))
                  have hcb7 := ha7.cell n HLT.out
                  have hfb7 := ha7.frozen n
                  rw [HG.out.fn] at hcb7
                  obtain ⟨al', cl', hv⟩ := own_shape ho'
                  subst hv
                  generalize Value.slice al (len n + i) cl = old at hcb7
                  clear ho' hold hp hst ha7 ho hcb
                  go_wp2_with fail
                  go_roundw
                  case rel =>
                    obtain ⟨o2, h2⟩ := HST.out
                    exact ⟨i + 1, _, _, o2, by omega, by go_num, h2⟩
                  case measure => simp [intOf]; omega
                · obtain rfl : i = 70 := by omega
                  have HD := Lib.hid (hG.done HLT.out)
                  clear hG
                  go_wp2_with fail
                  go_roundw
                  case rel => exact ⟨n + 1, _, _, _, by have := HLT.out; omega, by go_num, HD.out⟩
                  case measure => simp [intOf]; omega
            · obtain rfl : n = 4 := by omega
              clear hG
              go_wp2_with fail
              go_loop [13] (fun x => ∃ n : Nat, n ≤ 4 ∧ x = .int .i64 n) (fun x => 4 - (intOf x).toNat)
              case atStart => exact ⟨0, by omega, rfl⟩
              case round =>
                obtain ⟨n, hn, rfl⟩ := hrel
                by_cases hlt : n < 4
                · have hlt' : (n : Int) < 4 := by omega
                  have hw : IntKind.u8.wrap (n : Int) = (n : Int) := by rw [IntKind.wrap_u8]; omega
                  have hca := HG.out.r.arr.cell n hlt
                  have hcb := HG.out.r.arr2.cell n hlt
                  rw [HG.out.fm n hlt] at hcb
                  have hov := HG.out.gr.b.own n hlt
                  have hom := HG.out.gr.more n hlt
                  obtain ⟨an, cn, hv⟩ := own_shape hov
                  obtain ⟨gm, cm, hm, hmc⟩ : ∃ gm cm, mores n = .slice (some ⟨gm, 0, none⟩) (len n + 70) cm ∧ True := by
                    rcases hom.2 with ⟨e1, e2⟩ | ⟨gm, cm, cur, e1, -⟩
                    · have : len n + 70 = 0 := e2
                      omega
                    · exact ⟨gm, cm, e1, trivial⟩
                  rw [hv] at hca hov
                  rw [hm] at hcb hom
                  have hl0 := HLF.out n
                  have HMK : Hid (∀ i, (i < len n → mkR len n i = [.int .u8 (n : Int), .int .u8 77]) ∧ (¬ i < len n → mkR len n i = [.int .u8 (n : Int), .int .u8 78])) := Lib.hid fun i => ⟨mkR_lo len n i, mkR_hi len n i⟩
                  have HVC : Hid (∀ i j, i < len n → j < 2 → ∀ gv, an = some ⟨gv, 0, none⟩ → wr.cell? ⟨gv, i * 2 + j, none⟩ = (mkR len n i)[j]?) := Lib.hid fun i j hi hj gv e => by
                    subst e
                    exact (World.ownsRow.cellAt hov (i * 2 + j) (by omega)).trans (marks_at _ (mkR_len len) n (len n) i j hi hj)
                  have HMC : Hid (∀ i j, i < len n + 70 → j < 2 → wr.cell? ⟨gm, i * 2 + j, none⟩ = (mkR len n i)[j]?) := Lib.hid fun i j hi hj => (World.ownsRow.cellAt hom (i * 2 + j) (by omega)).trans (marks_at _ (mkR_len len) n (len n + 70) i j hi hj)
                  have HAN : Hid (0 < len n → ∃ gv, an = some ⟨gv, 0, none⟩) := Lib.hid fun h => by
                    rcases hov.2 with ⟨e1, e2⟩ | ⟨gv, cv, cur, e1, -⟩
                    · have : len n = 0 := e2
                      omega
                    · simp only [Value.slice.injEq] at e1
                      exact ⟨gv, e1.1⟩
                  obtain ⟨ln, hln⟩ : ∃ ln, len n = ln := ⟨_, rfl⟩
                  have HLN := Lib.hid hln
                  rw [hln] at hl0 hca hcb
                  clear hov hom hv hm hln
                  go_wp2_with fail
                  go_loop [14] (fun x => ∃ i : Nat, i ≤ ln + 70 ∧ x = .int .i64 i) (fun x => ln + 70 - (intOf x).toNat)
                  case atStart => exact ⟨0, Nat.zero_le _, rfl⟩
                  case round =>
                    obtain ⟨i, hi, rfl⟩ := hrel
                    by_cases hil : i < ln + 70
                    · have hd0 : decide ((i : Int) < (ln : Int) + 70) = true := by simp; omega
                      by_cases h1 : i < ln
                      · obtain ⟨gv, rfl⟩ := HAN.out (by have := HLN.out; omega)
                        have c0 := HVC.out i 0 (by have := HLN.out; omega) (by omega) gv rfl
                        have c1 := HVC.out i 1 (by have := HLN.out; omega) (by omega) gv rfl
                        rw [(HMK.out i).1 (by have := HLN.out; omega)] at c0 c1
                        have c0 : wr.cell? ⟨gv, i * 2, none⟩ = some (.int .u8 (n : Int)) := c0
                        have c1 : wr.cell? ⟨gv, i * 2 + 1, none⟩ = some (.int .u8 77) := c1
                        have hd1 : decide ((i : Int) < (ln : Int)) = true := by simp; omega
                        have hd2 : decide ((ln : Int) ≤ (i : Int)) = false := by simp; omega
                        go_wp2_with fail
                        go_round
                        case rel => exact ⟨i + 1, by omega, by go_num⟩
                        case measure => simp [intOf]; omega
                      · have c0 := HMC.out i 0 (by have := HLN.out; omega) (by omega)
                        have c1 := HMC.out i 1 (by have := HLN.out; omega) (by omega)
                        rw [(HMK.out i).2 (by have := HLN.out; omega)] at c0 c1
                        have c0 : wr.cell? ⟨gm, i * 2, none⟩ = some (.int .u8 (n : Int)) := c0
                        have c1 : wr.cell? ⟨gm, i * 2 + 1, none⟩ = some (.int .u8 78) := c1
                        have hd1 : decide ((i : Int) < (ln : Int)) = false := by simp; omega
                        have hd2 : decide ((ln : Int) ≤ (i : Int)) = true := by simp; omega
                        go_wp2_with fail
                        go_round
                        case rel => exact ⟨i + 1, by omega, by go_num⟩
                        case measure => simp [intOf]; omega
                    · obtain rfl : i = ln + 70 := by omega
                      go_wp2_with fail
                      go_round
                      case rel => exact ⟨n + 1, by omega, by go_num⟩
                      case measure => simp [intOf]; omega
                · obtain rfl : n = 4 := by omega
                  obtain ⟨x0, x1, x2, x3⟩ := HCP.out _ HG.out.r.a2
                  have HX := Lib.hid (HRC.out wr)
                  go_wp2_with fail
                  refine HX.out.mono ?_
                  rintro e w8 ⟨vz, rfl, hoz, hbz⟩
                  have HE := Lib.hid (sameRuns_yes w8 _ _ _ _ rc hoz (HG.out.r.want.below hbz) hnc)
                  have HB := Lib.hid (HG.out.r.bel.trans (hbz.mono HG.out.r.bel.size))
                  obtain ⟨az, cz, rfl⟩ := hoz.shape
                  clear hoz hbz HX x0 x1 x2 x3
                  go_wp2_with fail
                  refine HE.out.mono ?_
                  rintro e w9 ⟨rfl, n9, rfl⟩
                  have HB := Lib.hid (below_drewN HB.out n9)
                  go_wp2_with fail
                  go_ret
                  exact ⟨rfl, HB.out⟩
end Go.Proofs.Ytakimaceohfpcaa

/-
  galleylaw01.ClassAll: its walk (under way).
-/
import Derived.Test.YtcdoliinemafaaaBytesR
import Derived.Test.YtcdoliinemafaaaWorks
import Derived.Test.YtcdoliinemafaaaJoinsM
import Derived.OneCell
import Derived.RangeFuncWrites
import Derived.Laws.EntriesVeiled
import Derived.Shelf.RegionOpen
import Derived.Deep.RegionLaw
namespace Go.Proofs.Ytcdoliinemafaaa
open Go.RowKit Go.Shelf

attribute [local go_sem] Oper.semAt_some

theorem boxed_below {w w' : World} {g : Nat} {T : TypeId} {v : Value} (h : Boxed w g T v) (hb : Below w.heap.size w w') : Boxed w' g T v := (hb.block _ h.lt).trans h
/-- The boxes of the arguments, and of the result. -/
structure A0 (w W : World) (c d : List Nat) (lv : Int) : Prop where
  a3 : Arr64 W w.heap.size 24 c
  a4 : Arr64 W (w.heap.size + 1) 24 d
  k5 : Boxed W (w.heap.size + 2) 3 (.int .i64 lv)
  k6 : Boxed W (w.heap.size + 3) 4 (.bool false)
  bel : Below w.heap.size w W
theorem A0.below {w W W' : World} {c d : List Nat} {lv : Int} (h : A0 w W c d lv) (hb : Below W.heap.size W W') : A0 w W' c d lv :=
  ⟨h.a3.below hb h.a3.lt, h.a4.below hb h.a4.lt, (hb.block _ h.k5.lt).trans h.k5, (hb.block _ h.k6.lt).trans h.k6, h.bel.trans (hb.mono h.bel.size)⟩
theorem A0.start (w : World) (c d : List Nat) (lv : Int) : A0 w ((((w.alloc (.cells (row64 c) 24)).alloc (.cells (row64 d) 24)).alloc (.cells #[.int .i64 lv] 3)).alloc (.cells #[.bool false] 4)) c d lv := by
  have e1 : ((w.alloc (.cells (row64 c) 24)).heap.size) = w.heap.size + 1 := World.size_alloc _ _
  have e2 : (((w.alloc (.cells (row64 c) 24)).alloc (.cells (row64 d) 24)).heap.size) = w.heap.size + 2 := by rw [World.size_alloc, e1]
  have e3 : ((((w.alloc (.cells (row64 c) 24)).alloc (.cells (row64 d) 24)).alloc (.cells #[.int .i64 lv] 3)).heap.size) = w.heap.size + 3 := by rw [World.size_alloc, e2]
  refine ⟨(((Arr64.new w _ c).alloc _).alloc _).alloc _, ((Arr64.alloc (by have := Arr64.new (w.alloc (.cells (row64 c) 24)) 24 d; rwa [e1] at this) _).alloc _), ?_, ?_, ?_⟩
  · have h := World.alloc_heap_new ((w.alloc (.cells (row64 c) 24)).alloc (.cells (row64 d) 24)) (.cells #[.int .i64 lv] 3)
    rw [e2] at h
    exact (Below.heap_alloc _ _ _ (by omega)).trans h
  · have h := World.alloc_heap_new (((w.alloc (.cells (row64 c) 24)).alloc (.cells (row64 d) 24)).alloc (.cells #[.int .i64 lv] 3)) (.cells #[.bool false] 4)
    rw [e3] at h
    exact h
  · exact ((((Below.refl _ w).alloc (Nat.le_refl _) _).alloc (by omega) _).alloc (by omega) _).alloc (by omega) _

/-- Where all lies. -/
structure Lie where
  b8 : Nat
  b9 : Nat
  bA : Nat
  bB : Nat
  b11 : Nat
  aa : Option Addr
  na : Nat
  ca : Nat
  ab : Option Addr
  nb : Nat
  cb : Nat
/-- What the walk keeps beside its counters. -/
structure AL (w W : World) (c d : List Nat) (lv : Int) (L : Lie) : Prop where
  h0 : A0 w W c d lv
  sa : SB W (.slice L.aa L.na L.ca) (byL (elemsL c))
  sb : SB W (.slice L.ab L.nb L.cb) (byL (elemsL d))
  o8 : Boxed W L.b8 31 (.slice L.aa L.na L.ca)
  o9 : Boxed W L.b9 31 (.slice L.ab L.nb L.cb)
  aA : Arr64 W L.bA 24 c
  aB : Arr64 W L.bB 24 d
  f11 : Boxed W L.b11 33 (.func (.func 33) #[] #[.pointer (some ⟨L.bB, 0, none⟩)])
theorem AL.below {w W W' : World} {c d : List Nat} {lv : Int} {L : Lie} (h : AL w W c d lv L) (hb : Below W.heap.size W W') : AL w W' c d lv L :=
  ⟨h.h0.below hb, h.sa.below hb, h.sb.below hb, (hb.block _ h.o8.lt).trans h.o8, (hb.block _ h.o9.lt).trans h.o9, h.aA.below hb h.aA.lt, h.aB.below hb h.aB.lt, (hb.block _ h.f11.lt).trans h.f11⟩

theorem sb_same {W0 W : World} {v : Value} {l : List Int} (h : SB W0 v l) (hs : W0.heap.size ≤ W.heap.size) (hk : ∀ k, k < W0.heap.size → W.heap[k]? = W0.heap[k]?) : SB W v l := by
  have hb : Below W0.heap.size W0 { W0 with heap := W.heap } := ⟨rfl, rfl, rfl, hs, hk⟩
  have := h.below hb
  obtain ⟨h1, a, cap, e, h2, h3⟩ := this
  exact ⟨h1, a, cap, e, h2, h3⟩
theorem AL.same {w W0 W : World} {c d : List Nat} {lv : Int} {L : Lie} (h : AL w W0 c d lv L) (hs : W0.heap.size ≤ W.heap.size) (hk : ∀ k, k < W0.heap.size → W.heap[k]? = W0.heap[k]?) (hb : Below w.heap.size w W) : AL w W c d lv L :=
  ⟨⟨(hk _ h.h0.a3.lt).trans h.h0.a3, (hk _ h.h0.a4.lt).trans h.h0.a4, (hk _ h.h0.k5.lt).trans h.h0.k5, (hk _ h.h0.k6.lt).trans h.h0.k6, hb⟩,
    sb_same h.sa hs hk, sb_same h.sb hs hk, (hk _ h.o8.lt).trans h.o8, (hk _ h.o9.lt).trans h.o9, (hk _ h.aA.lt).trans h.aA, (hk _ h.aB.lt).trans h.aB, (hk _ h.f11.lt).trans h.f11⟩
theorem eqlN (w : World) (bA : Nat) : Sem.run Try.prog (binOp .eql 33 (Value.func (Fn.func 33) #[] #[Value.pointer (some ⟨bA, 0, none⟩)]) Value.nilFunc) w = .ok (.bool false) w := by
  kernel_rfl
/-- What a range over the bytes of c keeps: W7's blocks; so many were met, the box b12 (the first behind W7) says. -/
structure AI (w W7 : World) (n : Nat) (W : World) : Prop where
  keep : ∀ k, k < W7.heap.size → W.heap[k]? = W7.heap[k]?
  k12 : Boxed W W7.heap.size 3 (.int .i64 (n : Nat))
  bel : Below w.heap.size w W
theorem AI.below {w W7 W W' : World} {n : Nat} (h : AI w W7 n W) (hb : Below W.heap.size W W') : AI w W7 n W' :=
  ⟨fun k hk => (hb.block k (Nat.lt_trans hk h.k12.lt)).trans (h.keep k hk), boxed_below h.k12 hb, h.bel.trans (hb.mono h.bel.size)⟩
theorem AI.al {w W7 W : World} {n : Nat} (h : AI w W7 n W) {c d : List Nat} {lv : Int} {L : Lie} (hA : AL w W7 c d lv L) : AL w W c d lv L := hA.same (Nat.le_of_lt h.k12.lt) h.keep h.bel
theorem AI.grown {w W7 W W' : World} {n : Nat} (h : AI w W7 n W) {B : Nat} (hB : W7.heap.size < B) (hwB : w.heap.size ≤ B) {row : Option Nat} (hg : W.grownBy W' row) (hr : ∀ k, row = some k → B ≤ k) : AI w W7 n W' := by
  have hne : ∀ k, k < B → some k ≠ row := fun k hk e => by have := hr k e.symm; omega
  exact ⟨fun k hk => (hg.block k (Nat.lt_trans hk h.k12.lt) (hne k (by omega))).trans (h.keep k hk), (hg.block _ h.k12.lt (hne _ hB)).trans h.k12, h.bel.grown hg h.bel.size (fun k e => Nat.le_trans hwB (hr k e))⟩

/-- A range over the bytes of a class, its body told of the loop's record. -/
theorem all_rangeH {n : Nat} {g : Operand} {p : Tmp} {assign body : Code} {Q : Exit → Act → World → Prop} {a : Act} {w : World} (h1 : 2 ≤ n) (bA : Nat) (c : List Nat) (hc : IsC c)
    (hg : a.eval g = .func (.func 33) #[] #[.pointer (some ⟨bA, 0, none⟩)]) (hA : Arr64 w bA 24 c)
    (I : List Byt → World → Prop) (Ix : Code → List Byt → World → Prop) (hI : OwnFrom w.heap.size I) (hIx : ∀ cd, OwnFrom w.heap.size (Ix cd)) (h0 : I [] w) (a₁ : Byt → Act)
    (hassign : ∀ (l : Nat) (x : Byt) (W : World) (K : Act → World → Prop), K (a₁ x) W → assign.wpIn (Fence.wide.inRound l) (n - 1 - 1) Try.prog (Exit.then K (fun _ _ _ => False)) { tmps := (#[p].zip #[Value.int .u8 (x.1 : Int)]).foldl (fun t (p, v) => t.setIfInBounds p v) a.tmps, defers := [] } W)
    (hbody : ∀ (l : Nat) (pre : List Byt) (x : Byt) (W : World), (∃ r, W.heap[l]? = some (.loop r)) → I pre W → pre.length < 256 → body.wpIn (Fence.wide.inRound l) (n - 1 - 1) Try.prog (ownPostG w.heap.size (KeepB bA) I Ix (pre ++ [x]) W) (a₁ x) W)
    (hdone : ∀ (D : Nat) (W : World), w.heap.size ≤ D → I (elemsL c) W → W.heap[D]? = some (.deferred (some [])) → Q .normal { a with defers := { target := .collected D, args := #[] } :: a.defers } W)
    (hstop : ∀ (D : Nat) (cd : Code) (pre : List Byt) (W : World), w.heap.size ≤ D → pre <+: elemsL c → Ix cd pre W → W.heap[D]? = some (.deferred (some [])) → cd.wpIn Fence.wide n Try.prog Q { a with defers := { target := .collected D, args := #[] } :: a.defers } W) :
    (Code.rangeFunc g #[p] assign body).wpIn Fence.wide n Try.prog Q a w :=
  wpIn_rangeFunc_ownH rfl (by omega) hg trivial (enters_of Try.func33 (by kernel_rfl) rfl) (all_stops (n - 1) (by omega) bA c hc w hA) (keepB_t _) (keepB_b hA.lt) (Below.refl _ _) (fun _ => rfl)
    I Ix hI hIx h0 (fun x a' _ => a' = a₁ x) (fun _ _ _ _ _ _ hs _ _ => hs) (fun l pre x W K hi hK => hassign l x W K (hK _ _ (KeepsFrom.refl _ _) rfl hi rfl))
    (fun l pre x a' W _ hr hi e hl => by subst e; exact hbody l pre x W hr hi hl) (fun D ys W hD hs hi hK => by subst hs; exact hdone D W hD hi hK) hstop

/-- The same within a round. -/
theorem all_rangeN {n l₀ : Nat} {g : Operand} {p : Tmp} {assign body : Code} {Q : Exit → Act → World → Prop} {a : Act} {w : World} (hl₀ : ∃ r, w.heap[l₀]? = some (.loop r)) (h1 : 2 ≤ n) (bA : Nat) (c : List Nat) (hc : IsC c)
    (hg : a.eval g = .func (.func 33) #[] #[.pointer (some ⟨bA, 0, none⟩)]) (hA : Arr64 w bA 24 c)
    (I : List Byt → World → Prop) (Ix : Code → List Byt → World → Prop) (hI : OwnFrom w.heap.size I) (hIx : ∀ cd, OwnFrom w.heap.size (Ix cd)) (h0 : I [] w) (a₁ : Byt → Act)
    (hassign : ∀ (l : Nat) (x : Byt) (W : World) (K : Act → World → Prop), K (a₁ x) W → assign.wpIn ((Fence.wide.inRound l₀).inRound l) (n - 1 - 1) Try.prog (Exit.then K (fun _ _ _ => False)) { tmps := (#[p].zip #[Value.int .u8 (x.1 : Int)]).foldl (fun t (p, v) => t.setIfInBounds p v) a.tmps, defers := [] } W)
    (hbody : ∀ (l : Nat) (pre : List Byt) (x : Byt) (W : World), I pre W → pre.length < 256 → body.wpIn ((Fence.wide.inRound l₀).inRound l) (n - 1 - 1) Try.prog (ownPostG w.heap.size (KeepB bA) I Ix (pre ++ [x]) W) (a₁ x) W)
    (hdone : ∀ (W : World), I (elemsL c) W → Q .normal a W)
    (hstop : ∀ (cd : Code) (pre : List Byt) (W : World), pre <+: elemsL c → Ix cd pre W → cd.wpIn (Fence.wide.inRound l₀) n Try.prog Q a W) :
    (Code.rangeFunc g #[p] assign body).wpIn (Fence.wide.inRound l₀) n Try.prog Q a w := by
  obtain ⟨r, hr⟩ := hl₀
  exact wpIn_rangeFunc_ownN rfl hr (by omega) hg trivial (enters_of Try.func33 (by kernel_rfl) rfl) ((all_stops (n - 1) (by omega) bA c hc w hA).inRound l₀) (keepB_t _) (keepB_b hA.lt) (Below.refl _ _) (fun _ => rfl)
    I Ix hI hIx h0 (fun x a' _ => a' = a₁ x) (fun _ _ _ _ _ _ hs _ _ => hs) (fun l pre x W K hi hK => hassign l x W K (hK _ _ (KeepsFrom.refl _ _) rfl hi rfl))
    (fun l pre x a' W _ _ hi e hl => by subst e; exact hbody l pre x W hi hl) (fun ys W hs hi => by subst hs; exact hdone W hi) hstop

/-- The next byte of a list, or a wrong one. -/
theorem next_yes {L pre : List Byt} {x : Byt} (h : pre ++ [x] <+: L) : pre.length < L.length ∧ (byL L)[pre.length]?.getD 0 = (x.1 : Int) := by
  obtain ⟨t, rfl⟩ := h
  simp [byL]
theorem next_no {L pre : List Byt} {x : Byt} (hp : pre <+: L) (h : ¬ (pre ++ [x] <+: L)) (hl : pre.length < L.length) : (byL L)[pre.length]?.getD 0 ≠ (x.1 : Int) := by
  obtain ⟨t, rfl⟩ := hp
  cases t with
  | nil => simp at hl
  | cons y t =>
    intro e
    have e2 : y = x := by
      apply Subtype.ext
      have := Int.ofNat.inj (show (Int.ofNat y.1) = Int.ofNat x.1 by simpa [byL] using e)
      exact this
    subst e2
    exact h ⟨t, by simp⟩

theorem AI.step {w W7 W : World} {n : Nat} (h : AI w W7 n W) (hw : w.heap.size ≤ W7.heap.size) : AI w W7 (n + 1) (W.setCell ⟨W7.heap.size, 0, none⟩ (.int .i64 ((n : Int) + 1))) :=
  ⟨fun k hk => (heap_setCell_other W ⟨W7.heap.size, 0, none⟩ k _ (by simp; omega)).trans (h.keep k hk), h.k12.set _, h.bel.setCell hw _⟩
theorem AI.zero {w W7 W : World} {n : Nat} (h : AI w W7 n W) (hw : w.heap.size ≤ W7.heap.size) : AI w W7 0 (W.setCell ⟨W7.heap.size, 0, none⟩ (.int .i64 0)) :=
  ⟨fun k hk => (heap_setCell_other W ⟨W7.heap.size, 0, none⟩ k _ (by simp; omega)).trans (h.keep k hk), h.k12.set _, h.bel.setCell hw _⟩
theorem AI.nest {w W7 W X : World} {m k : Nat} (h : AI w W7 m W) (hJ : AI w W k X) : AI w W7 m X :=
  ⟨fun j hj => (hJ.keep j (Nat.lt_trans hj h.k12.lt)).trans (h.keep j hj), (hJ.keep _ h.k12.lt).trans h.k12, hJ.bel⟩
theorem AI.keeps {w W X : World} {k : Nat} (hJ : AI w W k X) (B : Nat) : KeepsFrom B W X :=
  ⟨Nat.le_of_lt hJ.k12.lt, fun j _ _ hj _ => (hJ.keep j (Array.getElem?_eq_some_iff.1 hj).1).trans hj⟩

set_option maxHeartbeats 4000000 in
set_option maxRecDepth 100000 in
theorem all_walk (w : World) (c d : List Nat) (hc : IsC c) (hd : IsC d) (lv : Int) :
    Calls Try.prog 4 #[.agg (row64 c), .agg (row64 d), .int .i64 lv] w fun e w' => e = .returned (.bool true) ∧ Below w.heap.size w w' := by
  obtain ⟨p0, p1, p2, p3, hp⟩ := isC_words c hc
  obtain ⟨q0, q1, q2, q3, hq⟩ := isC_words d hd
  have hrp : row64 c = #[.int .u64 (p0 : Int), .int .u64 (p1 : Int), .int .u64 (p2 : Int), .int .u64 (p3 : Int)] := by rw [hp]; rfl
  have hrq : row64 d = #[.int .u64 (q0 : Int), .int .u64 (q1 : Int), .int .u64 (q2 : Int), .int .u64 (q3 : Int)] := by rw [hq]; rfl
  have hbc := fun W => refBytes_any W c hc
  have hbd := fun W => refBytes_any W d hd
  have hac := fun W => all_any W c
  have had := fun W => all_any W d
  rw [hrp] at hbc hac
  rw [hrq] at hbd had
  rw [hrp, hrq]
  have HBC := Lib.hid hbc
  have HBD := Lib.hid hbd
  have HAC := Lib.hid hac
  have HAD := Lib.hid had
  have HP := Lib.hid hp
  have HQ := Lib.hid hq
  have HRP := Lib.hid hrp
  have HRQ := Lib.hid hrq
  clear hp hq hrp hrq hbc hbd hac had
  refine (callsIn_wide (n := 4)).1 ?_
  refine callsIn_of_wp_marks Try.func4 rfl trivial ?_ rfl
  refine wpIn_wide.2 ?_
  simp only [Try.ntmps4, List.size_toArray, List.length_cons, List.length_nil, Nat.reduceAdd, Nat.reduceSub, Array.replicate_succ, Array.replicate_zero, List.push_toArray, List.append_toArray, List.nil_append, List.cons_append]
  go_upto_region 1 with fail
  have h0 := A0.start w c d lv
  rw [HRP.out, HRQ.out] at h0
  generalize (((w.alloc (.cells #[.int .u64 (p0 : Int), .int .u64 (p1 : Int), .int .u64 (p2 : Int), .int .u64 (p3 : Int)] 24)).alloc (.cells #[.int .u64 (q0 : Int), .int .u64 (q1 : Int), .int .u64 (q2 : Int), .int .u64 (q3 : Int)] 24)).alloc (.cells #[.int .i64 lv] 3)).alloc (.cells #[.bool false] 4) = W1 at h0 ⊢
  go_wp2_with fail
  refine (works_any _).mono ?_
  rintro e w1 ⟨rfl, hb1⟩
  replace h0 := h0.below hb1
  clear hb1
  obtain ⟨x0, x1, x2, x3⟩ := h0.a3.four HP.out
  go_wp2_with fail
  refine (HBC.out _).mono ?_
  rintro e w2 ⟨va, rfl, oa, hb2⟩
  replace h0 := h0.below hb2
  have hsz1 := hb2.size
  obtain ⟨aa, ca, hva⟩ := ownB_shape oa
  subst hva
  have hla : (byL (elemsL c)).length ≤ 256 := by rw [byL_len]; exact elemsU_len c 256
  have sa := oa.sb (isB_byL _) (by omega)
  obtain ⟨na, hna⟩ : ∃ na, (byL (elemsL c)).length = na := ⟨_, rfl⟩
  have HNA := Lib.hid hna
  rw [hna] at sa hla ⊢
  have hW3 := (Below.refl w2.heap.size w2).alloc (Nat.le_refl _) (.cells #[.slice aa na ca] 31)
  have o8 : Boxed (w2.alloc (.cells #[.slice aa na ca] 31)) w2.heap.size 31 (.slice aa na ca) := heap_alloc_new w2 _
  replace h0 := h0.below hW3
  replace sa := sa.below hW3
  obtain ⟨y0, y1, y2, y3⟩ := h0.a4.four HQ.out
  clear x0 x1 x2 x3 hb2 oa hW3 hna
  go_upto_region 3 with fail
  generalize w2.alloc (.cells #[.slice aa na ca] 31) = W3 at h0 sa o8 y0 y1 y2 y3 ⊢
  generalize hb8 : w2.heap.size = b8 at o8 ⊢
  go_wp2_with fail
  refine (HBD.out _).mono ?_
  rintro e w4 ⟨vb, rfl, ob, hb4⟩
  replace h0 := h0.below hb4
  replace sa := sa.below hb4
  have o8' : Boxed w4 b8 31 (.slice aa na ca) := (hb4.block _ o8.lt).trans o8
  obtain ⟨ab, cb, hvb⟩ := ownB_shape ob
  subst hvb
  have hlb : (byL (elemsL d)).length ≤ 256 := by rw [byL_len]; exact elemsU_len d 256
  have sb := ob.sb (isB_byL _) (by omega)
  obtain ⟨nb, hnb⟩ : ∃ nb, (byL (elemsL d)).length = nb := ⟨_, rfl⟩
  have HNB := Lib.hid hnb
  rw [hnb] at sb hlb ⊢
  have hW5 := (Below.refl w4.heap.size w4).alloc (Nat.le_refl _) (.cells #[.slice ab nb cb] 31)
  have o9 : Boxed (w4.alloc (.cells #[.slice ab nb cb] 31)) w4.heap.size 31 (.slice ab nb cb) := heap_alloc_new w4 _
  have hb84 : b8 < w4.heap.size := o8'.lt
  replace h0 := h0.below hW5
  replace sa := sa.below hW5
  replace sb := sb.below hW5
  have o8 : Boxed (w4.alloc (.cells #[.slice ab nb cb] 31)) b8 31 (.slice aa na ca) := (hW5.block _ o8'.lt).trans o8'
  obtain ⟨x0, x1, x2, x3⟩ := h0.a3.four HP.out
  clear y0 y1 y2 y3 hb4 ob hW5 hnb o8'
  go_upto_region 4 with fail
  generalize w4.alloc (.cells #[.slice ab nb cb] 31) = W5 at h0 sa sb o8 o9 x0 x1 x2 x3 ⊢
  generalize w4.heap.size = b9 at o9 hb84 ⊢
  go_wp2_with fail
  refine (HAC.out _).mono ?_
  rintro e w6 ⟨rfl, rfl⟩
  have hW6 := (Below.refl W5.heap.size W5).alloc (Nat.le_refl _) (.cells #[.int .u64 (p0 : Int), .int .u64 (p1 : Int), .int .u64 (p2 : Int), .int .u64 (p3 : Int)] 24)
  have aA : Arr64 (W5.alloc (.cells #[.int .u64 (p0 : Int), .int .u64 (p1 : Int), .int .u64 (p2 : Int), .int .u64 (p3 : Int)] 24)) W5.heap.size 24 c := by
    have := heap_alloc_new W5 (.cells #[.int .u64 (p0 : Int), .int .u64 (p1 : Int), .int .u64 (p2 : Int), .int .u64 (p3 : Int)] 24)
    rw [← HRP.out] at this ⊢
    exact this
  replace h0 := h0.below hW6
  replace sa := sa.below hW6
  replace sb := sb.below hW6
  have o8a := boxed_below o8 hW6
  have o9a := boxed_below o9 hW6
  obtain ⟨y0, y1, y2, y3⟩ := h0.a4.four HQ.out
  clear x0 x1 x2 x3 hW6 o8 o9
  go_upto_region 5 with fail
  generalize W5.alloc (.cells #[.int .u64 (p0 : Int), .int .u64 (p1 : Int), .int .u64 (p2 : Int), .int .u64 (p3 : Int)] 24) = W6 at h0 sa sb o8a o9a aA y0 y1 y2 y3 ⊢
  generalize W5.heap.size = bA at aA ⊢
  go_wp2_with fail
  refine (HAD.out _).mono ?_
  rintro e w7 ⟨rfl, rfl⟩
  have hW7 := below_alloc2 W6 (.cells #[.int .u64 (q0 : Int), .int .u64 (q1 : Int), .int .u64 (q2 : Int), .int .u64 (q3 : Int)] 24) (.cells #[.func (.func 33) #[] #[.pointer (some ⟨W6.heap.size, 0, none⟩)]] 33)
  have aB : Arr64 ((W6.alloc (.cells #[.int .u64 (q0 : Int), .int .u64 (q1 : Int), .int .u64 (q2 : Int), .int .u64 (q3 : Int)] 24)).alloc (.cells #[.func (.func 33) #[] #[.pointer (some ⟨W6.heap.size, 0, none⟩)]] 33)) W6.heap.size 24 d := by
    refine Arr64.alloc ?_ _
    have := heap_alloc_new W6 (.cells #[.int .u64 (q0 : Int), .int .u64 (q1 : Int), .int .u64 (q2 : Int), .int .u64 (q3 : Int)] 24)
    rw [← HRQ.out] at this ⊢
    exact this
  have f11 : Boxed ((W6.alloc (.cells #[.int .u64 (q0 : Int), .int .u64 (q1 : Int), .int .u64 (q2 : Int), .int .u64 (q3 : Int)] 24)).alloc (.cells #[.func (.func 33) #[] #[.pointer (some ⟨W6.heap.size, 0, none⟩)]] 33)) (W6.heap.size + 1) 33 (.func (.func 33) #[] #[.pointer (some ⟨W6.heap.size, 0, none⟩)]) := heap_alloc2 _ _ _
  replace h0 := h0.below hW7
  replace sa := sa.below hW7
  replace sb := sb.below hW7
  have o8 := boxed_below o8a hW7
  have o9 := boxed_below o9a hW7
  replace aA := aA.below hW7 aA.lt
  clear y0 y1 y2 y3 hW7 o8a o9a
  go_upto_region 6 with fail
  generalize (W6.alloc (.cells #[.int .u64 (q0 : Int), .int .u64 (q1 : Int), .int .u64 (q2 : Int), .int .u64 (q3 : Int)] 24)).alloc (.cells #[.func (.func 33) #[] #[.pointer (some ⟨W6.heap.size, 0, none⟩)]] 33) = W7 at h0 sa sb o8 o9 aA aB f11 ⊢
  obtain ⟨bB, hbB⟩ : ∃ b, W6.heap.size = b := ⟨_, rfl⟩
  rw [hbB] at aB f11 ⊢
  clear hbB
  have hAL : AL w W7 c d lv ⟨b8, b9, bA, bB, bB + 1, aa, na, ca, ab, nb, cb⟩ := ⟨h0, sa, sb, o8, o9, aA, aB, f11⟩
  have e1 := fun W => eqlN W bA
  have e2 := fun W => eqlN W bB
  have g11 := f11.cell
  clear h0 sa sb o8 o9 aA aB f11
  go_wp2_with fail
  have hW8 := (Below.refl W7.heap.size W7).alloc (Nat.le_refl _) (.cells #[.int .i64 0] 3)
  have hI0 : AI w W7 0 (W7.alloc (.cells #[.int .i64 0] 3)) := ⟨fun k hk => hW8.block k hk, heap_alloc_new W7 _, (hAL.below hW8).h0.bel⟩
  have hA8 : Arr64 (W7.alloc (.cells #[.int .i64 0] 3)) bA 24 c := hAL.aA.below hW8 hAL.aA.lt
  have h78 : W7.heap.size < (W7.alloc (.cells #[.int .i64 0] 3)).heap.size := by simp
  have hw8 : w.heap.size ≤ (W7.alloc (.cells #[.int .i64 0] 3)).heap.size := (hAL.below hW8).h0.bel.size
  have HAW7 : Hid (w.heap.size ≤ W7.heap.size) := Lib.hid hAL.h0.bel.size
  clear hW8 g11
  generalize W7.alloc (.cells #[.int .i64 0] 3) = W8 at hI0 hA8 h78 hw8 ⊢
  refine (wpIn_wide (n := 4)).1 ?_
  apply all_rangeH (by omega) bA c hc rfl hA8
    (fun pre W => pre <+: elemsL c ∧ AI w W7 pre.length W)
    (fun cd pre W => pre <+: elemsL c → cd = Code.exit 0 ∧ ∃ n : Nat, (n : Int) = lv ∧ AI w W7 n W)
    (fun pre W W' row h hg hr => ⟨h.1, h.2.grown h78 hw8 hg (fun k e => (hr k e).1)⟩)
    (fun cd pre W W' row h hg hr hp => ⟨(h hp).1, (h hp).2.imp fun n hn => ⟨hn.1, hn.2.grown h78 hw8 hg (fun k e => (hr k e).1)⟩⟩)
    ⟨List.nil_prefix, hI0⟩
    _ ?assign ?body ?done ?stop
  case assign =>
    intro l x W K hK
    gi_wp2
    exact hK
  case body =>
    intro l pre x W hlr hI hlt
    obtain ⟨hpre, hAI⟩ := hI
    have hAW := hAI.al hAL
    have hk := hAI.k12.cell
    have hkf := hAI.k12.frozen
    have hk5 := hAW.h0.k5.cell
    have ho8 := hAW.o8.cell
    have ho9 := hAW.o9.cell
    have hf11 := hAW.f11.cell
    have hk6 := hAW.h0.k6.cell
    have hk6f := hAW.h0.k6.frozen
    have hsa := hAW.sa
    have hsb := hAW.sb
    have haB := hAW.aB
    dsimp only at ho8 ho9 hf11 hsa hsb haB
    have HAI := Lib.hid hAI
    have HPRE := Lib.hid hpre
    have HAW := Lib.hid hAW
    clear hAI hpre hAW
    obtain ⟨m, hm⟩ : ∃ m, pre.length = m := ⟨_, rfl⟩
    rw [hm] at hk HAI hlt
    have HM := Lib.hid hm
    by_cases hlv : (m : Int) = lv
    · have el : ((m : Int) == lv) = true := beq_iff_eq.2 hlv
      have HLV := Lib.hid hlv
      clear hlv hm
      gi_wp2_with fail
      exact ⟨KeepsFrom.refl _ _, fun _ => ⟨rfl, m, HLV.out, HAI.out⟩⟩
    · have el : ((m : Int) == lv) = false := beq_eq_false_iff_ne.2 hlv
      clear hlv
      by_cases hx : pre ++ [x] <+: elemsL c
      · have hy := next_yes hx
        have hmn : m < na := by have := HNA.out; rw [byL_len] at this; omega
        have hxv := Lib.hid hy.2
        rw [hm] at hxv
        have HX := Lib.hid hx
        obtain ⟨ba, oa, rfl, hcell⟩ := hsa.read m hmn
        have hc1 := hcell m hmn
        rw [hxv.out] at hc1
        have g1 : decide (na ≤ m) = false := by simp; omega
        have g1' : decide ((na : Int) ≤ (m : Int)) = false := by simp; omega
        have g2 : ((x.1 : Int) != (x.1 : Int)) = false := by simp
        have hx2 := x.2
        have hbW := (Below.refl W.heap.size W).alloc (Nat.le_refl _) (.cells #[.int .i64 0] 3)
        have hf12 := (hbW.cell (p := ⟨bB + 1, 0, none⟩) (HAW.out.f11.lt)).trans hf11
        have haB9 := haB.below hbW haB.lt
        have hl9 : ∃ r, (W.alloc (.cells #[.int .i64 0] 3)).heap[l]? = some (.loop r) := hlr.imp fun r hr => (hbW.block l (Array.getElem?_eq_some_iff.1 hr).1).trans hr
        have hJ0 : AI w W 0 (W.alloc (.cells #[.int .i64 0] 3)) := ⟨fun k hk => hbW.block k hk, heap_alloc_new W _, (HAW.out.below hbW).h0.bel⟩
        have hs9 : W.heap.size < (W.alloc (.cells #[.int .i64 0] 3)).heap.size := by simp
        have hw9 : w.heap.size ≤ (W.alloc (.cells #[.int .i64 0] 3)).heap.size := hJ0.bel.size
        clear hx hy hm hcell hsa hlr hbW hf11 hsb haB
        gi_wp2_with fail
        clear hk hkf hk5 ho8 ho9 hk6 hk6f hc1
        generalize W.alloc (.cells #[.int .i64 0] 3) = W9 at hf12 haB9 hl9 hJ0 hs9 hw9 ⊢
        apply all_rangeN hl9 (by omega) bB d hd rfl haB9
          (fun ys W' => ys <+: elemsL d ∧ ys.length ≤ 4 ∧ AI w W ys.length W')
          (fun cd ys W' => ys <+: elemsL d → cd = Code.exit 2 ∧ ys.length = 5 ∧ AI w W 4 W')
          (fun ys X Y row h hg hr => ⟨h.1, h.2.1, h.2.2.grown hs9 hw9 hg (fun k e => (hr k e).1)⟩)
          (fun cd ys X Y row h hg hr hp => ⟨(h hp).1, (h hp).2.1, (h hp).2.2.grown hs9 hw9 hg (fun k e => (hr k e).1)⟩)
          ⟨List.nil_prefix, by simp, hJ0⟩
          _ ?assign2 ?body2 ?done2 ?stop2
        case assign2 =>
          intro l' x' X K hK
          gi_wp2
          exact hK
        case body2 =>
          intro l' ys x' X hI hlt'
          obtain ⟨hys, hy4, hJ⟩ := hI
          have hXW := hJ.al HAW.out
          have hk := hJ.k12.cell
          have hkf := hJ.k12.frozen
          have ho9 := hXW.o9.cell
          have hsb := hXW.sb
          dsimp only at ho9 hsb
          have HJ := Lib.hid hJ
          have HYS := Lib.hid hys
          have HWX : Hid (W.heap.size < X.heap.size) := Lib.hid hJ.k12.lt
          have HBB : Hid (bB < W.heap.size) := Lib.hid HAW.out.aB.lt
          clear hXW hJ hys
          obtain ⟨k, hkm⟩ : ∃ k, ys.length = k := ⟨_, rfl⟩
          rw [hkm] at hk HJ hy4
          have HK := Lib.hid hkm
          by_cases hx' : ys ++ [x'] <+: elemsL d
          · have hz := next_yes hx'
            have hkn : k < nb := by have := HNB.out; rw [byL_len] at this; omega
            have hzv := Lib.hid hz.2
            rw [hkm] at hzv
            have HX' := Lib.hid hx'
            obtain ⟨bb, ob, rfl, hcell⟩ := hsb.read k hkn
            have hc2 := hcell k hkn
            rw [hzv.out] at hc2
            have g1 : decide (nb ≤ k) = false := by simp; omega
            have g1' : decide ((nb : Int) ≤ (k : Int)) = false := by simp; omega
            have g2 : ((x'.1 : Int) != (x'.1 : Int)) = false := by simp
            have hx2' := x'.2
            clear hx' hz hkm hcell hsb
            by_cases h4 : k = 4
            · have H4 := Lib.hid h4
              have g3 : decide ((3 : Int) < (k : Int)) = true := by simp; omega
              have g3' : decide (3 < k) = true := by simp; omega
              clear h4
              gi_wp2_with fail
              exact ⟨KeepsFrom.refl _ _, fun _ => ⟨rfl, by rw [List.length_append, HK.out, H4.out]; rfl, H4.out ▸ HJ.out⟩⟩
            · have g3 : decide ((3 : Int) < (k : Int)) = false := by simp; omega
              have g3' : decide (3 < k) = false := by simp; omega
              have h4' : k < 4 := by omega
              clear h4
              gi_wp2_with fail
              exact ⟨(KeepsOthers.setCell X ⟨W.heap.size, 0, none⟩ _).from _, heap_setCell_other X ⟨W.heap.size, 0, none⟩ bB _ (by have := HBB.out; simp; omega), HX'.out, by rw [List.length_append, HK.out]; simp; omega, by rw [List.length_append, HK.out]; exact HJ.out.step HAI.out.bel.size⟩
          · have HX' := Lib.hid hx'
            by_cases hkn : k < nb
            · have hz := next_no HYS.out hx' (by have := HNB.out; rw [byL_len] at this; omega)
              rw [hkm] at hz
              obtain ⟨bb, ob, rfl, hcell⟩ := hsb.read k hkn
              have hc2 := hcell k hkn
              generalize (byL (elemsL d))[k]?.getD 0 = y at hc2 hz
              have g1 : decide (nb ≤ k) = false := by simp; omega
              have g1' : decide ((nb : Int) ≤ (k : Int)) = false := by simp; omega
              have g2 : ((x'.1 : Int) != y) = true := by simp; exact fun e => hz e.symm
              clear hx' hz hkm hcell hsb
              gi_wp2_with fail
              exact ⟨KeepsFrom.refl _ _, fun h => absurd h HX'.out⟩
            · have g1 : decide (nb ≤ k) = true := by simp; omega
              have g1' : decide ((nb : Int) ≤ (k : Int)) = true := by simp; omega
              clear hx' hkm
              gi_wp2_with fail
              exact ⟨KeepsFrom.refl _ _, fun h => absurd h HX'.out⟩
        case' done2 =>
          intro X hI
          have hJ : ∃ k : Nat, (k = nb ∨ k = 4 ∧ 4 < nb) ∧ AI w W k X := ⟨_, .inl (by have := HNB.out; rw [byL_len] at this; exact this), hI.2.2⟩
          clear hI
        case' stop2 =>
          intro cd ys X hys hI
          obtain ⟨rfl, h5, hJ⟩ := hI hys
          replace hJ : ∃ k : Nat, (k = nb ∨ k = 4 ∧ 4 < nb) ∧ AI w W k X := ⟨4, .inr ⟨rfl, by have := hys.length_le; have := HNB.out; rw [byL_len] at this; omega⟩, hJ⟩
          clear hys hI h5
        all_goals
          obtain ⟨k, hk, hJ⟩ := hJ
          have hX := HAI.out.nest hJ
          have hXW := hX.al hAL
          have hk14 := hJ.k12.cell
          have hk12 := hX.k12.cell
          have hk12f := hX.k12.frozen
          have ho9 := hXW.o9.cell
          dsimp only at ho9
          have HJ := Lib.hid hJ
          have HX2 := Lib.hid hX
          have HB : Hid (bA < W7.heap.size) := Lib.hid hAL.aA.lt
          clear hJ hX hXW
          by_cases h4 : k = nb
          · have g1 : decide (k < nb) = false := by simp; omega
            have g1' : decide ((k : Int) < (nb : Int)) = false := by simp; omega
            clear h4 hk
            gi_wp2_with fail
            exact ⟨(HJ.out.keeps _).trans ((KeepsOthers.setCell X ⟨W7.heap.size, 0, none⟩ _).from _), (heap_setCell_other X ⟨W7.heap.size, 0, none⟩ bA _ (by have := HB.out; simp; omega)).trans (HJ.out.keep bA HAW.out.aA.lt), HX.out, by rw [List.length_append, HM.out]; exact HX2.out.step HAW7.out⟩
          · have h44 : k = 4 ∧ 4 < nb := by omega
            have g1 : decide (k < nb) = true := by simp; omega
            have g1' : decide ((k : Int) < (nb : Int)) = true := by simp; omega
            have g2 : decide (k < 4) = false := by simp; omega
            have g2' : decide ((k : Int) < 4) = false := by simp; omega
            clear h4 hk h44
            gi_wp2_with fail
            exact ⟨(HJ.out.keeps _).trans ((KeepsOthers.setCell X ⟨W7.heap.size, 0, none⟩ _).from _), (heap_setCell_other X ⟨W7.heap.size, 0, none⟩ bA _ (by have := HB.out; simp; omega)).trans (HJ.out.keep bA HAW.out.aA.lt), HX.out, by rw [List.length_append, HM.out]; exact HX2.out.step HAW7.out⟩
      · have HX := Lib.hid hx
        by_cases hmn : m < na
        · have hy := next_no HPRE.out hx (by have := HNA.out; rw [byL_len] at this; omega)
          rw [hm] at hy
          obtain ⟨ba, oa, rfl, hcell⟩ := hsa.read m hmn
          have hc1 := hcell m hmn
          generalize (byL (elemsL c))[m]?.getD 0 = y at hc1 hy
          have g1 : decide (na ≤ m) = false := by simp; omega
          have g1' : decide ((na : Int) ≤ (m : Int)) = false := by simp; omega
          have g2 : ((x.1 : Int) != y) = true := by simp; exact fun e => hy e.symm
          clear hx hy hm hcell hsa
          gi_wp2_with fail
          exact ⟨(KeepsOthers.setCell _ _ _).from _, fun h => absurd h HX.out⟩
        · have g1 : decide (na ≤ m) = true := by simp; omega
          have g1' : decide ((na : Int) ≤ (m : Int)) = true := by simp; omega
          clear hx hm
          gi_wp2_with fail
          exact ⟨(KeepsOthers.setCell _ _ _).from _, fun h => absurd h HX.out⟩
  case' done =>
    intro D W hD hI hK
    have hJ : ∃ n : Nat, (n = na ∨ (n : Int) = lv) ∧ AI w W7 n W := ⟨_, .inl (by have := HNA.out; rw [byL_len] at this; exact this), hI.2⟩
    clear hI
  case' stop =>
    intro D cd pre W hD hS h hK
    obtain ⟨rfl, n, hn, hI⟩ := h hS
    have hJ : ∃ n : Nat, (n = na ∨ (n : Int) = lv) ∧ AI w W7 n W := ⟨n, .inr hn, hI⟩
    clear h hS hn hI
  all_goals
    obtain ⟨n, hn, hJ⟩ := hJ
    have hAW := hJ.al hAL
    have hk := hJ.k12.cell
    have hkf := hJ.k12.frozen
    have hk5 := hAW.h0.k5.cell
    have ho8 := hAW.o8.cell
    dsimp only at ho8
    have HJ := Lib.hid hJ
    have HD := Lib.hid hD
    have HK := Lib.hid hK
    clear hAW hJ hD hK
    have hg : ((n : Int) != lv) = false ∨ (((n : Int) != lv) = true ∧ ((n : Int) != (na : Int)) = false) := by
      by_cases hlv : (n : Int) = lv
      · exact .inl (by simpa using hlv)
      · have e : n = na := by omega
        exact .inr ⟨by simpa using hlv, by rw [e]; simp⟩
    clear hn
    have hZ := HJ.out.zero HAW7.out
    have hAZ := (hZ.al hAL).aA
    have hZlt := hZ.k12.lt
    have hZw := hZ.bel.size
    have HDK : Hid ((W.setCell ⟨W7.heap.size, 0, none⟩ (.int .i64 0)).heap[D]? = some (.deferred (some []))) := Lib.hid ((heap_setCell_other W ⟨W7.heap.size, 0, none⟩ D _ (by have := HD.out; simp; omega)).trans HK.out)
    rcases hg with g1 | ⟨g1, g2⟩
    all_goals
      gi_wp2_with fail
      go_wp2_with fail
      clear hk hkf hk5 ho8
      generalize W.setCell ⟨W7.heap.size, 0, none⟩ (.int .i64 0) = Z at hZ hAZ hZlt hZw HDK ⊢
      have hDZ : D < Z.heap.size := (Array.getElem?_eq_some_iff.1 HDK.out).1
      refine (wpIn_wide (n := 4)).1 ?_
      apply all_rangeH (by omega) bA c hc rfl hAZ
        (fun pre Y => pre <+: elemsL c ∧ AI w W7 pre.length Y ∧ Y.heap[D]? = some (.deferred (some [])))
        (fun cd pre _ => ¬ pre <+: elemsL c)
        (fun pre Y Y' row h hg hr => ⟨h.1, h.2.1.grown hZlt hZw hg (fun k e => (hr k e).1), (hg.block D (Array.getElem?_eq_some_iff.1 h.2.2).1 (fun e => by have := (hr D e.symm).1; omega)).trans h.2.2⟩)
        (fun cd pre Y Y' row h hg hr => h)
        ⟨List.nil_prefix, hZ, HDK.out⟩
      · intro l x Y K hK
        gi_wp2
        exact hK
      · intro l pre x Y hlr hI hlt
        obtain ⟨hpre, hAI, hDk⟩ := hI
        have hAW := hAI.al hAL
        have hk := hAI.k12.cell
        have hkf := hAI.k12.frozen
        have ho8 := hAW.o8.cell
        have hk6 := hAW.h0.k6.cell
        have hk6f := hAW.h0.k6.frozen
        have hsa := hAW.sa
        dsimp only at ho8 hsa
        have HAI := Lib.hid hAI
        have HPRE := Lib.hid hpre
        have HDk := Lib.hid hDk
        have HB : Hid (bA < W7.heap.size) := Lib.hid hAL.aA.lt
        clear hAI hpre hAW hDk hlr
        obtain ⟨m, hm⟩ : ∃ m, pre.length = m := ⟨_, rfl⟩
        rw [hm] at hk HAI hlt
        have HM := Lib.hid hm
        by_cases hx : pre ++ [x] <+: elemsL c
        · have hy := next_yes hx
          have hmn : m < na := by have := HNA.out; rw [byL_len] at this; omega
          have hxv := Lib.hid hy.2
          rw [hm] at hxv
          have HX := Lib.hid hx
          obtain ⟨ba, oa, rfl, hcell⟩ := hsa.read m hmn
          have hc1 := hcell m hmn
          rw [hxv.out] at hc1
          have g3 : decide (na ≤ m) = false := by simp; omega
          have g3' : decide ((na : Int) ≤ (m : Int)) = false := by simp; omega
          have g4 : ((x.1 : Int) != (x.1 : Int)) = false := by simp
          have hx2 := x.2
          clear hx hy hm hcell hsa
          gi_wp2_with fail
          exact ⟨(KeepsOthers.setCell Y ⟨W7.heap.size, 0, none⟩ _).from _, heap_setCell_other Y ⟨W7.heap.size, 0, none⟩ bA _ (by have := HB.out; simp; omega), HX.out, by rw [List.length_append, HM.out]; exact HAI.out.step HAW7.out, (heap_setCell_other Y ⟨W7.heap.size, 0, none⟩ D _ (by have := HD.out; simp; omega)).trans HDk.out⟩
        · have HX := Lib.hid hx
          by_cases hmn : m < na
          · have hy := next_no HPRE.out hx (by have := HNA.out; rw [byL_len] at this; omega)
            rw [hm] at hy
            obtain ⟨ba, oa, rfl, hcell⟩ := hsa.read m hmn
            have hc1 := hcell m hmn
            generalize (byL (elemsL c))[m]?.getD 0 = y at hc1 hy
            have g3 : decide (na ≤ m) = false := by simp; omega
            have g3' : decide ((na : Int) ≤ (m : Int)) = false := by simp; omega
            have g4 : ((x.1 : Int) != y) = true := by simp; exact fun e => hy e.symm
            clear hx hy hm hcell hsa
            gi_wp2_with fail
            exact ⟨(KeepsOthers.setCell _ _ _).from _, HX.out⟩
          · have g3 : decide (na ≤ m) = true := by simp; omega
            have g3' : decide ((na : Int) ≤ (m : Int)) = true := by simp; omega
            clear hx hm
            gi_wp2_with fail
            exact ⟨(KeepsOthers.setCell _ _ _).from _, HX.out⟩
      · intro D2 Y hD2 hI hK2
        obtain ⟨-, hAI, hDk⟩ := hI
        rw [show (elemsL c).length = na by rw [← HNA.out, byL_len]] at hAI
        have hAW := hAI.al hAL
        have hk := hAI.k12.cell
        have ho8 := hAW.o8.cell
        have hk6 := hAW.h0.k6.cell
        have hk6f := hAW.h0.k6.frozen
        dsimp only at ho8
        have HAI := Lib.hid hAI
        have HDk := Lib.hid hDk
        have HK2 := Lib.hid hK2
        have hB6 : Boxed (Y.setCell ⟨w.heap.size + 1 + 1 + 1, 0, none⟩ (.bool true)) (w.heap.size + 1 + 1 + 1) 4 (.bool true) := hAW.h0.k6.set (.bool true)
        have hK2' := (KeepsOthers.setCell Y ⟨w.heap.size + 1 + 1 + 1, 0, none⟩ (.bool true)).same D2 _ hK2 rfl
        have hD' := (World.putObj_heap_other (o := .deferred none) (show D ≠ D2 by omega)).trans ((KeepsOthers.setCell Y ⟨w.heap.size + 1 + 1 + 1, 0, none⟩ (.bool true)).same D _ hDk rfl)
        have hc6 := (boxed_keptC (boxed_keptC hB6 (grownBy_putObj' _ D2 (.deferred none)) (fun r e => by cases e; exact ⟨_, hK2', rfl⟩)) (grownBy_putObj' _ D (.deferred none)) (fun r e => by cases e; exact ⟨_, hD', rfl⟩)).cell
        have hfin := ((hAI.bel.setCell (p := ⟨w.heap.size + 1 + 1 + 1, 0, none⟩) (by simp; omega) (.bool true)).trans (belowK_b (w := w) (Nat.le_refl _) _ D2 _ (.deferred none) (by omega) hK2' rfl rfl)).trans (belowK_b (w := w) (Nat.le_refl _) _ D _ (.deferred none) (by have := HD.out; omega) hD' rfl rfl)
        have HK2 := Lib.hid hK2'
        have HD2 := Lib.hid hD'
        have HC6 := Lib.hid hc6
        have HF := Lib.hid hfin
        clear hAI hAW hDk hK2 hB6 hK2' hD' hc6 hfin
        gi_wp2_with fail
        go_wp2_with fail
        refine ⟨by simp, .inl ⟨_, _, rfl, run_takeDeferred HK2.out, by simp, .inl ⟨_, _, rfl, run_takeDeferred HD2.out, ?_⟩⟩⟩
        refine ⟨.bool true, ?_, rfl, HF.out⟩
        have hc6 := HC6.out
        simp [results, Try.f4, go_sem, hc6]
      · intro D2 cd pre Y hD2 hS h hK2
        exact absurd hS h
end Go.Proofs.Ytcdoliinemafaaa

/-
  galleyref01.Named: the names, by definition.
-/
import Derived.Test.YthegepiafodpjaaDoorMakesR
import Derived.Deep.DeepCutAuto
import Derived.Deep.RegionLaw
namespace Go.Proofs.YthegepiafodpjaaDoor
open Go.RowKit

theorem refRangeI (w : World) (a b : Int) (lo hi : Nat) (ha : a = (lo : Int)) (hb : b = (hi : Int)) (hlo : lo < 256) (hhi : hi < 256) : Calls Tryd.prog 39 #[.int .u8 a, .int .u8 b] w fun e w' => e = .returned (.agg (row64 (rangeL lo hi))) ∧ Below w.heap.size w w' := by
  subst ha hb
  exact refRange_any w lo hi hlo hhi

def nU : List Nat := rangeL 65 90
def nV : List Nat := rangeL 97 122
def nD : List Nat := rangeL 48 57
def nA : List Nat := orL (orL nU nV) nD
theorem isC_range (lo hi : Nat) : IsC (rangeL lo hi) := isC_fromL _ _
theorem isC_nU : IsC nU := isC_range _ _
theorem isC_nV : IsC nV := isC_range _ _
theorem isC_nD : IsC nD := isC_range _ _
theorem isC_nA : IsC nA := isC_or _ _ (isC_or _ _ isC_nU isC_nV) isC_nD
/-- A box that has just been laid and written. -/
theorem box_new (W : World) (l m : List Nat) : Arr64 ((W.alloc (.cells (row64 l) 28)).setRow W.heap.size (row64 m)) W.heap.size 28 m := setRow_heap _ _ _ _ _ _ (heap_alloc_new W _)
theorem box_old {W : World} {g : Nat} {T : TypeId} {c : List Nat} (h : Arr64 W g T c) (l m : List Nat) (T2 : TypeId) : Arr64 ((W.alloc (.cells (row64 l) T2)).setRow W.heap.size (row64 m)) g T c := (h.alloc _).setRow_other (Nat.ne_of_lt h.lt) _
theorem box_bel {w W : World} (h : Below w.heap.size w W) (l m : List Nat) (T : TypeId) : Below w.heap.size w ((W.alloc (.cells (row64 l) T)).setRow W.heap.size (row64 m)) := below_setRowC (h.alloc h.size _) h.size _

/-- What the names' boxes hold. -/
structure NQ (w W : World) (b4 b5 b6 : Nat) : Prop where
  r : Arr64 W w.heap.size 28 noneL
  a4 : Arr64 W b4 28 nU
  a5 : Arr64 W b5 28 nV
  a6 : Arr64 W b6 28 nD
  bel : Below w.heap.size w W
structure NR (w W : World) (b4 b5 b6 b7 : Nat) : Prop where
  q : NQ w W b4 b5 b6
  a7 : Arr64 W b7 28 nA
theorem NQ.below {w W W' : World} {b4 b5 b6 : Nat} (h : NQ w W b4 b5 b6) {B : Nat} (hb : Below B W W') (hB : W.heap.size ≤ B) : NQ w W' b4 b5 b6 :=
  ⟨h.r.below hb (Nat.lt_of_lt_of_le h.r.lt hB), h.a4.below hb (Nat.lt_of_lt_of_le h.a4.lt hB), h.a5.below hb (Nat.lt_of_lt_of_le h.a5.lt hB), h.a6.below hb (Nat.lt_of_lt_of_le h.a6.lt hB), h.bel.trans (hb.mono (Nat.le_trans h.bel.size hB))⟩
theorem NQ.alloc {w W : World} {b4 b5 b6 : Nat} (h : NQ w W b4 b5 b6) (o : Obj) : NQ w (W.alloc o) b4 b5 b6 := h.below ((Below.refl _ W).alloc (Nat.le_refl _) o) (Nat.le_refl _)
theorem NQ.drew {w W : World} {b4 b5 b6 : Nat} (h : NQ w W b4 b5 b6) : NQ w W.drew b4 b5 b6 := h.below (Below.refl _ W).drew (Nat.le_refl _)
theorem NR.below {w W W' : World} {b4 b5 b6 b7 : Nat} (h : NR w W b4 b5 b6 b7) {B : Nat} (hb : Below B W W') (hB : W.heap.size ≤ B) : NR w W' b4 b5 b6 b7 := ⟨h.q.below hb hB, h.a7.below hb (Nat.lt_of_lt_of_le h.a7.lt hB)⟩
theorem nq_late {w W : World} {b4 b5 b6 : Nat} {u0 u1 u2 u3 : Nat} (h : NQ w W b4 b5 b6) (e : row64 nA = #[.int .u64 (u0 : Int), .int .u64 (u1 : Int), .int .u64 (u2 : Int), .int .u64 (u3 : Int)]) :
    NR w (W.alloc (.cells #[.int .u64 (u0 : Int), .int .u64 (u1 : Int), .int .u64 (u2 : Int), .int .u64 (u3 : Int)] 28)) b4 b5 b6 W.heap.size := ⟨h.alloc _, by rw [← e]; exact Arr64.new W _ _⟩
abbrev set4 (W : World) (b : Nat) (u0 u1 u2 u3 : Nat) : World := (((W.setCell ⟨b, 0, none⟩ (.int .u64 (u0 : Int))).setCell ⟨b, 1, none⟩ (.int .u64 (u1 : Int))).setCell ⟨b, 2, none⟩ (.int .u64 (u2 : Int))).setCell ⟨b, 3, none⟩ (.int .u64 (u3 : Int))
theorem arr_set4 {W : World} {b : Nat} {u0 u1 u2 u3 : Nat} {l : List Nat} (h : Arr64 W b 28 noneL) (e : row64 l = #[.int .u64 (u0 : Int), .int .u64 (u1 : Int), .int .u64 (u2 : Int), .int .u64 (u3 : Int)]) : Arr64 (set4 W b u0 u1 u2 u3) b 28 l := by
  unfold Arr64
  rw [e]
  exact (((Arr64.set (l := [0, 0, 0, 0]) h 0 u0).set 1 u1).set 2 u2).set 3 u3
theorem arr_set4_other {W : World} {b g : Nat} {T : TypeId} {c : List Nat} (h : Arr64 W g T c) (hne : g ≠ b) (u0 u1 u2 u3 : Nat) : Arr64 (set4 W b u0 u1 u2 u3) g T c :=
  (((h.other _ hne _).other _ hne _).other _ hne _).other _ hne _
theorem below_set4 {B : Nat} {w W : World} (h : Below B w W) {b : Nat} (hb : B ≤ b) (u0 u1 u2 u3 : Nat) : Below B w (set4 W b u0 u1 u2 u3) := (((h.setCell hb _).setCell hb _).setCell hb _).setCell hb _
theorem nq_fill {w V W : World} {b4 b5 b6 : Nat} {u0 u1 u2 u3 : Nat} (h : NQ w V b4 b5 b6) (h8 : NQ w W b4 b5 b6) (ag : Arr64 W V.heap.size 28 noneL) (e : row64 nA = #[.int .u64 (u0 : Int), .int .u64 (u1 : Int), .int .u64 (u2 : Int), .int .u64 (u3 : Int)]) :
    NR w (set4 W V.heap.size u0 u1 u2 u3) b4 b5 b6 V.heap.size :=
  ⟨⟨arr_set4_other h8.r (Nat.ne_of_lt h.r.lt) _ _ _ _, arr_set4_other h8.a4 (Nat.ne_of_lt h.a4.lt) _ _ _ _, arr_set4_other h8.a5 (Nat.ne_of_lt h.a5.lt) _ _ _ _, arr_set4_other h8.a6 (Nat.ne_of_lt h.a6.lt) _ _ _ _, below_set4 h8.bel h.bel.size _ _ _ _⟩, arr_set4 ag e⟩

/-- A call of a Go function, as a step of a region that draws. -/
theorem step_calls {P : Program} {ops : Array Oper} {o : Oper} {a : Act} {w : World} {K : Act → World → Prop} {Q : Exit → Act → World → Prop} {E : Prop} (hg : o.guard = none) (f : FuncId) (s : Array Operand) (ts : Array TypeId)
    (hop : o.op = .call { callee := .value (.func f), args := s, argTypes := ts }) (vs : Array Value) (hv' : (s.toList.map a.eval).toArray = vs) (hrun : ∀ W, (callFunc f vs).run P W = .ok (.enter f vs) W) {V : Value}
    (hC : Calls P f vs w fun e w' => e = .returned V ∧ Below w.heap.size w w') (hK : ∀ w', Below w.heap.size w w' → K (a.put o.dst V) w') :
    if Region.wanted o (yielded ops a.tmps) = true then Oper.wp P o a w K Q else E := by
  have hw : Region.wanted o (yielded ops a.tmps) = true := by simp [Region.wanted, hg]
  rw [if_pos hw]
  have hv : s.map a.eval = vs := by rw [← hv', ← Array.toList_map]
  subst hv
  have h : (execOp a.eval o).run P w = .ok (.enter f (s.map a.eval)) w := by
    unfold execOp
    simp [hop, resolve, invoke, Deferred.ofValue, hrun, go_sem]
  unfold Oper.wp
  rw [h, Oper.upon_enter]
  refine hC.mono ?_
  rintro e w' ⟨rfl, hb⟩
  exact hK w' hb

/-- A box that was laid ahead of a call. -/
theorem fresh {W W' : World} {B : Nat} (h : Below B ((W.alloc (.cells #[.int .u64 0, .int .u64 0, .int .u64 0, .int .u64 0] 28)).drew) W') (hB : W.heap.size < B) : Arr64 W' W.heap.size 28 noneL :=
  Arr64.below (w := (W.alloc (.cells #[.int .u64 0, .int .u64 0, .int .u64 0, .int .u64 0] 28)).drew) (Arr64.new W 28 noneL) h hB
theorem old {W W' : World} {B g : Nat} {l : List Nat} (hg : Arr64 W g 28 l) (h : Below B ((W.alloc (.cells #[.int .u64 0, .int .u64 0, .int .u64 0, .int .u64 0] 28)).drew) W') (hB : W.heap.size < B) : Arr64 W' g 28 l :=
  Arr64.below (w := (W.alloc (.cells #[.int .u64 0, .int .u64 0, .int .u64 0, .int .u64 0] 28)).drew) (hg.alloc _) h (Nat.lt_trans hg.lt hB)
theorem fresh0 (W : World) : Arr64 (W.alloc (.cells #[.int .u64 0, .int .u64 0, .int .u64 0, .int .u64 0] 28)) W.heap.size 28 noneL := Arr64.new W 28 noneL

/-! ### The names -/
def allN : List (List UInt8) := [[117, 112, 112, 101, 114], [108, 111, 119, 101, 114], [97, 108, 112, 104, 97], [100, 105, 103, 105, 116], [97, 108, 110, 117, 109], [120, 100, 105, 103, 105, 116], [98, 108, 97, 110, 107], [115, 112, 97, 99, 101], [99, 110, 116, 114, 108], [103, 114, 97, 112, 104], [112, 114, 105, 110, 116], [112, 117, 110, 99, 116]]
theorem of_list (s : ByteArray) (l : List UInt8) (h : (s.toList == l) = true) (b : ByteArray) (hb : b.toList = l) : s = b := (Lib.bytes_beq_iff s b).1 (by rw [hb]; exact h)
theorem names_cover : ∀ k : Fin 23, (nmS k.1).toList ∈ allN := by decide +kernel
theorem named_no (s : ByteArray) (h : ∀ l ∈ allN, (s.toList == l) = false) : namedL s = noneL := by
  have h1 : ∀ k, k < 23 → nmS k ≠ s := fun k hk e => by
    have := h _ (names_cover ⟨k, hk⟩)
    rw [← e] at this
    simp at this
  have h2 : ∀ k, k ≤ 23 → namedU s k = noneL := by
    intro k
    induction k with
    | zero => intro _; rfl
    | succ k ih => intro hk; rw [namedU, if_neg (h1 k (by omega)), ih (by omega)]
  exact h2 23 (Nat.le_refl _)
theorem nm_ret (s : ByteArray) (X : List Nat) (h : namedL s = X) (hn : (!decide (X = noneL)) = true) {w w' : World} (hb : Below w.heap.size w w') : NamedPost w s (.returned (.tuple #[.agg (row64 X), .bool true])) w' := by
  refine ⟨?_, hb⟩
  rw [h, hn]
theorem nm_ret0 (s : ByteArray) (h : namedL s = noneL) {w w' : World} (hb : Below w.heap.size w w') : NamedPost w s (.returned (.tuple #[.agg (row64 noneL), .bool false])) w' := by
  refine ⟨?_, hb⟩
  rw [h]
  rfl

set_option maxHeartbeats 8000000 in
set_option maxRecDepth 100000 in
theorem refNamed_any (w : World) (s : ByteArray) (_hs : s.size ≤ 9223372036854775807) : Calls Tryd.prog 74 #[.string s] w (NamedPost w s) := by
  have hZ : ∀ l : List Nat, IsC l → (Tryd.prog.info? 28).map (·.size) = some (row64 l).size := fun l h => by rw [row64_size, h.1]; exact infoC
  have HZ := Lib.hid hZ
  clear hZ
  go_enter Tryd.func74, Tryd.ntmps74
  go_wp2_with fail
  refine (refRangeI _ 65 90 65 90 rfl rfl (by decide) (by decide)).mono ?_
  rintro e w1 ⟨rfl, hb1⟩
  have hb0 := (Below.refl w.heap.size w).alloc (Nat.le_refl _) (.cells (row64 noneL) 28)
  have r0 : Arr64 (w.alloc (.cells (row64 noneL) 28)) w.heap.size 28 noneL := heap_alloc_new w _
  have r1 : Arr64 w1 w.heap.size 28 noneL := r0.below hb1 r0.lt
  have hb1 : Below w.heap.size w w1 := hb0.trans (hb1.mono hb0.size)
  clear hb0 r0
  go_wp2_with (refine wpList_store_cells rfl 28 _ _ rfl rfl w1.heap.size 28 _ _ rfl rfl (heap_alloc_new w1 _) (by rw [row64_size]; rfl) (HZ.out _ isC_nU) (row64_one _) ?_)
  have hz : (#[.int .u64 0, .int .u64 0, .int .u64 0, .int .u64 0] : Array Value) = row64 noneL := rfl
  have hU : rangeL 65 90 = nU := rfl
  rw [hz, hU]
  have r2 := box_old r1 noneL nU 28
  have a4 := box_new w1 noneL nU
  have hb2 := box_bel hb1 noneL nU 28
  generalize (w1.alloc (.cells (row64 noneL) 28)).setRow w1.heap.size (row64 nU) = W2 at r2 a4 hb2 ⊢
  generalize w1.heap.size = b4 at a4 ⊢
  clear r1 hb1
  refine (refRangeI _ 97 122 97 122 rfl rfl (by decide) (by decide)).mono ?_
  rintro e w3 ⟨rfl, hb3⟩
  replace r2 := r2.below hb3 r2.lt
  replace a4 := a4.below hb3 a4.lt
  replace hb3 := hb2.trans (hb3.mono hb2.size)
  clear hb2
  go_wp2_with (refine wpList_store_cells rfl 28 _ _ rfl rfl w3.heap.size 28 _ _ rfl rfl (heap_alloc_new w3 _) (by rw [row64_size]; rfl) (HZ.out _ isC_nV) (row64_one _) ?_)
  have hV : rangeL 97 122 = nV := rfl
  rw [hV]
  have r4 := box_old r2 noneL nV 28
  replace a4 := box_old a4 noneL nV 28
  have a5 := box_new w3 noneL nV
  have hb4 := box_bel hb3 noneL nV 28
  generalize (w3.alloc (.cells (row64 noneL) 28)).setRow w3.heap.size (row64 nV) = W4 at r4 a4 a5 hb4 ⊢
  generalize w3.heap.size = b5 at a5 ⊢
  clear r2 hb3
  refine (refRangeI _ 48 57 48 57 rfl rfl (by decide) (by decide)).mono ?_
  rintro e w5 ⟨rfl, hb5⟩
  replace r4 := r4.below hb5 r4.lt
  replace a4 := a4.below hb5 a4.lt
  replace a5 := a5.below hb5 a5.lt
  replace hb5 := hb4.trans (hb5.mono hb4.size)
  clear hb4
  go_wp2_with (refine wpList_store_cells rfl 28 _ _ rfl rfl w5.heap.size 28 _ _ rfl rfl (heap_alloc_new w5 _) (by rw [row64_size]; rfl) (HZ.out _ isC_nD) (row64_one _) ?_)
  have hD : rangeL 48 57 = nD := rfl
  rw [hD]
  have r6 := box_old r4 noneL nD 28
  replace a4 := box_old a4 noneL nD 28
  replace a5 := box_old a5 noneL nD 28
  have a6 := box_new w5 noneL nD
  have hb6 := box_bel hb5 noneL nD 28
  generalize (w5.alloc (.cells (row64 noneL) 28)).setRow w5.heap.size (row64 nD) = W6 at r6 a4 a5 a6 hb6 ⊢
  generalize w5.heap.size = b6 at a6 ⊢
  clear r4 hb5 hz hU hV hD
  go_cut [7] (fun v7 wx => ∃ b7, v7 = .pointer (some ⟨b7, 0, none⟩) ∧ NR w wx b4 b5 b6 b7)
  case first =>
    obtain ⟨p0, p1, p2, p3, hp⟩ := isC_words nU isC_nU
    obtain ⟨q0, q1, q2, q3, hq⟩ := isC_words nV isC_nV
    obtain ⟨d0, d1, d2, d3, hd⟩ := isC_words nD isC_nD
    obtain ⟨m0, m1, m2, m3, hm⟩ := isC_words (orL nU nV) (isC_or _ _ isC_nU isC_nV)
    obtain ⟨u0, u1, u2, u3, hu⟩ := isC_words nA isC_nA
    have hor1 := fun W => refOr_any W nU nV isC_nU isC_nV
    have hor2 := fun W => refOr_any W (orL nU nV) nD (isC_or _ _ isC_nU isC_nV) isC_nD
    rw [show orL (orL nU nV) nD = nA from rfl] at hor2
    have rU : row64 nU = #[.int .u64 (p0 : Int), .int .u64 (p1 : Int), .int .u64 (p2 : Int), .int .u64 (p3 : Int)] := by rw [hp]; rfl
    have rV : row64 nV = #[.int .u64 (q0 : Int), .int .u64 (q1 : Int), .int .u64 (q2 : Int), .int .u64 (q3 : Int)] := by rw [hq]; rfl
    have rD : row64 nD = #[.int .u64 (d0 : Int), .int .u64 (d1 : Int), .int .u64 (d2 : Int), .int .u64 (d3 : Int)] := by rw [hd]; rfl
    have rM : row64 (orL nU nV) = #[.int .u64 (m0 : Int), .int .u64 (m1 : Int), .int .u64 (m2 : Int), .int .u64 (m3 : Int)] := by rw [hm]; rfl
    have rA : row64 nA = #[.int .u64 (u0 : Int), .int .u64 (u1 : Int), .int .u64 (u2 : Int), .int .u64 (u3 : Int)] := by rw [hu]; rfl
    rw [rU, rV, rM] at hor1
    rw [rM, rD, rA] at hor2
    have HQQ : Hid (NQ w W6 b4 b5 b6) := Lib.hid ⟨r6, a4, a5, a6, hb6⟩
    have r6d := r6.below (Below.refl _ _).drew r6.lt
    have a4d := a4.below (Below.refl _ _).drew a4.lt
    have a5d := a5.below (Below.refl _ _).drew a5.lt
    have a6d := a6.below (Below.refl _ _).drew a6.lt
    have hbd := hb6.drew
    obtain ⟨z0, z1, z2, z3⟩ := a4d.four hp
    obtain ⟨y0, y1, y2, y3⟩ := a5d.four hq
    obtain ⟨x0, x1, x2, x3⟩ := a6d.four hd
    have HOR1 := Lib.hid hor1
    have HOR2 := Lib.hid hor2
    have HD := Lib.hid hd
    have HA := Lib.hid rA
    clear hor1 hor2 hd hm hu rU rV rD rM rA r6 hb6
    have n0 : Arr64 (W6.alloc (.cells #[.int .u64 0, .int .u64 0, .int .u64 0, .int .u64 0] 28)) W6.heap.size 28 noneL := fresh0 W6
    obtain ⟨z4, z5, z6, z7⟩ := (a4.alloc (.cells #[.int .u64 0, .int .u64 0, .int .u64 0, .int .u64 0] 28)).four hp
    obtain ⟨y4, y5, y6, y7⟩ := (a5.alloc (.cells #[.int .u64 0, .int .u64 0, .int .u64 0, .int .u64 0] 28)).four hq
    obtain ⟨x4, x5, x6, x7⟩ := (a6.alloc (.cells #[.int .u64 0, .int .u64 0, .int .u64 0, .int .u64 0] 28)).four HD.out
    clear hp hq a4 a5
    obtain ⟨n1, n2, n3, n4⟩ := n0.four rfl
    have f1 := n0.frozen 0
    have f2 := n0.frozen 1
    have f3 := n0.frozen 2
    have f4 := n0.frozen 3
    go_region_law (first | ((first | (refine step_calls (by rfl) 33 _ _ (by rfl) _ (by rfl) (fun _ => by kernel_rfl) (HOR1.out _) ?_) | fail); intro w9 hw9; (first | have a69 := a6d.below hw9 a6d.lt | have a69 := old a6 hw9 (by simp)); obtain ⟨v0, v1, v2, v3⟩ := a69.four HD.out; obtain ⟨v4, v5, v6, v7⟩ := (a69.alloc (.cells #[.int .u64 0, .int .u64 0, .int .u64 0, .int .u64 0] 28)).four HD.out; (first | have af : Arr64 w9 W6.heap.size 28 noneL := fresh (W := W6) hw9 (by simp) | have af := fresh0 w9); obtain ⟨k0, k1, k2, k3⟩ := af.four rfl; have g0 := af.frozen 0; have g1 := af.frozen 1; have g2 := af.frozen 2; have g3 := af.frozen 3) | ((first | (refine step_calls (by rfl) 33 _ _ (by rfl) _ (by rfl) (fun _ => by kernel_rfl) (HOR2.out _) ?_) | fail); intro w8 hw8; (first | have ag := af.below hw8 (by first | exact af.lt | simp) | have ag := fresh0 w8); obtain ⟨l0, l1, l2, l3⟩ := ag.four rfl; have i0 := ag.frozen 0; have i1 := ag.frozen 1; have i2 := ag.frozen 2; have i3 := ag.frozen 3))
    all_goals
      go_wp2_with fail
      go_meet
      case rel =>
        first
        | (refine ⟨_, rfl, ?_⟩
           with_reducible refine nq_late ?_ HA.out
           exact (HQQ.out.drew.below hw9 (Nat.le_refl _)).below hw8 (Nat.le_refl _))
        | (refine ⟨_, rfl, ?_⟩
           with_reducible refine nq_fill (V := w9) ?_ ?_ ag HA.out
           exact HQQ.out.drew.below hw9 (Nat.le_refl _)
           exact ((HQQ.out.drew.below hw9 (Nat.le_refl _)).alloc _).below hw8 (by simp))
        | (refine ⟨_, rfl, ?_⟩
           with_reducible refine nq_fill (V := W6) HQQ.out ?_ ag HA.out
           exact (((HQQ.out.alloc _).drew).below hw9 (by simp)).below hw8 (Nat.le_refl _))
  case rest =>
    obtain ⟨b7, rfl, hW⟩ := hcut
    clear r6 a4 a5 a6 hb6
    by_cases h0 : (s.toList == [117, 112, 112, 101, 114]) = true
    · as_aux_lemma =>
      go_wp2_with (first | (refine wpList_load_row rfl 28 _ rfl b4 rfl 28 _ (0, 0) _ hW.q.a4 Tryd.underlying28 rfl (HZ.out _ isC_nU) ?_) | (refine wpList_store_cells rfl 28 _ _ rfl rfl w.heap.size 28 _ _ rfl rfl hW.q.r (by rw [row64_size, row64_size, (isC_nU).1]; rfl) (HZ.out _ (isC_nU)) (row64_one _) ?_))
      refine bodyPost_ret (results_cell_tmp rfl _ _ w.heap.size 28 (row64 (nU)) (0, 0) _ rfl (setRow_heap _ _ _ _ _ _ hW.q.r) Tryd.underlying28 rfl (HZ.out _ (isC_nU))) rfl ?_
      exact nm_ret s _ (by rw [of_list s _ h0 ⟨#[117, 112, 112, 101, 114]⟩ (by decide +kernel)]; decide +kernel) (by decide +kernel) (below_setRowC hW.q.bel (Nat.le_refl _) _)
    replace h0 : (s.toList == [117, 112, 112, 101, 114]) = false := by simpa using h0
    by_cases h1 : (s.toList == [108, 111, 119, 101, 114]) = true
    · as_aux_lemma =>
      go_wp2_with (first | (refine wpList_load_row rfl 28 _ rfl b5 rfl 28 _ (0, 0) _ hW.q.a5 Tryd.underlying28 rfl (HZ.out _ isC_nV) ?_) | (refine wpList_store_cells rfl 28 _ _ rfl rfl w.heap.size 28 _ _ rfl rfl hW.q.r (by rw [row64_size, row64_size, (isC_nV).1]; rfl) (HZ.out _ (isC_nV)) (row64_one _) ?_))
      refine bodyPost_ret (results_cell_tmp rfl _ _ w.heap.size 28 (row64 (nV)) (0, 0) _ rfl (setRow_heap _ _ _ _ _ _ hW.q.r) Tryd.underlying28 rfl (HZ.out _ (isC_nV))) rfl ?_
      exact nm_ret s _ (by rw [of_list s _ h1 ⟨#[108, 111, 119, 101, 114]⟩ (by decide +kernel)]; decide +kernel) (by decide +kernel) (below_setRowC hW.q.bel (Nat.le_refl _) _)
    replace h1 : (s.toList == [108, 111, 119, 101, 114]) = false := by simpa using h1
    by_cases h2 : (s.toList == [97, 108, 112, 104, 97]) = true
    · as_aux_lemma =>
      go_wp2_with (first | (refine wpList_load_row rfl 28 _ rfl b4 rfl 28 _ (0, 0) _ hW.q.a4 Tryd.underlying28 rfl (HZ.out _ isC_nU) ?_) | (refine wpList_load_row rfl 28 _ rfl b5 rfl 28 _ (0, 0) _ hW.q.a5 Tryd.underlying28 rfl (HZ.out _ isC_nV) ?_))
      refine (refOr_any _ nU nV isC_nU isC_nV).mono ?_
      rintro e w9 ⟨rfl, hb9⟩
      have y9 := hW.below hb9 (Nat.le_refl _)
      go_wp2_with (refine wpList_store_cells rfl 28 _ _ rfl rfl w.heap.size 28 _ _ rfl rfl y9.q.r (by rw [row64_size, row64_size, (isC_or _ _ isC_nU isC_nV).1]; rfl) (HZ.out _ (isC_or _ _ isC_nU isC_nV)) (row64_one _) ?_)
      refine bodyPost_ret (results_cell_tmp rfl _ _ w.heap.size 28 (row64 (orL nU nV)) (0, 0) _ rfl (setRow_heap _ _ _ _ _ _ y9.q.r) Tryd.underlying28 rfl (HZ.out _ (isC_or _ _ isC_nU isC_nV))) rfl ?_
      exact nm_ret s _ (by rw [of_list s _ h2 ⟨#[97, 108, 112, 104, 97]⟩ (by decide +kernel)]; decide +kernel) (by decide +kernel) (below_setRowC y9.q.bel (Nat.le_refl _) _)
    replace h2 : (s.toList == [97, 108, 112, 104, 97]) = false := by simpa using h2
    by_cases h3 : (s.toList == [100, 105, 103, 105, 116]) = true
    · as_aux_lemma =>
      go_wp2_with (first | (refine wpList_load_row rfl 28 _ rfl b6 rfl 28 _ (0, 0) _ hW.q.a6 Tryd.underlying28 rfl (HZ.out _ isC_nD) ?_) | (refine wpList_store_cells rfl 28 _ _ rfl rfl w.heap.size 28 _ _ rfl rfl hW.q.r (by rw [row64_size, row64_size, (isC_nD).1]; rfl) (HZ.out _ (isC_nD)) (row64_one _) ?_))
      refine bodyPost_ret (results_cell_tmp rfl _ _ w.heap.size 28 (row64 (nD)) (0, 0) _ rfl (setRow_heap _ _ _ _ _ _ hW.q.r) Tryd.underlying28 rfl (HZ.out _ (isC_nD))) rfl ?_
      exact nm_ret s _ (by rw [of_list s _ h3 ⟨#[100, 105, 103, 105, 116]⟩ (by decide +kernel)]; decide +kernel) (by decide +kernel) (below_setRowC hW.q.bel (Nat.le_refl _) _)
    replace h3 : (s.toList == [100, 105, 103, 105, 116]) = false := by simpa using h3
    by_cases h4 : (s.toList == [97, 108, 110, 117, 109]) = true
    · as_aux_lemma =>
      go_wp2_with (first | (refine wpList_load_row rfl 28 _ rfl b7 rfl 28 _ (0, 0) _ hW.a7 Tryd.underlying28 rfl (HZ.out _ isC_nA) ?_) | (refine wpList_store_cells rfl 28 _ _ rfl rfl w.heap.size 28 _ _ rfl rfl hW.q.r (by rw [row64_size, row64_size, (isC_nA).1]; rfl) (HZ.out _ (isC_nA)) (row64_one _) ?_))
      refine bodyPost_ret (results_cell_tmp rfl _ _ w.heap.size 28 (row64 (nA)) (0, 0) _ rfl (setRow_heap _ _ _ _ _ _ hW.q.r) Tryd.underlying28 rfl (HZ.out _ (isC_nA))) rfl ?_
      exact nm_ret s _ (by rw [of_list s _ h4 ⟨#[97, 108, 110, 117, 109]⟩ (by decide +kernel)]; decide +kernel) (by decide +kernel) (below_setRowC hW.q.bel (Nat.le_refl _) _)
    replace h4 : (s.toList == [97, 108, 110, 117, 109]) = false := by simpa using h4
    by_cases h5 : (s.toList == [120, 100, 105, 103, 105, 116]) = true
    · as_aux_lemma =>
      obtain ⟨d0, d1, d2, d3, hd⟩ := isC_words nD isC_nD
      obtain ⟨u0, u1, u2, u3, hu⟩ := isC_words (orL nD (orL (rangeL 65 70) (rangeL 97 102))) (isC_or _ _ isC_nD (isC_or _ _ (isC_range 65 70) (isC_range 97 102)))
      have rD : row64 (nD) = #[.int .u64 (d0 : Int), .int .u64 (d1 : Int), .int .u64 (d2 : Int), .int .u64 (d3 : Int)] := by rw [hd]; rfl
      have rX : row64 (orL nD (orL (rangeL 65 70) (rangeL 97 102))) = #[.int .u64 (u0 : Int), .int .u64 (u1 : Int), .int .u64 (u2 : Int), .int .u64 (u3 : Int)] := by rw [hu]; rfl
      have c1 := fun W => refRangeI W 65 70 65 70 rfl rfl (by decide) (by decide)
      have c2 := fun W => refRangeI W 97 102 97 102 rfl rfl (by decide) (by decide)
      have c3 := fun W => refOr_any W (rangeL 65 70) (rangeL 97 102) (isC_range _ _) (isC_range _ _)
      have c4 := fun W => refOr_any W nD (orL (rangeL 65 70) (rangeL 97 102)) isC_nD (isC_or _ _ (isC_range _ _) (isC_range _ _))
      rw [rD, rX] at c4
      have HC1 := Lib.hid c1
      have HC2 := Lib.hid c2
      have HC3 := Lib.hid c3
      have HC4 := Lib.hid c4
      have HD := Lib.hid hd
      have HU := Lib.hid rX
      clear c1 c2 c3 c4 hd hu rD rX
      have hc := hW.below (Below.refl _ _).drew (Nat.le_refl _)
      obtain ⟨x0, x1, x2, x3⟩ := hc.q.a6.four HD.out
      obtain ⟨k0, k1, k2, k3⟩ := hc.q.r.four rfl
      have g0 := hc.q.r.frozen 0
      have g1 := hc.q.r.frozen 1
      have g2 := hc.q.r.frozen 2
      have g3 := hc.q.r.frozen 3
      clear hW
      go_wp2_with fail
      go_region_law (first | ((first | (refine step_calls (by rfl) 39 _ _ (by rfl) _ (by rfl) (fun _ => by kernel_rfl) (HC1.out _) ?_) | fail); intro w9 hw9; replace hc := hc.below hw9 (Nat.le_refl _); obtain ⟨x0, x1, x2, x3⟩ := hc.q.a6.four HD.out; obtain ⟨k0, k1, k2, k3⟩ := hc.q.r.four rfl; have g0 := hc.q.r.frozen 0; have g1 := hc.q.r.frozen 1; have g2 := hc.q.r.frozen 2; have g3 := hc.q.r.frozen 3) | ((first | (refine step_calls (by rfl) 39 _ _ (by rfl) _ (by rfl) (fun _ => by kernel_rfl) (HC2.out _) ?_) | fail); intro w9 hw9; replace hc := hc.below hw9 (Nat.le_refl _); obtain ⟨x0, x1, x2, x3⟩ := hc.q.a6.four HD.out; obtain ⟨k0, k1, k2, k3⟩ := hc.q.r.four rfl; have g0 := hc.q.r.frozen 0; have g1 := hc.q.r.frozen 1; have g2 := hc.q.r.frozen 2; have g3 := hc.q.r.frozen 3) | ((first | (refine step_calls (by rfl) 33 _ _ (by rfl) _ (by rfl) (fun _ => by kernel_rfl) (HC3.out _) ?_) | fail); intro w9 hw9; replace hc := hc.below hw9 (Nat.le_refl _); obtain ⟨x0, x1, x2, x3⟩ := hc.q.a6.four HD.out; obtain ⟨k0, k1, k2, k3⟩ := hc.q.r.four rfl; have g0 := hc.q.r.frozen 0; have g1 := hc.q.r.frozen 1; have g2 := hc.q.r.frozen 2; have g3 := hc.q.r.frozen 3) | ((first | (refine step_calls (by rfl) 33 _ _ (by rfl) _ (by rfl) (fun _ => by kernel_rfl) (HC4.out _) ?_) | fail); intro w9 hw9; replace hc := hc.below hw9 (Nat.le_refl _); obtain ⟨x0, x1, x2, x3⟩ := hc.q.a6.four HD.out; obtain ⟨k0, k1, k2, k3⟩ := hc.q.r.four rfl; have g0 := hc.q.r.frozen 0; have g1 := hc.q.r.frozen 1; have g2 := hc.q.r.frozen 2; have g3 := hc.q.r.frozen 3))
      all_goals
        have HX := Lib.hid (arr_set4 hc.q.r HU.out)
        have HB := Lib.hid (below_set4 hc.q.bel (Nat.le_refl _) u0 u1 u2 u3)
        clear x0 x1 x2 x3 k0 k1 k2 k3 g0 g1 g2 g3 hc
        go_wp2_with fail
        refine bodyPost_ret (results_cell_tmp rfl _ _ w.heap.size 28 (row64 (orL nD (orL (rangeL 65 70) (rangeL 97 102)))) (0, 0) _ rfl HX.out Tryd.underlying28 rfl (HZ.out _ (isC_or _ _ isC_nD (isC_or _ _ (isC_range 65 70) (isC_range 97 102))))) rfl ?_
        exact nm_ret s _ (by rw [of_list s _ h5 ⟨#[120, 100, 105, 103, 105, 116]⟩ (by decide +kernel)]; decide +kernel) (by decide +kernel) HB.out
    replace h5 : (s.toList == [120, 100, 105, 103, 105, 116]) = false := by simpa using h5
    by_cases h6 : (s.toList == [98, 108, 97, 110, 107]) = true
    · as_aux_lemma =>
      go_wp2_with fail
      refine (refOf_any _ _ [9, 32] (SB.lit _ 5 [9, 32] #[.int .u8 9, .int .u8 32] (0, 0) 2 rfl (by decide) (by decide))).mono ?_
      rintro e w9 ⟨rfl, hb9⟩
      have y9 := (hW.below ((Below.refl wc.heap.size wc).alloc (Nat.le_refl _) _) (Nat.le_refl _)).below hb9 (Nat.le_refl _)
      go_wp2_with (refine wpList_store_cells rfl 28 _ _ rfl rfl w.heap.size 28 _ _ rfl rfl y9.q.r (by rw [row64_size, row64_size, (isC_ofL _).1]; rfl) (HZ.out _ (isC_ofL _)) (row64_one _) ?_)
      refine bodyPost_ret (results_cell_tmp rfl _ _ w.heap.size 28 (row64 (ofL [9, 32])) (0, 0) _ rfl (setRow_heap _ _ _ _ _ _ y9.q.r) Tryd.underlying28 rfl (HZ.out _ (isC_ofL _))) rfl ?_
      exact nm_ret s _ (by rw [of_list s _ h6 ⟨#[98, 108, 97, 110, 107]⟩ (by decide +kernel)]; decide +kernel) (by decide +kernel) (below_setRowC y9.q.bel (Nat.le_refl _) _)
    replace h6 : (s.toList == [98, 108, 97, 110, 107]) = false := by simpa using h6
    by_cases h7 : (s.toList == [115, 112, 97, 99, 101]) = true
    · as_aux_lemma =>
      go_wp2_with fail
      refine (refRangeI _ 9 13 9 13 rfl rfl (by decide) (by decide)).mono ?_
      rintro e w8 ⟨rfl, hb8⟩
      have y8 := hW.below hb8 (Nat.le_refl _)
      go_wp2_with fail
      refine (refOf_any _ _ [32] (SB.lit _ 5 [32] #[.int .u8 32] (0, 0) 1 rfl (by decide) (by decide))).mono ?_
      rintro e w9 ⟨rfl, hb9⟩
      have y9 := (y8.below ((Below.refl w8.heap.size w8).alloc (Nat.le_refl _) _) (Nat.le_refl _)).below hb9 (Nat.le_refl _)
      go_wp2_with fail
      refine (refOr_any _ (rangeL 9 13) (ofL [32]) (isC_range _ _) (isC_ofL _)).mono ?_
      rintro e w10 ⟨rfl, hb10⟩
      have y10 := y9.below hb10 (Nat.le_refl _)
      go_wp2_with (refine wpList_store_cells rfl 28 _ _ rfl rfl w.heap.size 28 _ _ rfl rfl y10.q.r (by rw [row64_size, row64_size, (isC_or _ _ (isC_range 9 13) (isC_ofL [32])).1]; rfl) (HZ.out _ (isC_or _ _ (isC_range 9 13) (isC_ofL [32]))) (row64_one _) ?_)
      refine bodyPost_ret (results_cell_tmp rfl _ _ w.heap.size 28 (row64 (orL (rangeL 9 13) (ofL [32]))) (0, 0) _ rfl (setRow_heap _ _ _ _ _ _ y10.q.r) Tryd.underlying28 rfl (HZ.out _ (isC_or _ _ (isC_range 9 13) (isC_ofL [32])))) rfl ?_
      exact nm_ret s _ (by rw [of_list s _ h7 ⟨#[115, 112, 97, 99, 101]⟩ (by decide +kernel)]; decide +kernel) (by decide +kernel) (below_setRowC y10.q.bel (Nat.le_refl _) _)
    replace h7 : (s.toList == [115, 112, 97, 99, 101]) = false := by simpa using h7
    by_cases h8 : (s.toList == [99, 110, 116, 114, 108]) = true
    · as_aux_lemma =>
      go_wp2_with fail
      refine (refRangeI _ 0 31 0 31 rfl rfl (by decide) (by decide)).mono ?_
      rintro e w8 ⟨rfl, hb8⟩
      have y8 := hW.below hb8 (Nat.le_refl _)
      go_wp2_with fail
      refine (refOf_any _ _ [127] (SB.lit _ 5 [127] #[.int .u8 127] (0, 0) 1 rfl (by decide) (by decide))).mono ?_
      rintro e w9 ⟨rfl, hb9⟩
      have y9 := (y8.below ((Below.refl w8.heap.size w8).alloc (Nat.le_refl _) _) (Nat.le_refl _)).below hb9 (Nat.le_refl _)
      go_wp2_with fail
      refine (refOr_any _ (rangeL 0 31) (ofL [127]) (isC_range _ _) (isC_ofL _)).mono ?_
      rintro e w10 ⟨rfl, hb10⟩
      have y10 := y9.below hb10 (Nat.le_refl _)
      go_wp2_with (refine wpList_store_cells rfl 28 _ _ rfl rfl w.heap.size 28 _ _ rfl rfl y10.q.r (by rw [row64_size, row64_size, (isC_or _ _ (isC_range 0 31) (isC_ofL [127])).1]; rfl) (HZ.out _ (isC_or _ _ (isC_range 0 31) (isC_ofL [127]))) (row64_one _) ?_)
      refine bodyPost_ret (results_cell_tmp rfl _ _ w.heap.size 28 (row64 (orL (rangeL 0 31) (ofL [127]))) (0, 0) _ rfl (setRow_heap _ _ _ _ _ _ y10.q.r) Tryd.underlying28 rfl (HZ.out _ (isC_or _ _ (isC_range 0 31) (isC_ofL [127])))) rfl ?_
      exact nm_ret s _ (by rw [of_list s _ h8 ⟨#[99, 110, 116, 114, 108]⟩ (by decide +kernel)]; decide +kernel) (by decide +kernel) (below_setRowC y10.q.bel (Nat.le_refl _) _)
    replace h8 : (s.toList == [99, 110, 116, 114, 108]) = false := by simpa using h8
    by_cases h9 : (s.toList == [103, 114, 97, 112, 104]) = true
    · as_aux_lemma =>
      go_wp2_with fail
      refine (refRangeI _ 33 126 33 126 rfl rfl (by decide) (by decide)).mono ?_
      rintro e w9 ⟨rfl, hb9⟩
      have y9 := hW.below hb9 (Nat.le_refl _)
      go_wp2_with (refine wpList_store_cells rfl 28 _ _ rfl rfl w.heap.size 28 _ _ rfl rfl y9.q.r (by rw [row64_size, row64_size, (isC_range 33 126).1]; rfl) (HZ.out _ (isC_range 33 126)) (row64_one _) ?_)
      refine bodyPost_ret (results_cell_tmp rfl _ _ w.heap.size 28 (row64 (rangeL 33 126)) (0, 0) _ rfl (setRow_heap _ _ _ _ _ _ y9.q.r) Tryd.underlying28 rfl (HZ.out _ (isC_range 33 126))) rfl ?_
      exact nm_ret s _ (by rw [of_list s _ h9 ⟨#[103, 114, 97, 112, 104]⟩ (by decide +kernel)]; decide +kernel) (by decide +kernel) (below_setRowC y9.q.bel (Nat.le_refl _) _)
    replace h9 : (s.toList == [103, 114, 97, 112, 104]) = false := by simpa using h9
    by_cases h10 : (s.toList == [112, 114, 105, 110, 116]) = true
    · as_aux_lemma =>
      go_wp2_with fail
      refine (refRangeI _ 32 126 32 126 rfl rfl (by decide) (by decide)).mono ?_
      rintro e w9 ⟨rfl, hb9⟩
      have y9 := hW.below hb9 (Nat.le_refl _)
      go_wp2_with (refine wpList_store_cells rfl 28 _ _ rfl rfl w.heap.size 28 _ _ rfl rfl y9.q.r (by rw [row64_size, row64_size, (isC_range 32 126).1]; rfl) (HZ.out _ (isC_range 32 126)) (row64_one _) ?_)
      refine bodyPost_ret (results_cell_tmp rfl _ _ w.heap.size 28 (row64 (rangeL 32 126)) (0, 0) _ rfl (setRow_heap _ _ _ _ _ _ y9.q.r) Tryd.underlying28 rfl (HZ.out _ (isC_range 32 126))) rfl ?_
      exact nm_ret s _ (by rw [of_list s _ h10 ⟨#[112, 114, 105, 110, 116]⟩ (by decide +kernel)]; decide +kernel) (by decide +kernel) (below_setRowC y9.q.bel (Nat.le_refl _) _)
    replace h10 : (s.toList == [112, 114, 105, 110, 116]) = false := by simpa using h10
    by_cases h11 : (s.toList == [112, 117, 110, 99, 116]) = true
    · as_aux_lemma =>
      obtain ⟨d0, d1, d2, d3, hd⟩ := isC_words nA isC_nA
      obtain ⟨u0, u1, u2, u3, hu⟩ := isC_words (andL (rangeL 33 126) (notL nA)) (isC_and _ _ (isC_range 33 126) (isC_not _ isC_nA))
      have rD : row64 (nA) = #[.int .u64 (d0 : Int), .int .u64 (d1 : Int), .int .u64 (d2 : Int), .int .u64 (d3 : Int)] := by rw [hd]; rfl
      have rX : row64 (andL (rangeL 33 126) (notL nA)) = #[.int .u64 (u0 : Int), .int .u64 (u1 : Int), .int .u64 (u2 : Int), .int .u64 (u3 : Int)] := by rw [hu]; rfl
      have c1 := fun W => refRangeI W 33 126 33 126 rfl rfl (by decide) (by decide)
      have c2 := fun W => refNot_any W nA isC_nA
      have c3 := fun W => refAnd_any W (rangeL 33 126) (notL nA) (isC_range _ _) (isC_not _ isC_nA)
      rw [rD] at c2
      rw [rX] at c3
      have HC1 := Lib.hid c1
      have HC2 := Lib.hid c2
      have HC3 := Lib.hid c3
      have HD := Lib.hid hd
      have HU := Lib.hid rX
      clear c1 c2 c3 hd hu rD rX
      have hc := hW.below (Below.refl _ _).drew (Nat.le_refl _)
      obtain ⟨x0, x1, x2, x3⟩ := hc.a7.four HD.out
      obtain ⟨k0, k1, k2, k3⟩ := hc.q.r.four rfl
      have g0 := hc.q.r.frozen 0
      have g1 := hc.q.r.frozen 1
      have g2 := hc.q.r.frozen 2
      have g3 := hc.q.r.frozen 3
      clear hW
      go_wp2_with fail
      go_region_law (first | ((first | (refine step_calls (by rfl) 39 _ _ (by rfl) _ (by rfl) (fun _ => by kernel_rfl) (HC1.out _) ?_) | fail); intro w9 hw9; replace hc := hc.below hw9 (Nat.le_refl _); obtain ⟨x0, x1, x2, x3⟩ := hc.a7.four HD.out; obtain ⟨k0, k1, k2, k3⟩ := hc.q.r.four rfl; have g0 := hc.q.r.frozen 0; have g1 := hc.q.r.frozen 1; have g2 := hc.q.r.frozen 2; have g3 := hc.q.r.frozen 3) | ((first | (refine step_calls (by rfl) 34 _ _ (by rfl) _ (by rfl) (fun _ => by kernel_rfl) (HC2.out _) ?_) | fail); intro w9 hw9; replace hc := hc.below hw9 (Nat.le_refl _); obtain ⟨x0, x1, x2, x3⟩ := hc.a7.four HD.out; obtain ⟨k0, k1, k2, k3⟩ := hc.q.r.four rfl; have g0 := hc.q.r.frozen 0; have g1 := hc.q.r.frozen 1; have g2 := hc.q.r.frozen 2; have g3 := hc.q.r.frozen 3) | ((first | (refine step_calls (by rfl) 81 _ _ (by rfl) _ (by rfl) (fun _ => by kernel_rfl) (HC3.out _) ?_) | fail); intro w9 hw9; replace hc := hc.below hw9 (Nat.le_refl _); obtain ⟨x0, x1, x2, x3⟩ := hc.a7.four HD.out; obtain ⟨k0, k1, k2, k3⟩ := hc.q.r.four rfl; have g0 := hc.q.r.frozen 0; have g1 := hc.q.r.frozen 1; have g2 := hc.q.r.frozen 2; have g3 := hc.q.r.frozen 3))
      all_goals
        have HX := Lib.hid (arr_set4 hc.q.r HU.out)
        have HB := Lib.hid (below_set4 hc.q.bel (Nat.le_refl _) u0 u1 u2 u3)
        clear x0 x1 x2 x3 k0 k1 k2 k3 g0 g1 g2 g3 hc
        go_wp2_with fail
        refine bodyPost_ret (results_cell_tmp rfl _ _ w.heap.size 28 (row64 (andL (rangeL 33 126) (notL nA))) (0, 0) _ rfl HX.out Tryd.underlying28 rfl (HZ.out _ (isC_and _ _ (isC_range 33 126) (isC_not _ isC_nA)))) rfl ?_
        exact nm_ret s _ (by rw [of_list s _ h11 ⟨#[112, 117, 110, 99, 116]⟩ (by decide +kernel)]; decide +kernel) (by decide +kernel) HB.out
    replace h11 : (s.toList == [112, 117, 110, 99, 116]) = false := by simpa using h11
    have HNO : Hid (namedL s = noneL) := Lib.hid (named_no s (fun l hl => by simp only [allN, List.mem_cons, List.mem_nil_iff, or_false] at hl; rcases hl with rfl | rfl | rfl | rfl | rfl | rfl | rfl | rfl | rfl | rfl | rfl | rfl <;> assumption))
    go_wp2_with (refine wpList_store_cells rfl 28 _ _ rfl rfl w.heap.size 28 _ (row64 noneL) rfl rfl hW.q.r rfl (HZ.out _ isC_none) (row64_one _) ?_)
    refine bodyPost_ret (results_cell_tmp rfl _ _ w.heap.size 28 (row64 noneL) (0, 0) _ rfl (setRow_heap _ _ _ _ _ _ hW.q.r) Tryd.underlying28 rfl (HZ.out _ isC_none)) rfl ?_
    exact nm_ret0 s HNO.out (below_setRowC hW.q.bel (Nat.le_refl _) _)
end Go.Proofs.YthegepiafodpjaaDoor

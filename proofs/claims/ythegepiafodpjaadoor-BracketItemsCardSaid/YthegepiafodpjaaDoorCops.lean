/-
  Classes: a block of four words; Or, And, Not, Size.
-/
import Derived.Test.YthegepiafodpjaaDoorCls
namespace Go.Proofs.YthegepiafodpjaaDoor
open Go.RowKit

theorem row64_one (l : List Nat) : ∀ v ∈ (row64 l).toList, v.oneCell' = true := by
  intro v hv
  simp only [row64, List.mem_map] at hv
  obtain ⟨x, _, rfl⟩ := hv
  rfl
theorem heap_alloc3 (w : World) (o1 o2 o3 : Obj) : (((w.alloc o1).alloc o2).alloc o3).heap[w.heap.size + 1 + 1]? = some o3 := by
  have := heap_alloc_new ((w.alloc o1).alloc o2) o3
  rwa [World.size_alloc, World.size_alloc] at this
theorem heap_alloc4 (w : World) (o1 o2 o3 o4 : Obj) : ((((w.alloc o1).alloc o2).alloc o3).alloc o4).heap[w.heap.size + 1 + 1 + 1]? = some o4 := by
  have := heap_alloc_new (((w.alloc o1).alloc o2).alloc o3) o4
  rwa [World.size_alloc, World.size_alloc, World.size_alloc] at this
theorem below_setRowC {B : Nat} {a w : World} (h : Below B a w) {g : Nat} (hg : B ≤ g) (cs : Array Value) : Below B a (w.setRow g cs) :=
  h.trans ⟨rfl, rfl, rfl, by simp, fun k hk => _root_.Go.setRow_other w g k cs (by omega)⟩
section
variable {P : Program}
/-- Whole cells are stored into a block. -/
theorem run_storeAt_cells (w : World) (g : Nat) (t ty : TypeId) (old cs : Array Value) (hg : w.heap[g]? = some (.cells old t (0, 0))) (hs : old.size = cs.size)
    (hi : (P.info? ty).map (·.size) = some cs.size) (h1 : ∀ v ∈ cs.toList, v.oneCell' = true) :
    (Instr.storeAt ty (.pointer (some ⟨g, 0, none⟩)) (.agg cs)).run P w = .ok () (w.setRow g cs) := by
  cases hq : P.info? ty with
  | none => simp [hq] at hi
  | some i =>
    have hsz : i.size = cs.size := by simpa [hq] using hi
    have hst := run_storeCells_at P g 0 t cs.toList 0 old w hg (by simp [hs]) h1
    have e : (old.toList.take (0 + 0) ++ cs.toList ++ old.toList.drop (0 + 0 + cs.toList.length)).toArray = cs := by
      apply Array.ext'
      simp
      omega
    rw [e] at hst
    simp [Instr.storeAt, Instr.sureAddr, storeVar, sizeOf, typeInfo, hq, hsz, Value.cells, hst]
theorem wpList_store_cells {ops : Array Oper} {rest : List Oper} {o : Oper} {a : Act} {w : World} {Q : Exit → Act → World → Prop} (hgd : o.guard = none) (ty : TypeId) (x y : Operand) (ho : o.op = .store ty x y) (hd : o.dst = none)
    (g : Nat) (t : TypeId) (old cs : Array Value) (hx : a.eval x = .pointer (some ⟨g, 0, none⟩)) (hy : a.eval y = .agg cs) (hg : w.heap[g]? = some (.cells old t (0, 0))) (hs : old.size = cs.size)
    (hi : (P.info? ty).map (·.size) = some cs.size) (h1 : ∀ v ∈ cs.toList, v.oneCell' = true)
    (h : wpList P ops Q rest a (w.setRow g cs)) : wpList P ops Q (o :: rest) a w := by
  refine wpList_plain hgd fun K hK => ?_
  unfold Oper.wp execOp
  simp only [ho, hx, hy, Sem.run_bind, run_storeAt_cells w g t ty old cs hg hs hi h1, Result.andThen_ok]
  exact hK _ _ (by rw [hd]; exact h)
end

/-- Block g of w is just the words l, of type T. -/
def Arr64 (w : World) (g : Nat) (T : TypeId) (l : List Nat) : Prop := w.heap[g]? = some (.cells (row64 l) T (0, 0))
theorem Arr64.lt {w : World} {g : Nat} {T : TypeId} {l : List Nat} (h : Arr64 w g T l) : g < w.heap.size := (Array.getElem?_eq_some_iff.1 h).1
theorem Arr64.cell {w : World} {g : Nat} {T : TypeId} {l : List Nat} (h : Arr64 w g T l) (i : Nat) (hi : i < l.length) : w.cell? ⟨g, i, none⟩ = some (.int .u64 ((l[i]?.getD 0 : Nat) : Int)) := by
  rw [cell_of_row w g i _ T (0, 0) h, row64_get l i hi]
theorem Arr64.frozen {w : World} {g : Nat} {T : TypeId} {l : List Nat} (h : Arr64 w g T l) (i : Nat) : w.frozen? ⟨g, i, none⟩ = false := frozen_of_row w g i _ T h
theorem Arr64.set {w : World} {g : Nat} {T : TypeId} {l : List Nat} (h : Arr64 w g T l) (i x : Nat) : Arr64 (w.setCell ⟨g, i, none⟩ (.int .u64 (x : Int))) g T (l.set i x) := by
  unfold Arr64
  rw [heap_setCell_same w g i _ T _ h, row64_set]
theorem Arr64.other {w : World} {g : Nat} {T : TypeId} {l : List Nat} (h : Arr64 w g T l) (a : Addr) (hne : g ≠ a.block) (v : Value) : Arr64 (w.setCell a v) g T l := by
  unfold Arr64
  rw [heap_setCell_other w a g v hne]
  exact h
theorem Arr64.alloc {w : World} {g : Nat} {T : TypeId} {l : List Nat} (h : Arr64 w g T l) (o : Obj) : Arr64 (w.alloc o) g T l := by
  unfold Arr64
  rw [Below.heap_alloc w o g h.lt]
  exact h
theorem Arr64.new (w : World) (T : TypeId) (l : List Nat) : Arr64 (w.alloc (.cells (row64 l) T)) w.heap.size T l := heap_alloc_new w _
theorem Arr64.drewN {w : World} {g : Nat} {T : TypeId} {l : List Nat} (h : Arr64 w g T l) (n : Nat) : Arr64 (w.drewN n) g T l := h
theorem Arr64.below {w w' : World} {g : Nat} {T : TypeId} {l : List Nat} (h : Arr64 w g T l) {B : Nat} (hb : Below B w w') (hg : g < B) : Arr64 w' g T l := by
  unfold Arr64
  rw [hb.block g hg]
  exact h

/-- The first k words by f, the others as they are. -/
def stepL (f : Nat → Nat → Nat) (k : Nat) (a b : List Nat) : List Nat := (List.range 4).map fun j => if j < k then f (a[j]?.getD 0) (b[j]?.getD 0) else a[j]?.getD 0
theorem step_len (f : Nat → Nat → Nat) (k : Nat) (a b : List Nat) : (stepL f k a b).length = 4 := by simp [stepL]
theorem step_get (f : Nat → Nat → Nat) (k : Nat) (a b : List Nat) (j : Nat) (h : j < 4) : (stepL f k a b)[j]?.getD 0 = if j < k then f (a[j]?.getD 0) (b[j]?.getD 0) else a[j]?.getD 0 := by
  simp [stepL, h]
theorem list4_ext (l m : List Nat) (hl : l.length = 4) (hm : m.length = 4) (h : ∀ j : Nat, j < 4 → l[j]?.getD 0 = m[j]?.getD 0) : l = m := by
  apply List.ext_getElem (by rw [hl, hm])
  intro i h1 h2
  have := h i (by omega)
  simpa [h1, h2] using this
theorem step_zero (f : Nat → Nat → Nat) (a b : List Nat) (h : a.length = 4) : stepL f 0 a b = a :=
  list4_ext _ _ (step_len _ _ _ _) h fun j hj => by rw [step_get _ _ _ _ _ hj]; simp
theorem step_next (f : Nat → Nat → Nat) (k : Nat) (a b : List Nat) (h : k < 4) : (stepL f k a b).set k (f (a[k]?.getD 0) (b[k]?.getD 0)) = stepL f (k + 1) a b := by
  refine list4_ext _ _ (by rw [List.length_set, step_len]) (step_len _ _ _ _) fun j hj => ?_
  rw [step_get _ _ _ _ _ hj, List.getElem?_set]
  split
  · subst_vars
    rw [if_pos (by rw [step_len]; exact h), if_pos (by omega)]; rfl
  · rw [step_get _ _ _ _ _ hj]
    split <;> split <;> first | rfl | omega
theorem step_isC (f : Nat → Nat → Nat) (k : Nat) (a b : List Nat) (ha : IsC a) (hb : IsC b) (hf : ∀ x y : Nat, x < 18446744073709551616 → y < 18446744073709551616 → f x y < 18446744073709551616) : IsC (stepL f k a b) := by
  refine ⟨step_len _ _ _ _, fun j => ?_⟩
  by_cases hj : j < 4
  · rw [step_get _ _ _ _ _ hj]
    split
    · exact hf _ _ (ha.2 j) (hb.2 j)
    · exact ha.2 j
  · rw [List.getElem?_eq_none (by rw [step_len]; omega)]; simp
def orL (a b : List Nat) : List Nat := stepL (fun x y => x ||| y) 4 a b
def andL (a b : List Nat) : List Nat := stepL (fun x y => x &&& y) 4 a b
def notL (a : List Nat) : List Nat := stepL (fun _ y => 18446744073709551615 - y) 4 noneL a
theorem or_lt (x y : Nat) (h : x < 18446744073709551616) (k : y < 18446744073709551616) : x ||| y < 18446744073709551616 := by simpa using Nat.or_lt_two_pow (n := 64) (by simpa using h) (by simpa using k)
theorem and_lt (x y : Nat) (h : x < 18446744073709551616) : x &&& y < 18446744073709551616 := Nat.lt_of_le_of_lt Nat.and_le_left h
theorem isC_or (a b : List Nat) (ha : IsC a) (hb : IsC b) : IsC (orL a b) := step_isC _ _ _ _ ha hb or_lt
theorem isC_and (a b : List Nat) (ha : IsC a) (hb : IsC b) : IsC (andL a b) := step_isC _ _ _ _ ha hb fun x y h _ => and_lt x y h
theorem isC_not (a : List Nat) (ha : IsC a) : IsC (notL a) := step_isC _ _ _ _ isC_none ha fun x y _ _ => by omega
theorem has_or (a b : List Nat) (x : Nat) (hx : x < 256) : hasL (orL a b) x = (hasL a x || hasL b x) := by
  unfold hasL orL
  rw [step_get _ _ _ _ _ (by omega), if_pos (by omega), Nat.testBit_or]
theorem has_and (a b : List Nat) (x : Nat) (hx : x < 256) : hasL (andL a b) x = (hasL a x && hasL b x) := by
  unfold hasL andL
  rw [step_get _ _ _ _ _ (by omega), if_pos (by omega), Nat.testBit_and]
theorem has_not (a : List Nat) (ha : IsC a) (x : Nat) (hx : x < 256) : hasL (notL a) x = !hasL a x := by
  unfold hasL notL
  rw [step_get _ _ _ _ _ (by omega), if_pos (by omega)]
  have h1 := ha.2 (x / 64)
  have h2 := Nat.testBit_two_pow_sub_succ (n := 64) (x := a[x / 64]?.getD 0) (by simpa using h1) (x % 64)
  rw [show 2 ^ 64 - (a[x / 64]?.getD 0 + 1) = 18446744073709551615 - a[x / 64]?.getD 0 by omega] at h2
  rw [h2, decide_eq_true (by omega : x % 64 < 64), Bool.true_and]

set_option maxHeartbeats 400000 in
theorem or_any (w : World) (a b : List Nat) (ha : IsC a) (hb : IsC b) :
    Calls Tryd.prog 21 #[.agg (row64 a), .agg (row64 b)] w fun e w' => e = .returned (.agg (row64 (orL a b))) ∧ Below w.heap.size w w' := by
  have hsa : (row64 a).size = 4 := by rw [row64_size, ha.1]
  have hsb : (row64 b).size = 4 := by rw [row64_size, hb.1]
  have ra : Arr64 ((w.alloc (.cells (row64 a) 28)).alloc (.cells (row64 b) 28)) w.heap.size 28 a := (Arr64.new _ _ _).alloc _
  have rb : Arr64 ((w.alloc (.cells (row64 a) 28)).alloc (.cells (row64 b) 28)) (w.heap.size + 1) 28 b := heap_alloc2 _ _ _
  have ab := below_alloc2 w (.cells (row64 a) 28) (.cells (row64 b) 28)
  have HA := Lib.hid ha
  have HB := Lib.hid hb
  have hC := Lib.hid (step_isC (fun x y => x ||| y) 4 a b ha hb or_lt)
  clear ha hb
  go_enter Tryd.func21, Tryd.ntmps21
  go_wp2
  go_loopw [7] (fun i wr => ∃ k : Nat, k ≤ 4 ∧ i = .int .i64 k ∧ Arr64 wr w.heap.size 28 (stepL (fun x y => x ||| y) k a b) ∧ Arr64 wr (w.heap.size + 1) 28 b ∧
    Arr64 wr (w.heap.size + 1 + 1) 28 noneL ∧ Below w.heap.size w wr) (fun i _ => 4 - (intOf i).toNat)
  case atStart => exact ⟨0, by omega, rfl, by rw [step_zero _ _ _ HA.out.1]; exact ra.alloc _, rb.alloc _, heap_alloc3 _ _ _ _, ab.alloc (by simp [World.size_alloc]; omega) _⟩
  case round =>
    obtain ⟨k, hk, rfl, ra, rb, rr, ab⟩ := hrel
    by_cases hlt : k < 4
    · have hca := ra.cell k (by rw [step_len]; exact hlt)
      rw [step_get _ _ _ _ _ hlt, if_neg (Nat.lt_irrefl _)] at hca
      have hfa := ra.frozen k
      have hcb := rb.cell k (by rw [HB.out.1]; exact hlt)
      have hor := u64_or_nat _ _ (HA.out.2 k) (HB.out.2 k)
      have hn := ra.set k (a[k]?.getD 0 ||| b[k]?.getD 0)
      rw [step_next (fun x y => x ||| y) k a b hlt] at hn
      generalize a[k]?.getD 0 ||| b[k]?.getD 0 = y at hor hn
      generalize a[k]?.getD 0 = x1 at hca hor
      generalize b[k]?.getD 0 = x2 at hcb hor
      go_wp2
      go_quiet (fail)
      go_wp2
      go_roundw
      case rel => exact ⟨k + 1, by omega, by go_num, hn, rb.other _ (by simp) _, rr.other _ (by simp; omega) _, (below_drewN ab _).setCell (by simp) _⟩
      case measure => simp [intOf]; omega
    · obtain rfl : k = 4 := by omega
      have HS := Lib.hid (row64_size (stepL (fun x y => x ||| y) 4 a b))
      have H4 := Lib.hid (step_len (fun x y => x ||| y) 4 a b)
      go_wp2_with (first | (refine wpList_load_row rfl 28 _ rfl w.heap.size rfl 28 _ (0, 0) _ ra Tryd.underlying28 rfl (by rw [HS.out, H4.out]; exact infoC) ?_) | (refine wpList_store_cells rfl 28 _ _ rfl rfl (w.heap.size + 1 + 1) 28 _ _ rfl rfl rr (by rw [HS.out, H4.out]; rfl) (by rw [HS.out, H4.out]; exact infoC) (row64_one _) ?_))
      exact ret_cls rfl rfl (setRow_heap _ _ _ _ _ _ rr) Tryd.underlying28 rfl (by rw [HS.out, H4.out]; exact infoC) rfl ⟨rfl, below_setRowC ab (by omega) _⟩

theorem xor_max (x : Nat) (hx : x < 18446744073709551616) : 18446744073709551615 ^^^ x = 18446744073709551615 - x := by
  apply Nat.eq_of_testBit_eq
  intro i
  have h2 := Nat.testBit_two_pow_sub_succ (n := 64) (x := x) (by simpa using hx) i
  rw [show 2 ^ 64 - (x + 1) = 18446744073709551615 - x by omega] at h2
  have h3 : (18446744073709551615 : Nat).testBit i = decide (i < 64) := by
    rw [show (18446744073709551615 : Nat) = 2 ^ 64 - 1 from rfl, Nat.testBit_two_pow_sub_one]
  rw [h2, Nat.testBit_xor, h3]
  by_cases hi : i < 64
  · simp [hi]
  · have : x.testBit i = false := Nat.testBit_lt_two_pow (Nat.lt_of_lt_of_le (by simpa using hx) (Nat.pow_le_pow_right (n := 2) (by omega) (show 64 ≤ i by omega)))
    simp [hi, this]
theorem not_is (x : Nat) (hx : x < 18446744073709551616) : bits .xor .u64 IntKind.u64.max (x : Int) = ((18446744073709551615 - x : Nat) : Int) := by
  rw [show IntKind.u64.max = ((18446744073709551615 : Nat) : Int) from rfl, u64_xor_nat _ _ (by omega) hx, xor_max x hx]

set_option maxHeartbeats 400000 in
theorem not_any (w : World) (b : List Nat) (hb : IsC b) :
    Calls Tryd.prog 28 #[.agg (row64 b)] w fun e w' => e = .returned (.agg (row64 (notL b))) ∧ Below w.heap.size w w' := by
  have hsb : (row64 b).size = 4 := by rw [row64_size, hb.1]
  have rb : Arr64 (w.alloc (.cells (row64 b) 28)) w.heap.size 28 b := Arr64.new _ _ _
  have HB := Lib.hid hb
  have hC := Lib.hid (step_isC (fun _ y => 18446744073709551615 - y) 4 noneL b isC_none hb fun x y _ _ => by omega)
  clear hb
  go_enter Tryd.func28, Tryd.ntmps28
  go_wp2
  go_loopw [6] (fun i wr => ∃ k : Nat, k ≤ 4 ∧ i = .int .i64 k ∧ Arr64 wr (w.heap.size + 1 + 1) 28 (stepL (fun _ y => 18446744073709551615 - y) k noneL b) ∧ Arr64 wr w.heap.size 28 b ∧
    Arr64 wr (w.heap.size + 1) 28 noneL ∧ Below w.heap.size w wr) (fun i _ => 4 - (intOf i).toNat)
  case atStart => exact ⟨0, by omega, rfl, by rw [step_zero _ _ _ rfl]; exact heap_alloc3 _ _ _ _, (rb.alloc _).alloc _, Arr64.alloc (l := noneL) (heap_alloc2 _ _ _) _, (below_alloc2 _ _ _).alloc (by simp [World.size_alloc]; omega) _⟩
  case round =>
    obtain ⟨k, hk, rfl, ra, rb, rr, ab⟩ := hrel
    by_cases hlt : k < 4
    · have hfa := ra.frozen k
      have hcb := rb.cell k (by rw [HB.out.1]; exact hlt)
      have hca := ra.cell k (by rw [step_len]; exact hlt)
      have hn := ra.set k (18446744073709551615 - b[k]?.getD 0)
      rw [step_next (fun _ y => 18446744073709551615 - y) k noneL b hlt] at hn
      have hlb := HB.out.2 k
      generalize b[k]?.getD 0 = x2 at hcb hn hlb
      have hno := not_is x2 hlb
      have hsg : IntKind.u64.signed = false := rfl
      generalize (stepL (fun _ y => 18446744073709551615 - y) k noneL b)[k]?.getD 0 = x3 at hca
      generalize 18446744073709551615 - x2 = y at hno hn
      go_wp2
      go_quiet (fail)
      go_wp2
      go_roundw
      case rel => exact ⟨k + 1, by omega, by go_num, hn, rb.other _ (by simp; omega) _, rr.other _ (by simp) _, (below_drewN ab _).setCell (by simp; omega) _⟩
      case measure => simp [intOf]; omega
    · obtain rfl : k = 4 := by omega
      have HS := Lib.hid (row64_size (stepL (fun _ y => 18446744073709551615 - y) 4 noneL b))
      have H4 := Lib.hid (step_len (fun _ y => 18446744073709551615 - y) 4 noneL b)
      go_wp2_with (first | (refine wpList_load_row rfl 28 _ rfl (w.heap.size + 1 + 1) rfl 28 _ (0, 0) _ ra Tryd.underlying28 rfl (by rw [HS.out, H4.out]; exact infoC) ?_) | (refine wpList_store_cells rfl 28 _ _ rfl rfl (w.heap.size + 1) 28 _ _ rfl rfl rr (by rw [HS.out, H4.out]; rfl) (by rw [HS.out, H4.out]; exact infoC) (row64_one _) ?_))
      exact ret_cls rfl rfl (setRow_heap _ _ _ _ _ _ rr) Tryd.underlying28 rfl (by rw [HS.out, H4.out]; exact infoC) rfl ⟨rfl, below_setRowC ab (by omega) _⟩

theorem Arr64.setRow_other {w : World} {g k : Nat} {T : TypeId} {l : List Nat} (h : Arr64 w g T l) (hne : g ≠ k) (cs : Array Value) : Arr64 (w.setRow k cs) g T l := by
  unfold Arr64
  rw [_root_.Go.setRow_other w k g cs hne]
  exact h
theorem Arr64.four {w : World} {g : Nat} {T : TypeId} {b : List Nat} (h : Arr64 w g T b) {p0 p1 p2 p3 : Nat} (e : b = [p0, p1, p2, p3]) :
    w.cell? ⟨g, 0, none⟩ = some (.int .u64 (p0 : Int)) ∧ w.cell? ⟨g, 1, none⟩ = some (.int .u64 (p1 : Int)) ∧ w.cell? ⟨g, 2, none⟩ = some (.int .u64 (p2 : Int)) ∧ w.cell? ⟨g, 3, none⟩ = some (.int .u64 (p3 : Int)) := by
  subst e
  exact ⟨h.cell 0 (by simp), h.cell 1 (by simp), h.cell 2 (by simp), h.cell 3 (by simp)⟩
theorem upto_skip (acc m : List Nat) (k : Nat) (h : ∀ y : Nat, y < 256 → hasL acc y = (decide (y < k) && hasL m y)) (hp : hasL m k = false) : ∀ y : Nat, y < 256 → hasL acc y = (decide (y < k + 1) && hasL m y) := by
  intro y hy
  rw [h y hy]
  by_cases e : y = k
  · subst e; simp [hp]
  · congr 1
    simp only [decide_eq_decide]
    omega
theorem upto_take (acc m : List Nat) (k : Nat) (h : ∀ y : Nat, y < 256 → hasL acc y = (decide (y < k) && hasL m y)) (hp : hasL m k = true) (hc : IsC acc) (hk : k < 256) : ∀ y : Nat, y < 256 → hasL (withL acc k) y = (decide (y < k + 1) && hasL m y) := by
  intro y hy
  rw [has_with acc k y hc hk, h y hy]
  by_cases e : y = k
  · subst e; simp [hp]
  · have : decide (y < k + 1) = decide (y < k) := by simp only [decide_eq_decide]; omega
    rw [this]; simp [e]
theorem upto_done (acc m : List Nat) (hc : IsC acc) (hm : IsC m) (h : ∀ y : Nat, y < 256 → hasL acc y = (decide (y < 256) && hasL m y)) : acc = m :=
  ext_c acc m hc hm fun x hx => by rw [h x hx, decide_eq_true hx, Bool.true_and]

set_option maxRecDepth 100000 in
set_option maxHeartbeats 1000000 in
theorem refOr_any (w : World) (a b : List Nat) (ha : IsC a) (hb : IsC b) :
    Calls Tryd.prog 33 #[.agg (row64 a), .agg (row64 b)] w fun e w' => e = .returned (.agg (row64 (orL a b))) ∧ Below w.heap.size w w' := by
  have ra : Arr64 ((w.alloc (.cells (row64 a) 28)).alloc (.cells (row64 b) 28)) w.heap.size 28 a := (Arr64.new _ _ _).alloc _
  have rb : Arr64 ((w.alloc (.cells (row64 a) 28)).alloc (.cells (row64 b) 28)) (w.heap.size + 1) 28 b := heap_alloc2 _ _ _
  have ab := below_alloc2 w (.cells (row64 a) 28) (.cells (row64 b) 28)
  have HA := Lib.hid ha
  have HB := Lib.hid hb
  have HM := Lib.hid (isC_or a b ha hb)
  clear ha hb
  go_enter Tryd.func33, Tryd.ntmps33
  go_wp2
  go_loopw [6] (fun i wr => ∃ (k : Nat) (acc : List Nat), k ≤ 256 ∧ i = .int .i64 k ∧ Hid (IsC acc) ∧ Hid (∀ y : Nat, y < 256 → hasL acc y = (decide (y < k) && hasL (orL a b) y)) ∧
    Arr64 wr (w.heap.size + 1 + 1 + 1) 28 acc ∧ Arr64 wr w.heap.size 28 a ∧ Arr64 wr (w.heap.size + 1) 28 b ∧
    Arr64 wr (w.heap.size + 1 + 1) 28 noneL ∧ Below w.heap.size w wr) (fun i _ => 256 - (intOf i).toNat)
  case atStart =>
    exact ⟨0, noneL, by omega, rfl, Lib.hid isC_none, Lib.hid (fun y hy => by rw [has_none]; simp), heap_alloc4 _ _ _ _ _, (ra.alloc _).alloc _, (rb.alloc _).alloc _, Arr64.alloc (l := noneL) (heap_alloc3 _ _ _ _) _, (ab.alloc (by simp [World.size_alloc]; omega) _).alloc (by simp [World.size_alloc]; omega) _⟩
  case round =>
    obtain ⟨k, acc, hk, rfl, HC, HX, rc, ra, rb, rr, ab⟩ := hrel
    by_cases hlt : k < 256
    · have hw : IntKind.u8.wrap (k : Int) = (k : Int) := by rw [IntKind.wrap_u8]; omega
      go_wp2_with (refine wpList_load_row rfl 28 _ rfl w.heap.size rfl 28 _ (0, 0) _ ra Tryd.underlying28 rfl (by rw [row64_size, HA.out.1]; exact infoC) ?_)
      refine (refHas_any _ a HA.out k hlt).mono ?_
      rintro e w1 ⟨rfl, hb1⟩
      have ra := ra.below hb1 ra.lt
      have rb := rb.below hb1 rb.lt
      have rr := rr.below hb1 rr.lt
      have rc := rc.below hb1 rc.lt
      have ab := ab.trans (hb1.mono ab.size)
      clear hb1
      cases hva : hasL a k with
      | false =>
        have HVA := Lib.hid hva
        clear hva
        obtain ⟨p0, p1, p2, p3, e4⟩ := isC_words b HB.out
        obtain ⟨c0, c1, c2, c3⟩ := rb.four e4
        have HE := Lib.hid e4
        clear e4
        go_wp2_with fail
        refine (refHas_any _ [p0, p1, p2, p3] (by rw [← HE.out]; exact HB.out) k hlt).mono ?_
        rw [← HE.out]
        rintro e w2 ⟨rfl, hb2⟩
        clear c0 c1 c2 c3
        have ra := ra.below hb2 ra.lt
        have rb := rb.below hb2 rb.lt
        have rr := rr.below hb2 rr.lt
        have rc := rc.below hb2 rc.lt
        have ab := ab.trans (hb2.mono ab.size)
        clear hb2
        cases hvb : hasL b k with
        | false =>
          have HP : Hid (hasL (orL a b) k = false) := Lib.hid (by rw [has_or a b k hlt, HVA.out, hvb]; rfl)
          clear hvb
          have HN := Lib.hid (upto_skip acc (orL a b) k HX.out HP.out)
          go_wp2_with fail
          go_roundw
          case rel => exact ⟨k + 1, acc, by omega, by go_num, HC, HN, rc, ra, rb, rr, ab⟩
          case measure => simp [intOf]; omega
        | true =>
          have HP : Hid (hasL (orL a b) k = true) := Lib.hid (by rw [has_or a b k hlt, HVA.out, hvb]; rfl)
          clear hvb
          have HN := Lib.hid (upto_take acc (orL a b) k HX.out HP.out HC.out hlt)
          have HCN := Lib.hid (isC_with acc k HC.out)
          go_wp2_with (refine wpList_load_row rfl 28 _ rfl (w.heap.size + 1 + 1 + 1) rfl 28 _ (0, 0) _ rc Tryd.underlying28 rfl (by rw [row64_size, HC.out.1]; exact infoC) ?_)
          refine (with_any _ acc HC.out k hlt).mono ?_
          rintro e w3 ⟨rfl, hb3⟩
          have ra := ra.below hb3 ra.lt
          have rb := rb.below hb3 rb.lt
          have rr := rr.below hb3 rr.lt
          have rc := rc.below hb3 rc.lt
          have ab := ab.trans (hb3.mono ab.size)
          clear hb3
          go_wp2_with (refine wpList_store_cells rfl 28 _ _ rfl rfl (w.heap.size + 1 + 1 + 1) 28 _ _ rfl rfl rc (by rw [row64_size, row64_size, HC.out.1, HCN.out.1]) (by rw [row64_size, HCN.out.1]; exact infoC) (row64_one _) ?_)
          go_roundw
          case rel => exact ⟨k + 1, withL acc k, by omega, by go_num, HCN, HN, setRow_heap _ _ _ _ _ _ rc, ra.setRow_other (by omega) _, rb.setRow_other (by omega) _, rr.setRow_other (by omega) _, below_setRowC ab (by omega) _⟩
          case measure => simp [intOf]; omega
      | true =>
        have HVA := Lib.hid hva
        clear hva
        have HP : Hid (hasL (orL a b) k = true) := Lib.hid (by rw [has_or a b k hlt, HVA.out]; rfl)
        have HN := Lib.hid (upto_take acc (orL a b) k HX.out HP.out HC.out hlt)
        have HCN := Lib.hid (isC_with acc k HC.out)
        go_wp2_with (refine wpList_load_row rfl 28 _ rfl (w.heap.size + 1 + 1 + 1) rfl 28 _ (0, 0) _ rc Tryd.underlying28 rfl (by rw [row64_size, HC.out.1]; exact infoC) ?_)
        refine (with_any _ acc HC.out k hlt).mono ?_
        rintro e w3 ⟨rfl, hb3⟩
        have ra := ra.below hb3 ra.lt
        have rb := rb.below hb3 rb.lt
        have rr := rr.below hb3 rr.lt
        have rc := rc.below hb3 rc.lt
        have ab := ab.trans (hb3.mono ab.size)
        clear hb3
        go_wp2_with (refine wpList_store_cells rfl 28 _ _ rfl rfl (w.heap.size + 1 + 1 + 1) 28 _ _ rfl rfl rc (by rw [row64_size, row64_size, HC.out.1, HCN.out.1]) (by rw [row64_size, HCN.out.1]; exact infoC) (row64_one _) ?_)
        go_roundw
        case rel => exact ⟨k + 1, withL acc k, by omega, by go_num, HCN, HN, setRow_heap _ _ _ _ _ _ rc, ra.setRow_other (by omega) _, rb.setRow_other (by omega) _, rr.setRow_other (by omega) _, below_setRowC ab (by omega) _⟩
        case measure => simp [intOf]; omega
    · obtain rfl : k = 256 := by omega
      have e := upto_done acc (orL a b) HC.out HM.out HX.out
      subst e
      go_wp2_with (first | (refine wpList_load_row rfl 28 _ rfl (w.heap.size + 1 + 1 + 1) rfl 28 _ (0, 0) _ rc Tryd.underlying28 rfl (by rw [row64_size, HM.out.1]; exact infoC) ?_) | (refine wpList_store_cells rfl 28 _ _ rfl rfl (w.heap.size + 1 + 1) 28 _ _ rfl rfl rr (by rw [row64_size, row64_size, HM.out.1]; rfl) (by rw [row64_size, HM.out.1]; exact infoC) (row64_one _) ?_))
      exact ret_cls rfl rfl (setRow_heap _ _ _ _ _ _ rr) Tryd.underlying28 rfl (by rw [row64_size, HM.out.1]; exact infoC) rfl ⟨rfl, below_setRowC ab (by omega) _⟩

set_option maxRecDepth 100000 in
set_option maxHeartbeats 1000000 in
theorem refAnd_any (w : World) (a b : List Nat) (ha : IsC a) (hb : IsC b) :
    Calls Tryd.prog 81 #[.agg (row64 a), .agg (row64 b)] w fun e w' => e = .returned (.agg (row64 (andL a b))) ∧ Below w.heap.size w w' := by
  have ra : Arr64 ((w.alloc (.cells (row64 a) 28)).alloc (.cells (row64 b) 28)) w.heap.size 28 a := (Arr64.new _ _ _).alloc _
  have rb : Arr64 ((w.alloc (.cells (row64 a) 28)).alloc (.cells (row64 b) 28)) (w.heap.size + 1) 28 b := heap_alloc2 _ _ _
  have ab := below_alloc2 w (.cells (row64 a) 28) (.cells (row64 b) 28)
  have HA := Lib.hid ha
  have HB := Lib.hid hb
  have HM := Lib.hid (isC_and a b ha hb)
  clear ha hb
  go_enter Tryd.func81, Tryd.ntmps81
  go_wp2
  go_loopw [6] (fun i wr => ∃ (k : Nat) (acc : List Nat), k ≤ 256 ∧ i = .int .i64 k ∧ Hid (IsC acc) ∧ Hid (∀ y : Nat, y < 256 → hasL acc y = (decide (y < k) && hasL (andL a b) y)) ∧
    Arr64 wr (w.heap.size + 1 + 1 + 1) 28 acc ∧ Arr64 wr w.heap.size 28 a ∧ Arr64 wr (w.heap.size + 1) 28 b ∧
    Arr64 wr (w.heap.size + 1 + 1) 28 noneL ∧ Below w.heap.size w wr) (fun i _ => 256 - (intOf i).toNat)
  case atStart =>
    exact ⟨0, noneL, by omega, rfl, Lib.hid isC_none, Lib.hid (fun y hy => by rw [has_none]; simp), heap_alloc4 _ _ _ _ _, (ra.alloc _).alloc _, (rb.alloc _).alloc _, Arr64.alloc (l := noneL) (heap_alloc3 _ _ _ _) _, (ab.alloc (by simp [World.size_alloc]; omega) _).alloc (by simp [World.size_alloc]; omega) _⟩
  case round =>
    obtain ⟨k, acc, hk, rfl, HC, HX, rc, ra, rb, rr, ab⟩ := hrel
    by_cases hlt : k < 256
    · have hw : IntKind.u8.wrap (k : Int) = (k : Int) := by rw [IntKind.wrap_u8]; omega
      go_wp2_with (refine wpList_load_row rfl 28 _ rfl w.heap.size rfl 28 _ (0, 0) _ ra Tryd.underlying28 rfl (by rw [row64_size, HA.out.1]; exact infoC) ?_)
      refine (refHas_any _ a HA.out k hlt).mono ?_
      rintro e w1 ⟨rfl, hb1⟩
      have ra := ra.below hb1 ra.lt
      have rb := rb.below hb1 rb.lt
      have rr := rr.below hb1 rr.lt
      have rc := rc.below hb1 rc.lt
      have ab := ab.trans (hb1.mono ab.size)
      clear hb1
      cases hva : hasL a k with
      | false =>
        have HVA := Lib.hid hva
        clear hva
        have HP : Hid (hasL (andL a b) k = false) := Lib.hid (by rw [has_and a b k hlt, HVA.out]; rfl)
        have HN := Lib.hid (upto_skip acc (andL a b) k HX.out HP.out)
        go_wp2_with fail
        go_roundw
        case rel => exact ⟨k + 1, acc, by omega, by go_num, HC, HN, rc, ra, rb, rr, ab⟩
        case measure => simp [intOf]; omega
      | true =>
        have HVA := Lib.hid hva
        clear hva
        obtain ⟨p0, p1, p2, p3, e4⟩ := isC_words b HB.out
        obtain ⟨c0, c1, c2, c3⟩ := rb.four e4
        have HE := Lib.hid e4
        clear e4
        go_wp2_with fail
        refine (refHas_any _ [p0, p1, p2, p3] (by rw [← HE.out]; exact HB.out) k hlt).mono ?_
        rw [← HE.out]
        rintro e w2 ⟨rfl, hb2⟩
        clear c0 c1 c2 c3
        have ra := ra.below hb2 ra.lt
        have rb := rb.below hb2 rb.lt
        have rr := rr.below hb2 rr.lt
        have rc := rc.below hb2 rc.lt
        have ab := ab.trans (hb2.mono ab.size)
        clear hb2
        cases hvb : hasL b k with
        | false =>
          have HP : Hid (hasL (andL a b) k = false) := Lib.hid (by rw [has_and a b k hlt, HVA.out, hvb]; rfl)
          clear hvb
          have HN := Lib.hid (upto_skip acc (andL a b) k HX.out HP.out)
          go_wp2_with fail
          go_roundw
          case rel => exact ⟨k + 1, acc, by omega, by go_num, HC, HN, rc, ra, rb, rr, ab⟩
          case measure => simp [intOf]; omega
        | true =>
          have HP : Hid (hasL (andL a b) k = true) := Lib.hid (by rw [has_and a b k hlt, HVA.out, hvb]; rfl)
          clear hvb
          have HN := Lib.hid (upto_take acc (andL a b) k HX.out HP.out HC.out hlt)
          have HCN := Lib.hid (isC_with acc k HC.out)
          go_wp2_with (refine wpList_load_row rfl 28 _ rfl (w.heap.size + 1 + 1 + 1) rfl 28 _ (0, 0) _ rc Tryd.underlying28 rfl (by rw [row64_size, HC.out.1]; exact infoC) ?_)
          refine (with_any _ acc HC.out k hlt).mono ?_
          rintro e w3 ⟨rfl, hb3⟩
          have ra := ra.below hb3 ra.lt
          have rb := rb.below hb3 rb.lt
          have rr := rr.below hb3 rr.lt
          have rc := rc.below hb3 rc.lt
          have ab := ab.trans (hb3.mono ab.size)
          clear hb3
          go_wp2_with (refine wpList_store_cells rfl 28 _ _ rfl rfl (w.heap.size + 1 + 1 + 1) 28 _ _ rfl rfl rc (by rw [row64_size, row64_size, HC.out.1, HCN.out.1]) (by rw [row64_size, HCN.out.1]; exact infoC) (row64_one _) ?_)
          go_roundw
          case rel => exact ⟨k + 1, withL acc k, by omega, by go_num, HCN, HN, setRow_heap _ _ _ _ _ _ rc, ra.setRow_other (by omega) _, rb.setRow_other (by omega) _, rr.setRow_other (by omega) _, below_setRowC ab (by omega) _⟩
          case measure => simp [intOf]; omega
    · obtain rfl : k = 256 := by omega
      have e := upto_done acc (andL a b) HC.out HM.out HX.out
      subst e
      go_wp2_with (first | (refine wpList_load_row rfl 28 _ rfl (w.heap.size + 1 + 1 + 1) rfl 28 _ (0, 0) _ rc Tryd.underlying28 rfl (by rw [row64_size, HM.out.1]; exact infoC) ?_) | (refine wpList_store_cells rfl 28 _ _ rfl rfl (w.heap.size + 1 + 1) 28 _ _ rfl rfl rr (by rw [row64_size, row64_size, HM.out.1]; rfl) (by rw [row64_size, HM.out.1]; exact infoC) (row64_one _) ?_))
      exact ret_cls rfl rfl (setRow_heap _ _ _ _ _ _ rr) Tryd.underlying28 rfl (by rw [row64_size, HM.out.1]; exact infoC) rfl ⟨rfl, below_setRowC ab (by omega) _⟩
end Go.Proofs.YthegepiafodpjaaDoor

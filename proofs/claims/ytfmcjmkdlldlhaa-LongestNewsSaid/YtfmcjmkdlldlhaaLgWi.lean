/-
  galleyref00.WideInstrs, SpareInstrs; EqInstrs of a list and itself.
-/
import Derived.Test.YtfmcjmkdlldlhaaLgZ
import Derived.Test.YtfmcjmkdlldlhaaLgK
import Derived.Test.YtfmcjmkdlldlhaaArr2
import Derived.Test.YtfmcjmkdlldlhaaLgOi
namespace Go.Proofs.Ytfmcjmkdlldlhaa
open Go.RowKit
attribute [local go_sem] Oper.semAt_some

theorem cellsI_set : ∀ (L : List Ins) (k : Nat) (o : Int) (p0 p1 p2 p3 : Nat) (x y : Int),
    (((((((cellsI L).set (k * 7) (.int .i8 o)).set (k * 7 + 1) (.int .u64 (p0 : Int))).set (k * 7 + 2) (.int .u64 (p1 : Int))).set (k * 7 + 3) (.int .u64 (p2 : Int))).set (k * 7 + 4) (.int .u64 (p3 : Int))).set (k * 7 + 5) (.int .i64 x)).set (k * 7 + 6) (.int .i64 y) = cellsI (L.set k ⟨o, [p0, p1, p2, p3], x, y⟩)
  | [], k, o, p0, p1, p2, p3, x, y => by simp [cellsI]
  | a :: L, 0, o, p0, p1, p2, p3, x, y => by simp [cellsI, encI]
  | a :: L, k + 1, o, p0, p1, p2, p3, x, y => by
    have := cellsI_set L k o p0 p1 p2 p3 x y
    unfold cellsI at this ⊢
    rw [List.flatMap_cons, List.set_cons_succ, List.flatMap_cons, show (k + 1) * 7 = k * 7 + 1 + 1 + 1 + 1 + 1 + 1 + 1 by omega, ← this]
    simp [encI]
theorem at_setI {w : World} {g : Nat} {L : List Ins} (h : At w g TI (cellsI L)) (k : Nat) (o : Int) (p0 p1 p2 p3 : Nat) (x y : Int) :
    At (((((((w.setCell ⟨g, k * 7, none⟩ (.int .i8 o)).setCell ⟨g, k * 7 + 1, none⟩ (.int .u64 (p0 : Int))).setCell ⟨g, k * 7 + 2, none⟩ (.int .u64 (p1 : Int))).setCell ⟨g, k * 7 + 3, none⟩ (.int .u64 (p2 : Int))).setCell ⟨g, k * 7 + 4, none⟩ (.int .u64 (p3 : Int))).setCell ⟨g, k * 7 + 5, none⟩ (.int .i64 x)).setCell ⟨g, k * 7 + 6, none⟩ (.int .i64 y)) g TI (cellsI (L.set k ⟨o, [p0, p1, p2, p3], x, y⟩)) := by
  rw [← cellsI_set]
  exact ((((((h.set _ _).set _ _).set _ _).set _ _).set _ _).set _ _).set _ _
/-- A place in a row of instructions. -/
theorem at_getI {w : World} {g : Nat} {L : List Ins} (h : At w g TI (cellsI L)) (k : Nat) (a : Ins) (ha : L[k]? = some a) (c : Nat) (hc : c < 7) : w.cell? ⟨g, k * 7 + c, none⟩ = (encI a)[c]? := by
  rw [h.cell, cellsI_get hc ha]
def zI : Ins := ⟨0, noneL, 0, 0⟩
def markI (j : Nat) : Ins := ⟨0, noneL, 1048576 * 9 + (j : Int) + 1, -7⟩
def wideI (M : List Ins) : List Ins := M ++ (List.range 64).map fun i => markI (M.length + i)
theorem wideI_len (M : List Ins) : (wideI M).length = M.length + 64 := by simp [wideI]
theorem wideI_lo (M : List Ins) (j : Nat) (h : j < M.length) : (wideI M)[j]? = M[j]? := by
  unfold wideI; rw [List.getElem?_append_left h]
theorem wideI_hi (M : List Ins) (j : Nat) (h : M.length ≤ j) (h2 : j < M.length + 64) : (wideI M)[j]? = some (markI j) := by
  unfold wideI
  rw [List.getElem?_append_right h, List.getElem?_map, List.getElem?_range (by omega)]
  simp only [Option.map_some]
  congr 2
  omega
theorem cellsI_snoc' (M : List Ins) (x : Ins) : cellsI (M ++ [x]) = cellsI M ++ encI x := by simp [cellsI]
theorem z7_cells (c : Nat → Value) (h : ∀ k, c (k * 7) = .int .i8 0 ∧ c (k * 7 + 1) = .int .u64 0 ∧ c (k * 7 + 2) = .int .u64 0 ∧ c (k * 7 + 3) = .int .u64 0 ∧ c (k * 7 + 4) = .int .u64 0 ∧ c (k * 7 + 5) = .int .i64 0 ∧ c (k * 7 + 6) = .int .i64 0) : ∀ k, (List.range (k * 7)).map c = cellsI (List.replicate k zI)
  | 0 => rfl
  | k + 1 => by
    obtain ⟨h0, h1, h2, h3, h4, h5, h6⟩ := h k
    rw [show (k + 1) * 7 = k * 7 + 1 + 1 + 1 + 1 + 1 + 1 + 1 by omega]
    simp only [List.range_succ, List.map_append, List.map_cons, List.map_nil, z7_cells c h k, List.append_assoc, List.cons_append, List.nil_append, List.replicate_succ']
    rw [cellsI_snoc', h0, h1, h2, h3, h4, h5, h6]
    rfl
theorem madeI (w : World) (n : Nat) (hn : n ≤ 2147483647) : (Instr.makeSlice 22 (.int .i64 ((n : Int) + 64)) (.int .i64 ((n : Int) + 64))).run Try.prog w = .ok (.slice (some ⟨w.heap.size, 0, none⟩) (n + 64) (n + 64)) (w.alloc (.cells (cellsI (List.replicate (n + 64) zI)).toArray TI)) := by
  obtain ⟨i, hi, hz, hs, hb⟩ := info_parts infoI
  have h := run_make (P := Try.prog) w 22 TI i _ Try.underlying22 hi hz .i64 .i64 ((n : Int) + 64) ((n : Int) + 64) (by omega) (by omega) (by rw [hb]; omega) (by omega)
  rw [h, hs]
  have e1 : ((n : Int) + 64).toNat = n + 64 := by omega
  have e : madeCells (Value.cells (.agg #[.int .i8 0, .int .u64 0, .int .u64 0, .int .u64 0, .int .u64 0, .int .i64 0, .int .i64 0])) ((n + 64) * 7) = (cellsI (List.replicate (n + 64) zI)).toArray := by
    generalize n + 64 = k
    apply Array.ext'
    simp only [madeCells, Value.cells, Array.toList_map, Array.toList_range]
    refine z7_cells (fun j => #[Value.int .i8 0, .int .u64 0, .int .u64 0, .int .u64 0, .int .u64 0, .int .i64 0, .int .i64 0][j % 7]!) (fun k => ?_) k
    rw [show k * 7 % 7 = 0 by omega, show (k * 7 + 1) % 7 = 1 by omega, show (k * 7 + 2) % 7 = 2 by omega, show (k * 7 + 3) % 7 = 3 by omega, show (k * 7 + 4) % 7 = 4 by omega, show (k * 7 + 5) % 7 = 5 by omega, show (k * 7 + 6) % 7 = 6 by omega]
    exact ⟨rfl, rfl, rfl, rfl, rfl, rfl, rfl⟩
  rw [e1, e]

set_option maxHeartbeats 2000000 in
theorem wideI_any (w : World) (a : Option Addr) (n c : Nat) (M : List Ins) (h : MI w a n c M) (hn : n ≤ 2147483647) :
    Calls Try.prog 10 #[.slice a n c] w fun e w' => e = .returned (.slice (some ⟨w.heap.size, 0, none⟩) n (n + 64)) ∧ At w' w.heap.size TI (cellsI (wideI M)) ∧ Below w.heap.size w w' := by
  have hlen : M.length = n := h.2.1
  have H := Lib.hid h
  have HL := Lib.hid hlen
  have hm := fun w => madeI w n hn
  have h1 : At (w.alloc (.cells (cellsI (List.replicate (n + 64) zI)).toArray TI)) w.heap.size TI (cellsI (List.replicate (n + 64) zI)) := At.new _ _ _
  have hbe : Below w.heap.size w (w.alloc (.cells (cellsI (List.replicate (n + 64) zI)).toArray TI)) := (Below.refl _ w).alloc (Nat.le_refl _) _
  have H1 := Lib.hid (And.intro h1 hbe)
  have HN := Lib.hid hn
  clear h hlen h1 hbe
  go_enter Try.func10, Try.ntmps10
  go_wp2_with fail
  go_loopw [4] (fun i wr => ∃ (k : Nat) (L : List Ins), k ≤ n + 64 ∧ i = .int .i64 k ∧ L.length = n + 64 ∧ (∀ j : Nat, j < k → L[j]? = (wideI M)[j]?) ∧ At wr w.heap.size TI (cellsI L) ∧ Below w.heap.size w wr) (fun i _ => n + 64 - (intOf i).toNat)
  case atStart => exact ⟨0, _, Nat.zero_le _, rfl, by simp, fun j hj => by omega, H1.out.1, H1.out.2⟩
  case round =>
    obtain ⟨k, L, hk, rfl, hLl, hLj, r1, rb⟩ := hrel
    have HLL := Lib.hid hLl
    have HLJ := Lib.hid hLj
    have HR := Lib.hid r1
    have HB := Lib.hid rb
    have hn' := HN.out
    clear hLl hLj hm
    by_cases hlt : k < n + 64
    · have hltI : (k : Int) < (n : Int) + 64 := by omega
      have hkw : IntKind.i64.wrap ((k : Int) + 1) = (k : Int) + 1 := IntWalk.i64_in _ (by omega)
      obtain ⟨z, hz⟩ : ∃ z, L[k]? = some z := ⟨_, List.getElem?_eq_getElem (by rw [HLL.out]; exact hlt)⟩
      have e0 : wr.cell? ⟨w.heap.size, k * 7, none⟩ = some (.int .i8 z.op) := at_getI r1 k z hz 0 (by omega)
      have e1 : wr.cell? ⟨w.heap.size, k * 7 + 1, none⟩ = some _ := at_getI r1 k z hz 1 (by omega)
      have e2 : wr.cell? ⟨w.heap.size, k * 7 + 2, none⟩ = some _ := at_getI r1 k z hz 2 (by omega)
      have e3 : wr.cell? ⟨w.heap.size, k * 7 + 3, none⟩ = some _ := at_getI r1 k z hz 3 (by omega)
      have e4 : wr.cell? ⟨w.heap.size, k * 7 + 4, none⟩ = some _ := at_getI r1 k z hz 4 (by omega)
      have e5 : wr.cell? ⟨w.heap.size, k * 7 + 5, none⟩ = some (.int .i64 z.x) := at_getI r1 k z hz 5 (by omega)
      have e6 : wr.cell? ⟨w.heap.size, k * 7 + 6, none⟩ = some (.int .i64 z.y) := at_getI r1 k z hz 6 (by omega)
      have f0 := r1.frozen (k * 7)
      have f1 := r1.frozen (k * 7 + 1)
      have f2 := r1.frozen (k * 7 + 2)
      have f3 := r1.frozen (k * 7 + 3)
      have f4 := r1.frozen (k * 7 + 4)
      have f5 := r1.frozen (k * 7 + 5)
      have f6 := r1.frozen (k * 7 + 6)
      have HST := Lib.hid (show ∀ y : Ins, (wideI M)[k]? = some y → ∀ j : Nat, j < k + 1 → (L.set k y)[j]? = (wideI M)[j]? from fun y ey j hj => by
        rw [List.getElem?_set]
        split
        · rename_i he
          subst he
          rw [if_pos (by rw [HLL.out]; exact hlt), ey]
        · exact HLJ.out j (by omega))
      clear r1 rb hz
      by_cases hin : k < n
      · have hinI : (k : Int) < (n : Int) := by omega
        obtain ⟨x, hx⟩ : ∃ x, M[k]? = some x := ⟨_, List.getElem?_eq_getElem (by rw [HL.out]; exact hin)⟩
        have hC := H.out.1 x (List.mem_of_getElem? hx)
        obtain ⟨p0, p1, p2, p3, hp⟩ := isC_words x.set hC
        obtain ⟨b, off, rfl, d0, d1, d2, d3, d4, d5, d6⟩ := (H.out.below HB.out).instr hx hp
        have HY := Lib.hid (HST.out ⟨x.op, [p0, p1, p2, p3], x.x, x.y⟩ (by rw [wideI_lo M k (by rw [HL.out]; exact hin), hx, ← hp]))
        clear hC hx hp HST
        go_wp2_with fail
        go_roundw
        case rel => exact ⟨k + 1, _, by omega, by go_num, by rw [List.length_set, HLL.out], HY.out, at_setI HR.out k _ _ _ _ _ _ _, ((((((HB.out.setCell (by simp) _).setCell (by simp) _).setCell (by simp) _).setCell (by simp) _).setCell (by simp) _).setCell (by simp) _).setCell (by simp) _⟩
        case measure => simp [intOf]; omega
      · have hinI : ¬ (k : Int) < (n : Int) := by omega
        have HY := Lib.hid (HST.out (markI k) (wideI_hi M k (by rw [HL.out]; omega) (by rw [HL.out]; exact hlt)))
        clear HST
        go_wp2_with fail
        refine (num9 wr k (by omega)).mono ?_
        rintro e w2 ⟨rfl, rfl⟩
        go_wp2_with fail
        go_roundw
        case rel => exact ⟨k + 1, _, by omega, by go_num, by rw [List.length_set, HLL.out], HY.out, at_setI HR.out k _ _ _ _ _ _ _, ((((((HB.out.setCell (by simp) _).setCell (by simp) _).setCell (by simp) _).setCell (by simp) _).setCell (by simp) _).setCell (by simp) _).setCell (by simp) _⟩
        case measure => simp [intOf]; omega
    · have hltI : ¬ (k : Int) < (n : Int) + 64 := by omega
      have e : L = wideI M := by
        apply List.ext_getElem?
        intro j
        by_cases hj : j < k
        · exact HLJ.out j hj
        · rw [List.getElem?_eq_none (by rw [HLL.out]; omega), List.getElem?_eq_none (by rw [wideI_len, HL.out]; omega)]
      have HE := Lib.hid e
      clear e r1 rb
      go_wp2_with fail
      go_ret
      exact ⟨rfl, HE.out ▸ HR.out, HB.out⟩
theorem run_eql_same (w : World) (o : Int) (p0 p1 p2 p3 : Nat) (x y : Int) :
    (binOp .eql TI (.agg #[.int .i8 o, .int .u64 (p0 : Int), .int .u64 (p1 : Int), .int .u64 (p2 : Int), .int .u64 (p3 : Int), .int .i64 x, .int .i64 y]) (.agg #[.int .i8 o, .int .u64 (p0 : Int), .int .u64 (p1 : Int), .int .u64 (p2 : Int), .int .u64 (p3 : Int), .int .i64 x, .int .i64 y])).run Try.prog w = .ok (.bool true) w := by
  have h := fun w => run_equalIn_rowC w 9997 [p0, p1, p2, p3] [p0, p1, p2, p3] rfl rfl
  simp only [row64, List.map_cons, List.map_nil] at h
  go_simp
theorem run_eql_mark (w : World) (x : Int) :
    (binOp .eql TI (.agg #[.int .i8 0, .int .u64 0, .int .u64 0, .int .u64 0, .int .u64 0, .int .i64 x, .int .i64 (-7)]) (.agg #[.int .i8 0, .int .u64 0, .int .u64 0, .int .u64 0, .int .u64 0, .int .i64 x, .int .i64 (-7)])).run Try.prog w = .ok (.bool true) w := run_eql_same w 0 0 0 0 0 x (-7)
theorem run_neq_same (w : World) (o : Int) (p0 p1 p2 p3 : Nat) (x y : Int) :
    (binOp .neq TI (.agg #[.int .i8 o, .int .u64 (p0 : Int), .int .u64 (p1 : Int), .int .u64 (p2 : Int), .int .u64 (p3 : Int), .int .i64 x, .int .i64 y]) (.agg #[.int .i8 o, .int .u64 (p0 : Int), .int .u64 (p1 : Int), .int .u64 (p2 : Int), .int .u64 (p3 : Int), .int .i64 x, .int .i64 y])).run Try.prog w = .ok (.bool false) w := by
  have h := fun w => run_equalIn_rowC w 9997 [p0, p1, p2, p3] [p0, p1, p2, p3] rfl rfl
  simp only [row64, List.map_cons, List.map_nil] at h
  go_simp
set_option maxHeartbeats 2000000 in
theorem spareI_any (w : World) (g n : Nat) (M : List Ins) (hM : M.length = n) (hn : n ≤ 2147483647) (h : At w g TI (cellsI (wideI M))) :
    Calls Try.prog 14 #[.slice (some ⟨g, 0, none⟩) n (n + 64)] w fun e w' => e = .returned (.bool true) ∧ ∃ q, w' = w.drewN q := by
  have HW := Lib.hid h
  have HM := Lib.hid hM
  clear h hM
  go_enter Try.func14, Try.ntmps14
  go_wp2_with fail
  go_loopw [4] (fun i wr => ∃ k q : Nat, n ≤ k ∧ k ≤ n + 64 ∧ i = .int .i64 k ∧ wr = w.drewN q) (fun i _ => n + 64 - (intOf i).toNat)
  case atStart => exact ⟨n, 0, Nat.le_refl _, by omega, rfl, rfl⟩
  case round =>
    obtain ⟨k, q, hk1, hk2, rfl, rfl⟩ := hrel
    by_cases hlt : k < n + 64
    · have hhi := wideI_hi M k (by rw [HM.out]; exact hk1) (by rw [HM.out]; exact hlt)
      have d0 : (w.drewN q).cell? ⟨g, k * 7, none⟩ = some (.int .i8 0) := at_getI HW.out k _ hhi 0 (by omega)
      have d1 : (w.drewN q).cell? ⟨g, k * 7 + 1, none⟩ = some (.int .u64 0) := at_getI HW.out k _ hhi 1 (by omega)
      have d2 : (w.drewN q).cell? ⟨g, k * 7 + 2, none⟩ = some (.int .u64 0) := at_getI HW.out k _ hhi 2 (by omega)
      have d3 : (w.drewN q).cell? ⟨g, k * 7 + 3, none⟩ = some (.int .u64 0) := at_getI HW.out k _ hhi 3 (by omega)
      have d4 : (w.drewN q).cell? ⟨g, k * 7 + 4, none⟩ = some (.int .u64 0) := at_getI HW.out k _ hhi 4 (by omega)
      have d5 : (w.drewN q).cell? ⟨g, k * 7 + 5, none⟩ = some (.int .i64 (9437184 + (k : Int) + 1)) := at_getI HW.out k _ hhi 5 (by omega)
      have d6 : (w.drewN q).cell? ⟨g, k * 7 + 6, none⟩ = some (.int .i64 (-7)) := at_getI HW.out k _ hhi 6 (by omega)
      have HDD := Lib.hid (fun m => World.drewN_drewN w q m)
      generalize w.drewN q = wq at d0 d1 d2 d3 d4 d5 d6 HDD ⊢
      have HN := Lib.hid (fun m => num9q wq k m (by omega))
      have heq := fun (w : World) => run_eql_mark w (9437184 + (k : Int) + 1)
      have hltI : (k : Int) < (n : Int) + 64 := by omega
      go_wp2_with fail
      go_quiet ((go_at_call 27; exact HN.out _))
      clear d0 d1 d2 d3 d4 d5 d6
      go_wp2_with fail
      go_roundw
      case rel => exact ⟨k + 1, _, by omega, by omega, by go_num, HDD.out _⟩
      case measure => simp [intOf]; omega
    · have hltI : ¬ (k : Int) < (n : Int) + 64 := by omega
      go_wp2_with fail
      go_ret
      exact ⟨rfl, q, rfl⟩
set_option maxHeartbeats 2000000 in
theorem eqI_same (w : World) (a b : Option Addr) (n c d : Nat) (M : List Ins) (ha : MI w a n c M) (hb : MI w b n d M) (hn : n ≤ 2147483647) :
    Calls Try.prog 13 #[.slice a n c, .slice b n d] w fun e w' => e = .returned (.bool true) ∧ ∃ q, w' = w.drewN q := by
  have HA := Lib.hid ha
  have HB := Lib.hid hb
  have HL := Lib.hid (show M.length = n from ha.2.1)
  clear ha hb
  go_enter Try.func13, Try.ntmps13
  go_wp2_with fail
  go_loopw [5] (fun i wr => ∃ k q : Nat, k ≤ n ∧ i = .int .i64 k ∧ wr = w.drewN q) (fun i _ => n - (intOf i).toNat)
  case atStart => exact ⟨0, 0, Nat.zero_le _, rfl, rfl⟩
  case round =>
    obtain ⟨k, q, hk, rfl, rfl⟩ := hrel
    by_cases hlt : k < n
    · obtain ⟨x, hx⟩ : ∃ x, M[k]? = some x := ⟨_, List.getElem?_eq_getElem (by rw [HL.out]; exact hlt)⟩
      have hC := HA.out.1 x (List.mem_of_getElem? hx)
      obtain ⟨p0, p1, p2, p3, hp⟩ := isC_words x.set hC
      obtain ⟨g1, o1, rfl, d0, d1, d2, d3, d4, d5, d6⟩ := HA.out.instr hx hp
      obtain ⟨g2, o2, rfl, e0, e1, e2, e3, e4, e5, e6⟩ := HB.out.instr hx hp
      have hne := fun (w : World) => run_neq_same w x.op p0 p1 p2 p3 x.x x.y
      have hltI : (k : Int) < (n : Int) := by omega
      have hkw : IntKind.i64.wrap ((k : Int) + 1) = (k : Int) + 1 := IntWalk.i64_in _ (by omega)
      clear hC hx hp
      go_wp2_with fail
      go_quiet (fail)
      clear d0 d1 d2 d3 d4 d5 d6 e0 e1 e2 e3 e4 e5 e6
      go_wp2_with fail
      go_roundw
      case rel => exact ⟨k + 1, _, hlt, by go_num, by first | exact World.drewN_drewN _ _ _ | rfl⟩
      case measure => simp [intOf]; omega
    · have hltI : ¬ (k : Int) < (n : Int) := by omega
      go_wp2_with fail
      go_ret
      exact ⟨rfl, q, rfl⟩
end Go.Proofs.Ytfmcjmkdlldlhaa

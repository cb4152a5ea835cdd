/-
  Several texts in one: DoorB, ItBProof.
-/
import Derived.Test.YthegepiafodpjaaDoorOpen
import Derived.Test.YthegepiafodpjaaDoorItB
import Derived.Test.YthegepiafodpjaaDoorDoor0
import Derived.Test.YthegepiafodpjaaDoorWorks4
import Derived.Test.YthegepiafodpjaaDoorOpenM
import Derived.Test.YthegepiafodpjaaDoorTie
import Derived.Test.YthegepiafodpjaaDoorCards
import Derived.SevenTiedAt
import Derived.ChangeMaps5
import Derived.Test.YthegepiafodpjaaDoorStructs

namespace Go.Proofs.YthegepiafodpjaaDoor
open Go.ChangeShapes Go.WideShapes Go.ChangeAt Go.RowKit

section
variable {H : Type} {enc : TypeId × Value → H} {P : Program} {w : World} {base : Nat} {spare : Nat → Bool} {held : Bool} {fuel : Nat}
/-- An array of a string and two bytes each: the cells that read so. -/
theorem triple_cells {t e c b : TypeId} {n : Nat} {fs : Array Field} {f0 f1 f2 : Field} {cs : List Value} {x : DataW H × List MemPlace} (ht : P.underlying t = some (.array n e)) (he : P.underlying e = some (.struct fs)) (hs : P.underlying c = some .string) (hb : P.underlying b = some (.int .u8))
    (h0 : fs[0]? = some f0) (h1 : fs[1]? = some f1) (h2 : fs[2]? = some f2) (t0 : f0.type = c) (t1 : f1.type = b) (t2 : f2.type = b) (o0 : f0.offset = 0) (o1 : f1.offset = 1) (o2 : f2.offset = 2) (ce : P.cellsOf e = 3) (cc : P.cellsOf c = 1) (cb : P.cellsOf b = 1)
    (h : DataW.trod enc P w base spare held fuel t cs = some x) (ps : List (ByteArray × Int × Int)) (hd : x.1 = .agg (ps.map fun p => .agg [.lit (.string p.1.data.toList), .lit (.int .u8 p.2.1), .lit (.int .u8 p.2.2)])) :
    ∀ (i : Nat) (p : ByteArray × Int × Int), ps[i]? = some p → cs[i * 3]? = some (.string p.1) ∧ cs[i * 3 + 1]? = some (.int .u8 p.2.1) ∧ cs[i * 3 + 2]? = some (.int .u8 p.2.2) := by
  obtain ⟨xs, m, rfl, rfl, hlen, hn, hel⟩ := DataW.trod_array ht h
  simp only [DataW.agg.injEq] at hd
  intro i p hp
  have hxi : (xs.map (·.1))[i]? = some (.agg [.lit (.string p.1.data.toList), .lit (.int .u8 p.2.1), .lit (.int .u8 p.2.2)]) := by rw [hd, List.getElem?_map, hp]; rfl
  rw [List.getElem?_map, Option.map_eq_some_iff] at hxi
  obtain ⟨y, hy, hy1⟩ := hxi
  have hi : i < n := by rw [← hn]; exact (List.getElem?_eq_some_iff.1 hy).1
  have h3 := hel i hi
  rw [hy, ce] at h3
  obtain ⟨zs, m2, rfl, rfl, hl2, hz, hf⟩ := DataW.trod_struct he h3
  simp only [DataW.agg.injEq] at hy1
  have g0 := hf 0 f0 h0
  have g1 := hf 1 f1 h1
  have g2 := hf 2 f2 h2
  rw [t0, o0, cc] at g0
  rw [t1, o1, cb] at g1
  rw [t2, o2, cb] at g2
  have hz2 : zs.length = 3 := by have := congrArg List.length hy1; simpa using this
  obtain ⟨z0, z1, z2, rfl⟩ : ∃ z0 z1 z2, zs = [z0, z1, z2] := by
    match zs, hz2 with
    | [z0, z1, z2], _ => exact ⟨z0, z1, z2, rfl⟩
  · simp only [List.map_cons, List.map_nil, List.cons.injEq, and_true] at hy1
    obtain ⟨k0, c0, e0, -⟩ := DataW.trod_string hs (show DataW.trod enc P w base spare held m2 c _ = some z0 from g0)
    obtain ⟨k1, c1, e1, -⟩ := DataW.trod_int hb (show DataW.trod enc P w base spare held m2 b _ = some z1 from g1)
    obtain ⟨k2, c2, e2, -⟩ := DataW.trod_int hb (show DataW.trod enc P w base spare held m2 b _ = some z2 from g2)
    rw [e0, e1, e2] at hy1
    simp only [DataW.lit.injEq, Lit.int.injEq, Lit.string.injEq, true_and] at hy1
    obtain ⟨hk, rfl, rfl⟩ := hy1
    obtain rfl : k0 = p.1 := ByteArray.ext (Array.toList_inj.1 hk)
    have q0 := congrArg (fun l : List Value => l[0]?) c0
    have q1 := congrArg (fun l : List Value => l[0]?) c1
    have q2 := congrArg (fun l : List Value => l[0]?) c2
    simp only [List.drop_zero, List.getElem?_cons_zero] at q0 q1 q2
    rw [List.getElem?_take_of_lt (by omega), List.getElem?_take_of_lt (by omega), List.getElem?_drop, Nat.add_zero] at q0
    rw [List.getElem?_take_of_lt (by omega), List.getElem?_drop, List.getElem?_take_of_lt (by omega), List.getElem?_drop] at q1
    rw [List.getElem?_take_of_lt (by omega), List.getElem?_drop, List.getElem?_take_of_lt (by omega), List.getElem?_drop] at q2
    exact ⟨q0, by simpa using q1, by simpa using q2⟩
theorem pair_cells {t e b : TypeId} {n : Nat} {fs : Array Field} {f0 f1 : Field} {cs : List Value} {x : DataW H × List MemPlace} (ht : P.underlying t = some (.array n e)) (he : P.underlying e = some (.struct fs)) (hb : P.underlying b = some (.int .u8))
    (h0 : fs[0]? = some f0) (h1 : fs[1]? = some f1) (t0 : f0.type = b) (t1 : f1.type = b) (o0 : f0.offset = 0) (o1 : f1.offset = 1) (ce : P.cellsOf e = 2) (cb : P.cellsOf b = 1)
    (h : DataW.trod enc P w base spare held fuel t cs = some x) (ps : List (Int × Int)) (hd : x.1 = .agg (ps.map fun p => .agg [.lit (.int .u8 p.1), .lit (.int .u8 p.2)])) :
    ∀ (i : Nat) (p : Int × Int), ps[i]? = some p → cs[i * 2]? = some (.int .u8 p.1) ∧ cs[i * 2 + 1]? = some (.int .u8 p.2) := by
  obtain ⟨xs, m, rfl, rfl, hlen, hn, hel⟩ := DataW.trod_array ht h
  simp only [DataW.agg.injEq] at hd
  intro i p hp
  have hxi : (xs.map (·.1))[i]? = some (.agg [.lit (.int .u8 p.1), .lit (.int .u8 p.2)]) := by rw [hd, List.getElem?_map, hp]; rfl
  rw [List.getElem?_map, Option.map_eq_some_iff] at hxi
  obtain ⟨y, hy, hy1⟩ := hxi
  have hi : i < n := by rw [← hn]; exact (List.getElem?_eq_some_iff.1 hy).1
  have h2 := hel i hi
  rw [hy, ce] at h2
  obtain ⟨zs, m2, rfl, rfl, hl2, hz, hf⟩ := DataW.trod_struct he h2
  simp only [DataW.agg.injEq] at hy1
  have g0 := hf 0 f0 h0
  have g1 := hf 1 f1 h1
  rw [t0, o0, cb] at g0
  rw [t1, o1, cb] at g1
  have hz2 : zs.length = 2 := by have := congrArg List.length hy1; simpa using this
  obtain ⟨z0, z1, rfl⟩ : ∃ z0 z1, zs = [z0, z1] := by
    match zs, hz2 with
    | [z0, z1], _ => exact ⟨z0, z1, rfl⟩
  · simp only [List.map_cons, List.map_nil, List.cons.injEq, and_true] at hy1
    obtain ⟨k0, c0, e0, -⟩ := DataW.trod_int hb (show DataW.trod enc P w base spare held m2 b _ = some z0 from g0)
    obtain ⟨k1, c1, e1, -⟩ := DataW.trod_int hb (show DataW.trod enc P w base spare held m2 b _ = some z1 from g1)
    rw [e0, e1] at hy1
    simp only [DataW.lit.injEq, Lit.int.injEq, true_and] at hy1
    obtain ⟨rfl, rfl⟩ := hy1
    have q0 := congrArg (fun l : List Value => l[0]?) c0
    have q1 := congrArg (fun l : List Value => l[0]?) c1
    simp only [List.drop_zero, List.getElem?_cons_zero] at q0 q1
    rw [List.getElem?_take_of_lt (by omega), List.getElem?_take_of_lt (by omega), List.getElem?_drop, Nat.add_zero] at q0
    rw [List.getElem?_take_of_lt (by omega), List.getElem?_drop, List.getElem?_take_of_lt (by omega), List.getElem?_drop] at q1
    exact ⟨q0, by simpa using q1⟩
/-- An array of bytes: the cells that read so. -/
theorem byte_cells {t b : TypeId} {n : Nat} {cs : List Value} {x : DataW H × List MemPlace} (ht : P.underlying t = some (.array n b)) (hb : P.underlying b = some (.int .u8)) (cb : P.cellsOf b = 1)
    (h : DataW.trod enc P w base spare held fuel t cs = some x) (ps : List Int) (hd : x.1 = .agg (ps.map fun p => .lit (.int .u8 p))) :
    ∀ (i : Nat) (p : Int), ps[i]? = some p → cs[i]? = some (.int .u8 p) := by
  obtain ⟨xs, m, rfl, rfl, hlen, hn, hel⟩ := DataW.trod_array ht h
  simp only [DataW.agg.injEq] at hd
  intro i p hp
  have hxi : (xs.map (·.1))[i]? = some (.lit (.int .u8 p)) := by rw [hd, List.getElem?_map, hp]; rfl
  rw [List.getElem?_map, Option.map_eq_some_iff] at hxi
  obtain ⟨y, hy, hy1⟩ := hxi
  have hi : i < n := by rw [← hn]; exact (List.getElem?_eq_some_iff.1 hy).1
  have h1 := hel i hi
  rw [hy, cb] at h1
  obtain ⟨k0, c0, e0, -⟩ := DataW.trod_int hb h1
  rw [e0] at hy1
  simp only [DataW.lit.injEq, Lit.int.injEq, true_and] at hy1
  subst hy1
  have q0 := congrArg (fun l : List Value => l[0]?) c0
  simp only [List.getElem?_cons_zero] at q0
  rw [List.getElem?_take_of_lt (by omega), List.getElem?_drop, Nat.add_zero] at q0
  simpa using q0
/-- A nil slice of marks has no room. -/
theorem none_sm {t e : TypeId} {f0 f1 : Field} {a : Option Addr} {len cap : Nat} {d : DataW H} {p : List MemPlace} (ht : P.underlying t = some (.slice e)) (he : P.underlying e = some (.struct #[f0, f1]))
    (ce : P.cellsOf e = 2) (o0 : f0.offset = 0) (o1 : f1.offset = 1) (c0 : P.cellsOf f0.type = 1) (c1 : P.cellsOf f1.type = 1)
    (h : DataW.Trod enc P w base spare held t (.slice a len cap) d p) : a = none → cap = 0 := by
  obtain ⟨fuel, hf⟩ := h
  rcases Go.Deep.open_slice_pairs ht he ce o0 o1 c0 c1 hf with ⟨hcs, _⟩ | ⟨x, l, c, m, n, V0, V1, D0, D1, P0, P1, hcs, _⟩
  · simp [Value.cells] at hcs
    exact fun _ => hcs.2.2
  · simp [Value.cells] at hcs
    intro e
    rw [hcs.1] at e
    cases e
theorem cap_sm {t e : TypeId} {a : Option Addr} {len cap : Nat} {d : DataW H} {p : List MemPlace} (ht : P.underlying t = some (.slice e)) (h : DataW.Trod enc P w base spare held t (.slice a len cap) d p) : len ≤ cap := by
  obtain ⟨fuel, hf⟩ := h
  rcases Go.Deep.open_slice ht hf with ⟨hcs, _⟩ | ⟨x, l, c, m, n, D, Pl, hcs, _, hl, hm, hmm, hx, hi⟩
  · simp [Value.cells] at hcs
    obtain ⟨rfl, rfl, rfl⟩ := hcs
    exact Nat.le_refl _
  · simp [Value.cells] at hcs
    obtain ⟨rfl, rfl, rfl⟩ := hcs
    exact hl
end

theorem wf_i64 {n : Int} (h : (Lit.int .i64 n).wf = true) : -9223372036854775808 ≤ n ∧ n ≤ 9223372036854775807 := by
  simp [Lit.wf, IntKind.min, IntKind.max, IntKind.signed, IntKind.bits] at h
  omega
theorem globNames : Tryd.prog.globalNamed "galley/class.names" = some 0 := by kernel_rfl
theorem typeNames : (Tryd.prog.globals[0]?).map (·.type) = some 102 := by kernel_rfl
theorem globOdd : Tryd.prog.globalNamed "galley/bracket.odd" = some 1 := by kernel_rfl
theorem typeOdd : (Tryd.prog.globals[1]?).map (·.type) = some 108 := by kernel_rfl
theorem globClosers : Tryd.prog.globalNamed "galley/bracket.closers" = some 2 := by kernel_rfl
def nmList : List (ByteArray × Int × Int) := (List.range 23).map fun k => (nmS k, ((nmLo k : Nat) : Int), ((nmHi k : Nat) : Int))
theorem nmList_at (k : Nat) (h : k < 23) : nmList[k]? = some (nmS k, ((nmLo k : Nat) : Int), ((nmHi k : Nat) : Int)) := by
  unfold nmList
  rw [List.getElem?_map, List.getElem?_range h]
  rfl
theorem nmRow_at (k : Nat) (h : k < 23) : nmRow.toList[k * 3]? = some (.string (nmS k)) ∧ nmRow.toList[k * 3 + 1]? = some (.int .u8 ((nmLo k : Nat) : Int)) ∧ nmRow.toList[k * 3 + 2]? = some (.int .u8 ((nmHi k : Nat) : Int)) := by
  have h : k = 0 ∨ k = 1 ∨ k = 2 ∨ k = 3 ∨ k = 4 ∨ k = 5 ∨ k = 6 ∨ k = 7 ∨ k = 8 ∨ k = 9 ∨ k = 10 ∨ k = 11 ∨ k = 12 ∨ k = 13 ∨ k = 14 ∨ k = 15 ∨ k = 16 ∨ k = 17 ∨ k = 18 ∨ k = 19 ∨ k = 20 ∨ k = 21 ∨ k = 22 := by omega
  rcases h with rfl | rfl | rfl | rfl | rfl | rfl | rfl | rfl | rfl | rfl | rfl | rfl | rfl | rfl | rfl | rfl | rfl | rfl | rfl | rfl | rfl | rfl | rfl
  all_goals exact ⟨rfl, rfl, rfl⟩
theorem typeClosers : (Tryd.prog.globals[2]?).map (·.type) = some 160 := by kernel_rfl
set_option maxRecDepth 100000 in
/-- The tables lie as the row lists them. -/
theorem w4_of_laid {W : World} (h : laidMetH Tryd.prog [("galley/class.names", Rows.laid_galley_class_names), ("galley/bracket.odd", Rows.laid_galley_bracket_odd), ("galley/bracket.closers", Rows.laid_galley_bracket_closers)] W) : W4 W := by
  rw [MakeChecks.laidMetH_plain _ _ _ (by kernel_rfl)] at h
  obtain ⟨ps, ⟨g0, t0, cs0, f0, p0, q0, hg0, ht0, hv0, hd0, ⟨g1, t1, cs1, f1, p1, q1, hg1, ht1, hv1, hd1, ⟨g2, t2, cs2, f2, p2, q2, hg2, ht2, hv2, hd2, _, _⟩, _⟩, _⟩, _, _⟩ := h
  obtain rfl := Option.some.inj (globNames.symm.trans hg0)
  obtain rfl := Option.some.inj (typeNames.symm.trans ht0)
  obtain rfl := Option.some.inj (globOdd.symm.trans hg1)
  obtain rfl := Option.some.inj (typeOdd.symm.trans ht1)
  obtain rfl := Option.some.inj (globClosers.symm.trans hg2)
  obtain rfl := Option.some.inj (typeClosers.symm.trans ht2)
  have hp := triple_cells Tryd.underlying102 Tryd.underlying101 Tryd.underlying9 Tryd.underlying5 rfl rfl rfl rfl rfl rfl rfl rfl rfl (by kernel_rfl) (by kernel_rfl) (by kernel_rfl) hd0 nmList rfl
  have ho := byte_cells Tryd.underlying108 Tryd.underlying5 (by kernel_rfl) hd1 [91, 93, 45, 94] rfl
  have hc := pair_cells Tryd.underlying160 Tryd.underlying159 Tryd.underlying5 rfl rfl rfl rfl rfl rfl (by kernel_rfl) (by kernel_rfl) hd2 [(58, 58), (61, 61), (46, 46)] rfl
  have key : ∀ (i : Nat) (v : Value), cs1.toList[i]? = some v → W.cell? ⟨1, i, none⟩ = some v := fun i v hv => by rw [World.var?_cell hg1 hv1 i]; simpa using hv
  have key2 : ∀ (i : Nat) (v : Value), cs2.toList[i]? = some v → W.cell? ⟨2, i, none⟩ = some v := fun i v hv => by rw [World.var?_cell hg2 hv2 i]; simpa using hv
  refine ⟨⟨?_, key2 _ _ (hc 0 _ rfl).1, key2 _ _ (hc 0 _ rfl).2, key2 _ _ (hc 1 _ rfl).1, key2 _ _ (hc 1 _ rfl).2, key2 _ _ (hc 2 _ rfl).1, key2 _ _ (hc 2 _ rfl).2⟩, ⟨key _ _ (ho 0 _ rfl), key _ _ (ho 1 _ rfl), key _ _ (ho 2 _ rfl), key _ _ (ho 3 _ rfl)⟩⟩
  intro j v hv
  have hj : j < 69 := (List.getElem?_eq_some_iff.1 hv).1
  rw [Nat.zero_add, World.var?_cell hg0 hv0 j, ← hv]
  have hk : j / 3 < 23 := by omega
  obtain ⟨a1, a2, a3⟩ := hp (j / 3) _ (nmList_at _ hk)
  obtain ⟨b1, b2, b3⟩ := nmRow_at (j / 3) hk
  have hcc : j = j / 3 * 3 ∨ j = j / 3 * 3 + 1 ∨ j = j / 3 * 3 + 2 := by omega
  rcases hcc with e | e | e <;> rw [e]
  · rw [b1, ← a1]; simp
  · rw [b2, ← a2]; simp
  · rw [b3, ← a3]; simp
set_option maxRecDepth 100000 in
/-- The tables lie as the row lists them. -/
theorem w4_of_laid6 {W : World} (h : laidMetH Tryd.prog [("math/bits.deBruijn32tab", Rows.laid_math_bits_deBruijn32tab), ("math/bits.deBruijn64tab", Rows.laid_math_bits_deBruijn64tab), ("internal/strconv.uint64pow10", Rows.laid_internal_strconv_uint64pow10), ("galley/class.names", Rows.laid_galley_class_names), ("galley/bracket.odd", Rows.laid_galley_bracket_odd), ("galley/bracket.closers", Rows.laid_galley_bracket_closers)] W) : W4 W := by
  rw [MakeChecks.laidMetH_plain _ _ _ (by kernel_rfl)] at h
  obtain ⟨ps, ⟨_, _, _, _, _, _, _, _, _, _, ⟨_, _, _, _, _, _, _, _, _, _, ⟨_, _, _, _, _, _, _, _, _, _, ⟨g0, t0, cs0, f0, p0, q0, hg0, ht0, hv0, hd0, ⟨g1, t1, cs1, f1, p1, q1, hg1, ht1, hv1, hd1, ⟨g2, t2, cs2, f2, p2, q2, hg2, ht2, hv2, hd2, _, _⟩, _⟩, _⟩, _⟩, _⟩, _⟩, _, _⟩ := h
  obtain rfl := Option.some.inj (globNames.symm.trans hg0)
  obtain rfl := Option.some.inj (typeNames.symm.trans ht0)
  obtain rfl := Option.some.inj (globOdd.symm.trans hg1)
  obtain rfl := Option.some.inj (typeOdd.symm.trans ht1)
  obtain rfl := Option.some.inj (globClosers.symm.trans hg2)
  obtain rfl := Option.some.inj (typeClosers.symm.trans ht2)
  have hp := triple_cells Tryd.underlying102 Tryd.underlying101 Tryd.underlying9 Tryd.underlying5 rfl rfl rfl rfl rfl rfl rfl rfl rfl (by kernel_rfl) (by kernel_rfl) (by kernel_rfl) hd0 nmList rfl
  have ho := byte_cells Tryd.underlying108 Tryd.underlying5 (by kernel_rfl) hd1 [91, 93, 45, 94] rfl
  have hc := pair_cells Tryd.underlying160 Tryd.underlying159 Tryd.underlying5 rfl rfl rfl rfl rfl rfl (by kernel_rfl) (by kernel_rfl) hd2 [(58, 58), (61, 61), (46, 46)] rfl
  have key : ∀ (i : Nat) (v : Value), cs1.toList[i]? = some v → W.cell? ⟨1, i, none⟩ = some v := fun i v hv => by rw [World.var?_cell hg1 hv1 i]; simpa using hv
  have key2 : ∀ (i : Nat) (v : Value), cs2.toList[i]? = some v → W.cell? ⟨2, i, none⟩ = some v := fun i v hv => by rw [World.var?_cell hg2 hv2 i]; simpa using hv
  refine ⟨⟨?_, key2 _ _ (hc 0 _ rfl).1, key2 _ _ (hc 0 _ rfl).2, key2 _ _ (hc 1 _ rfl).1, key2 _ _ (hc 1 _ rfl).2, key2 _ _ (hc 2 _ rfl).1, key2 _ _ (hc 2 _ rfl).2⟩, ⟨key _ _ (ho 0 _ rfl), key _ _ (ho 1 _ rfl), key _ _ (ho 2 _ rfl), key _ _ (ho 3 _ rfl)⟩⟩
  intro j v hv
  have hj : j < 69 := (List.getElem?_eq_some_iff.1 hv).1
  rw [Nat.zero_add, World.var?_cell hg0 hv0 j, ← hv]
  have hk : j / 3 < 23 := by omega
  obtain ⟨a1, a2, a3⟩ := hp (j / 3) _ (nmList_at _ hk)
  obtain ⟨b1, b2, b3⟩ := nmRow_at (j / 3) hk
  have hcc : j = j / 3 * 3 ∨ j = j / 3 * 3 + 1 ∨ j = j / 3 * 3 + 2 := by omega
  rcases hcc with e | e | e <;> rw [e]
  · rw [b1, ← a1]; simp
  · rw [b2, ← a2]; simp
  · rw [b3, ← a3]; simp
end Go.Proofs.YthegepiafodpjaaDoor

namespace Go.Proofs.YthegepiafodpjaaDoor.bracketItems
open Go.ChangeShapes Go.WideShapes Go.ChangeAt Go.RowKit

theorem door_met (os : Os) (args : Array Value) : laidMetH Tryd.prog [("galley/class.names", Rows.laid_galley_class_names), ("galley/bracket.odd", Rows.laid_galley_bracket_odd), ("galley/bracket.closers", Rows.laid_galley_bracket_closers)] ((World.doorLaid Tryd.prog 400 os).forCall (fun _ _ => 0) ⟨#[], args, []⟩).memory :=
  laidMetH_of_parts3 (fuel := 8) (laidMet_of_run' 8 (by kernel_rfl) (by kernel_rfl)) (by kernel_rfl) (by kernel_rfl)

set_option maxRecDepth 100000 in
theorem lifted (os : Os) (started : os.Started) (H : Type) (enc : TypeId × Value → H) :
    ReturnsInHanded {} Tryd.checked os 6 .any (fun w args => (Rows.bracketItemsSpec.pre enc Tryd.prog Tryd.f6 [] false w args ∧ laidMetH Tryd.prog [("galley/class.names", Rows.laid_galley_class_names), ("galley/bracket.odd", Rows.laid_galley_bracket_odd), ("galley/bracket.closers", Rows.laid_galley_bracket_closers)] w) ∧ sizedMet enc Tryd.prog Tryd.f6 (OpenSpec.ofChange Rows.bracketItemsSpec) false w args)
      (Rows.bracketItemsSpec.post enc Tryd.prog Tryd.f6 false true false false) := by
  refine returns_laid3 (C := Tryd.checked) (X := fun w _ => laidMetH Tryd.prog [("galley/class.names", Rows.laid_galley_class_names), ("galley/bracket.odd", Rows.laid_galley_bracket_odd), ("galley/bracket.closers", Rows.laid_galley_bracket_closers)] w) (fun _ _ _ hh h => h.of_heap hh) own started (by kernel_rfl) Tryd.func6
    (ChangeSpec.witness_shaped (enc := enc) (C := Tryd.checked) (os := os) (X := fun w _ => laidMetH Tryd.prog [("galley/class.names", Rows.laid_galley_class_names), ("galley/bracket.odd", Rows.laid_galley_bracket_odd), ("galley/bracket.closers", Rows.laid_galley_bracket_closers)] w) false (World.doorLaid Tryd.prog 400 os) #[.bool false, .slice none 0 0] 8 rfl (World.shaped_of_RefB (by kernel_rfl) (by kernel_rfl)) (by kernel_rfl) (by kernel_rfl) (by kernel_rfl) (door_met os _)) ?_
  intro W args ds gs before base hval0 hW hsz0 hL hsh
  have hval : ∀ (j : Nat) t v, Tryd.f6.params[j]? = some t → args[j]? = some v → Value.okWide Tryd.prog W .any base t v := hval0
  have hsz : (DataW.weightsEach Tryd.prog (Tryd.f6.params.toList ++ Rows.bracketItemsSpec.plain.varTypes Tryd.prog) (ds ++ gs)).all (· ≤ reachBytes) = true := hsz0
  have hW' := hW
  obtain ⟨p, q, hA0, hV, rfl, hfz, hnd⟩ := hW
  have hA : DataW.TrodAll enc Tryd.prog W 0 (fun _ => true) true Tryd.f6.params.toList args.toList ds p := hA0
  rw [Tryd.params6] at hA hval hsz
  obtain ⟨v0, vs0, d0, ds0, p0, q0, hargs, rfl, rfl, h0, r0⟩ := trodAll_cons hA
  obtain ⟨v1, vs1, d1, ds1, p1, q1, rfl, rfl, rfl, h1, r1⟩ := trodAll_cons r0
  obtain ⟨rfl, rfl, rfl⟩ := trodAll_nil r1
  obtain rfl : args = #[v0, v1] := by cases args; simp_all
  obtain ⟨rfl, rfl⟩ := trodVars_none hV
  have lt0 : ∀ x ∈ p0, x.block < W.heap.size := by obtain ⟨m, hm⟩ := h0; exact DataW.trod_lt m _ _ _ hm
  have lt1 : ∀ x ∈ p1, x.block < W.heap.size := by obtain ⟨m, hm⟩ := h1; exact DataW.trod_lt m _ _ _ hm
  obtain ⟨b0, rfl, e0, f0⟩ := open_bool Tryd.underlying4 (hval 0 4 v0 rfl rfl) h0
  obtain ⟨a1, len1, cap1, rfl⟩ := okWide_slice Tryd.underlying63 (hval 1 63 v1 rfl rfl)
  obtain ⟨l1, hl1, hB1⟩ := open_ss (ks := ks04) Tryd.underlying63 Tryd.underlying65 (by kernel_rfl) (by kernel_rfl) (of_decide_eq_true (by kernel_rfl)) (by simp [ks04]) ⟨Tryd.underlying3, Tryd.underlying5, Tryd.underlying5, Tryd.underlying3, trivial⟩ h1 (weights_argS hsz (j := 1) (t := 63) rfl rfl)
  clear hA0 hval0
  refine (itB_any W (w4_of_laid hL) b0 a1 len1 cap1 l1 hB1).mono fun e W' ⟨he, bel⟩ => ?_
  subst he
  exact ⟨_, rfl, _, _, _, [], _, [], hW', trodAll_mk1 (shut_bool Tryd.underlying4 _),
    (trodAll_cons_mk (Below.trod laidOut (by kernel_rfl) (of_decide_eq_true (by kernel_rfl)) h0 bel lt0) (trodAll_cons_mk (Below.trod laidOut (by kernel_rfl) (of_decide_eq_true (by kernel_rfl)) h1 bel lt1) trodAll_mk0)), rfl, bel.frame _, fun h => by cases h⟩

theorem row_holds : Rows.BracketItemsSaid :=
  OpenClaim.holds_of_wide 6 Tryd.f6 rfl rfl rfl rfl rfl rfl rfl ⟨rfl, rfl, rfl, rfl, rfl⟩ rfl rfl rfl rfl rfl (by kernel_rfl) Tryd.func6 (by kernel_rfl)
    (of_decide_eq_true (by kernel_rfl)) (by unfold Func.isWrapper; first | (rw [if_pos (by decide +kernel)]; kernel_rfl) | (rw [if_neg (by decide +kernel)]; exact ⟨rfl, rfl⟩))
    (fun os started H enc _ => lifted os started H enc)
theorem holds : Rows.BracketItemsCardSaid :=
  Claim7.holds_tied_plain_at .later [] [.data, .data, .data] true Rows.bracketItemsCard.stood.harness Rows.bracketItemsCard.stood.looks
    row_holds (fun _ h => by cases h) (by kernel_rfl) (fun _ h => by cases h) bracketItems_row_tie rfl ⟨rfl, rfl⟩ (by kernel_rfl) rfl
    (fun f fn hf hfn => by
      obtain rfl : f = 6 := Option.some.inj ((show Tryd.prog.funcNamed "galley/galleylaw04.BracketItems" = some 6 by kernel_rfl).symm.trans hf) |>.symm
      obtain rfl : fn = Tryd.f6 := (Option.some.inj (Tryd.func6.symm.trans hfn)).symm
      exact ⟨by kernel_rfl, fun j t ht => by
        rw [Tryd.params6] at ht
        have hm : t ∈ [4, 63] := by simpa using Array.mem_of_getElem? ht
        have hall : ([4, 63].all fun u => !Tryd.prog.wantsStandIn u) = true := by kernel_rfl
        exact (show Tryd.prog.wantsStandIn t = false by simpa using List.all_eq_true.1 hall t hm)⟩)
    (by kernel_rfl)
#print axioms holds
end Go.Proofs.YthegepiafodpjaaDoor.bracketItems

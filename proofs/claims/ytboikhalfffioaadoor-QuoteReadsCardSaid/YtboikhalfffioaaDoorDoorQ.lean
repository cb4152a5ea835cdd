/-
  How the tables and the error that the rows of layer 2 list are found in the first world.
-/
import Derived.Test.YtboikhalfffioaaDoorDoor0
import Derived.Test.YtboikhalfffioaaDoorWk2
import Derived.Stop.LaidErr
import Derived.Lib.LaidTab
namespace Go.Proofs.YtboikhalfffioaaDoor
open Go.ChangeShapes Go.WideShapes Go.ChangeAt Go.RowKit

section
variable {H : Type} {enc : TypeId × Value → H} {P : Program} {w : World} {base : Nat} {spare : Nat → Bool} {held : Bool} {fuel : Nat}
/-- An array of a number and a string each: the cells that read so. -/
theorem named_cells {t e b c : TypeId} {n : Nat} {k : IntKind} {fs : Array Field} {f0 f1 : Field} {cs : List Value} {x : DataW H × List MemPlace} (ht : P.underlying t = some (.array n e)) (he : P.underlying e = some (.struct fs)) (hb : P.underlying b = some (.int k)) (hs : P.underlying c = some .string)
    (h0 : fs[0]? = some f0) (h1 : fs[1]? = some f1) (t0 : f0.type = b) (t1 : f1.type = c) (o0 : f0.offset = 0) (o1 : f1.offset = 1) (ce : P.cellsOf e = 2) (cb : P.cellsOf b = 1) (cc : P.cellsOf c = 1)
    (h : DataW.trod enc P w base spare held fuel t cs = some x) (ps : List (Int × ByteArray)) (hd : x.1 = .agg (ps.map fun p => .agg [.lit (.int k p.1), .lit (.string p.2.data.toList)])) :
    ∀ (i : Nat) (p : Int × ByteArray), ps[i]? = some p → cs[i * 2]? = some (.int k p.1) ∧ cs[i * 2 + 1]? = some (.string p.2) := by
  obtain ⟨xs, m, rfl, rfl, hlen, hn, hel⟩ := DataW.trod_array ht h
  simp only [DataW.agg.injEq] at hd
  intro i p hp
  have hxi : (xs.map (·.1))[i]? = some (.agg [.lit (.int k p.1), .lit (.string p.2.data.toList)]) := by rw [hd, List.getElem?_map, hp]; rfl
  rw [List.getElem?_map, Option.map_eq_some_iff] at hxi
  obtain ⟨y, hy, hy1⟩ := hxi
  have hi : i < n := by rw [← hn]; exact (List.getElem?_eq_some_iff.1 hy).1
  have h2 := hel i hi
  rw [hy, ce] at h2
  obtain ⟨zs, m2, rfl, rfl, hl2, hz, hf⟩ := DataW.trod_struct he h2
  simp only [DataW.agg.injEq] at hy1
  have g0 := hf 0 f0 h0
  have g1 := hf 1 f1 h1
  rw [t0, o0, cb] at g0
  rw [t1, o1, cc] at g1
  have hz2 : zs.length = 2 := by have := congrArg List.length hy1; simpa using this
  obtain ⟨z0, z1, rfl⟩ : ∃ z0 z1, zs = [z0, z1] := by
    match zs, hz2 with
    | [z0, z1], _ => exact ⟨z0, z1, rfl⟩
  · simp only [List.map_cons, List.map_nil, List.cons.injEq, and_true] at hy1
    obtain ⟨k0, c0, e0, -⟩ := DataW.trod_int hb (show DataW.trod enc P w base spare held m2 b _ = some z0 from g0)
    obtain ⟨k1, c1, e1, -⟩ := DataW.trod_string hs (show DataW.trod enc P w base spare held m2 c _ = some z1 from g1)
    rw [e0, e1] at hy1
    simp only [DataW.lit.injEq, Lit.int.injEq, Lit.string.injEq, true_and] at hy1
    obtain ⟨rfl, hk⟩ := hy1
    obtain rfl : k1 = p.2 := ByteArray.ext (Array.toList_inj.1 hk)
    have q0 := congrArg (fun l : List Value => l[0]?) c0
    have q1 := congrArg (fun l : List Value => l[0]?) c1
    simp only [List.drop_zero, List.getElem?_cons_zero] at q0 q1
    rw [List.getElem?_take_of_lt (by omega), List.getElem?_take_of_lt (by omega), List.getElem?_drop, Nat.add_zero] at q0
    rw [List.getElem?_take_of_lt (by omega), List.getElem?_drop, List.getElem?_take_of_lt (by omega), List.getElem?_drop] at q1
    exact ⟨q0, by simpa using q1⟩
end

theorem wf_i64q {n : Int} (h : (Lit.int .i64 n).wf = true) : -9223372036854775808 ≤ n ∧ n ≤ 9223372036854775807 := by
  simp [Lit.wf, IntKind.min, IntKind.max, IntKind.signed, IntKind.bits] at h
  omega
theorem globWords : Tryd.prog.globalNamed "galley/quote.words" = some 1 := by kernel_rfl
theorem typeWords : (Tryd.prog.globals[1]?).map (·.type) = some 71 := by kernel_rfl
theorem globErr : Tryd.prog.globalNamed "galley/quote.errNone" = some 0 := by kernel_rfl
theorem typeErr : (Tryd.prog.globals[0]?).map (·.type) = some 64 := by kernel_rfl
theorem globPow : Tryd.prog.globalNamed "internal/strconv.uint64pow10" = some 2 := by kernel_rfl
theorem typePow : (Tryd.prog.globals[2]?).map (·.type) = some 165 := by kernel_rfl
theorem powData : (Rows.laid_internal_strconv_uint64pow10 : DataW Unit) = Lib.tabData .u64 Lib.pow10Tab := by kernel_rfl
theorem star_err : "*" ++ "errors.errorString" = "*errors.errorString" := by decide
theorem row_err (u : TypeId) (h : Tryd.prog.typeName? 3 u = some "*errors.errorString") : u = 172 :=
  typeName_ptr_named (nm := "errors.errorString") (by rw [star_err]; kernel_rfl) (by kernel_rfl) (by decide) u (by rw [star_err]; exact h)
theorem words_at (l : List (Int × ByteArray)) (j : Nat) (v : Value) (h : (wCells l)[j]? = some v) : ∃ p, l[j / 2]? = some p ∧ ((j = j / 2 * 2 ∧ v = .int .i64 p.1) ∨ (j = j / 2 * 2 + 1 ∧ v = .string p.2)) := by
  induction l generalizing j with
  | nil => simp [wCells] at h
  | cons q l ih =>
    have hq : wCells (q :: l) = .int .i64 q.1 :: .string q.2 :: wCells l := rfl
    rw [hq] at h
    match j, h with
    | 0, h => exact ⟨q, rfl, .inl ⟨rfl, by simpa using h.symm⟩⟩
    | 1, h => exact ⟨q, rfl, .inr ⟨rfl, by simpa using h.symm⟩⟩
    | j + 2, h =>
      obtain ⟨p, hp, hv⟩ := ih j (by simpa using h)
      refine ⟨p, by rw [show (j + 2) / 2 = j / 2 + 1 by omega]; simpa using hp, ?_⟩
      rcases hv with ⟨e, hv⟩ | ⟨e, hv⟩
      · exact .inl ⟨by omega, hv⟩
      · exact .inr ⟨by omega, hv⟩

set_option maxRecDepth 100000 in
/-- The tables and the error lie as the row lists them. -/
theorem w2_of_laid {W : World} (h : laidMetH Tryd.prog [("math/bits.deBruijn32tab", Rows.laid_math_bits_deBruijn32tab), ("math/bits.deBruijn64tab", Rows.laid_math_bits_deBruijn64tab), ("internal/strconv.uint64pow10", Rows.laid_internal_strconv_uint64pow10), ("galley/quote.errNone", Rows.laid_galley_quote_errNone), ("galley/quote.words", Rows.laid_galley_quote_words)] W) : W2 W := by
  rw [MakeChecks.laidMetH_plain _ _ _ (by kernel_rfl)] at h
  have h3 := h.tail.tail
  rw [powData] at h3
  have hpow := Lib.tabIs_of_head globPow typePow Tryd.underlying165 Tryd.underlying108 (by kernel_rfl) (by kernel_rfl) h3
  have h4 := h3.tail
  obtain ⟨a, s, hv, -, -, -⟩ := laid_sentinel h4 globErr typeErr Tryd.underlying64 row_err Tryd.underlying172 Tryd.underlying195 rfl rfl Tryd.underlying9 (by kernel_rfl) (by kernel_rfl)
  have h5 := h4.tail
  obtain ⟨ps, ⟨g0, t0, cs0, f0, p0, q0, hg0, ht0, hv0, hd0, _, _⟩, _, _⟩ := h5
  obtain rfl := Option.some.inj (globWords.symm.trans hg0)
  obtain rfl := Option.some.inj (typeWords.symm.trans ht0)
  have hp := named_cells Tryd.underlying71 Tryd.underlying70 Tryd.underlying52 Tryd.underlying9 rfl rfl rfl rfl rfl rfl (by kernel_rfl) (by kernel_rfl) (by kernel_rfl) hd0 wordsL rfl
  refine ⟨⟨fun j v hj => ?_, hpow⟩, a, ⟨?_⟩⟩
  · rw [Nat.zero_add, World.var?_cell hg0 hv0 j]
    obtain ⟨p, hpj, hh⟩ := words_at wordsL j v hj
    obtain ⟨c1, c2⟩ := hp (j / 2) p hpj
    rcases hh with ⟨e, rfl⟩ | ⟨e, rfl⟩
    · rw [e, ← c1]; simp
    · rw [e, ← c2]; simp
  · rw [World.var?_cell globErr hv 0]
    rfl
end Go.Proofs.YtboikhalfffioaaDoor

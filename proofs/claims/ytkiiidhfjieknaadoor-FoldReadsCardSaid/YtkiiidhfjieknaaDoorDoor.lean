/-
  How the table of letters, which the row lists, and the library's number are found in the first world.
-/
import Derived.Test.YtkiiidhfjieknaaDoorLives
import Derived.Test.YtkiiidhfjieknaaDoorOpen
import Derived.LaidMore
import Derived.OpenShut
import Derived.Stop.Joined
import Derived.HandedShaped
import Derived.Shelf.Vars
namespace Go.Proofs.YtkiiidhfjieknaaDoor
open Go.ChangeShapes Go.WideShapes Go.ChangeAt Go.RowKit

section
variable {H : Type} {enc : TypeId × Value → H} {P : Program} {w : World} {base : Nat} {spare : Nat → Bool} {held : Bool} {fuel : Nat}
/-- An array of pairs of bytes: the cells that read so. -/
theorem pair_cells {t e b : TypeId} {n : Nat} {fs : Array Field} {f0 f1 : Field} {cs : List Value} {x : DataW H × List MemPlace} (ht : P.underlying t = some (.array n e)) (he : P.underlying e = some (.struct fs)) (hb : P.underlying b = some (.int .u8))
    (h0 : fs[0]? = some f0) (h1 : fs[1]? = some f1) (t0 : f0.type = b) (t1 : f1.type = b) (o0 : f0.offset = 0) (o1 : f1.offset = 1) (ce : P.cellsOf e = 2) (cb : P.cellsOf b = 1)
    (h : DataW.trod enc P w base spare held fuel t cs = some x) (ps : List (Int × Int)) (hd : x.1 = .agg (ps.map fun p => .agg [.lit (.int .u8 p.1), .lit (.int .u8 p.2)])) :
    ∀ (i : Nat) (p : Int × Int), ps[i]? = some p → cs[i * 2]? = some (.int .u8 p.1) ∧ cs[i * 2 + 1]? = some (.int .u8 p.2) := by
  obtain ⟨xs, m, rfl, rfl, hlen, hn, hel⟩ := DataW.trod_array ht h
  simp only [DataW.agg.injEq] at hd
  intro i p hp
  have hxi : (xs.map (·.1))[i]? = some (.agg [.lit (.int .u8 p.1), .lit (.int .u8 p.2)]) := by rw [hd, List.getElem?_map, hp]; rfl
  rw [List.getElem?_map, Option.map_eq_some_iff] at hxi
  obtain ⟨y, hy, hy1⟩ := hxi
  have hi : i < n := by rw [← hn]; exact (List.getElem?_eq_some_iff.1 hy).1
  have h2 := hel i hi
  rw [hy, ce] at h2
  obtain ⟨zs, m2, rfl, rfl, hl2, hz, hf⟩ := DataW.trod_struct he h2
  simp only [DataW.agg.injEq] at hy1
  have g0 := hf 0 f0 h0
  have g1 := hf 1 f1 h1
  rw [t0, o0, cb] at g0
  rw [t1, o1, cb] at g1
  have hz2 : zs.length = 2 := by have := congrArg List.length hy1; simpa using this
  obtain ⟨z0, z1, rfl⟩ : ∃ z0 z1, zs = [z0, z1] := by
    match zs, hz2 with
    | [z0, z1], _ => exact ⟨z0, z1, rfl⟩
  · simp only [List.map_cons, List.map_nil, List.cons.injEq, and_true] at hy1
    obtain ⟨k0, c0, e0, -⟩ := DataW.trod_int hb (show DataW.trod enc P w base spare held m2 b _ = some z0 from g0)
    obtain ⟨k1, c1, e1, -⟩ := DataW.trod_int hb (show DataW.trod enc P w base spare held m2 b _ = some z1 from g1)
    rw [e0, e1] at hy1
    simp only [DataW.lit.injEq, Lit.int.injEq, true_and] at hy1
    obtain ⟨rfl, rfl⟩ := hy1
    have q0 := congrArg (fun l : List Value => l[0]?) c0
    have q1 := congrArg (fun l : List Value => l[0]?) c1
    simp only [List.drop_zero, List.getElem?_cons_zero] at q0 q1
    rw [List.getElem?_take_of_lt (by omega), List.getElem?_take_of_lt (by omega), List.getElem?_drop, Nat.add_zero] at q0
    rw [List.getElem?_take_of_lt (by omega), List.getElem?_drop, List.getElem?_take_of_lt (by omega), List.getElem?_drop] at q1
    exact ⟨q0, by simpa using q1⟩
end

theorem globLetters : Tryd.prog.globalNamed "galley/fold.letters" = some 0 := by kernel_rfl
theorem typeLetters : (Tryd.prog.globals[0]?).map (·.type) = some 120 := by kernel_rfl
/-- The table of letters lies as the row lists it. -/
theorem let_of_laid {W : World} (h : laidMetH Tryd.prog [("galley/fold.letters", Rows.laid_galley_fold_letters)] W) : LetW W := by
  rw [MakeChecks.laidMetH_plain _ _ _ (by kernel_rfl)] at h
  obtain ⟨ps, ⟨g0, t0, cs0, f0, p0, q0, hg0, ht0, hv0, hd0, _, _⟩, _, _⟩ := h
  obtain rfl := Option.some.inj (globLetters.symm.trans hg0)
  obtain rfl := Option.some.inj (typeLetters.symm.trans ht0)
  have hp := pair_cells Tryd.underlying120 Tryd.underlying119 Tryd.underlying5 rfl rfl rfl rfl rfl rfl (by kernel_rfl) (by kernel_rfl) hd0 [(92, 92), (7, 97), (8, 98), (9, 116), (10, 110), (11, 118), (12, 102), (13, 114)] rfl
  refine ⟨fun i hi => ?_⟩
  rw [World.var?_cell hg0 hv0 i]
  have key : ∀ (k : Nat) (p : Int × Int), ([(92, 92), (7, 97), (8, 98), (9, 116), (10, 110), (11, 118), (12, 102), (13, 114)] : List (Int × Int))[k]? = some p → cs0[k * 2]? = some (.int .u8 p.1) ∧ cs0[k * 2 + 1]? = some (.int .u8 p.2) := fun k p hk => by
    have := hp k p hk
    simpa using this
  have hc : i = 0 ∨ i = 1 ∨ i = 2 ∨ i = 3 ∨ i = 4 ∨ i = 5 ∨ i = 6 ∨ i = 7 ∨ i = 8 ∨ i = 9 ∨ i = 10 ∨ i = 11 ∨ i = 12 ∨ i = 13 ∨ i = 14 ∨ i = 15 := by omega
  rcases hc with rfl | rfl | rfl | rfl | rfl | rfl | rfl | rfl | rfl | rfl | rfl | rfl | rfl | rfl | rfl | rfl
  · exact (key 0 _ rfl).1
  · exact (key 0 _ rfl).2
  · exact (key 1 _ rfl).1
  · exact (key 1 _ rfl).2
  · exact (key 2 _ rfl).1
  · exact (key 2 _ rfl).2
  · exact (key 3 _ rfl).1
  · exact (key 3 _ rfl).2
  · exact (key 4 _ rfl).1
  · exact (key 4 _ rfl).2
  · exact (key 5 _ rfl).1
  · exact (key 5 _ rfl).2
  · exact (key 6 _ rfl).1
  · exact (key 6 _ rfl).2
  · exact (key 7 _ rfl).1
  · exact (key 7 _ rfl).2
theorem env_of {W : World} (h : laidMetH Tryd.prog [("galley/fold.letters", Rows.laid_galley_fold_letters)] W) (hs : W.ShapedOpen Tryd.prog) : EnvW W :=
  ⟨let_of_laid h, cell_of_shapedOpen_int (g := 1) (zero := #[.int .i64 0]) hs (of_decide_eq_true (by kernel_rfl)) (by kernel_rfl) (by kernel_rfl) (by kernel_rfl) (by kernel_rfl) Tryd.underlying3⟩

/-- The same, where the row lists three tables of the library ahead of it. -/
theorem let_of_laid4 {W : World} (h : laidMetH Tryd.prog [("math/bits.deBruijn32tab", Rows.laid_math_bits_deBruijn32tab), ("math/bits.deBruijn64tab", Rows.laid_math_bits_deBruijn64tab), ("internal/strconv.uint64pow10", Rows.laid_internal_strconv_uint64pow10), ("galley/fold.letters", Rows.laid_galley_fold_letters)] W) : LetW W := by
  rw [MakeChecks.laidMetH_plain _ _ _ (by kernel_rfl)] at h
  obtain ⟨ps, ⟨_, _, _, _, _, _, _, _, _, _, ⟨_, _, _, _, _, _, _, _, _, _, ⟨_, _, _, _, _, _, _, _, _, _, ⟨g0, t0, cs0, f0, p0, q0, hg0, ht0, hv0, hd0, _, _⟩, _⟩, _⟩, _⟩, _, _⟩ := h
  obtain rfl := Option.some.inj (globLetters.symm.trans hg0)
  obtain rfl := Option.some.inj (typeLetters.symm.trans ht0)
  have hp := pair_cells Tryd.underlying120 Tryd.underlying119 Tryd.underlying5 rfl rfl rfl rfl rfl rfl (by kernel_rfl) (by kernel_rfl) hd0 [(92, 92), (7, 97), (8, 98), (9, 116), (10, 110), (11, 118), (12, 102), (13, 114)] rfl
  refine ⟨fun i hi => ?_⟩
  rw [World.var?_cell hg0 hv0 i]
  have key : ∀ (k : Nat) (p : Int × Int), ([(92, 92), (7, 97), (8, 98), (9, 116), (10, 110), (11, 118), (12, 102), (13, 114)] : List (Int × Int))[k]? = some p → cs0[k * 2]? = some (.int .u8 p.1) ∧ cs0[k * 2 + 1]? = some (.int .u8 p.2) := fun k p hk => by
    have := hp k p hk
    simpa using this
  have hc : i = 0 ∨ i = 1 ∨ i = 2 ∨ i = 3 ∨ i = 4 ∨ i = 5 ∨ i = 6 ∨ i = 7 ∨ i = 8 ∨ i = 9 ∨ i = 10 ∨ i = 11 ∨ i = 12 ∨ i = 13 ∨ i = 14 ∨ i = 15 := by omega
  rcases hc with rfl | rfl | rfl | rfl | rfl | rfl | rfl | rfl | rfl | rfl | rfl | rfl | rfl | rfl | rfl | rfl
  · exact (key 0 _ rfl).1
  · exact (key 0 _ rfl).2
  · exact (key 1 _ rfl).1
  · exact (key 1 _ rfl).2
  · exact (key 2 _ rfl).1
  · exact (key 2 _ rfl).2
  · exact (key 3 _ rfl).1
  · exact (key 3 _ rfl).2
  · exact (key 4 _ rfl).1
  · exact (key 4 _ rfl).2
  · exact (key 5 _ rfl).1
  · exact (key 5 _ rfl).2
  · exact (key 6 _ rfl).1
  · exact (key 6 _ rfl).2
  · exact (key 7 _ rfl).1
  · exact (key 7 _ rfl).2
theorem env_of4 {W : World} (h : laidMetH Tryd.prog [("math/bits.deBruijn32tab", Rows.laid_math_bits_deBruijn32tab), ("math/bits.deBruijn64tab", Rows.laid_math_bits_deBruijn64tab), ("internal/strconv.uint64pow10", Rows.laid_internal_strconv_uint64pow10), ("galley/fold.letters", Rows.laid_galley_fold_letters)] W) (hs : W.ShapedOpen Tryd.prog) : EnvW W :=
  ⟨let_of_laid4 h, cell_of_shapedOpen_int (g := 1) (zero := #[.int .i64 0]) hs (of_decide_eq_true (by kernel_rfl)) (by kernel_rfl) (by kernel_rfl) (by kernel_rfl) (by kernel_rfl) Tryd.underlying3⟩

section
variable {H : Type} {enc : TypeId × Value → H}
/-- A law's contract under a condition on the heap, the world's shape at hand. -/
theorem returns_laid {a : Assume} {C : Checked} {os : Os} {f : FuncId} {fn : Func} {s : ChangeSpec} {conds : List PathCond} {apart fresh handsOn again : Bool} {X : World → Array Value → Prop}
    (hX : ∀ (w w' : World) (args : Array Value), w.heap = w'.heap → X w args → X w' args)
    (own : ownKnob C.prog.godebug = none) (started : os.Started) (noInit : C.prog.inits.idxOf? f = none) (hfn : C.prog.funcs[f]? = some fn)
    (witness : ∃ (w : World) (tape : Tape) (i : Input), w.os = os ∧ (w.forCall tape i).Shaped C.prog ∧ i.vars = [] ∧ Input.okWide C.prog (w.forCall tape i) .any w.heap.size f i ∧
      ((s.pre enc C.prog fn conds apart (w.forCall tape i).memory i.args ∧ X (w.forCall tape i).memory i.args) ∧ sizedMet enc C.prog fn (OpenSpec.ofChange s) apart (w.forCall tape i).memory i.args) ∧ a.holds C.prog (lone (Frame.enter C.prog f i.args .normal) [] (w.forCall tape i)))
    (contract : ∀ (W : World) (args : Array Value) (ds gs : List (DataW H)) (before : List MemPlace),
      (∀ (base : Nat), (∀ (j : Nat) t v, fn.params[j]? = some t → args[j]? = some v → Value.okWide C.prog W .any base t v) → DataW.Whole enc C.prog fn.params.toList s.vars apart W args.toList ds gs before →
      (DataW.weightsEach C.prog (fn.params.toList ++ s.plain.varTypes C.prog) (ds ++ gs)).all (· ≤ reachBytes) = true → X W args → W.ShapedOpen C.prog →
      Calls C.prog f args W fun e W' => ∃ v, e = .returned v ∧ s.post enc C.prog fn apart fresh handsOn again W args v W')) :
    ReturnsInHanded a C os f .any (fun w args => (s.pre enc C.prog fn conds apart w args ∧ X w args) ∧ sizedMet enc C.prog fn (OpenSpec.ofChange s) apart w args) (s.post enc C.prog fn apart fresh handsOn again) := by
  refine returnsInHanded_of_calls own started noInit witness ?_
  intro w tape i _ hsh _ hok hpre _
  obtain ⟨_, _, _, fn', hfn', _, _, _, _, hval⟩ := hok
  obtain rfl : fn' = fn := Option.some.inj (hfn'.symm.trans hfn)
  obtain ⟨⟨⟨ds, gs, before, hw, _⟩, hx⟩, hz⟩ := hpre
  refine (contract (w.forCall tape i) i.args ds gs before w.heap.size hval (DataW.Whole.of_heap (w' := w.forCall tape i) (by rfl) hw) (hz.weights hw) (hX _ _ _ (by rfl) hx) hsh).mono fun e W' ⟨v, he, hp⟩ => ?_
  subst he
  exact ChangeSpec.post_blind hp
end
theorem wf_i64 {n : Int} (h : (Lit.int .i64 n).wf = true) : -9223372036854775808 ≤ n ∧ n ≤ 9223372036854775807 := by
  simp [Lit.wf, IntKind.min, IntKind.max, IntKind.signed, IntKind.bits] at h
  omega
/-- A slice that came in: its length is no more than its capacity. -/
theorem cap_of {H : Type} {enc : TypeId × Value → H} {w : World} {a : Option Addr} {len cap : Nat} {d : DataW H} {p : List MemPlace} {base : Nat} {spare : Nat → Bool} {held : Bool}
    (h : DataW.Trod enc Tryd.prog w base spare held 22 (.slice a len cap) d p) : len ≤ cap := by
  obtain ⟨fuel, hf⟩ := h
  rcases open_ints Tryd.underlying22 Tryd.underlying5 (by kernel_rfl) hf with ⟨hcs, _⟩ | ⟨x, l, c, zs, hcs, _, hl, _⟩
  · simp [Value.cells] at hcs
    omega
  · simp [Value.cells] at hcs
    omega
end Go.Proofs.YtkiiidhfjieknaaDoor

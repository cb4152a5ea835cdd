/-
  How the table of names, which the row lists, is found in the first world.
-/
import Derived.Test.YtcdoliinemafaaaDoorNamed
import Derived.Test.YtcdoliinemafaaaDoorOpen
import Derived.LaidMore
import Derived.OpenShut
import Derived.Stop.Joined
import Derived.HandedShaped
import Derived.Shelf.Vars
namespace Go.Proofs.YtcdoliinemafaaaDoor
open Go.ChangeShapes Go.WideShapes Go.ChangeAt Go.RowKit

section
variable {H : Type} {enc : TypeId × Value → H} {P : Program} {w : World} {base : Nat} {spare : Nat → Bool} {held : Bool} {fuel : Nat}
/-- An array of a string and two bytes each: the cells that read so. -/
theorem triple_cells {t e c b : TypeId} {n : Nat} {fs : Array Field} {f0 f1 f2 : Field} {cs : List Value} {x : DataW H × List MemPlace} (ht : P.underlying t = some (.array n e)) (he : P.underlying e = some (.struct fs)) (hs : P.underlying c = some .string) (hb : P.underlying b = some (.int .u8))
    (h0 : fs[0]? = some f0) (h1 : fs[1]? = some f1) (h2 : fs[2]? = some f2) (t0 : f0.type = c) (t1 : f1.type = b) (t2 : f2.type = b) (o0 : f0.offset = 0) (o1 : f1.offset = 1) (o2 : f2.offset = 2) (ce : P.cellsOf e = 3) (cc : P.cellsOf c = 1) (cb : P.cellsOf b = 1)
    (h : DataW.trod enc P w base spare held fuel t cs = some x) (ps : List (ByteArray × Int × Int)) (hd : x.1 = .agg (ps.map fun p => .agg [.lit (.string p.1.data.toList), .lit (.int .u8 p.2.1), .lit (.int .u8 p.2.2)])) :
    ∀ (i : Nat) (p : ByteArray × Int × Int), ps[i]? = some p → cs[i * 3]? = some (.string p.1) ∧ cs[i * 3 + 1]? = some (.int .u8 p.2.1) ∧ cs[i * 3 + 2]? = some (.int .u8 p.2.2) := by
  obtain ⟨xs, m, rfl, rfl, hlen, hn, hel⟩ := DataW.trod_array ht h
  simp only [DataW.agg.injEq] at hd
  intro i p hp
  have hxi : (xs.map (·.1))[i]? = some (.agg [.lit (.string p.1.data.toList), .lit (.int .u8 p.2.1), .lit (.int .u8 p.2.2)]) := by rw [hd, List.getElem?_map, hp]; rfl
  rw [List.getElem?_map, Option.map_eq_some_iff] at hxi
  obtain ⟨y, hy, hy1⟩ := hxi
  have hi : i < n := by rw [← hn]; exact (List.getElem?_eq_some_iff.1 hy).1
  have h3 := hel i hi
  rw [hy, ce] at h3
  obtain ⟨zs, m2, rfl, rfl, hl2, hz, hf⟩ := DataW.trod_struct he h3
  simp only [DataW.agg.injEq] at hy1
  have g0 := hf 0 f0 h0
  have g1 := hf 1 f1 h1
  have g2 := hf 2 f2 h2
  rw [t0, o0, cc] at g0
  rw [t1, o1, cb] at g1
  rw [t2, o2, cb] at g2
  have hz2 : zs.length = 3 := by have := congrArg List.length hy1; simpa using this
  obtain ⟨z0, z1, z2, rfl⟩ : ∃ z0 z1 z2, zs = [z0, z1, z2] := by
    match zs, hz2 with
    | [z0, z1, z2], _ => exact ⟨z0, z1, z2, rfl⟩
  · simp only [List.map_cons, List.map_nil, List.cons.injEq, and_true] at hy1
    obtain ⟨k0, c0, e0, -⟩ := DataW.trod_string hs (show DataW.trod enc P w base spare held m2 c _ = some z0 from g0)
    obtain ⟨k1, c1, e1, -⟩ := DataW.trod_int hb (show DataW.trod enc P w base spare held m2 b _ = some z1 from g1)
    obtain ⟨k2, c2, e2, -⟩ := DataW.trod_int hb (show DataW.trod enc P w base spare held m2 b _ = some z2 from g2)
    rw [e0, e1, e2] at hy1
    simp only [DataW.lit.injEq, Lit.int.injEq, Lit.string.injEq, true_and] at hy1
    obtain ⟨hk, rfl, rfl⟩ := hy1
    obtain rfl : k0 = p.1 := ByteArray.ext (Array.toList_inj.1 hk)
    have q0 := congrArg (fun l : List Value => l[0]?) c0
    have q1 := congrArg (fun l : List Value => l[0]?) c1
    have q2 := congrArg (fun l : List Value => l[0]?) c2
    simp only [List.drop_zero, List.getElem?_cons_zero] at q0 q1 q2
    rw [List.getElem?_take_of_lt (by omega), List.getElem?_take_of_lt (by omega), List.getElem?_drop, Nat.add_zero] at q0
    rw [List.getElem?_take_of_lt (by omega), List.getElem?_drop, List.getElem?_take_of_lt (by omega), List.getElem?_drop] at q1
    rw [List.getElem?_take_of_lt (by omega), List.getElem?_drop, List.getElem?_take_of_lt (by omega), List.getElem?_drop] at q2
    exact ⟨q0, by simpa using q1, by simpa using q2⟩
end

theorem globNames : Tryd.prog.globalNamed "galley/class.names" = some 0 := by kernel_rfl
theorem typeNames : (Tryd.prog.globals[0]?).map (·.type) = some 47 := by kernel_rfl
def nmList : List (ByteArray × Int × Int) := (List.range 23).map fun k => (nmS k, ((nmLo k : Nat) : Int), ((nmHi k : Nat) : Int))
theorem nmList_at (k : Nat) (h : k < 23) : nmList[k]? = some (nmS k, ((nmLo k : Nat) : Int), ((nmHi k : Nat) : Int)) := by
  unfold nmList
  rw [List.getElem?_map, List.getElem?_range h]
  rfl
theorem nmRow_at (k : Nat) (h : k < 23) : nmRow.toList[k * 3]? = some (.string (nmS k)) ∧ nmRow.toList[k * 3 + 1]? = some (.int .u8 ((nmLo k : Nat) : Int)) ∧ nmRow.toList[k * 3 + 2]? = some (.int .u8 ((nmHi k : Nat) : Int)) := by
  have h : k = 0 ∨ k = 1 ∨ k = 2 ∨ k = 3 ∨ k = 4 ∨ k = 5 ∨ k = 6 ∨ k = 7 ∨ k = 8 ∨ k = 9 ∨ k = 10 ∨ k = 11 ∨ k = 12 ∨ k = 13 ∨ k = 14 ∨ k = 15 ∨ k = 16 ∨ k = 17 ∨ k = 18 ∨ k = 19 ∨ k = 20 ∨ k = 21 ∨ k = 22 := by omega
  rcases h with rfl | rfl | rfl | rfl | rfl | rfl | rfl | rfl | rfl | rfl | rfl | rfl | rfl | rfl | rfl | rfl | rfl | rfl | rfl | rfl | rfl | rfl | rfl
  all_goals exact ⟨rfl, rfl, rfl⟩
set_option maxRecDepth 100000 in
/-- The table of names lies as the row lists it. -/
theorem nam_of_laid {W : World} (h : laidMetH Tryd.prog [("galley/class.names", Rows.laid_galley_class_names)] W) : NamW W := by
  rw [MakeChecks.laidMetH_plain _ _ _ (by kernel_rfl)] at h
  obtain ⟨ps, ⟨g0, t0, cs0, f0, p0, q0, hg0, ht0, hv0, hd0, _, _⟩, _, _⟩ := h
  obtain rfl := Option.some.inj (globNames.symm.trans hg0)
  obtain rfl := Option.some.inj (typeNames.symm.trans ht0)
  have hp := triple_cells Tryd.underlying47 Tryd.underlying46 Tryd.underlying9 Tryd.underlying5 rfl rfl rfl rfl rfl rfl rfl rfl rfl (by kernel_rfl) (by kernel_rfl) (by kernel_rfl) hd0 nmList rfl
  intro j v hv
  have hj : j < 69 := (List.getElem?_eq_some_iff.1 hv).1
  rw [Nat.zero_add, World.var?_cell hg0 hv0 j, ← hv]
  have hk : j / 3 < 23 := by omega
  obtain ⟨a1, a2, a3⟩ := hp (j / 3) _ (nmList_at _ hk)
  obtain ⟨b1, b2, b3⟩ := nmRow_at (j / 3) hk
  have hc : j = j / 3 * 3 ∨ j = j / 3 * 3 + 1 ∨ j = j / 3 * 3 + 2 := by omega
  rcases hc with e | e | e <;> rw [e]
  · rw [b1, ← a1]; simp
  · rw [b2, ← a2]; simp
  · rw [b3, ← a3]; simp

section
variable {H : Type} {enc : TypeId × Value → H}
/-- A law's contract under a condition on the heap, the world's shape at hand. -/
theorem returns_laid {a : Assume} {C : Checked} {os : Os} {f : FuncId} {fn : Func} {s : ChangeSpec} {conds : List PathCond} {apart fresh handsOn again : Bool} {X : World → Array Value → Prop}
    (hX : ∀ (w w' : World) (args : Array Value), w.heap = w'.heap → X w args → X w' args)
    (own : ownKnob C.prog.godebug = none) (started : os.Started) (noInit : C.prog.inits.idxOf? f = none) (hfn : C.prog.funcs[f]? = some fn)
    (witness : ∃ (w : World) (tape : Tape) (i : Input), w.os = os ∧ (w.forCall tape i).Shaped C.prog ∧ i.vars = [] ∧ Input.okWide C.prog (w.forCall tape i) .any w.heap.size f i ∧
      ((s.pre enc C.prog fn conds apart (w.forCall tape i).memory i.args ∧ X (w.forCall tape i).memory i.args) ∧ sizedMet enc C.prog fn (OpenSpec.ofChange s) apart (w.forCall tape i).memory i.args) ∧ a.holds C.prog (lone (Frame.enter C.prog f i.args .normal) [] (w.forCall tape i)))
    (contract : ∀ (W : World) (args : Array Value) (ds gs : List (DataW H)) (before : List MemPlace),
      (∀ (base : Nat), (∀ (j : Nat) t v, fn.params[j]? = some t → args[j]? = some v → Value.okWide C.prog W .any base t v) → DataW.Whole enc C.prog fn.params.toList s.vars apart W args.toList ds gs before →
      (DataW.weightsEach C.prog (fn.params.toList ++ s.plain.varTypes C.prog) (ds ++ gs)).all (· ≤ reachBytes) = true → X W args → W.ShapedOpen C.prog →
      Calls C.prog f args W fun e W' => ∃ v, e = .returned v ∧ s.post enc C.prog fn apart fresh handsOn again W args v W')) :
    ReturnsInHanded a C os f .any (fun w args => (s.pre enc C.prog fn conds apart w args ∧ X w args) ∧ sizedMet enc C.prog fn (OpenSpec.ofChange s) apart w args) (s.post enc C.prog fn apart fresh handsOn again) := by
  refine returnsInHanded_of_calls own started noInit witness ?_
  intro w tape i _ hsh _ hok hpre _
  obtain ⟨_, _, _, fn', hfn', _, _, _, _, hval⟩ := hok
  obtain rfl : fn' = fn := Option.some.inj (hfn'.symm.trans hfn)
  obtain ⟨⟨⟨ds, gs, before, hw, _⟩, hx⟩, hz⟩ := hpre
  refine (contract (w.forCall tape i) i.args ds gs before w.heap.size hval (DataW.Whole.of_heap (w' := w.forCall tape i) (by rfl) hw) (hz.weights hw) (hX _ _ _ (by rfl) hx) hsh).mono fun e W' ⟨v, he, hp⟩ => ?_
  subst he
  exact ChangeSpec.post_blind hp
end
end Go.Proofs.YtcdoliinemafaaaDoor

/-
  The call of a Go function at a step of a region that draws its order, with a result that is known by what holds of it.
-/
import Derived.Test.YtaeiijncklmfdaaBase
import Derived.Deep.RegionLaw
namespace Go.Proofs.Ytaeiijncklmfdaa
open Go.RowKit

attribute [local go_sem] Oper.semAt_some

/-- A call of a Go function at a step of a region that draws its order. -/
theorem step_callsE {P : Program} {ops : Array Oper} {o : Oper} {a : Act} {w : World} {K : Act → World → Prop} {Q : Exit → Act → World → Prop} {E : Prop} {R : Value → World → Prop} (hg : o.guard = none) (f : FuncId) (s : Array Operand) (ts : Array TypeId)
    (hop : o.op = .call { callee := .value (.func f), args := s, argTypes := ts }) (vs : Array Value) (hv' : (s.toList.map a.eval).toArray = vs) (hrun : ∀ W, (callFunc f vs).run P W = .ok (.enter f vs) W)
    (hC : Calls P f vs w fun e w' => ∃ v, e = .returned v ∧ R v w') (hK : ∀ v w', R v w' → K (a.put o.dst v) w') :
    if Region.wanted o (yielded ops a.tmps) = true then Oper.wp P o a w K Q else E := by
  have hw : Region.wanted o (yielded ops a.tmps) = true := by simp [Region.wanted, hg]
  rw [if_pos hw]
  have hv : s.map a.eval = vs := by rw [← hv', ← Array.toList_map]
  subst hv
  have h : (execOp a.eval o).run P w = .ok (.enter f (s.map a.eval)) w := by
    unfold execOp
    simp [hop, resolve, invoke, Deferred.ofValue, hrun, go_sem]
  unfold Oper.wp
  rw [h, Oper.upon_enter]
  refine hC.mono ?_
  rintro e w' ⟨v, rfl, hb⟩
  exact hK v w' hb
end Go.Proofs.Ytaeiijncklmfdaa

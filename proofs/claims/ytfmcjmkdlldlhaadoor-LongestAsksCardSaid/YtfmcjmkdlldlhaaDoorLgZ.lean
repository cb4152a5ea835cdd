/-
  Instructions are compared.
-/
import Derived.Test.YtfmcjmkdlldlhaaDoorLgX
import Derived.Test.YtfmcjmkdlldlhaaDoorEqC
namespace Go.Proofs.YtfmcjmkdlldlhaaDoor
open Go.RowKit

theorem run_neq_instr (w : World) (o : Int) (p0 p1 p2 p3 : Nat) (x y : Int) :
    (binOp .neq TI (.agg #[.int .i8 o, .int .u64 (p0 : Int), .int .u64 (p1 : Int), .int .u64 (p2 : Int), .int .u64 (p3 : Int), .int .i64 x, .int .i64 y]) (.agg #[.int .i8 0, .int .u64 0, .int .u64 0, .int .u64 0, .int .u64 0, .int .i64 0, .int .i64 0])).run Tryd.prog w = .ok (.bool (!(decide (o = 0) && decide ([p0, p1, p2, p3] = noneL) && decide (x = 0) && decide (y = 0)))) w := by
  have h := fun w => run_equalIn_rowC w 9997 [p0, p1, p2, p3] noneL rfl rfl
  simp only [row64, noneL, List.map_cons, List.map_nil, Int.ofNat_zero] at h
  go_simp
  by_cases h1 : o = 0 <;> by_cases a : p0 = 0 <;> by_cases b : p1 = 0 <;> by_cases c : p2 = 0 <;> by_cases d : p3 = 0 <;> by_cases e : x = 0 <;> by_cases f : y = 0 <;> simp [h1, a, b, c, d, e, f, noneL]
end Go.Proofs.YtfmcjmkdlldlhaaDoor

/-
  How the library's table of powers, that the rows list, is found in the first world.
-/
import Derived.Test.YtgepjjpcokbpjaaDoorDoor0
import Derived.Test.YtgepjjpcokbpjaaDoorTextI
import Derived.Stop.LaidErr
import Derived.Lib.LaidTab
namespace Go.Proofs.YtgepjjpcokbpjaaDoor
open Go.ChangeShapes Go.WideShapes Go.ChangeAt Go.RowKit

theorem globPow : Tryd.prog.globalNamed "internal/strconv.uint64pow10" = some 1 := by kernel_rfl
theorem typePow : (Tryd.prog.globals[1]?).map (·.type) = some 151 := by kernel_rfl
theorem powData : (Rows.laid_internal_strconv_uint64pow10 : DataW Unit) = Lib.tabData .u64 Lib.pow10Tab := by kernel_rfl

set_option maxRecDepth 100000 in
theorem tabw_of_laid {W : World} (h : laidMetH Tryd.prog [("math/bits.deBruijn32tab", Rows.laid_math_bits_deBruijn32tab), ("math/bits.deBruijn64tab", Rows.laid_math_bits_deBruijn64tab), ("internal/strconv.uint64pow10", Rows.laid_internal_strconv_uint64pow10)] W) : TabW W := by
  rw [MakeChecks.laidMetH_plain _ _ _ (by kernel_rfl)] at h
  have h3 := h.tail.tail
  rw [powData] at h3
  exact Lib.tabIs_of_head globPow typePow Tryd.underlying151 Tryd.underlying99 (by kernel_rfl) (by kernel_rfl) h3
end Go.Proofs.YtgepjjpcokbpjaaDoor

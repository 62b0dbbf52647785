/-
  What the listed tables give the walks: the library's table of powers of ten is as laid. No condition.
-/
import Derived.Test.YtbhebjkicooidaaDoorRows
import Derived.Test.YtbhebjkicooidaaDoorSpE
import Derived.ProofKit
import Derived.LaidMore
import Derived.OpenShut
import Derived.FnData
import Derived.Stop.LaidErr
namespace Go.Proofs.YtbhebjkicooidaaDoor
open Go.ChangeShapes Go.WideShapes Go.ChangeAt Go.RowKit
set_option linter.unusedVariables false

theorem pow_data : (Rows.laid_internal_strconv_uint64pow10 : DataW Unit) = Lib.tabData .u64 Lib.pow10Tab := by kernel_rfl
theorem pow_type : (Tryd.prog.globals[1]?).map (·.type) = some 101 := by kernel_rfl
theorem cells_u64 : Tryd.prog.cellsOf 86 = 1 := by kernel_rfl
theorem cells_tab20 : Tryd.prog.cellsOf 101 = 20 := by kernel_rfl

theorem pow_of_laid {W : World} {a b : String} (hs : Tryd.prog.globalNamed "internal/strconv.uint64pow10" = some 1)
    (h : laidMetH Tryd.prog [(a, Rows.laid_math_bits_deBruijn32tab), (b, Rows.laid_math_bits_deBruijn64tab), ("internal/strconv.uint64pow10", Rows.laid_internal_strconv_uint64pow10)] W) : Pow W := by
  rw [MakeChecks.laidMetH_plain _ _ _ (by kernel_rfl)] at h
  have h2 := (laidMet.tail (laidMet.tail h))
  rw [pow_data] at h2
  exact Lib.tabIs_of_head hs pow_type Tryd.underlying101 Tryd.underlying86 cells_u64 cells_tab20 h2
end Go.Proofs.YtbhebjkicooidaaDoor

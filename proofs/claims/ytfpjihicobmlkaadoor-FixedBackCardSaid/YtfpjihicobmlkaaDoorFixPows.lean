/- The library's table of powers of ten, out of what the card says of the listed variables. -/
import Derived.Test.YtfpjihicobmlkaaDoorFixFormat
import Derived.Test.YtfpjihicobmlkaaDoorRows
import Derived.Stop.LaidErr
import Derived.MakeChecks
import Derived.LaidMore
namespace Go.Proofs.YtfpjihicobmlkaaDoor
open Go.RowKit
set_option linter.unusedVariables false

theorem pows_data : (Rows.laid_internal_strconv_uint64pow10 : DataW Unit) = Lib.tabData .u64 Lib.pow10Tab := by kernel_rfl
theorem pows_of {W : World} (h : laidMetH Tryd.prog Rows.fixedBackRow.laid W) : Pows W := by
  rw [MakeChecks.laidMetH_plain _ _ _ (by kernel_rfl)] at h
  have h2 : laidMet Tryd.prog [("internal/strconv.uint64pow10", Rows.laid_internal_strconv_uint64pow10)] W := laidMet.tail (laidMet.tail h)
  rw [pows_data] at h2
  exact Lib.tabIs_of_head (g := 2) (t := 77) (e := 43) (n := 20) (by kernel_rfl) (by kernel_rfl) Tryd.underlying77 Tryd.underlying43 (by kernel_rfl) (by kernel_rfl) h2
end Go.Proofs.YtfpjihicobmlkaaDoor

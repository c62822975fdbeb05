/-
  Where the listed tables lie as the program's text lays them, the table of powers of ten is the library's; no other condition.
-/
import Derived.Test.YtbdmhhejpomeiaaDoorFrame
import Derived.Test.YtbdmhhejpomeiaaDoorText
import Derived.Stop.LaidErr
import Derived.MakeChecks
namespace Go.Proofs.YtbdmhhejpomeiaaDoor
open Go.ChangeShapes Go.WideShapes Go.ChangeAt Go.RowKit Go.Joins

theorem pow_same : (Rows.laid_internal_strconv_uint64pow10 : DataW Unit) = Lib.tabData .u64 Lib.pow10Tab := by kernel_rfl

theorem tab_of_laid {W : World} (h : laidMetH Tryd.prog laid3 W) : Tab W := by
  rw [MakeChecks.laidMetH_plain _ _ _ (by kernel_rfl)] at h
  have h2 := h.tail.tail
  rw [pow_same] at h2
  exact Lib.tabIs_of_head (rest := []) gTab (t := 60) (by kernel_rfl) Tryd.underlying60 Tryd.underlying48 (by kernel_rfl) (by kernel_rfl) h2
end Go.Proofs.YtbdmhhejpomeiaaDoor

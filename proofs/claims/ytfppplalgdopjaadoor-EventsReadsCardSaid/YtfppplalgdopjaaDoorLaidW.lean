/- What the listed variables' condition gives: the range table of white space; layer 28 (events). -/
import Derived.Test.YtfppplalgdopjaaDoorLaid
import Derived.Test.YtfppplalgdopjaaDoorFa
import Derived.Lib.LaidU8
namespace Go.Proofs.YtfppplalgdopjaaDoor
open Go.ChangeShapes Go.WideShapes Go.ChangeAt Go.RowKit

theorem white_data : (Rows.laid_unicode_White_Space : DataW Unit) = Lib.whiteData := by kernel_rfl
theorem white_extra : WhiteExtra Tryd.prog lays157_ren where
  n6 := by kernel_rfl
  y6 := by kernel_rfl
  c3 := by kernel_rfl
  c49 := by kernel_rfl
  c193 := by kernel_rfl
  c194 := by kernel_rfl
  c196 := by kernel_rfl
  c198 := by kernel_rfl
theorem of_laidW {W : World} (h : laidMetH Tryd.prog laid3 W) : Wt W := by
  rw [MakeChecks.laidMetH_plain _ _ _ (by kernel_rfl)] at h
  have hr := Lib.laidMet.reads h (n := "unicode.White_Space") (d := Rows.laid_unicode_White_Space) (by simp [laid3])
  rw [white_data] at hr
  exact whiteTab_of_reads { lays157 with } white_extra hr
end Go.Proofs.YtfppplalgdopjaaDoor

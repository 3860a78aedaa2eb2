/-
  The tables of unicode/utf8 out of a row that lists them.
-/
import Derived.Test.YtgfaeeacndpniaaDoorRows
import Derived.Test.YtgfaeeacndpniaaDoorShelfL
import Derived.Lib.LaidU8
import Derived.MakeChecks
import Derived.LaidMore
namespace Go.Proofs.YtgfaeeacndpniaaDoor
open Go.RowKit Go.ChangeShapes Go.Lib Go.Proofs

theorem laid_u8 {W : World} (h : laidMetH Tryd.prog Rows.scriptLessRow.laid W) : Lib.Utf8Tabs 3 4 W := by
  rw [Go.MakeChecks.laidMetH_plain _ _ _ (by kernel_rfl)] at h
  have e1 : (Rows.laid_unicode_utf8_first : DataW Unit) = firstData := by kernel_rfl
  have e2 : (Rows.laid_unicode_utf8_acceptRanges : DataW Unit) = acceptData := by kernel_rfl
  have h3 : VarReads Tryd.prog W "unicode/utf8.first" firstData := by rw [← e1]; exact Lib.laidMet.reads h (.tail _ (.head _))
  have h4 : VarReads Tryd.prog W "unicode/utf8.acceptRanges" acceptData := by rw [← e2]; exact Lib.laidMet.reads h (.head _)
  exact utf8Tabs_of_reads (ρ := Tryd.lays238_ren) { Tryd.lays238 with } ⟨by kernel_rfl, by kernel_rfl, by kernel_rfl, by kernel_rfl, by kernel_rfl, by kernel_rfl, by kernel_rfl⟩ h3 h4
end Go.Proofs.YtgfaeeacndpniaaDoor

/-
  The tables and the sentinels of a row that lists them.
-/
import Derived.Test.YtplhamloddighaaDoorSents
import Derived.Lib.LaidTab
import Derived.LaidMore
import Derived.Lib.ItoaNum
import Derived.Lib.ItoaMem
namespace Go.Proofs.YtplhamloddighaaDoor
open Go.RowKit Go.ChangeShapes

theorem laid_tab {W : World} (h : laidMetH Tryd.prog Rows.dayTermsRow.laid W) : Lib.TabIs Tryd.prog W "internal/strconv.uint64pow10" .u64 Lib.pow10Tab ∧ ∃ p, Laid W p := by
  obtain ⟨h1, h2⟩ := laidMetH_split (rest := ("math/bits.deBruijn32tab", Rows.laid_math_bits_deBruijn32tab) :: ("math/bits.deBruijn64tab", Rows.laid_math_bits_deBruijn64tab) :: ("internal/strconv.uint64pow10", Rows.laid_internal_strconv_uint64pow10) :: (sentList.map (fun x => (x.1, sentD x.2.2)) ++ [])) (h := ("errors.errorType", Rows.laid_errors_errorType)) (hs := []) (by kernel_rfl) (by kernel_rfl) h
  have h3 := h1.tail.tail
  refine ⟨?_, laid_of h3.tail h2⟩
  have e : (Rows.laid_internal_strconv_uint64pow10 : DataW Unit) = Lib.tabData .u64 Lib.pow10Tab := by kernel_rfl
  rw [e] at h3
  exact Lib.tabIs_of_head (P := Tryd.prog) (g := 12) (t := 153) (e := 126) (n := 20) (by kernel_rfl) (by kernel_rfl) (by kernel_rfl) Tryd.underlying126 (by kernel_rfl) (by kernel_rfl) h3
end Go.Proofs.YtplhamloddighaaDoor

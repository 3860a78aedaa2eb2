/-
  What the row of ScriptRead lists, as the walks ask for it.
-/
import Derived.Test.YtgfaeeacndpniaaGreatDoorSents
import Derived.Test.YtgfaeeacndpniaaGreatDoorShelves
import Derived.Test.YtgfaeeacndpniaaGreatDoorReadBase
import Derived.Lib.LaidU8
import Derived.MakeChecks
import Derived.LaidMore
import Derived.HandedShaped
import Derived.Shelf.Vars
namespace Go.Proofs.YtgfaeeacndpniaaGreatDoor
open Go.RowKit Go.ChangeShapes Go.Lib Go.Proofs

theorem read_laid {W : World} (h : laidMetH Tryz.prog Rows.scriptReadRow.laid W) : (∃ p, Laid W p) ∧ Lib.Utf8Tabs 12 13 W := by
  obtain ⟨h1, h2⟩ := laidMetH_split (rest := ("unicode/utf8.acceptRanges", Rows.laid_unicode_utf8_acceptRanges) :: (sentList.map (fun x => (x.1, sentD x.2.2)) ++ [("unicode/utf8.first", Rows.laid_unicode_utf8_first)])) (h := ("errors.errorType", Rows.laid_errors_errorType)) (hs := []) (by kernel_rfl) (by kernel_rfl) h
  refine ⟨laid_of h1.tail h2, ?_⟩
  have e1 : (Rows.laid_unicode_utf8_first : DataW Unit) = firstData := by kernel_rfl
  have e2 : (Rows.laid_unicode_utf8_acceptRanges : DataW Unit) = acceptData := by kernel_rfl
  have h3 : VarReads Tryz.prog W "unicode/utf8.first" firstData := by
    rw [← e1]
    exact Lib.laidMet.reads h1 (.tail _ (List.mem_append_right _ (.head _)))
  have h4 : VarReads Tryz.prog W "unicode/utf8.acceptRanges" acceptData := by rw [← e2]; exact Lib.laidMet.reads h1 (.head _)
  exact utf8Tabs_of_reads (ρ := Tryz.lays238_ren) { Tryz.lays238 with } ⟨by kernel_rfl, by kernel_rfl, by kernel_rfl, by kernel_rfl, by kernel_rfl, by kernel_rfl, by kernel_rfl⟩ h3 h4
theorem maxLen_of {W : World} (h : W.ShapedOpen Tryz.prog) : ∃ m, W.cell? ⟨14, 0, none⟩ = some (.int .i64 m) :=
  cell_of_shapedOpen_int (g := 14) (t := 3) (zero := #[.int .i64 0]) h (of_decide_eq_true (by kernel_rfl)) (by kernel_rfl) rfl (by kernel_rfl) (by kernel_rfl) Tryz.underlying3
theorem read_env {W : World} (h : laidMetH Tryz.prog Rows.scriptReadRow.laid W) (hs : W.ShapedOpen Tryz.prog) : ∃ p m, Env W p m := by
  obtain ⟨⟨p, hp⟩, ht⟩ := read_laid h
  obtain ⟨m, hm⟩ := maxLen_of hs
  exact ⟨p, m, hp, ht, hm⟩
end Go.Proofs.YtgfaeeacndpniaaGreatDoor

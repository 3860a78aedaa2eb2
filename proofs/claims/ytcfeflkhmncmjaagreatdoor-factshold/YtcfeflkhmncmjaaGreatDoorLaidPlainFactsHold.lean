/-
  The sentinels and the handle of a row that lists them alone.
-/
import Derived.Test.YtcfeflkhmncmjaaGreatDoorSents
namespace Go.Proofs.YtcfeflkhmncmjaaGreatDoor
open Go.RowKit Go.ChangeShapes

theorem laid_plainFactsHold {W : World} (h : laidMetH Tryz.prog Rows.factsHoldRow.laid W) : ∃ p, Laid W p := by
  obtain ⟨h1, h2⟩ := laidMetH_split (rest := sentList.map (fun x => (x.1, sentD x.2.2)) ++ []) (h := ("errors.errorType", Rows.laid_errors_errorType)) (hs := []) (by kernel_rfl) (by kernel_rfl) h
  exact laid_of h1 h2
end Go.Proofs.YtcfeflkhmncmjaaGreatDoor

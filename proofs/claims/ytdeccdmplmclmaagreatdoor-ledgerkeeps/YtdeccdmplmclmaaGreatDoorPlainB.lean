/-
  Plain texts.
-/
import Derived.Test.YtdeccdmplmclmaaGreatDoorLineB
namespace Go.Proofs.YtdeccdmplmclmaaGreatDoor
open Go.RowKit Go.Extern.Stop Go.Stop Go.Extern

theorem plainB_true {s : ByteArray} (h : AllP okN s 0 s.size) : plainB s = true := by unfold plainB; exact @decide_eq_true _ (Classical.propDecidable _) h
theorem plainB_false {s : ByteArray} (i : Nat) (hi : i < s.size) (h : okN s[i].toNat = false) : plainB s = false := by
  unfold plainB
  refine @decide_eq_false _ (Classical.propDecidable _) fun ha => ?_
  have := ha i hi (by omega) hi
  rw [h] at this
  cases this
end Go.Proofs.YtdeccdmplmclmaaGreatDoor

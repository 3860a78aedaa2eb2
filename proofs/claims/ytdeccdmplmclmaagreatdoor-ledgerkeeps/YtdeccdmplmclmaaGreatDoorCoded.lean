/-
  'coded' by its contracts.
-/
import Derived.Test.YtdeccdmplmclmaaGreatDoorCode
import Derived.Deep.QuietTactic
import Derived.BigQuiet
namespace Go.Proofs.YtdeccdmplmclmaaGreatDoor
open Go.RowKit Go.Extern.Stop Go.Stop Go.Extern

theorem bdrewN {B : Nat} {a w : World} (h : Below B a w) : ∀ n, Below B a (w.drewN n) := fun _ => ⟨h.os, h.tape, h.output, h.size, h.block⟩

end Go.Proofs.YtdeccdmplmclmaaGreatDoor

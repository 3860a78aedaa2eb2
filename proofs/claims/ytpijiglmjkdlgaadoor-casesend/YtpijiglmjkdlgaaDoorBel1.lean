/-
  One block more.
-/
import Derived.Test.YtpijiglmjkdlgaaDoorCoded
namespace Go.Proofs.YtpijiglmjkdlgaaDoor
open Go.RowKit
theorem bel1 (w : World) (o : Obj) : Below w.heap.size w (w.alloc o) := (Below.refl _ _).alloc (Nat.le_refl _) _
end Go.Proofs.YtpijiglmjkdlgaaDoor

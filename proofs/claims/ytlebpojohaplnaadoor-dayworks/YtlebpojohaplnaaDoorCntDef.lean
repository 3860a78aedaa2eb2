/-
  Working days of a stretch, plain.
-/
import Derived.Test.YtlebpojohaplnaaDoorRefRoll
namespace Go.Proofs.YtlebpojohaplnaaDoor
open Go.RowKit

/-- Counted from one day on, ahead of another. -/
def cnt (off : Int → Bool) (xs : List Int) (f t : Int) : Int := cn (fun i => works off xs (f + i)) (t - f).toNat
def cntD (off : Int → Bool) (xs : List Int) (x y : Int) : Int := if y < x then -(cnt off xs (max y 1) (min x 3652060)) else cnt off xs (max x 1) (min y 3652060)
end Go.Proofs.YtlebpojohaplnaaDoor

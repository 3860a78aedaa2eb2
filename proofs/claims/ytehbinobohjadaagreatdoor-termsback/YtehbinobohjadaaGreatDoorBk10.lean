/-
  The reference's parser: sum.
-/
import Derived.Test.YtehbinobohjadaaGreatDoorBk09
namespace Go.Proofs.YtehbinobohjadaaGreatDoor
open Go.RowKit Go.Extern.Stop Go.Stop Go.Extern

end Go.Proofs.YtehbinobohjadaaGreatDoor

/-
  The reference's parser: wrong, is, take, need, deeper.
-/
import Derived.Test.YtehbinobohjadaaGreatDoorBk01
namespace Go.Proofs.YtehbinobohjadaaGreatDoor
open Go.RowKit Go.Extern.Stop Go.Stop Go.Extern

end Go.Proofs.YtehbinobohjadaaGreatDoor
namespace Go.Proofs.YtehbinobohjadaaGreatDoor
open Go.RowKit Go.Extern.Stop Go.Stop Go.Extern

end Go.Proofs.YtehbinobohjadaaGreatDoor

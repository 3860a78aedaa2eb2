/-
  The reference's parser: name.
-/
import Derived.Test.YtehbinobohjadaaGreatDoorBk03
namespace Go.Proofs.YtehbinobohjadaaGreatDoor
open Go.RowKit Go.Extern.Stop Go.Stop Go.Extern

end Go.Proofs.YtehbinobohjadaaGreatDoor

import Derived.Test.YtehbinobohjadaaGreatDoorTm00
import Derived.Test.YtehbinobohjadaaGreatDoorTm40
import Derived.BigQuiet
set_option maxHeartbeats 20000000
set_option maxRecDepth 20000
namespace Go.Proofs.YtehbinobohjadaaGreatDoor
open Go.RowKit
set_option linter.unusedSectionVars false
variable [Inhabited TP]
end Go.Proofs.YtehbinobohjadaaGreatDoor

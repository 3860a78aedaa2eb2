/-
  DERIVED. GIVEN WITH THE SEED: THE CARDS: each row of YtpbolcjcmkmalaaGreatDoorRows.lean that lists a variable, with what it lists TIED to the program's text (the seventh form; the later family's looks); each row that meets fmt, with fmt's text TOLD by the authors' own Lean function (tested against real Go, not proved from fmt's source: count such statements apart). THE CARD IS WHAT COUNTS. Prove the row's statement (the work); the ties are given (YtpbolcjcmkmalaaGreatDoorTie.lean); close each card by the builder's one call (the guide's Derived/Test/ToyasCard.lean, 'card_holds'). Laid BY PROGRAM, IN A SANDBOX (cutbox-door.mjs). By AI agents, Wed Nov 11 2026. No macro, syntax, notation, axiom, sorry.
-/
import Derived.Test.YtpbolcjcmkmalaaGreatDoorRows
import GoSem.ClaimSeven
namespace Go.Proofs.YtpbolcjcmkmalaaGreatDoor
namespace Rows

/-- THE TIED CARD OF 'statutelaw2.AmendApplies'. -/
def amendAppliesCard : Claim7 := { stood := { row := amendAppliesRow, standIns := [], harness := (true, "e4accf2222ccd22888a54067122c87c7d3ea29544cbac2666d28f7899a9b0a44"), looks := true }, kinds := [], alts := [], laidByText := true, laidKinds := [.data, .handle, .sentinel, .sentinel, .sentinel, .sentinel, .sentinel, .sentinel, .sentinel, .sentinel, .sentinel, .sentinel, .sentinel, .pinned], laidTests := true, laidLooks := .later }
def AmendAppliesCardSaid : Prop := Claim7.holds Tryz.pinned (.plain (OpenSpec.ofChange amendAppliesSpec)) amendAppliesCard

/-- THE TIED CARD OF 'statutelaw2.AmendFolds'. -/
def amendFoldsCard : Claim7 := { stood := { row := amendFoldsRow, standIns := [], harness := (true, "e4accf2222ccd22888a54067122c87c7d3ea29544cbac2666d28f7899a9b0a44"), looks := true }, kinds := [], alts := [], laidByText := true, laidKinds := [.data, .sentinel, .sentinel, .sentinel, .sentinel, .sentinel, .sentinel, .sentinel, .pinned], laidTests := true, laidLooks := .later }
def AmendFoldsCardSaid : Prop := Claim7.holds Tryz.pinned (.plain (OpenSpec.ofChange amendFoldsSpec)) amendFoldsCard

/-- THE TIED CARD OF 'statutelaw2.AmendCommutes'. -/
def amendCommutesCard : Claim7 := { stood := { row := amendCommutesRow, standIns := [], harness := (true, "e4accf2222ccd22888a54067122c87c7d3ea29544cbac2666d28f7899a9b0a44"), looks := true }, kinds := [], alts := [], laidByText := true, laidKinds := [.data, .handle, .sentinel, .sentinel, .sentinel, .sentinel, .sentinel, .sentinel, .sentinel, .sentinel, .sentinel, .sentinel, .sentinel, .pinned], laidTests := true, laidLooks := .later }
def AmendCommutesCardSaid : Prop := Claim7.holds Tryz.pinned (.plain (OpenSpec.ofChange amendCommutesSpec)) amendCommutesCard

/-- THE SECOND FORM's CARD OF 'statutelaw2.AmendApplies'. -/
def amendAppliesUptoCard : Claim7 := { stood := { row := amendAppliesUptoRow, standIns := [], harness := (true, "e4accf2222ccd22888a54067122c87c7d3ea29544cbac2666d28f7899a9b0a44"), looks := true }, kinds := [], alts := [], laidByText := true, laidKinds := [.data, .handle, .sentinel, .sentinel, .sentinel, .sentinel, .sentinel, .sentinel, .sentinel, .sentinel, .sentinel, .sentinel, .sentinel, .pinned], laidTests := true, laidLooks := .later }
def AmendAppliesUptoCardSaid : Prop := Claim7.holds Tryz.pinned (.plain (OpenSpec.upto amendAppliesSpec)) amendAppliesUptoCard

/-- THE SECOND FORM's CARD OF 'statutelaw2.AmendFolds'. -/
def amendFoldsUptoCard : Claim7 := { stood := { row := amendFoldsUptoRow, standIns := [], harness := (true, "e4accf2222ccd22888a54067122c87c7d3ea29544cbac2666d28f7899a9b0a44"), looks := true }, kinds := [], alts := [], laidByText := true, laidKinds := [.data, .sentinel, .sentinel, .sentinel, .sentinel, .sentinel, .sentinel, .sentinel, .pinned], laidTests := true, laidLooks := .later }
def AmendFoldsUptoCardSaid : Prop := Claim7.holds Tryz.pinned (.plain (OpenSpec.upto amendFoldsSpec)) amendFoldsUptoCard

/-- THE SECOND FORM's CARD OF 'statutelaw2.AmendCommutes'. -/
def amendCommutesUptoCard : Claim7 := { stood := { row := amendCommutesUptoRow, standIns := [], harness := (true, "e4accf2222ccd22888a54067122c87c7d3ea29544cbac2666d28f7899a9b0a44"), looks := true }, kinds := [], alts := [], laidByText := true, laidKinds := [.data, .handle, .sentinel, .sentinel, .sentinel, .sentinel, .sentinel, .sentinel, .sentinel, .sentinel, .sentinel, .sentinel, .sentinel, .pinned], laidTests := true, laidLooks := .later }
def AmendCommutesUptoCardSaid : Prop := Claim7.holds Tryz.pinned (.plain (OpenSpec.upto amendCommutesSpec)) amendCommutesUptoCard
end Rows
end Go.Proofs.YtpbolcjcmkmalaaGreatDoor

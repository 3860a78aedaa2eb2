/-
  DERIVED. GIVEN WITH THE SEED: THE CARDS: each row of YtkaeolcchhneoaaGreatDoorRows.lean that lists a variable, with what it lists TIED to the program's text (the seventh form; the later family's looks); each row that meets fmt, with fmt's text TOLD by the authors' own Lean function (tested against real Go, not proved from fmt's source: count such statements apart). THE CARD IS WHAT COUNTS. Prove the row's statement (the work); the ties are given (YtkaeolcchhneoaaGreatDoorTie.lean); close each card by the builder's one call (the guide's Derived/Test/ToyasCard.lean, 'card_holds'). Laid BY PROGRAM, IN A SANDBOX (cutbox-door.mjs). By AI agents, Wed Nov 11 2026. No macro, syntax, notation, axiom, sorry.
-/
import Derived.Test.YtkaeolcchhneoaaGreatDoorRows
import GoSem.ClaimSeven
namespace Go.Proofs.YtkaeolcchhneoaaGreatDoor
namespace Rows

/-- THE TIED CARD OF 'statutelaw5.DutiesStand'. -/
def dutiesStandCard : Claim7 := { stood := { row := dutiesStandRow, standIns := [], harness := (true, "f1c21298d8dff112e8dcd26f86f5225da852e0198d60d975f2404908e532c243"), looks := true }, kinds := [], alts := [], laidByText := true, laidKinds := [.handle, .sentinel, .sentinel, .sentinel, .sentinel, .sentinel, .sentinel, .sentinel, .sentinel, .sentinel, .sentinel, .sentinel], laidTests := true, laidLooks := .later }
def DutiesStandCardSaid : Prop := Claim7.holds Tryz.pinned (.plain (OpenSpec.ofChange dutiesStandSpec)) dutiesStandCard

/-- THE SECOND FORM's CARD OF 'statutelaw5.DutiesStand'. -/
def dutiesStandUptoCard : Claim7 := { stood := { row := dutiesStandUptoRow, standIns := [], harness := (true, "f1c21298d8dff112e8dcd26f86f5225da852e0198d60d975f2404908e532c243"), looks := true }, kinds := [], alts := [], laidByText := true, laidKinds := [.handle, .sentinel, .sentinel, .sentinel, .sentinel, .sentinel, .sentinel, .sentinel, .sentinel, .sentinel, .sentinel, .sentinel], laidTests := true, laidLooks := .later }
def DutiesStandUptoCardSaid : Prop := Claim7.holds Tryz.pinned (.plain (OpenSpec.upto dutiesStandSpec)) dutiesStandUptoCard
end Rows
end Go.Proofs.YtkaeolcchhneoaaGreatDoor

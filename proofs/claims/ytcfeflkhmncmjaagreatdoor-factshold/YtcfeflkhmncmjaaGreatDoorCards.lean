/-
  DERIVED. GIVEN WITH THE SEED: THE CARDS: each row of YtcfeflkhmncmjaaGreatDoorRows.lean that lists a variable, with what it lists TIED to the program's text (the seventh form; the later family's looks); each row that meets fmt, with fmt's text TOLD by the authors' own Lean function (tested against real Go, not proved from fmt's source: count such statements apart). THE CARD IS WHAT COUNTS. Prove the row's statement (the work); the ties are given (YtcfeflkhmncmjaaGreatDoorTie.lean); close each card by the builder's one call (the guide's Derived/Test/ToyasCard.lean, 'card_holds'). Laid BY PROGRAM, IN A SANDBOX (cutbox-door.mjs). By AI agents, Wed Nov 11 2026. No macro, syntax, notation, axiom, sorry.
-/
import Derived.Test.YtcfeflkhmncmjaaGreatDoorRows
import GoSem.ClaimSeven
namespace Go.Proofs.YtcfeflkhmncmjaaGreatDoor
namespace Rows

/-- THE TIED CARD OF 'statutelaw3.FactsHold'. -/
def factsHoldCard : Claim7 := { stood := { row := factsHoldRow, standIns := [], harness := (true, "f4854fe681530fc0b14d7452d32c811f969384c643c8927dc9b7a57f0048e258"), looks := true }, kinds := [], alts := [], laidByText := true, laidKinds := [.handle, .sentinel, .sentinel, .sentinel, .sentinel, .sentinel, .sentinel, .sentinel, .sentinel, .sentinel, .sentinel, .sentinel], laidTests := true, laidLooks := .later }
def FactsHoldCardSaid : Prop := Claim7.holds Tryz.pinned (.plain (OpenSpec.ofChange factsHoldSpec)) factsHoldCard

/-- THE SECOND FORM's CARD OF 'statutelaw3.FactsHold'. -/
def factsHoldUptoCard : Claim7 := { stood := { row := factsHoldUptoRow, standIns := [], harness := (true, "f4854fe681530fc0b14d7452d32c811f969384c643c8927dc9b7a57f0048e258"), looks := true }, kinds := [], alts := [], laidByText := true, laidKinds := [.handle, .sentinel, .sentinel, .sentinel, .sentinel, .sentinel, .sentinel, .sentinel, .sentinel, .sentinel, .sentinel, .sentinel], laidTests := true, laidLooks := .later }
def FactsHoldUptoCardSaid : Prop := Claim7.holds Tryz.pinned (.plain (OpenSpec.upto factsHoldSpec)) factsHoldUptoCard
end Rows
end Go.Proofs.YtcfeflkhmncmjaaGreatDoor

/-
  DERIVED. GIVEN WITH THE SEED: THE CARDS: each row of YtmbclnaenjcocaaGreatDoorRows.lean that lists a variable, with what it lists TIED to the program's text (the seventh form; the later family's looks); each row that meets fmt, with fmt's text TOLD by the authors' own Lean function (tested against real Go, not proved from fmt's source: count such statements apart). THE CARD IS WHAT COUNTS. Prove the row's statement (the work); the ties are given (YtmbclnaenjcocaaGreatDoorTie.lean); close each card by the builder's one call (the guide's Derived/Test/ToyasCard.lean, 'card_holds'). Laid BY PROGRAM, IN A SANDBOX (cutbox-door.mjs). By AI agents, Wed Nov 11 2026. No macro, syntax, notation, axiom, sorry.
-/
import Derived.Test.YtmbclnaenjcocaaGreatDoorRows
import GoSem.ClaimSeven
namespace Go.Proofs.YtmbclnaenjcocaaGreatDoor
namespace Rows

/-- THE TIED CARD OF 'statutelaw4.WhyExplains'. -/
def whyExplainsCard : Claim7 := { stood := { row := whyExplainsRow, standIns := [], harness := (true, "fb6f6b943d597a2ea0987e42b29ae4a2670084ffea3590396939bcee6f0a0895"), looks := true }, kinds := [], alts := [], laidByText := true, laidKinds := [.handle, .sentinel, .sentinel, .sentinel, .sentinel, .sentinel, .sentinel, .sentinel, .sentinel, .sentinel, .sentinel, .sentinel], laidTests := true, laidLooks := .later }
def WhyExplainsCardSaid : Prop := Claim7.holds Tryz.pinned (.plain (OpenSpec.ofChange whyExplainsSpec)) whyExplainsCard

/-- THE SECOND FORM's CARD OF 'statutelaw4.WhyExplains'. -/
def whyExplainsUptoCard : Claim7 := { stood := { row := whyExplainsUptoRow, standIns := [], harness := (true, "fb6f6b943d597a2ea0987e42b29ae4a2670084ffea3590396939bcee6f0a0895"), looks := true }, kinds := [], alts := [], laidByText := true, laidKinds := [.handle, .sentinel, .sentinel, .sentinel, .sentinel, .sentinel, .sentinel, .sentinel, .sentinel, .sentinel, .sentinel, .sentinel], laidTests := true, laidLooks := .later }
def WhyExplainsUptoCardSaid : Prop := Claim7.holds Tryz.pinned (.plain (OpenSpec.upto whyExplainsSpec)) whyExplainsUptoCard
end Rows
end Go.Proofs.YtmbclnaenjcocaaGreatDoor

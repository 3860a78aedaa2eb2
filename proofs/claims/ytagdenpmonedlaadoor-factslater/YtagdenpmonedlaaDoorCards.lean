/-
  DERIVED. GIVEN WITH THE SEED: THE CARDS: each row of YtagdenpmonedlaaDoorRows.lean that lists a variable, with what it lists TIED to the program's text (the seventh form; the later family's looks); each row that meets fmt, with fmt's text TOLD by the authors' own Lean function (tested against real Go, not proved from fmt's source: count such statements apart). THE CARD IS WHAT COUNTS. Prove the row's statement (the work); the ties are given (YtagdenpmonedlaaDoorTie.lean); close each card by the builder's one call (the guide's Derived/Test/ToyasCard.lean, 'card_holds'). Laid BY PROGRAM, IN A SANDBOX (cutbox-door.mjs). By AI agents, Wed Nov 11 2026. No macro, syntax, notation, axiom, sorry.
-/
import Derived.Test.YtagdenpmonedlaaDoorRows
import GoSem.ClaimSeven
namespace Go.Proofs.YtagdenpmonedlaaDoor
namespace Rows

/-- THE TIED CARD OF 'statutelaw3.FactsKept'. -/
def factsKeptCard : Claim7 := { stood := { row := factsKeptRow, standIns := [], harness := (true, "95e2c0e71ad505117f4009d7d7f17fb1c3fe83f1e9001b9cd101c471671cb91b"), looks := true }, kinds := [], alts := [], laidByText := true, laidKinds := [.handle, .sentinel, .sentinel, .sentinel, .sentinel, .sentinel, .sentinel, .sentinel, .sentinel, .sentinel, .sentinel, .sentinel], laidTests := true, laidLooks := .later }
def FactsKeptCardSaid : Prop := Claim7.holds Tryd.pinned (.plain (OpenSpec.ofChange factsKeptSpec)) factsKeptCard

/-- THE TIED CARD OF 'statutelaw3.FactsLater'. -/
def factsLaterCard : Claim7 := { stood := { row := factsLaterRow, standIns := [], harness := (true, "95e2c0e71ad505117f4009d7d7f17fb1c3fe83f1e9001b9cd101c471671cb91b"), looks := true }, kinds := [], alts := [], laidByText := true, laidKinds := [.handle, .sentinel, .sentinel, .sentinel, .sentinel, .sentinel, .sentinel, .sentinel, .sentinel, .sentinel, .sentinel, .sentinel], laidTests := true, laidLooks := .later }
def FactsLaterCardSaid : Prop := Claim7.holds Tryd.pinned (.plain (OpenSpec.ofChange factsLaterSpec)) factsLaterCard

/-- THE SECOND FORM's CARD OF 'statutelaw3.FactsKept'. -/
def factsKeptUptoCard : Claim7 := { stood := { row := factsKeptUptoRow, standIns := [], harness := (true, "95e2c0e71ad505117f4009d7d7f17fb1c3fe83f1e9001b9cd101c471671cb91b"), looks := true }, kinds := [], alts := [], laidByText := true, laidKinds := [.handle, .sentinel, .sentinel, .sentinel, .sentinel, .sentinel, .sentinel, .sentinel, .sentinel, .sentinel, .sentinel, .sentinel], laidTests := true, laidLooks := .later }
def FactsKeptUptoCardSaid : Prop := Claim7.holds Tryd.pinned (.plain (OpenSpec.upto factsKeptSpec)) factsKeptUptoCard

/-- THE SECOND FORM's CARD OF 'statutelaw3.FactsLater'. -/
def factsLaterUptoCard : Claim7 := { stood := { row := factsLaterUptoRow, standIns := [], harness := (true, "95e2c0e71ad505117f4009d7d7f17fb1c3fe83f1e9001b9cd101c471671cb91b"), looks := true }, kinds := [], alts := [], laidByText := true, laidKinds := [.handle, .sentinel, .sentinel, .sentinel, .sentinel, .sentinel, .sentinel, .sentinel, .sentinel, .sentinel, .sentinel, .sentinel], laidTests := true, laidLooks := .later }
def FactsLaterUptoCardSaid : Prop := Claim7.holds Tryd.pinned (.plain (OpenSpec.upto factsLaterSpec)) factsLaterUptoCard
end Rows
end Go.Proofs.YtagdenpmonedlaaDoor

/-
  DERIVED. GIVEN WITH THE SEED: THE CARDS: each row of YtkaeolcchhneoaaDoorRows.lean that lists a variable, with what it lists TIED to the program's text (the seventh form; the later family's looks); each row that meets fmt, with fmt's text TOLD by the authors' own Lean function (tested against real Go, not proved from fmt's source: count such statements apart). THE CARD IS WHAT COUNTS. Prove the row's statement (the work); the ties are given (YtkaeolcchhneoaaDoorTie.lean); close each card by the builder's one call (the guide's Derived/Test/ToyasCard.lean, 'card_holds'). Laid BY PROGRAM, IN A SANDBOX (cutbox-door.mjs). By AI agents, Wed Nov 11 2026. No macro, syntax, notation, axiom, sorry.
-/
import Derived.Test.YtkaeolcchhneoaaDoorRows
import GoSem.ClaimSeven
namespace Go.Proofs.YtkaeolcchhneoaaDoor
namespace Rows

/-- THE TIED CARD OF 'statutelaw5.DutiesFirm'. -/
def dutiesFirmCard : Claim7 := { stood := { row := dutiesFirmRow, standIns := [], harness := (true, "5160a659cd2eec085952a86024184a589efd10409a1e0d235f99c771eaa4409b"), looks := false }, kinds := [], alts := [], laidByText := true, laidKinds := [.sentinel, .sentinel, .sentinel], laidTests := true, laidLooks := .later }
def DutiesFirmCardSaid : Prop := Claim7.holds Tryd.pinned (.plain (OpenSpec.ofChange dutiesFirmSpec)) dutiesFirmCard

/-- THE SECOND FORM's CARD OF 'statutelaw5.DutiesFirm'. -/
def dutiesFirmUptoCard : Claim7 := { stood := { row := dutiesFirmUptoRow, standIns := [], harness := (true, "5160a659cd2eec085952a86024184a589efd10409a1e0d235f99c771eaa4409b"), looks := false }, kinds := [], alts := [], laidByText := true, laidKinds := [.sentinel, .sentinel, .sentinel], laidTests := true, laidLooks := .later }
def DutiesFirmUptoCardSaid : Prop := Claim7.holds Tryd.pinned (.plain (OpenSpec.upto dutiesFirmSpec)) dutiesFirmUptoCard
end Rows
end Go.Proofs.YtkaeolcchhneoaaDoor

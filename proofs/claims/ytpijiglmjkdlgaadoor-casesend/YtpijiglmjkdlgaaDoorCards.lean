/-
  DERIVED. GIVEN WITH THE SEED: THE CARDS: each row of YtpijiglmjkdlgaaDoorRows.lean that lists a variable, with what it lists TIED to the program's text (the seventh form; the later family's looks); each row that meets fmt, with fmt's text TOLD by the authors' own Lean function (tested against real Go, not proved from fmt's source: count such statements apart). THE CARD IS WHAT COUNTS. Prove the row's statement (the work); the ties are given (YtpijiglmjkdlgaaDoorTie.lean); close each card by the builder's one call (the guide's Derived/Test/ToyasCard.lean, 'card_holds'). Laid BY PROGRAM, IN A SANDBOX (cutbox-door.mjs). By AI agents, Wed Nov 11 2026. No macro, syntax, notation, axiom, sorry.
-/
import Derived.Test.YtpijiglmjkdlgaaDoorRows
import GoSem.ClaimSeven
namespace Go.Proofs.YtpijiglmjkdlgaaDoor
namespace Rows

/-- THE TIED CARD OF 'statutelaw5.CasesEnd'. -/
def casesEndCard : Claim7 := { stood := { row := casesEndRow, standIns := [], harness := (true, "3794494a9d9d9156ba5b09c70ec49b32b69b7933a37f79eb11c465aca95305f1"), looks := false }, kinds := [], alts := [], laidByText := true, laidKinds := [.sentinel, .sentinel, .sentinel, .sentinel, .sentinel, .sentinel], laidTests := true, laidLooks := .later }
def CasesEndCardSaid : Prop := Claim7.holds Tryd.pinned (.plain (OpenSpec.ofChange casesEndSpec)) casesEndCard

/-- THE SECOND FORM's CARD OF 'statutelaw5.CasesEnd'. -/
def casesEndUptoCard : Claim7 := { stood := { row := casesEndUptoRow, standIns := [], harness := (true, "3794494a9d9d9156ba5b09c70ec49b32b69b7933a37f79eb11c465aca95305f1"), looks := false }, kinds := [], alts := [], laidByText := true, laidKinds := [.sentinel, .sentinel, .sentinel, .sentinel, .sentinel, .sentinel], laidTests := true, laidLooks := .later }
def CasesEndUptoCardSaid : Prop := Claim7.holds Tryd.pinned (.plain (OpenSpec.upto casesEndSpec)) casesEndUptoCard
end Rows
end Go.Proofs.YtpijiglmjkdlgaaDoor

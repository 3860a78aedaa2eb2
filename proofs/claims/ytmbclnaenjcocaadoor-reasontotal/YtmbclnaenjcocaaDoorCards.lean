/-
  DERIVED. GIVEN WITH THE SEED: THE CARDS: each row of YtmbclnaenjcocaaDoorRows.lean that lists a variable, with what it lists TIED to the program's text (the seventh form; the later family's looks); each row that meets fmt, with fmt's text TOLD by the authors' own Lean function (tested against real Go, not proved from fmt's source: count such statements apart). THE CARD IS WHAT COUNTS. Prove the row's statement (the work); the ties are given (YtmbclnaenjcocaaDoorTie.lean); close each card by the builder's one call (the guide's Derived/Test/ToyasCard.lean, 'card_holds'). Laid BY PROGRAM, IN A SANDBOX (cutbox-door.mjs). By AI agents, Wed Nov 11 2026. No macro, syntax, notation, axiom, sorry.
-/
import Derived.Test.YtmbclnaenjcocaaDoorRows
import GoSem.ClaimSeven
namespace Go.Proofs.YtmbclnaenjcocaaDoor
namespace Rows

/-- THE TIED CARD OF 'statutelaw4.ReasonSolves'. -/
def reasonSolvesCard : Claim7 := { stood := { row := reasonSolvesRow, standIns := [], harness := (true, "71476ba5c33518461cf7b599b85a66c6fd858181a2e35207b44b17c2c29b0486"), looks := true }, kinds := [], alts := [], laidByText := true, laidKinds := [.handle, .sentinel, .sentinel, .sentinel, .sentinel, .sentinel, .sentinel, .sentinel, .sentinel, .sentinel, .sentinel, .sentinel], laidTests := true, laidLooks := .later }
def ReasonSolvesCardSaid : Prop := Claim7.holds Tryd.pinned (.plain (OpenSpec.ofChange reasonSolvesSpec)) reasonSolvesCard

/-- THE TIED CARD OF 'statutelaw4.ReasonFirm'. -/
def reasonFirmCard : Claim7 := { stood := { row := reasonFirmRow, standIns := [], harness := (true, "71476ba5c33518461cf7b599b85a66c6fd858181a2e35207b44b17c2c29b0486"), looks := true }, kinds := [], alts := [], laidByText := true, laidKinds := [.sentinel, .sentinel, .sentinel, .sentinel], laidTests := true, laidLooks := .later }
def ReasonFirmCardSaid : Prop := Claim7.holds Tryd.pinned (.plain (OpenSpec.ofChange reasonFirmSpec)) reasonFirmCard

/-- THE TIED CARD OF 'statutelaw4.ReasonTotal'. -/
def reasonTotalCard : Claim7 := { stood := { row := reasonTotalRow, standIns := [], harness := (true, "71476ba5c33518461cf7b599b85a66c6fd858181a2e35207b44b17c2c29b0486"), looks := true }, kinds := [], alts := [], laidByText := true, laidKinds := [.sentinel, .sentinel, .sentinel, .sentinel], laidTests := true, laidLooks := .later }
def ReasonTotalCardSaid : Prop := Claim7.holds Tryd.pinned (.plain (OpenSpec.ofChange reasonTotalSpec)) reasonTotalCard

/-- THE TIED CARD OF 'statutelaw4.WhyChecks'. -/
def whyChecksCard : Claim7 := { stood := { row := whyChecksRow, standIns := [], harness := (true, "71476ba5c33518461cf7b599b85a66c6fd858181a2e35207b44b17c2c29b0486"), looks := true }, kinds := [], alts := [], laidByText := true, laidKinds := [.handle, .sentinel, .sentinel, .sentinel, .sentinel, .sentinel, .sentinel, .sentinel, .sentinel, .sentinel, .sentinel, .sentinel], laidTests := true, laidLooks := .later }
def WhyChecksCardSaid : Prop := Claim7.holds Tryd.pinned (.plain (OpenSpec.ofChange whyChecksSpec)) whyChecksCard

/-- THE TIED CARD OF 'statutelaw4.WhySound'. -/
def whySoundCard : Claim7 := { stood := { row := whySoundRow, standIns := [], harness := (true, "71476ba5c33518461cf7b599b85a66c6fd858181a2e35207b44b17c2c29b0486"), looks := true }, kinds := [], alts := [], laidByText := true, laidKinds := [.sentinel, .sentinel, .sentinel, .sentinel], laidTests := true, laidLooks := .later }
def WhySoundCardSaid : Prop := Claim7.holds Tryd.pinned (.plain (OpenSpec.ofChange whySoundSpec)) whySoundCard

/-- THE SECOND FORM's CARD OF 'statutelaw4.ReasonSolves'. -/
def reasonSolvesUptoCard : Claim7 := { stood := { row := reasonSolvesUptoRow, standIns := [], harness := (true, "71476ba5c33518461cf7b599b85a66c6fd858181a2e35207b44b17c2c29b0486"), looks := true }, kinds := [], alts := [], laidByText := true, laidKinds := [.handle, .sentinel, .sentinel, .sentinel, .sentinel, .sentinel, .sentinel, .sentinel, .sentinel, .sentinel, .sentinel, .sentinel], laidTests := true, laidLooks := .later }
def ReasonSolvesUptoCardSaid : Prop := Claim7.holds Tryd.pinned (.plain (OpenSpec.upto reasonSolvesSpec)) reasonSolvesUptoCard

/-- THE SECOND FORM's CARD OF 'statutelaw4.ReasonFirm'. -/
def reasonFirmUptoCard : Claim7 := { stood := { row := reasonFirmUptoRow, standIns := [], harness := (true, "71476ba5c33518461cf7b599b85a66c6fd858181a2e35207b44b17c2c29b0486"), looks := true }, kinds := [], alts := [], laidByText := true, laidKinds := [.sentinel, .sentinel, .sentinel, .sentinel], laidTests := true, laidLooks := .later }
def ReasonFirmUptoCardSaid : Prop := Claim7.holds Tryd.pinned (.plain (OpenSpec.upto reasonFirmSpec)) reasonFirmUptoCard

/-- THE SECOND FORM's CARD OF 'statutelaw4.ReasonTotal'. -/
def reasonTotalUptoCard : Claim7 := { stood := { row := reasonTotalUptoRow, standIns := [], harness := (true, "71476ba5c33518461cf7b599b85a66c6fd858181a2e35207b44b17c2c29b0486"), looks := true }, kinds := [], alts := [], laidByText := true, laidKinds := [.sentinel, .sentinel, .sentinel, .sentinel], laidTests := true, laidLooks := .later }
def ReasonTotalUptoCardSaid : Prop := Claim7.holds Tryd.pinned (.plain (OpenSpec.upto reasonTotalSpec)) reasonTotalUptoCard

/-- THE SECOND FORM's CARD OF 'statutelaw4.WhyChecks'. -/
def whyChecksUptoCard : Claim7 := { stood := { row := whyChecksUptoRow, standIns := [], harness := (true, "71476ba5c33518461cf7b599b85a66c6fd858181a2e35207b44b17c2c29b0486"), looks := true }, kinds := [], alts := [], laidByText := true, laidKinds := [.handle, .sentinel, .sentinel, .sentinel, .sentinel, .sentinel, .sentinel, .sentinel, .sentinel, .sentinel, .sentinel, .sentinel], laidTests := true, laidLooks := .later }
def WhyChecksUptoCardSaid : Prop := Claim7.holds Tryd.pinned (.plain (OpenSpec.upto whyChecksSpec)) whyChecksUptoCard

/-- THE SECOND FORM's CARD OF 'statutelaw4.WhySound'. -/
def whySoundUptoCard : Claim7 := { stood := { row := whySoundUptoRow, standIns := [], harness := (true, "71476ba5c33518461cf7b599b85a66c6fd858181a2e35207b44b17c2c29b0486"), looks := true }, kinds := [], alts := [], laidByText := true, laidKinds := [.sentinel, .sentinel, .sentinel, .sentinel], laidTests := true, laidLooks := .later }
def WhySoundUptoCardSaid : Prop := Claim7.holds Tryd.pinned (.plain (OpenSpec.upto whySoundSpec)) whySoundUptoCard
end Rows
end Go.Proofs.YtmbclnaenjcocaaDoor

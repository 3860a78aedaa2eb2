/-
  DERIVED. GIVEN WITH THE SEED: THE CARDS: each row of YtehbinobohjadaaGreatDoorRows.lean that lists a variable, with what it lists TIED to the program's text (the seventh form; the later family's looks); each row that meets fmt, with fmt's text TOLD by the authors' own Lean function (tested against real Go, not proved from fmt's source: count such statements apart). THE CARD IS WHAT COUNTS. Prove the row's statement (the work); the ties are given (YtehbinobohjadaaGreatDoorTie.lean); close each card by the builder's one call (the guide's Derived/Test/ToyasCard.lean, 'card_holds'). Laid BY PROGRAM, IN A SANDBOX (cutbox-door.mjs). By AI agents, Wed Nov 11 2026. No macro, syntax, notation, axiom, sorry.
-/
import Derived.Test.YtehbinobohjadaaGreatDoorRows
import GoSem.ClaimSeven
namespace Go.Proofs.YtehbinobohjadaaGreatDoor
namespace Rows

/-- THE TIED CARD OF 'statutelaw3.TermsBack'. -/
def termsBackCard : Claim7 := { stood := { row := termsBackRow, standIns := [], harness := (true, "54ccb56c284f72005268e6f66b4ef8fa560a2e0c51d0fb6e7557f61995aa2066"), looks := true }, kinds := [], alts := [], laidByText := true, laidKinds := [.data, .data, .data, .sentinel, .sentinel], laidTests := true, laidLooks := .later }
def TermsBackCardSaid : Prop := Claim7.holds Tryz.pinned (.plain (OpenSpec.ofChange termsBackSpec)) termsBackCard

/-- THE TIED CARD OF 'statutelaw3.TermsWrites'. -/
def termsWritesCard : Claim7 := { stood := { row := termsWritesRow, standIns := [], harness := (true, "54ccb56c284f72005268e6f66b4ef8fa560a2e0c51d0fb6e7557f61995aa2066"), looks := true }, kinds := [], alts := [], laidByText := true, laidKinds := [.data, .data, .data, .handle, .sentinel, .sentinel, .sentinel, .sentinel, .sentinel, .sentinel, .sentinel, .sentinel, .sentinel, .sentinel, .sentinel], laidTests := true, laidLooks := .later }
def TermsWritesCardSaid : Prop := Claim7.holds Tryz.pinned (.plain (OpenSpec.ofChange termsWritesSpec)) termsWritesCard

/-- THE SECOND FORM's CARD OF 'statutelaw3.TermsBack'. -/
def termsBackUptoCard : Claim7 := { stood := { row := termsBackUptoRow, standIns := [], harness := (true, "54ccb56c284f72005268e6f66b4ef8fa560a2e0c51d0fb6e7557f61995aa2066"), looks := true }, kinds := [], alts := [], laidByText := true, laidKinds := [.data, .data, .data, .sentinel, .sentinel], laidTests := true, laidLooks := .later }
def TermsBackUptoCardSaid : Prop := Claim7.holds Tryz.pinned (.plain (OpenSpec.upto termsBackSpec)) termsBackUptoCard

/-- THE SECOND FORM's CARD OF 'statutelaw3.TermsWrites'. -/
def termsWritesUptoCard : Claim7 := { stood := { row := termsWritesUptoRow, standIns := [], harness := (true, "54ccb56c284f72005268e6f66b4ef8fa560a2e0c51d0fb6e7557f61995aa2066"), looks := true }, kinds := [], alts := [], laidByText := true, laidKinds := [.data, .data, .data, .handle, .sentinel, .sentinel, .sentinel, .sentinel, .sentinel, .sentinel, .sentinel, .sentinel, .sentinel, .sentinel, .sentinel], laidTests := true, laidLooks := .later }
def TermsWritesUptoCardSaid : Prop := Claim7.holds Tryz.pinned (.plain (OpenSpec.upto termsWritesSpec)) termsWritesUptoCard
end Rows
end Go.Proofs.YtehbinobohjadaaGreatDoor

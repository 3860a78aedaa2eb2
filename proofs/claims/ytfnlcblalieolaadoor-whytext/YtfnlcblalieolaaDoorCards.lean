/-
  DERIVED. GIVEN WITH THE SEED: THE CARDS: each row of YtfnlcblalieolaaDoorRows.lean that lists a variable, with what it lists TIED to the program's text (the seventh form; the later family's looks); each row that meets fmt, with fmt's text TOLD by the authors' own Lean function (tested against real Go, not proved from fmt's source: count such statements apart). THE CARD IS WHAT COUNTS. Prove the row's statement (the work); the ties are given (YtfnlcblalieolaaDoorTie.lean); close each card by the builder's one call (the guide's Derived/Test/ToyasCard.lean, 'card_holds'). Laid BY PROGRAM, IN A SANDBOX (cutbox-door.mjs). By AI agents, Wed Nov 11 2026. No macro, syntax, notation, axiom, sorry.
-/
import Derived.Test.YtfnlcblalieolaaDoorRows
import GoSem.ClaimSeven
namespace Go.Proofs.YtfnlcblalieolaaDoor
namespace Rows

/-- THE TIED CARD OF 'statutelaw4.WhyText'. -/
def whyTextCard : Claim7 := { stood := { row := whyTextRow, standIns := [], harness := (true, "4b3ad35053317de1471a6c0d9704252c7d71bf856b5d1b843c3d65e91817b836"), looks := true }, kinds := [], alts := [], laidByText := true, laidKinds := [.handle, .sentinel, .sentinel, .sentinel, .sentinel, .sentinel, .sentinel, .sentinel, .sentinel, .sentinel, .sentinel, .sentinel], laidTests := true, laidLooks := .later }
def WhyTextCardSaid : Prop := Claim7.holds Tryd.pinned (.plain (OpenSpec.ofChange whyTextSpec)) whyTextCard

/-- THE SECOND FORM's CARD OF 'statutelaw4.WhyText'. -/
def whyTextUptoCard : Claim7 := { stood := { row := whyTextUptoRow, standIns := [], harness := (true, "4b3ad35053317de1471a6c0d9704252c7d71bf856b5d1b843c3d65e91817b836"), looks := true }, kinds := [], alts := [], laidByText := true, laidKinds := [.handle, .sentinel, .sentinel, .sentinel, .sentinel, .sentinel, .sentinel, .sentinel, .sentinel, .sentinel, .sentinel, .sentinel], laidTests := true, laidLooks := .later }
def WhyTextUptoCardSaid : Prop := Claim7.holds Tryd.pinned (.plain (OpenSpec.upto whyTextSpec)) whyTextUptoCard
end Rows
end Go.Proofs.YtfnlcblalieolaaDoor

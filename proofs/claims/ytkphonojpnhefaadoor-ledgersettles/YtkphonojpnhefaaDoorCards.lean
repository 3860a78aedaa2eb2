/-
  DERIVED. GIVEN WITH THE SEED: THE CARDS: each row of YtkphonojpnhefaaDoorRows.lean that lists a variable, with what it lists TIED to the program's text (the seventh form; the later family's looks); each row that meets fmt, with fmt's text TOLD by the authors' own Lean function (tested against real Go, not proved from fmt's source: count such statements apart). THE CARD IS WHAT COUNTS. Prove the row's statement (the work); the ties are given (YtkphonojpnhefaaDoorTie.lean); close each card by the builder's one call (the guide's Derived/Test/ToyasCard.lean, 'card_holds'). Laid BY PROGRAM, IN A SANDBOX (cutbox-door.mjs). By AI agents, Wed Nov 11 2026. No macro, syntax, notation, axiom, sorry.
-/
import Derived.Test.YtkphonojpnhefaaDoorRows
import GoSem.ClaimSeven
namespace Go.Proofs.YtkphonojpnhefaaDoor
namespace Rows

/-- THE TIED CARD OF 'statutelaw5.LedgerSettles'. -/
def ledgerSettlesCard : Claim7 := { stood := { row := ledgerSettlesRow, standIns := [], harness := (true, "2da623c9611835eb8d9f719ca6b334098e9aa24244a856096a97fd538114c18f"), looks := true }, kinds := [], alts := [], laidByText := true, laidKinds := [.handle, .sentinel, .sentinel, .sentinel, .sentinel, .sentinel, .sentinel, .sentinel, .sentinel, .sentinel, .sentinel, .sentinel], laidTests := true, laidLooks := .later }
def LedgerSettlesCardSaid : Prop := Claim7.holds Tryd.pinned (.plain (OpenSpec.ofChange ledgerSettlesSpec)) ledgerSettlesCard

/-- THE TIED CARD OF 'statutelaw5.LedgerAnew'. -/
def ledgerAnewCard : Claim7 := { stood := { row := ledgerAnewRow, standIns := [], harness := (true, "2da623c9611835eb8d9f719ca6b334098e9aa24244a856096a97fd538114c18f"), looks := true }, kinds := [], alts := [], laidByText := true, laidKinds := [.sentinel, .sentinel, .sentinel, .sentinel], laidTests := true, laidLooks := .later }
def LedgerAnewCardSaid : Prop := Claim7.holds Tryd.pinned (.plain (OpenSpec.ofChange ledgerAnewSpec)) ledgerAnewCard

/-- THE SECOND FORM's CARD OF 'statutelaw5.LedgerSettles'. -/
def ledgerSettlesUptoCard : Claim7 := { stood := { row := ledgerSettlesUptoRow, standIns := [], harness := (true, "2da623c9611835eb8d9f719ca6b334098e9aa24244a856096a97fd538114c18f"), looks := true }, kinds := [], alts := [], laidByText := true, laidKinds := [.handle, .sentinel, .sentinel, .sentinel, .sentinel, .sentinel, .sentinel, .sentinel, .sentinel, .sentinel, .sentinel, .sentinel], laidTests := true, laidLooks := .later }
def LedgerSettlesUptoCardSaid : Prop := Claim7.holds Tryd.pinned (.plain (OpenSpec.upto ledgerSettlesSpec)) ledgerSettlesUptoCard

/-- THE SECOND FORM's CARD OF 'statutelaw5.LedgerAnew'. -/
def ledgerAnewUptoCard : Claim7 := { stood := { row := ledgerAnewUptoRow, standIns := [], harness := (true, "2da623c9611835eb8d9f719ca6b334098e9aa24244a856096a97fd538114c18f"), looks := true }, kinds := [], alts := [], laidByText := true, laidKinds := [.sentinel, .sentinel, .sentinel, .sentinel], laidTests := true, laidLooks := .later }
def LedgerAnewUptoCardSaid : Prop := Claim7.holds Tryd.pinned (.plain (OpenSpec.upto ledgerAnewSpec)) ledgerAnewUptoCard
end Rows
end Go.Proofs.YtkphonojpnhefaaDoor

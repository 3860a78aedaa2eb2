/-
  DERIVED. GIVEN WITH THE SEED: THE CARDS: each row of YtlebpojohaplnaaDoorRows.lean that lists a variable, with what it lists TIED to the program's text (the seventh form; the later family's looks); each row that meets fmt, with fmt's text TOLD by the authors' own Lean function (tested against real Go, not proved from fmt's source: count such statements apart). THE CARD IS WHAT COUNTS. Prove the row's statement (the work); the ties are given (YtlebpojohaplnaaDoorTie.lean); close each card by the builder's one call (the guide's Derived/Test/ToyasCard.lean, 'card_holds'). Laid BY PROGRAM, IN A SANDBOX (cutbox-door.mjs). By AI agents, Wed Nov 11 2026. No macro, syntax, notation, axiom, sorry.
-/
import Derived.Test.YtlebpojohaplnaaDoorRows
import GoSem.ClaimSeven
namespace Go.Proofs.YtlebpojohaplnaaDoor
namespace Rows

/-- THE TIED CARD OF 'statutelaw1.DayWorks'. -/
def dayWorksCard : Claim7 := { stood := { row := dayWorksRow, standIns := [], harness := (true, "81727ebc4372160898bdaa2ce8ca7cbddc8552352a3d9970615b58c198efb78a"), looks := true }, kinds := [], alts := [], laidByText := true, laidKinds := [.handle, .sentinel, .sentinel, .sentinel, .sentinel, .sentinel, .sentinel, .sentinel, .sentinel, .sentinel, .sentinel, .sentinel], laidTests := true, laidLooks := .later }
def DayWorksCardSaid : Prop := Claim7.holds Tryd.pinned (.plain (OpenSpec.ofChange dayWorksSpec)) dayWorksCard

/-- THE TIED CARD OF 'statutelaw1.DayAdds'. -/
def dayAddsCard : Claim7 := { stood := { row := dayAddsRow, standIns := [], harness := (true, "81727ebc4372160898bdaa2ce8ca7cbddc8552352a3d9970615b58c198efb78a"), looks := true }, kinds := [], alts := [], laidByText := true, laidKinds := [.handle, .sentinel, .sentinel, .sentinel, .sentinel, .sentinel, .sentinel, .sentinel, .sentinel, .sentinel, .sentinel, .sentinel], laidTests := true, laidLooks := .later }
def DayAddsCardSaid : Prop := Claim7.holds Tryd.pinned (.plain (OpenSpec.ofChange dayAddsSpec)) dayAddsCard

/-- THE TIED CARD OF 'statutelaw1.DayDue'. -/
def dayDueCard : Claim7 := { stood := { row := dayDueRow, standIns := [], harness := (true, "81727ebc4372160898bdaa2ce8ca7cbddc8552352a3d9970615b58c198efb78a"), looks := true }, kinds := [], alts := [], laidByText := true, laidKinds := [.handle, .sentinel, .sentinel, .sentinel, .sentinel, .sentinel, .sentinel, .sentinel, .sentinel, .sentinel, .sentinel, .sentinel], laidTests := true, laidLooks := .later }
def DayDueCardSaid : Prop := Claim7.holds Tryd.pinned (.plain (OpenSpec.ofChange dayDueSpec)) dayDueCard

/-- THE SECOND FORM's CARD OF 'statutelaw1.DayWorks'. -/
def dayWorksUptoCard : Claim7 := { stood := { row := dayWorksUptoRow, standIns := [], harness := (true, "81727ebc4372160898bdaa2ce8ca7cbddc8552352a3d9970615b58c198efb78a"), looks := true }, kinds := [], alts := [], laidByText := true, laidKinds := [.handle, .sentinel, .sentinel, .sentinel, .sentinel, .sentinel, .sentinel, .sentinel, .sentinel, .sentinel, .sentinel, .sentinel], laidTests := true, laidLooks := .later }
def DayWorksUptoCardSaid : Prop := Claim7.holds Tryd.pinned (.plain (OpenSpec.upto dayWorksSpec)) dayWorksUptoCard

/-- THE SECOND FORM's CARD OF 'statutelaw1.DayAdds'. -/
def dayAddsUptoCard : Claim7 := { stood := { row := dayAddsUptoRow, standIns := [], harness := (true, "81727ebc4372160898bdaa2ce8ca7cbddc8552352a3d9970615b58c198efb78a"), looks := true }, kinds := [], alts := [], laidByText := true, laidKinds := [.handle, .sentinel, .sentinel, .sentinel, .sentinel, .sentinel, .sentinel, .sentinel, .sentinel, .sentinel, .sentinel, .sentinel], laidTests := true, laidLooks := .later }
def DayAddsUptoCardSaid : Prop := Claim7.holds Tryd.pinned (.plain (OpenSpec.upto dayAddsSpec)) dayAddsUptoCard

/-- THE SECOND FORM's CARD OF 'statutelaw1.DayDue'. -/
def dayDueUptoCard : Claim7 := { stood := { row := dayDueUptoRow, standIns := [], harness := (true, "81727ebc4372160898bdaa2ce8ca7cbddc8552352a3d9970615b58c198efb78a"), looks := true }, kinds := [], alts := [], laidByText := true, laidKinds := [.handle, .sentinel, .sentinel, .sentinel, .sentinel, .sentinel, .sentinel, .sentinel, .sentinel, .sentinel, .sentinel, .sentinel], laidTests := true, laidLooks := .later }
def DayDueUptoCardSaid : Prop := Claim7.holds Tryd.pinned (.plain (OpenSpec.upto dayDueSpec)) dayDueUptoCard
end Rows
end Go.Proofs.YtlebpojohaplnaaDoor

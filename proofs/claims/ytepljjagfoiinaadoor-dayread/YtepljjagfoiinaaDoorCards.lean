/-
  DERIVED. GIVEN WITH THE SEED: THE CARDS: each row of YtepljjagfoiinaaDoorRows.lean that lists a variable, with what it lists TIED to the program's text (the seventh form; the later family's looks); each row that meets fmt, with fmt's text TOLD by the authors' own Lean function (tested against real Go, not proved from fmt's source: count such statements apart). THE CARD IS WHAT COUNTS. Prove the row's statement (the work); the ties are given (YtepljjagfoiinaaDoorTie.lean); close each card by the builder's one call (the guide's Derived/Test/ToyasCard.lean, 'card_holds'). Laid BY PROGRAM, IN A SANDBOX (cutbox-door.mjs). By AI agents, Wed Nov 11 2026. No macro, syntax, notation, axiom, sorry.
-/
import Derived.Test.YtepljjagfoiinaaDoorRows
import GoSem.ClaimSeven
namespace Go.Proofs.YtepljjagfoiinaaDoor
namespace Rows

/-- THE TIED CARD OF 'statutelaw1.DayOf'. -/
def dayOfCard : Claim7 := { stood := { row := dayOfRow, standIns := [], harness := (true, "0b7b1e8d9ffca86ce46282697472f6e4d293fcd0c791469376d83c2150050021"), looks := true }, kinds := [], alts := [], laidByText := true, laidKinds := [.handle, .sentinel, .sentinel, .sentinel, .sentinel, .sentinel, .sentinel, .sentinel, .sentinel, .sentinel, .sentinel, .sentinel], laidTests := true, laidLooks := .later }
def DayOfCardSaid : Prop := Claim7.holds Tryd.pinned (.plain (OpenSpec.ofChange dayOfSpec)) dayOfCard

/-- THE TIED CARD OF 'statutelaw1.DayNext'. -/
def dayNextCard : Claim7 := { stood := { row := dayNextRow, standIns := [], harness := (true, "0b7b1e8d9ffca86ce46282697472f6e4d293fcd0c791469376d83c2150050021"), looks := true }, kinds := [], alts := [], laidByText := true, laidKinds := [.sentinel], laidTests := true, laidLooks := .later }
def DayNextCardSaid : Prop := Claim7.holds Tryd.pinned (.plain (OpenSpec.ofChange dayNextSpec)) dayNextCard

/-- THE TIED CARD OF 'statutelaw1.DayRead'. -/
def dayReadCard : Claim7 := { stood := { row := dayReadRow, standIns := [], harness := (true, "0b7b1e8d9ffca86ce46282697472f6e4d293fcd0c791469376d83c2150050021"), looks := true }, kinds := [], alts := [], laidByText := true, laidKinds := [.data, .data, .data, .handle, .sentinel, .sentinel, .sentinel, .sentinel, .sentinel, .sentinel, .sentinel, .sentinel, .sentinel, .sentinel, .sentinel], laidTests := true, laidLooks := .later }
def DayReadCardSaid : Prop := Claim7.holds Tryd.pinned (.plain (OpenSpec.ofChange dayReadSpec)) dayReadCard

/-- THE TIED CARD OF 'statutelaw1.DayMonths'. -/
def dayMonthsCard : Claim7 := { stood := { row := dayMonthsRow, standIns := [], harness := (true, "0b7b1e8d9ffca86ce46282697472f6e4d293fcd0c791469376d83c2150050021"), looks := true }, kinds := [], alts := [], laidByText := true, laidKinds := [.handle, .sentinel, .sentinel, .sentinel, .sentinel, .sentinel, .sentinel, .sentinel, .sentinel, .sentinel, .sentinel, .sentinel], laidTests := true, laidLooks := .later }
def DayMonthsCardSaid : Prop := Claim7.holds Tryd.pinned (.plain (OpenSpec.ofChange dayMonthsSpec)) dayMonthsCard

/-- THE TIED CARD OF 'statutelaw1.DayWorks'. -/
def dayWorksCard : Claim7 := { stood := { row := dayWorksRow, standIns := [], harness := (true, "0b7b1e8d9ffca86ce46282697472f6e4d293fcd0c791469376d83c2150050021"), looks := true }, kinds := [], alts := [], laidByText := true, laidKinds := [.handle, .sentinel, .sentinel, .sentinel, .sentinel, .sentinel, .sentinel, .sentinel, .sentinel, .sentinel, .sentinel, .sentinel], laidTests := true, laidLooks := .later }
def DayWorksCardSaid : Prop := Claim7.holds Tryd.pinned (.plain (OpenSpec.ofChange dayWorksSpec)) dayWorksCard

/-- THE TIED CARD OF 'statutelaw1.DayAdds'. -/
def dayAddsCard : Claim7 := { stood := { row := dayAddsRow, standIns := [], harness := (true, "0b7b1e8d9ffca86ce46282697472f6e4d293fcd0c791469376d83c2150050021"), looks := true }, kinds := [], alts := [], laidByText := true, laidKinds := [.handle, .sentinel, .sentinel, .sentinel, .sentinel, .sentinel, .sentinel, .sentinel, .sentinel, .sentinel, .sentinel, .sentinel], laidTests := true, laidLooks := .later }
def DayAddsCardSaid : Prop := Claim7.holds Tryd.pinned (.plain (OpenSpec.ofChange dayAddsSpec)) dayAddsCard

/-- THE SECOND FORM's CARD OF 'statutelaw1.DayOf'. -/
def dayOfUptoCard : Claim7 := { stood := { row := dayOfUptoRow, standIns := [], harness := (true, "0b7b1e8d9ffca86ce46282697472f6e4d293fcd0c791469376d83c2150050021"), looks := true }, kinds := [], alts := [], laidByText := true, laidKinds := [.handle, .sentinel, .sentinel, .sentinel, .sentinel, .sentinel, .sentinel, .sentinel, .sentinel, .sentinel, .sentinel, .sentinel], laidTests := true, laidLooks := .later }
def DayOfUptoCardSaid : Prop := Claim7.holds Tryd.pinned (.plain (OpenSpec.upto dayOfSpec)) dayOfUptoCard

/-- THE SECOND FORM's CARD OF 'statutelaw1.DayNext'. -/
def dayNextUptoCard : Claim7 := { stood := { row := dayNextUptoRow, standIns := [], harness := (true, "0b7b1e8d9ffca86ce46282697472f6e4d293fcd0c791469376d83c2150050021"), looks := true }, kinds := [], alts := [], laidByText := true, laidKinds := [.sentinel], laidTests := true, laidLooks := .later }
def DayNextUptoCardSaid : Prop := Claim7.holds Tryd.pinned (.plain (OpenSpec.upto dayNextSpec)) dayNextUptoCard

/-- THE SECOND FORM's CARD OF 'statutelaw1.DayRead'. -/
def dayReadUptoCard : Claim7 := { stood := { row := dayReadUptoRow, standIns := [], harness := (true, "0b7b1e8d9ffca86ce46282697472f6e4d293fcd0c791469376d83c2150050021"), looks := true }, kinds := [], alts := [], laidByText := true, laidKinds := [.data, .data, .data, .handle, .sentinel, .sentinel, .sentinel, .sentinel, .sentinel, .sentinel, .sentinel, .sentinel, .sentinel, .sentinel, .sentinel], laidTests := true, laidLooks := .later }
def DayReadUptoCardSaid : Prop := Claim7.holds Tryd.pinned (.plain (OpenSpec.upto dayReadSpec)) dayReadUptoCard

/-- THE SECOND FORM's CARD OF 'statutelaw1.DayMonths'. -/
def dayMonthsUptoCard : Claim7 := { stood := { row := dayMonthsUptoRow, standIns := [], harness := (true, "0b7b1e8d9ffca86ce46282697472f6e4d293fcd0c791469376d83c2150050021"), looks := true }, kinds := [], alts := [], laidByText := true, laidKinds := [.handle, .sentinel, .sentinel, .sentinel, .sentinel, .sentinel, .sentinel, .sentinel, .sentinel, .sentinel, .sentinel, .sentinel], laidTests := true, laidLooks := .later }
def DayMonthsUptoCardSaid : Prop := Claim7.holds Tryd.pinned (.plain (OpenSpec.upto dayMonthsSpec)) dayMonthsUptoCard

/-- THE SECOND FORM's CARD OF 'statutelaw1.DayWorks'. -/
def dayWorksUptoCard : Claim7 := { stood := { row := dayWorksUptoRow, standIns := [], harness := (true, "0b7b1e8d9ffca86ce46282697472f6e4d293fcd0c791469376d83c2150050021"), looks := true }, kinds := [], alts := [], laidByText := true, laidKinds := [.handle, .sentinel, .sentinel, .sentinel, .sentinel, .sentinel, .sentinel, .sentinel, .sentinel, .sentinel, .sentinel, .sentinel], laidTests := true, laidLooks := .later }
def DayWorksUptoCardSaid : Prop := Claim7.holds Tryd.pinned (.plain (OpenSpec.upto dayWorksSpec)) dayWorksUptoCard

/-- THE SECOND FORM's CARD OF 'statutelaw1.DayAdds'. -/
def dayAddsUptoCard : Claim7 := { stood := { row := dayAddsUptoRow, standIns := [], harness := (true, "0b7b1e8d9ffca86ce46282697472f6e4d293fcd0c791469376d83c2150050021"), looks := true }, kinds := [], alts := [], laidByText := true, laidKinds := [.handle, .sentinel, .sentinel, .sentinel, .sentinel, .sentinel, .sentinel, .sentinel, .sentinel, .sentinel, .sentinel, .sentinel], laidTests := true, laidLooks := .later }
def DayAddsUptoCardSaid : Prop := Claim7.holds Tryd.pinned (.plain (OpenSpec.upto dayAddsSpec)) dayAddsUptoCard
end Rows
end Go.Proofs.YtepljjagfoiinaaDoor

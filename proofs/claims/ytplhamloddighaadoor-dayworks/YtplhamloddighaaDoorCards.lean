/-
  DERIVED. GIVEN WITH THE SEED: THE CARDS: each row of YtplhamloddighaaDoorRows.lean that lists a variable, with what it lists TIED to the program's text (the seventh form; the later family's looks); each row that meets fmt, with fmt's text TOLD by the authors' own Lean function (tested against real Go, not proved from fmt's source: count such statements apart). THE CARD IS WHAT COUNTS. Prove the row's statement (the work); the ties are given (YtplhamloddighaaDoorTie.lean); close each card by the builder's one call (the guide's Derived/Test/ToyasCard.lean, 'card_holds'). Laid BY PROGRAM, IN A SANDBOX (cutbox-door.mjs). By AI agents, Wed Nov 11 2026. No macro, syntax, notation, axiom, sorry.
-/
import Derived.Test.YtplhamloddighaaDoorRows
import GoSem.ClaimSeven
namespace Go.Proofs.YtplhamloddighaaDoor
namespace Rows

/-- THE TIED CARD OF 'statutelaw1.DayWorks'. -/
def dayWorksCard : Claim7 := { stood := { row := dayWorksRow, standIns := [], harness := (true, "9e21c3ae5d071d09a16232ee6a12420cb0b447fbd5e2a3d2cbd793258d0aa849"), looks := true }, kinds := [], alts := [], laidByText := true, laidKinds := [.handle, .sentinel, .sentinel, .sentinel, .sentinel, .sentinel, .sentinel, .sentinel, .sentinel, .sentinel, .sentinel, .sentinel], laidTests := true, laidLooks := .later }
def DayWorksCardSaid : Prop := Claim7.holds Tryd.pinned (.plain (OpenSpec.ofChange dayWorksSpec)) dayWorksCard

/-- THE TIED CARD OF 'statutelaw1.DayAdds'. -/
def dayAddsCard : Claim7 := { stood := { row := dayAddsRow, standIns := [], harness := (true, "9e21c3ae5d071d09a16232ee6a12420cb0b447fbd5e2a3d2cbd793258d0aa849"), looks := true }, kinds := [], alts := [], laidByText := true, laidKinds := [.handle, .sentinel, .sentinel, .sentinel, .sentinel, .sentinel, .sentinel, .sentinel, .sentinel, .sentinel, .sentinel, .sentinel], laidTests := true, laidLooks := .later }
def DayAddsCardSaid : Prop := Claim7.holds Tryd.pinned (.plain (OpenSpec.ofChange dayAddsSpec)) dayAddsCard

/-- THE TIED CARD OF 'statutelaw1.DayDue'. -/
def dayDueCard : Claim7 := { stood := { row := dayDueRow, standIns := [], harness := (true, "9e21c3ae5d071d09a16232ee6a12420cb0b447fbd5e2a3d2cbd793258d0aa849"), looks := true }, kinds := [], alts := [], laidByText := true, laidKinds := [.handle, .sentinel, .sentinel, .sentinel, .sentinel, .sentinel, .sentinel, .sentinel, .sentinel, .sentinel, .sentinel, .sentinel], laidTests := true, laidLooks := .later }
def DayDueCardSaid : Prop := Claim7.holds Tryd.pinned (.plain (OpenSpec.ofChange dayDueSpec)) dayDueCard

/-- THE TIED CARD OF 'statutelaw1.DayTerms'. -/
def dayTermsCard : Claim7 := { stood := { row := dayTermsRow, standIns := [], harness := (true, "9e21c3ae5d071d09a16232ee6a12420cb0b447fbd5e2a3d2cbd793258d0aa849"), looks := true }, kinds := [], alts := [], laidByText := true, laidKinds := [.data, .data, .data, .handle, .sentinel, .sentinel, .sentinel, .sentinel, .sentinel, .sentinel, .sentinel, .sentinel, .sentinel, .sentinel, .sentinel], laidTests := true, laidLooks := .later }
def DayTermsCardSaid : Prop := Claim7.holds Tryd.pinned (.plain (OpenSpec.ofChange dayTermsSpec)) dayTermsCard

/-- THE SECOND FORM's CARD OF 'statutelaw1.DayWorks'. -/
def dayWorksUptoCard : Claim7 := { stood := { row := dayWorksUptoRow, standIns := [], harness := (true, "9e21c3ae5d071d09a16232ee6a12420cb0b447fbd5e2a3d2cbd793258d0aa849"), looks := true }, kinds := [], alts := [], laidByText := true, laidKinds := [.handle, .sentinel, .sentinel, .sentinel, .sentinel, .sentinel, .sentinel, .sentinel, .sentinel, .sentinel, .sentinel, .sentinel], laidTests := true, laidLooks := .later }
def DayWorksUptoCardSaid : Prop := Claim7.holds Tryd.pinned (.plain (OpenSpec.upto dayWorksSpec)) dayWorksUptoCard

/-- THE SECOND FORM's CARD OF 'statutelaw1.DayAdds'. -/
def dayAddsUptoCard : Claim7 := { stood := { row := dayAddsUptoRow, standIns := [], harness := (true, "9e21c3ae5d071d09a16232ee6a12420cb0b447fbd5e2a3d2cbd793258d0aa849"), looks := true }, kinds := [], alts := [], laidByText := true, laidKinds := [.handle, .sentinel, .sentinel, .sentinel, .sentinel, .sentinel, .sentinel, .sentinel, .sentinel, .sentinel, .sentinel, .sentinel], laidTests := true, laidLooks := .later }
def DayAddsUptoCardSaid : Prop := Claim7.holds Tryd.pinned (.plain (OpenSpec.upto dayAddsSpec)) dayAddsUptoCard

/-- THE SECOND FORM's CARD OF 'statutelaw1.DayDue'. -/
def dayDueUptoCard : Claim7 := { stood := { row := dayDueUptoRow, standIns := [], harness := (true, "9e21c3ae5d071d09a16232ee6a12420cb0b447fbd5e2a3d2cbd793258d0aa849"), looks := true }, kinds := [], alts := [], laidByText := true, laidKinds := [.handle, .sentinel, .sentinel, .sentinel, .sentinel, .sentinel, .sentinel, .sentinel, .sentinel, .sentinel, .sentinel, .sentinel], laidTests := true, laidLooks := .later }
def DayDueUptoCardSaid : Prop := Claim7.holds Tryd.pinned (.plain (OpenSpec.upto dayDueSpec)) dayDueUptoCard

/-- THE SECOND FORM's CARD OF 'statutelaw1.DayTerms'. -/
def dayTermsUptoCard : Claim7 := { stood := { row := dayTermsUptoRow, standIns := [], harness := (true, "9e21c3ae5d071d09a16232ee6a12420cb0b447fbd5e2a3d2cbd793258d0aa849"), looks := true }, kinds := [], alts := [], laidByText := true, laidKinds := [.data, .data, .data, .handle, .sentinel, .sentinel, .sentinel, .sentinel, .sentinel, .sentinel, .sentinel, .sentinel, .sentinel, .sentinel, .sentinel], laidTests := true, laidLooks := .later }
def DayTermsUptoCardSaid : Prop := Claim7.holds Tryd.pinned (.plain (OpenSpec.upto dayTermsSpec)) dayTermsUptoCard
end Rows
end Go.Proofs.YtplhamloddighaaDoor

/-
  DERIVED. GIVEN WITH THE SEED: THE CARDS: each row of YtgihikdabfpncabDoorRows.lean that lists a variable, with what it lists TIED to the program's text (the seventh form; the later family's looks); each row that meets fmt, with fmt's text TOLD by the authors' own Lean function (tested against real Go, not proved from fmt's source: count such statements apart). THE CARD IS WHAT COUNTS. Prove the row's statement (the work); the ties are given (YtgihikdabfpncabDoorTie.lean); close each card by the builder's one call (the guide's Derived/Test/ToyasCard.lean, 'card_holds'). Laid BY PROGRAM, IN A SANDBOX (cutbox-door.mjs). By AI agents, Wed Nov 11 2026. No macro, syntax, notation, axiom, sorry.
-/
import Derived.Test.YtgihikdabfpncabDoorRows
import GoSem.ClaimSeven
namespace Go.Proofs.YtgihikdabfpncabDoor
namespace Rows

/-- THE TIED CARD OF 'statutelaw1.CoinShare'. -/
def coinShareCard : Claim7 := { stood := { row := coinShareRow, standIns := [], harness := (true, "6cfced63e2f7d8715adde98bcca63367a695f571551ed705caba16bae413028b"), looks := true }, kinds := [], alts := [], laidByText := true, laidKinds := [.data, .handle, .sentinel, .sentinel, .sentinel, .sentinel, .sentinel, .sentinel, .sentinel, .sentinel, .sentinel, .sentinel, .sentinel, .pinned], laidTests := true, laidLooks := .later }
def CoinShareCardSaid : Prop := Claim7.holds Tryd.pinned (.plain (OpenSpec.ofChange coinShareSpec)) coinShareCard

/-- THE TIED CARD OF 'statutelaw1.CoinQuota'. -/
def coinQuotaCard : Claim7 := { stood := { row := coinQuotaRow, standIns := [], harness := (true, "6cfced63e2f7d8715adde98bcca63367a695f571551ed705caba16bae413028b"), looks := true }, kinds := [], alts := [], laidByText := true, laidKinds := [.data, .sentinel, .sentinel, .sentinel, .pinned], laidTests := true, laidLooks := .later }
def CoinQuotaCardSaid : Prop := Claim7.holds Tryd.pinned (.plain (OpenSpec.ofChange coinQuotaSpec)) coinQuotaCard

/-- THE TIED CARD OF 'statutelaw1.DayOf'. -/
def dayOfCard : Claim7 := { stood := { row := dayOfRow, standIns := [], harness := (true, "6cfced63e2f7d8715adde98bcca63367a695f571551ed705caba16bae413028b"), looks := true }, kinds := [], alts := [], laidByText := true, laidKinds := [.handle, .sentinel, .sentinel, .sentinel, .sentinel, .sentinel, .sentinel, .sentinel, .sentinel, .sentinel, .sentinel, .sentinel], laidTests := true, laidLooks := .later }
def DayOfCardSaid : Prop := Claim7.holds Tryd.pinned (.plain (OpenSpec.ofChange dayOfSpec)) dayOfCard

/-- THE TIED CARD OF 'statutelaw1.DayNext'. -/
def dayNextCard : Claim7 := { stood := { row := dayNextRow, standIns := [], harness := (true, "6cfced63e2f7d8715adde98bcca63367a695f571551ed705caba16bae413028b"), looks := true }, kinds := [], alts := [], laidByText := true, laidKinds := [.sentinel], laidTests := true, laidLooks := .later }
def DayNextCardSaid : Prop := Claim7.holds Tryd.pinned (.plain (OpenSpec.ofChange dayNextSpec)) dayNextCard

/-- THE TIED CARD OF 'statutelaw1.DayRead'. -/
def dayReadCard : Claim7 := { stood := { row := dayReadRow, standIns := [], harness := (true, "6cfced63e2f7d8715adde98bcca63367a695f571551ed705caba16bae413028b"), looks := true }, kinds := [], alts := [], laidByText := true, laidKinds := [.data, .data, .data, .handle, .sentinel, .sentinel, .sentinel, .sentinel, .sentinel, .sentinel, .sentinel, .sentinel, .sentinel, .sentinel, .sentinel], laidTests := true, laidLooks := .later }
def DayReadCardSaid : Prop := Claim7.holds Tryd.pinned (.plain (OpenSpec.ofChange dayReadSpec)) dayReadCard

/-- THE TIED CARD OF 'statutelaw1.DayMonths'. -/
def dayMonthsCard : Claim7 := { stood := { row := dayMonthsRow, standIns := [], harness := (true, "6cfced63e2f7d8715adde98bcca63367a695f571551ed705caba16bae413028b"), looks := true }, kinds := [], alts := [], laidByText := true, laidKinds := [.handle, .sentinel, .sentinel, .sentinel, .sentinel, .sentinel, .sentinel, .sentinel, .sentinel, .sentinel, .sentinel, .sentinel], laidTests := true, laidLooks := .later }
def DayMonthsCardSaid : Prop := Claim7.holds Tryd.pinned (.plain (OpenSpec.ofChange dayMonthsSpec)) dayMonthsCard

/-- THE SECOND FORM's CARD OF 'statutelaw1.CoinShare'. -/
def coinShareUptoCard : Claim7 := { stood := { row := coinShareUptoRow, standIns := [], harness := (true, "6cfced63e2f7d8715adde98bcca63367a695f571551ed705caba16bae413028b"), looks := true }, kinds := [], alts := [], laidByText := true, laidKinds := [.data, .handle, .sentinel, .sentinel, .sentinel, .sentinel, .sentinel, .sentinel, .sentinel, .sentinel, .sentinel, .sentinel, .sentinel, .pinned], laidTests := true, laidLooks := .later }
def CoinShareUptoCardSaid : Prop := Claim7.holds Tryd.pinned (.plain (OpenSpec.upto coinShareSpec)) coinShareUptoCard

/-- THE SECOND FORM's CARD OF 'statutelaw1.CoinQuota'. -/
def coinQuotaUptoCard : Claim7 := { stood := { row := coinQuotaUptoRow, standIns := [], harness := (true, "6cfced63e2f7d8715adde98bcca63367a695f571551ed705caba16bae413028b"), looks := true }, kinds := [], alts := [], laidByText := true, laidKinds := [.data, .sentinel, .sentinel, .sentinel, .pinned], laidTests := true, laidLooks := .later }
def CoinQuotaUptoCardSaid : Prop := Claim7.holds Tryd.pinned (.plain (OpenSpec.upto coinQuotaSpec)) coinQuotaUptoCard

/-- THE SECOND FORM's CARD OF 'statutelaw1.DayOf'. -/
def dayOfUptoCard : Claim7 := { stood := { row := dayOfUptoRow, standIns := [], harness := (true, "6cfced63e2f7d8715adde98bcca63367a695f571551ed705caba16bae413028b"), looks := true }, kinds := [], alts := [], laidByText := true, laidKinds := [.handle, .sentinel, .sentinel, .sentinel, .sentinel, .sentinel, .sentinel, .sentinel, .sentinel, .sentinel, .sentinel, .sentinel], laidTests := true, laidLooks := .later }
def DayOfUptoCardSaid : Prop := Claim7.holds Tryd.pinned (.plain (OpenSpec.upto dayOfSpec)) dayOfUptoCard

/-- THE SECOND FORM's CARD OF 'statutelaw1.DayNext'. -/
def dayNextUptoCard : Claim7 := { stood := { row := dayNextUptoRow, standIns := [], harness := (true, "6cfced63e2f7d8715adde98bcca63367a695f571551ed705caba16bae413028b"), looks := true }, kinds := [], alts := [], laidByText := true, laidKinds := [.sentinel], laidTests := true, laidLooks := .later }
def DayNextUptoCardSaid : Prop := Claim7.holds Tryd.pinned (.plain (OpenSpec.upto dayNextSpec)) dayNextUptoCard

/-- THE SECOND FORM's CARD OF 'statutelaw1.DayRead'. -/
def dayReadUptoCard : Claim7 := { stood := { row := dayReadUptoRow, standIns := [], harness := (true, "6cfced63e2f7d8715adde98bcca63367a695f571551ed705caba16bae413028b"), looks := true }, kinds := [], alts := [], laidByText := true, laidKinds := [.data, .data, .data, .handle, .sentinel, .sentinel, .sentinel, .sentinel, .sentinel, .sentinel, .sentinel, .sentinel, .sentinel, .sentinel, .sentinel], laidTests := true, laidLooks := .later }
def DayReadUptoCardSaid : Prop := Claim7.holds Tryd.pinned (.plain (OpenSpec.upto dayReadSpec)) dayReadUptoCard

/-- THE SECOND FORM's CARD OF 'statutelaw1.DayMonths'. -/
def dayMonthsUptoCard : Claim7 := { stood := { row := dayMonthsUptoRow, standIns := [], harness := (true, "6cfced63e2f7d8715adde98bcca63367a695f571551ed705caba16bae413028b"), looks := true }, kinds := [], alts := [], laidByText := true, laidKinds := [.handle, .sentinel, .sentinel, .sentinel, .sentinel, .sentinel, .sentinel, .sentinel, .sentinel, .sentinel, .sentinel, .sentinel], laidTests := true, laidLooks := .later }
def DayMonthsUptoCardSaid : Prop := Claim7.holds Tryd.pinned (.plain (OpenSpec.upto dayMonthsSpec)) dayMonthsUptoCard
end Rows
end Go.Proofs.YtgihikdabfpncabDoor

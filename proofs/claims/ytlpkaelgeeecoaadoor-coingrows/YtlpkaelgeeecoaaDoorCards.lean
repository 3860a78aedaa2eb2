/-
  DERIVED. GIVEN WITH THE SEED: THE CARDS: each row of YtlpkaelgeeecoaaDoorRows.lean that lists a variable, with what it lists TIED to the program's text (the seventh form; the later family's looks); each row that meets fmt, with fmt's text TOLD by the authors' own Lean function (tested against real Go, not proved from fmt's source: count such statements apart). THE CARD IS WHAT COUNTS. Prove the row's statement (the work); the ties are given (YtlpkaelgeeecoaaDoorTie.lean); close each card by the builder's one call (the guide's Derived/Test/ToyasCard.lean, 'card_holds'). Laid BY PROGRAM, IN A SANDBOX (cutbox-door.mjs). By AI agents, Wed Nov 11 2026. No macro, syntax, notation, axiom, sorry.
-/
import Derived.Test.YtlpkaelgeeecoaaDoorRows
import GoSem.ClaimSeven
namespace Go.Proofs.YtlpkaelgeeecoaaDoor
namespace Rows

/-- THE TIED CARD OF 'statutelaw1.CoinRead'. -/
def coinReadCard : Claim7 := { stood := { row := coinReadRow, standIns := [], harness := (true, "28abf4027e376a676f12338d6e07d6c9b117203dc9ede7d0161027e1b531b788"), looks := true }, kinds := [], alts := [], laidByText := true, laidKinds := [.data, .handle, .sentinel, .sentinel, .sentinel, .sentinel, .sentinel, .sentinel, .sentinel, .sentinel, .sentinel, .sentinel, .sentinel, .pinned], laidTests := true, laidLooks := .later }
def CoinReadCardSaid : Prop := Claim7.holds Tryd.pinned (.plain (OpenSpec.ofChange coinReadSpec)) coinReadCard

/-- THE TIED CARD OF 'statutelaw1.CoinText'. -/
def coinTextCard : Claim7 := { stood := { row := coinTextRow, standIns := [], harness := (true, "28abf4027e376a676f12338d6e07d6c9b117203dc9ede7d0161027e1b531b788"), looks := true }, kinds := [], alts := [], laidByText := true, laidKinds := [.data, .data, .data, .data, .sentinel, .sentinel, .pinned], laidTests := true, laidLooks := .later }
def CoinTextCardSaid : Prop := Claim7.holds Tryd.pinned (.plain (OpenSpec.ofChange coinTextSpec)) coinTextCard

/-- THE TIED CARD OF 'statutelaw1.CoinPart'. -/
def coinPartCard : Claim7 := { stood := { row := coinPartRow, standIns := [], harness := (true, "28abf4027e376a676f12338d6e07d6c9b117203dc9ede7d0161027e1b531b788"), looks := true }, kinds := [], alts := [], laidByText := true, laidKinds := [.handle, .sentinel, .sentinel, .sentinel, .sentinel, .sentinel, .sentinel, .sentinel, .sentinel, .sentinel, .sentinel, .sentinel], laidTests := true, laidLooks := .later }
def CoinPartCardSaid : Prop := Claim7.holds Tryd.pinned (.plain (OpenSpec.ofChange coinPartSpec)) coinPartCard

/-- THE TIED CARD OF 'statutelaw1.CoinGrows'. -/
def coinGrowsCard : Claim7 := { stood := { row := coinGrowsRow, standIns := [], harness := (true, "28abf4027e376a676f12338d6e07d6c9b117203dc9ede7d0161027e1b531b788"), looks := true }, kinds := [], alts := [], laidByText := true, laidKinds := [.data, .sentinel, .sentinel, .sentinel, .sentinel, .pinned], laidTests := true, laidLooks := .later }
def CoinGrowsCardSaid : Prop := Claim7.holds Tryd.pinned (.plain (OpenSpec.ofChange coinGrowsSpec)) coinGrowsCard

/-- THE TIED CARD OF 'statutelaw1.CoinShare'. -/
def coinShareCard : Claim7 := { stood := { row := coinShareRow, standIns := [], harness := (true, "28abf4027e376a676f12338d6e07d6c9b117203dc9ede7d0161027e1b531b788"), looks := true }, kinds := [], alts := [], laidByText := true, laidKinds := [.data, .handle, .sentinel, .sentinel, .sentinel, .sentinel, .sentinel, .sentinel, .sentinel, .sentinel, .sentinel, .sentinel, .sentinel, .pinned], laidTests := true, laidLooks := .later }
def CoinShareCardSaid : Prop := Claim7.holds Tryd.pinned (.plain (OpenSpec.ofChange coinShareSpec)) coinShareCard

/-- THE TIED CARD OF 'statutelaw1.CoinQuota'. -/
def coinQuotaCard : Claim7 := { stood := { row := coinQuotaRow, standIns := [], harness := (true, "28abf4027e376a676f12338d6e07d6c9b117203dc9ede7d0161027e1b531b788"), looks := true }, kinds := [], alts := [], laidByText := true, laidKinds := [.data, .sentinel, .sentinel, .sentinel, .pinned], laidTests := true, laidLooks := .later }
def CoinQuotaCardSaid : Prop := Claim7.holds Tryd.pinned (.plain (OpenSpec.ofChange coinQuotaSpec)) coinQuotaCard

/-- THE SECOND FORM's CARD OF 'statutelaw1.CoinRead'. -/
def coinReadUptoCard : Claim7 := { stood := { row := coinReadUptoRow, standIns := [], harness := (true, "28abf4027e376a676f12338d6e07d6c9b117203dc9ede7d0161027e1b531b788"), looks := true }, kinds := [], alts := [], laidByText := true, laidKinds := [.data, .handle, .sentinel, .sentinel, .sentinel, .sentinel, .sentinel, .sentinel, .sentinel, .sentinel, .sentinel, .sentinel, .sentinel, .pinned], laidTests := true, laidLooks := .later }
def CoinReadUptoCardSaid : Prop := Claim7.holds Tryd.pinned (.plain (OpenSpec.upto coinReadSpec)) coinReadUptoCard

/-- THE SECOND FORM's CARD OF 'statutelaw1.CoinText'. -/
def coinTextUptoCard : Claim7 := { stood := { row := coinTextUptoRow, standIns := [], harness := (true, "28abf4027e376a676f12338d6e07d6c9b117203dc9ede7d0161027e1b531b788"), looks := true }, kinds := [], alts := [], laidByText := true, laidKinds := [.data, .data, .data, .data, .sentinel, .sentinel, .pinned], laidTests := true, laidLooks := .later }
def CoinTextUptoCardSaid : Prop := Claim7.holds Tryd.pinned (.plain (OpenSpec.upto coinTextSpec)) coinTextUptoCard

/-- THE SECOND FORM's CARD OF 'statutelaw1.CoinPart'. -/
def coinPartUptoCard : Claim7 := { stood := { row := coinPartUptoRow, standIns := [], harness := (true, "28abf4027e376a676f12338d6e07d6c9b117203dc9ede7d0161027e1b531b788"), looks := true }, kinds := [], alts := [], laidByText := true, laidKinds := [.handle, .sentinel, .sentinel, .sentinel, .sentinel, .sentinel, .sentinel, .sentinel, .sentinel, .sentinel, .sentinel, .sentinel], laidTests := true, laidLooks := .later }
def CoinPartUptoCardSaid : Prop := Claim7.holds Tryd.pinned (.plain (OpenSpec.upto coinPartSpec)) coinPartUptoCard

/-- THE SECOND FORM's CARD OF 'statutelaw1.CoinGrows'. -/
def coinGrowsUptoCard : Claim7 := { stood := { row := coinGrowsUptoRow, standIns := [], harness := (true, "28abf4027e376a676f12338d6e07d6c9b117203dc9ede7d0161027e1b531b788"), looks := true }, kinds := [], alts := [], laidByText := true, laidKinds := [.data, .sentinel, .sentinel, .sentinel, .sentinel, .pinned], laidTests := true, laidLooks := .later }
def CoinGrowsUptoCardSaid : Prop := Claim7.holds Tryd.pinned (.plain (OpenSpec.upto coinGrowsSpec)) coinGrowsUptoCard

/-- THE SECOND FORM's CARD OF 'statutelaw1.CoinShare'. -/
def coinShareUptoCard : Claim7 := { stood := { row := coinShareUptoRow, standIns := [], harness := (true, "28abf4027e376a676f12338d6e07d6c9b117203dc9ede7d0161027e1b531b788"), looks := true }, kinds := [], alts := [], laidByText := true, laidKinds := [.data, .handle, .sentinel, .sentinel, .sentinel, .sentinel, .sentinel, .sentinel, .sentinel, .sentinel, .sentinel, .sentinel, .sentinel, .pinned], laidTests := true, laidLooks := .later }
def CoinShareUptoCardSaid : Prop := Claim7.holds Tryd.pinned (.plain (OpenSpec.upto coinShareSpec)) coinShareUptoCard

/-- THE SECOND FORM's CARD OF 'statutelaw1.CoinQuota'. -/
def coinQuotaUptoCard : Claim7 := { stood := { row := coinQuotaUptoRow, standIns := [], harness := (true, "28abf4027e376a676f12338d6e07d6c9b117203dc9ede7d0161027e1b531b788"), looks := true }, kinds := [], alts := [], laidByText := true, laidKinds := [.data, .sentinel, .sentinel, .sentinel, .pinned], laidTests := true, laidLooks := .later }
def CoinQuotaUptoCardSaid : Prop := Claim7.holds Tryd.pinned (.plain (OpenSpec.upto coinQuotaSpec)) coinQuotaUptoCard
end Rows
end Go.Proofs.YtlpkaelgeeecoaaDoor

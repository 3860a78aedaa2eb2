/-
  DERIVED. GIVEN WITH THE SEED: THE CARDS: each row of YtagkplcomhomcaaDoorRows.lean that lists a variable, with what it lists TIED to the program's text (the seventh form; the later family's looks); each row that meets fmt, with fmt's text TOLD by the authors' own Lean function (tested against real Go, not proved from fmt's source: count such statements apart). THE CARD IS WHAT COUNTS. Prove the row's statement (the work); the ties are given (YtagkplcomhomcaaDoorTie.lean); close each card by the builder's one call (the guide's Derived/Test/ToyasCard.lean, 'card_holds'). Laid BY PROGRAM, IN A SANDBOX (cutbox-door.mjs). By AI agents, Wed Nov 11 2026. No macro, syntax, notation, axiom, sorry.
-/
import Derived.Test.YtagkplcomhomcaaDoorRows
import GoSem.ClaimSeven
namespace Go.Proofs.YtagkplcomhomcaaDoor
namespace Rows

/-- THE TIED CARD OF 'statutelaw1.Names'. -/
def namesCard : Claim7 := { stood := { row := namesRow, standIns := [], harness := (true, "d81426c24f3dd43c8cc0b17de594060d93da98f34297bacd0d6a24c29d7149e2"), looks := true }, kinds := [], alts := [], laidByText := true, laidKinds := [.handle, .sentinel, .sentinel, .sentinel, .sentinel, .sentinel, .sentinel, .sentinel, .sentinel, .sentinel, .sentinel, .sentinel], laidTests := true, laidLooks := .later }
def NamesCardSaid : Prop := Claim7.holds Tryd.pinned (.plain (OpenSpec.ofChange namesSpec)) namesCard

/-- THE TIED CARD OF 'statutelaw1.CoinRead'. -/
def coinReadCard : Claim7 := { stood := { row := coinReadRow, standIns := [], harness := (true, "d81426c24f3dd43c8cc0b17de594060d93da98f34297bacd0d6a24c29d7149e2"), looks := true }, kinds := [], alts := [], laidByText := true, laidKinds := [.data, .handle, .sentinel, .sentinel, .sentinel, .sentinel, .sentinel, .sentinel, .sentinel, .sentinel, .sentinel, .sentinel, .sentinel, .pinned], laidTests := true, laidLooks := .later }
def CoinReadCardSaid : Prop := Claim7.holds Tryd.pinned (.plain (OpenSpec.ofChange coinReadSpec)) coinReadCard

/-- THE TIED CARD OF 'statutelaw1.CoinText'. -/
def coinTextCard : Claim7 := { stood := { row := coinTextRow, standIns := [], harness := (true, "d81426c24f3dd43c8cc0b17de594060d93da98f34297bacd0d6a24c29d7149e2"), looks := true }, kinds := [], alts := [], laidByText := true, laidKinds := [.data, .data, .data, .data, .sentinel, .sentinel, .pinned], laidTests := true, laidLooks := .later }
def CoinTextCardSaid : Prop := Claim7.holds Tryd.pinned (.plain (OpenSpec.ofChange coinTextSpec)) coinTextCard

/-- THE TIED CARD OF 'statutelaw1.CoinPart'. -/
def coinPartCard : Claim7 := { stood := { row := coinPartRow, standIns := [], harness := (true, "d81426c24f3dd43c8cc0b17de594060d93da98f34297bacd0d6a24c29d7149e2"), looks := true }, kinds := [], alts := [], laidByText := true, laidKinds := [.handle, .sentinel, .sentinel, .sentinel, .sentinel, .sentinel, .sentinel, .sentinel, .sentinel, .sentinel, .sentinel, .sentinel], laidTests := true, laidLooks := .later }
def CoinPartCardSaid : Prop := Claim7.holds Tryd.pinned (.plain (OpenSpec.ofChange coinPartSpec)) coinPartCard

/-- THE TIED CARD OF 'statutelaw1.CoinBands'. -/
def coinBandsCard : Claim7 := { stood := { row := coinBandsRow, standIns := [], harness := (true, "d81426c24f3dd43c8cc0b17de594060d93da98f34297bacd0d6a24c29d7149e2"), looks := true }, kinds := [], alts := [], laidByText := true, laidKinds := [.data, .handle, .sentinel, .sentinel, .sentinel, .sentinel, .sentinel, .sentinel, .sentinel, .sentinel, .sentinel, .sentinel, .sentinel, .pinned], laidTests := true, laidLooks := .later }
def CoinBandsCardSaid : Prop := Claim7.holds Tryd.pinned (.plain (OpenSpec.ofChange coinBandsSpec)) coinBandsCard

/-- THE TIED CARD OF 'statutelaw1.CoinGrows'. -/
def coinGrowsCard : Claim7 := { stood := { row := coinGrowsRow, standIns := [], harness := (true, "d81426c24f3dd43c8cc0b17de594060d93da98f34297bacd0d6a24c29d7149e2"), looks := true }, kinds := [], alts := [], laidByText := true, laidKinds := [.data, .sentinel, .sentinel, .sentinel, .sentinel, .pinned], laidTests := true, laidLooks := .later }
def CoinGrowsCardSaid : Prop := Claim7.holds Tryd.pinned (.plain (OpenSpec.ofChange coinGrowsSpec)) coinGrowsCard

/-- THE SECOND FORM's CARD OF 'statutelaw1.Names'. -/
def namesUptoCard : Claim7 := { stood := { row := namesUptoRow, standIns := [], harness := (true, "d81426c24f3dd43c8cc0b17de594060d93da98f34297bacd0d6a24c29d7149e2"), looks := true }, kinds := [], alts := [], laidByText := true, laidKinds := [.handle, .sentinel, .sentinel, .sentinel, .sentinel, .sentinel, .sentinel, .sentinel, .sentinel, .sentinel, .sentinel, .sentinel], laidTests := true, laidLooks := .later }
def NamesUptoCardSaid : Prop := Claim7.holds Tryd.pinned (.plain (OpenSpec.upto namesSpec)) namesUptoCard

/-- THE SECOND FORM's CARD OF 'statutelaw1.CoinRead'. -/
def coinReadUptoCard : Claim7 := { stood := { row := coinReadUptoRow, standIns := [], harness := (true, "d81426c24f3dd43c8cc0b17de594060d93da98f34297bacd0d6a24c29d7149e2"), looks := true }, kinds := [], alts := [], laidByText := true, laidKinds := [.data, .handle, .sentinel, .sentinel, .sentinel, .sentinel, .sentinel, .sentinel, .sentinel, .sentinel, .sentinel, .sentinel, .sentinel, .pinned], laidTests := true, laidLooks := .later }
def CoinReadUptoCardSaid : Prop := Claim7.holds Tryd.pinned (.plain (OpenSpec.upto coinReadSpec)) coinReadUptoCard

/-- THE SECOND FORM's CARD OF 'statutelaw1.CoinText'. -/
def coinTextUptoCard : Claim7 := { stood := { row := coinTextUptoRow, standIns := [], harness := (true, "d81426c24f3dd43c8cc0b17de594060d93da98f34297bacd0d6a24c29d7149e2"), looks := true }, kinds := [], alts := [], laidByText := true, laidKinds := [.data, .data, .data, .data, .sentinel, .sentinel, .pinned], laidTests := true, laidLooks := .later }
def CoinTextUptoCardSaid : Prop := Claim7.holds Tryd.pinned (.plain (OpenSpec.upto coinTextSpec)) coinTextUptoCard

/-- THE SECOND FORM's CARD OF 'statutelaw1.CoinPart'. -/
def coinPartUptoCard : Claim7 := { stood := { row := coinPartUptoRow, standIns := [], harness := (true, "d81426c24f3dd43c8cc0b17de594060d93da98f34297bacd0d6a24c29d7149e2"), looks := true }, kinds := [], alts := [], laidByText := true, laidKinds := [.handle, .sentinel, .sentinel, .sentinel, .sentinel, .sentinel, .sentinel, .sentinel, .sentinel, .sentinel, .sentinel, .sentinel], laidTests := true, laidLooks := .later }
def CoinPartUptoCardSaid : Prop := Claim7.holds Tryd.pinned (.plain (OpenSpec.upto coinPartSpec)) coinPartUptoCard

/-- THE SECOND FORM's CARD OF 'statutelaw1.CoinBands'. -/
def coinBandsUptoCard : Claim7 := { stood := { row := coinBandsUptoRow, standIns := [], harness := (true, "d81426c24f3dd43c8cc0b17de594060d93da98f34297bacd0d6a24c29d7149e2"), looks := true }, kinds := [], alts := [], laidByText := true, laidKinds := [.data, .handle, .sentinel, .sentinel, .sentinel, .sentinel, .sentinel, .sentinel, .sentinel, .sentinel, .sentinel, .sentinel, .sentinel, .pinned], laidTests := true, laidLooks := .later }
def CoinBandsUptoCardSaid : Prop := Claim7.holds Tryd.pinned (.plain (OpenSpec.upto coinBandsSpec)) coinBandsUptoCard

/-- THE SECOND FORM's CARD OF 'statutelaw1.CoinGrows'. -/
def coinGrowsUptoCard : Claim7 := { stood := { row := coinGrowsUptoRow, standIns := [], harness := (true, "d81426c24f3dd43c8cc0b17de594060d93da98f34297bacd0d6a24c29d7149e2"), looks := true }, kinds := [], alts := [], laidByText := true, laidKinds := [.data, .sentinel, .sentinel, .sentinel, .sentinel, .pinned], laidTests := true, laidLooks := .later }
def CoinGrowsUptoCardSaid : Prop := Claim7.holds Tryd.pinned (.plain (OpenSpec.upto coinGrowsSpec)) coinGrowsUptoCard
end Rows
end Go.Proofs.YtagkplcomhomcaaDoor

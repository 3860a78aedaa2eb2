/-
  DERIVED. GIVEN WITH THE SEED: THE CARDS: each row of YtagkplcomhomcabDoorRows.lean that lists a variable, with what it lists TIED to the program's text (the seventh form; the later family's looks); each row that meets fmt, with fmt's text TOLD by the authors' own Lean function (tested against real Go, not proved from fmt's source: count such statements apart). THE CARD IS WHAT COUNTS. Prove the row's statement (the work); the ties are given (YtagkplcomhomcabDoorTie.lean); close each card by the builder's one call (the guide's Derived/Test/ToyasCard.lean, 'card_holds'). Laid BY PROGRAM, IN A SANDBOX (cutbox-door.mjs). By AI agents, Wed Nov 11 2026. No macro, syntax, notation, axiom, sorry.
-/
import Derived.Test.YtagkplcomhomcabDoorRows
import GoSem.ClaimSeven
namespace Go.Proofs.YtagkplcomhomcabDoor
namespace Rows

/-- THE TIED CARD OF 'statutelaw1.CoinShare'. -/
def coinShareCard : Claim7 := { stood := { row := coinShareRow, standIns := [], harness := (true, "a716298309e801d30e662a99ee30ba09bab55de52908b5848b40bad5c83d7711"), looks := true }, kinds := [], alts := [], laidByText := true, laidKinds := [.data, .handle, .sentinel, .sentinel, .sentinel, .sentinel, .sentinel, .sentinel, .sentinel, .sentinel, .sentinel, .sentinel, .sentinel, .pinned], laidTests := true, laidLooks := .later }
def CoinShareCardSaid : Prop := Claim7.holds Tryd.pinned (.plain (OpenSpec.ofChange coinShareSpec)) coinShareCard

/-- THE TIED CARD OF 'statutelaw1.CoinQuota'. -/
def coinQuotaCard : Claim7 := { stood := { row := coinQuotaRow, standIns := [], harness := (true, "a716298309e801d30e662a99ee30ba09bab55de52908b5848b40bad5c83d7711"), looks := true }, kinds := [], alts := [], laidByText := true, laidKinds := [.data, .sentinel, .sentinel, .sentinel, .pinned], laidTests := true, laidLooks := .later }
def CoinQuotaCardSaid : Prop := Claim7.holds Tryd.pinned (.plain (OpenSpec.ofChange coinQuotaSpec)) coinQuotaCard

/-- THE SECOND FORM's CARD OF 'statutelaw1.CoinShare'. -/
def coinShareUptoCard : Claim7 := { stood := { row := coinShareUptoRow, standIns := [], harness := (true, "a716298309e801d30e662a99ee30ba09bab55de52908b5848b40bad5c83d7711"), looks := true }, kinds := [], alts := [], laidByText := true, laidKinds := [.data, .handle, .sentinel, .sentinel, .sentinel, .sentinel, .sentinel, .sentinel, .sentinel, .sentinel, .sentinel, .sentinel, .sentinel, .pinned], laidTests := true, laidLooks := .later }
def CoinShareUptoCardSaid : Prop := Claim7.holds Tryd.pinned (.plain (OpenSpec.upto coinShareSpec)) coinShareUptoCard

/-- THE SECOND FORM's CARD OF 'statutelaw1.CoinQuota'. -/
def coinQuotaUptoCard : Claim7 := { stood := { row := coinQuotaUptoRow, standIns := [], harness := (true, "a716298309e801d30e662a99ee30ba09bab55de52908b5848b40bad5c83d7711"), looks := true }, kinds := [], alts := [], laidByText := true, laidKinds := [.data, .sentinel, .sentinel, .sentinel, .pinned], laidTests := true, laidLooks := .later }
def CoinQuotaUptoCardSaid : Prop := Claim7.holds Tryd.pinned (.plain (OpenSpec.upto coinQuotaSpec)) coinQuotaUptoCard
end Rows
end Go.Proofs.YtagkplcomhomcabDoor

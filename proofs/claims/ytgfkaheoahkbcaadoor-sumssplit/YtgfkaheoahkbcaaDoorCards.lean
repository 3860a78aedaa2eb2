/-
  DERIVED. GIVEN WITH THE SEED: THE CARDS: each row of YtgfkaheoahkbcaaDoorRows.lean that lists a variable, with what it lists TIED to the program's text (the seventh form; the later family's looks); each row that meets fmt, with fmt's text TOLD by the authors' own Lean function (tested against real Go, not proved from fmt's source: count such statements apart). THE CARD IS WHAT COUNTS. Prove the row's statement (the work); the ties are given (YtgfkaheoahkbcaaDoorTie.lean); close each card by the builder's one call (the guide's Derived/Test/ToyasCard.lean, 'card_holds'). Laid BY PROGRAM, IN A SANDBOX (cutbox-door.mjs). By AI agents, Wed Nov 11 2026. No macro, syntax, notation, axiom, sorry.
-/
import Derived.Test.YtgfkaheoahkbcaaDoorRows
import GoSem.ClaimSeven
namespace Go.Proofs.YtgfkaheoahkbcaaDoor
namespace Rows

/-- THE TIED CARD OF 'statutelaw5.SumsMonths'. -/
def sumsMonthsCard : Claim7 := { stood := { row := sumsMonthsRow, standIns := [], harness := (true, "91a8935782a6028c63b0c93e33b4e9623f56ac0a877083464f00965d4f54ee63"), looks := true }, kinds := [], alts := [], laidByText := true, laidKinds := [.handle, .sentinel, .sentinel, .sentinel, .sentinel, .sentinel, .sentinel, .sentinel, .sentinel, .sentinel, .sentinel, .sentinel], laidTests := true, laidLooks := .later }
def SumsMonthsCardSaid : Prop := Claim7.holds Tryd.pinned (.plain (OpenSpec.ofChange sumsMonthsSpec)) sumsMonthsCard

/-- THE TIED CARD OF 'statutelaw5.SumsSplit'. -/
def sumsSplitCard : Claim7 := { stood := { row := sumsSplitRow, standIns := [], harness := (true, "91a8935782a6028c63b0c93e33b4e9623f56ac0a877083464f00965d4f54ee63"), looks := true }, kinds := [], alts := [], laidByText := true, laidKinds := [.sentinel, .sentinel, .sentinel, .sentinel], laidTests := true, laidLooks := .later }
def SumsSplitCardSaid : Prop := Claim7.holds Tryd.pinned (.plain (OpenSpec.ofChange sumsSplitSpec)) sumsSplitCard

/-- THE SECOND FORM's CARD OF 'statutelaw5.SumsMonths'. -/
def sumsMonthsUptoCard : Claim7 := { stood := { row := sumsMonthsUptoRow, standIns := [], harness := (true, "91a8935782a6028c63b0c93e33b4e9623f56ac0a877083464f00965d4f54ee63"), looks := true }, kinds := [], alts := [], laidByText := true, laidKinds := [.handle, .sentinel, .sentinel, .sentinel, .sentinel, .sentinel, .sentinel, .sentinel, .sentinel, .sentinel, .sentinel, .sentinel], laidTests := true, laidLooks := .later }
def SumsMonthsUptoCardSaid : Prop := Claim7.holds Tryd.pinned (.plain (OpenSpec.upto sumsMonthsSpec)) sumsMonthsUptoCard

/-- THE SECOND FORM's CARD OF 'statutelaw5.SumsSplit'. -/
def sumsSplitUptoCard : Claim7 := { stood := { row := sumsSplitUptoRow, standIns := [], harness := (true, "91a8935782a6028c63b0c93e33b4e9623f56ac0a877083464f00965d4f54ee63"), looks := true }, kinds := [], alts := [], laidByText := true, laidKinds := [.sentinel, .sentinel, .sentinel, .sentinel], laidTests := true, laidLooks := .later }
def SumsSplitUptoCardSaid : Prop := Claim7.holds Tryd.pinned (.plain (OpenSpec.upto sumsSplitSpec)) sumsSplitUptoCard
end Rows
end Go.Proofs.YtgfkaheoahkbcaaDoor

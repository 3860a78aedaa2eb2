/-
  DERIVED. GIVEN WITH THE SEED: THE CARDS: each row of YtgfaeeacndpniaaDoorRows.lean that lists a variable, with what it lists TIED to the program's text (the seventh form; the later family's looks); each row that meets fmt, with fmt's text TOLD by the authors' own Lean function (tested against real Go, not proved from fmt's source: count such statements apart). THE CARD IS WHAT COUNTS. Prove the row's statement (the work); the ties are given (YtgfaeeacndpniaaDoorTie.lean); close each card by the builder's one call (the guide's Derived/Test/ToyasCard.lean, 'card_holds'). Laid BY PROGRAM, IN A SANDBOX (cutbox-door.mjs). By AI agents, Wed Nov 11 2026. No macro, syntax, notation, axiom, sorry.
-/
import Derived.Test.YtgfaeeacndpniaaDoorRows
import GoSem.ClaimSeven
namespace Go.Proofs.YtgfaeeacndpniaaDoor
namespace Rows

/-- THE TIED CARD OF 'statutelaw1.ScriptLess'. -/
def scriptLessCard : Claim7 := { stood := { row := scriptLessRow, standIns := [], harness := (true, "15156afca8d658db577109b617210f3452519d5af3288d442fa446be239ed4bb"), looks := false }, kinds := [], alts := [], laidByText := true, laidKinds := [.data, .pinned], laidTests := true, laidLooks := .later }
def ScriptLessCardSaid : Prop := Claim7.holds Tryd.pinned (.plain (OpenSpec.ofChange scriptLessSpec)) scriptLessCard

/-- THE TIED CARD OF 'statutelaw1.ScriptBack'. -/
def scriptBackCard : Claim7 := { stood := { row := scriptBackRow, standIns := [], harness := (true, "15156afca8d658db577109b617210f3452519d5af3288d442fa446be239ed4bb"), looks := false }, kinds := [], alts := [], laidByText := true, laidKinds := [.data, .sentinel, .sentinel, .sentinel, .pinned], laidTests := true, laidLooks := .later }
def ScriptBackCardSaid : Prop := Claim7.holds Tryd.pinned (.plain (OpenSpec.ofChange scriptBackSpec)) scriptBackCard

/-- THE SECOND FORM's CARD OF 'statutelaw1.ScriptLess'. -/
def scriptLessUptoCard : Claim7 := { stood := { row := scriptLessUptoRow, standIns := [], harness := (true, "15156afca8d658db577109b617210f3452519d5af3288d442fa446be239ed4bb"), looks := false }, kinds := [], alts := [], laidByText := true, laidKinds := [.data, .pinned], laidTests := true, laidLooks := .later }
def ScriptLessUptoCardSaid : Prop := Claim7.holds Tryd.pinned (.plain (OpenSpec.upto scriptLessSpec)) scriptLessUptoCard

/-- THE SECOND FORM's CARD OF 'statutelaw1.ScriptBack'. -/
def scriptBackUptoCard : Claim7 := { stood := { row := scriptBackUptoRow, standIns := [], harness := (true, "15156afca8d658db577109b617210f3452519d5af3288d442fa446be239ed4bb"), looks := false }, kinds := [], alts := [], laidByText := true, laidKinds := [.data, .sentinel, .sentinel, .sentinel, .pinned], laidTests := true, laidLooks := .later }
def ScriptBackUptoCardSaid : Prop := Claim7.holds Tryd.pinned (.plain (OpenSpec.upto scriptBackSpec)) scriptBackUptoCard
end Rows
end Go.Proofs.YtgfaeeacndpniaaDoor

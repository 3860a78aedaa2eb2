/-
  DERIVED. GIVEN WITH THE SEED: THE CARDS: each row of YtgfaeeacndpniaaGreatDoorRows.lean that lists a variable, with what it lists TIED to the program's text (the seventh form; the later family's looks); each row that meets fmt, with fmt's text TOLD by the authors' own Lean function (tested against real Go, not proved from fmt's source: count such statements apart). THE CARD IS WHAT COUNTS. Prove the row's statement (the work); the ties are given (YtgfaeeacndpniaaGreatDoorTie.lean); close each card by the builder's one call (the guide's Derived/Test/ToyasCard.lean, 'card_holds'). Laid BY PROGRAM, IN A SANDBOX (cutbox-door.mjs). By AI agents, Wed Nov 11 2026. No macro, syntax, notation, axiom, sorry.
-/
import Derived.Test.YtgfaeeacndpniaaGreatDoorRows
import GoSem.ClaimSeven
namespace Go.Proofs.YtgfaeeacndpniaaGreatDoor
namespace Rows

/-- THE TIED CARD OF 'statutelaw1.ScriptRead'. -/
def scriptReadCard : Claim7 := { stood := { row := scriptReadRow, standIns := [], harness := (true, "a9951fd53ffdae34a27fd94af6b5189d1712e46252d372e1788e59d872c3766f"), looks := true }, kinds := [], alts := [], laidByText := true, laidKinds := [.data, .handle, .sentinel, .sentinel, .sentinel, .sentinel, .sentinel, .sentinel, .sentinel, .sentinel, .sentinel, .sentinel, .sentinel, .pinned], laidTests := true, laidLooks := .later }
def ScriptReadCardSaid : Prop := Claim7.holds Tryz.pinned (.plain (OpenSpec.ofChange scriptReadSpec)) scriptReadCard

/-- THE TIED CARD OF 'statutelaw1.ScriptWrites'. -/
def scriptWritesCard : Claim7 := { stood := { row := scriptWritesRow, standIns := [], harness := (true, "a9951fd53ffdae34a27fd94af6b5189d1712e46252d372e1788e59d872c3766f"), looks := true }, kinds := [], alts := [], laidByText := true, laidKinds := [.data, .handle, .sentinel, .sentinel, .sentinel, .sentinel, .sentinel, .sentinel, .sentinel, .sentinel, .sentinel, .sentinel, .sentinel, .pinned], laidTests := true, laidLooks := .later }
def ScriptWritesCardSaid : Prop := Claim7.holds Tryz.pinned (.plain (OpenSpec.ofChange scriptWritesSpec)) scriptWritesCard

/-- THE TIED CARD OF 'statutelaw2.AmendApplies'. -/
def amendAppliesCard : Claim7 := { stood := { row := amendAppliesRow, standIns := [], harness := (true, "a9951fd53ffdae34a27fd94af6b5189d1712e46252d372e1788e59d872c3766f"), looks := true }, kinds := [], alts := [], laidByText := true, laidKinds := [.data, .handle, .sentinel, .sentinel, .sentinel, .sentinel, .sentinel, .sentinel, .sentinel, .sentinel, .sentinel, .sentinel, .sentinel, .pinned], laidTests := true, laidLooks := .later }
def AmendAppliesCardSaid : Prop := Claim7.holds Tryz.pinned (.plain (OpenSpec.ofChange amendAppliesSpec)) amendAppliesCard

/-- THE TIED CARD OF 'statutelaw2.AmendFolds'. -/
def amendFoldsCard : Claim7 := { stood := { row := amendFoldsRow, standIns := [], harness := (true, "a9951fd53ffdae34a27fd94af6b5189d1712e46252d372e1788e59d872c3766f"), looks := true }, kinds := [], alts := [], laidByText := true, laidKinds := [.data, .sentinel, .sentinel, .sentinel, .sentinel, .sentinel, .sentinel, .sentinel, .pinned], laidTests := true, laidLooks := .later }
def AmendFoldsCardSaid : Prop := Claim7.holds Tryz.pinned (.plain (OpenSpec.ofChange amendFoldsSpec)) amendFoldsCard

/-- THE SECOND FORM's CARD OF 'statutelaw1.ScriptRead'. -/
def scriptReadUptoCard : Claim7 := { stood := { row := scriptReadUptoRow, standIns := [], harness := (true, "a9951fd53ffdae34a27fd94af6b5189d1712e46252d372e1788e59d872c3766f"), looks := true }, kinds := [], alts := [], laidByText := true, laidKinds := [.data, .handle, .sentinel, .sentinel, .sentinel, .sentinel, .sentinel, .sentinel, .sentinel, .sentinel, .sentinel, .sentinel, .sentinel, .pinned], laidTests := true, laidLooks := .later }
def ScriptReadUptoCardSaid : Prop := Claim7.holds Tryz.pinned (.plain (OpenSpec.upto scriptReadSpec)) scriptReadUptoCard

/-- THE SECOND FORM's CARD OF 'statutelaw1.ScriptWrites'. -/
def scriptWritesUptoCard : Claim7 := { stood := { row := scriptWritesUptoRow, standIns := [], harness := (true, "a9951fd53ffdae34a27fd94af6b5189d1712e46252d372e1788e59d872c3766f"), looks := true }, kinds := [], alts := [], laidByText := true, laidKinds := [.data, .handle, .sentinel, .sentinel, .sentinel, .sentinel, .sentinel, .sentinel, .sentinel, .sentinel, .sentinel, .sentinel, .sentinel, .pinned], laidTests := true, laidLooks := .later }
def ScriptWritesUptoCardSaid : Prop := Claim7.holds Tryz.pinned (.plain (OpenSpec.upto scriptWritesSpec)) scriptWritesUptoCard

/-- THE SECOND FORM's CARD OF 'statutelaw2.AmendApplies'. -/
def amendAppliesUptoCard : Claim7 := { stood := { row := amendAppliesUptoRow, standIns := [], harness := (true, "a9951fd53ffdae34a27fd94af6b5189d1712e46252d372e1788e59d872c3766f"), looks := true }, kinds := [], alts := [], laidByText := true, laidKinds := [.data, .handle, .sentinel, .sentinel, .sentinel, .sentinel, .sentinel, .sentinel, .sentinel, .sentinel, .sentinel, .sentinel, .sentinel, .pinned], laidTests := true, laidLooks := .later }
def AmendAppliesUptoCardSaid : Prop := Claim7.holds Tryz.pinned (.plain (OpenSpec.upto amendAppliesSpec)) amendAppliesUptoCard

/-- THE SECOND FORM's CARD OF 'statutelaw2.AmendFolds'. -/
def amendFoldsUptoCard : Claim7 := { stood := { row := amendFoldsUptoRow, standIns := [], harness := (true, "a9951fd53ffdae34a27fd94af6b5189d1712e46252d372e1788e59d872c3766f"), looks := true }, kinds := [], alts := [], laidByText := true, laidKinds := [.data, .sentinel, .sentinel, .sentinel, .sentinel, .sentinel, .sentinel, .sentinel, .pinned], laidTests := true, laidLooks := .later }
def AmendFoldsUptoCardSaid : Prop := Claim7.holds Tryz.pinned (.plain (OpenSpec.upto amendFoldsSpec)) amendFoldsUptoCard
end Rows
end Go.Proofs.YtgfaeeacndpniaaGreatDoor

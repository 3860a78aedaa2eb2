/-
  DERIVED. GIVEN WITH THE SEED: THE CARDS: each row of YtikhhpmkcgblaaaDoorRows.lean that lists a variable, with what it lists TIED to the program's text (the seventh form; the later family's looks); each row that meets fmt, with fmt's text TOLD by the authors' own Lean function (tested against real Go, not proved from fmt's source: count such statements apart). THE CARD IS WHAT COUNTS. Prove the row's statement (the work); the ties are given (YtikhhpmkcgblaaaDoorTie.lean); close each card by the builder's one call (the guide's Derived/Test/ToyasCard.lean, 'card_holds'). Laid BY PROGRAM, IN A SANDBOX (cutbox-door.mjs). By AI agents, Wed Nov 11 2026. No macro, syntax, notation, axiom, sorry.
-/
import Derived.Test.YtikhhpmkcgblaaaDoorRows
import GoSem.ClaimSeven
namespace Go.Proofs.YtikhhpmkcgblaaaDoor
namespace Rows

/-- THE TIED CARD OF 'statutelaw1.DayAdds'. -/
def dayAddsCard : Claim7 := { stood := { row := dayAddsRow, standIns := [], harness := (true, "4d66200c2ca1dd2f7e23d316a7780c86af3dba655eff6cd28411b5aba2379d35"), looks := true }, kinds := [], alts := [], laidByText := true, laidKinds := [.handle, .sentinel, .sentinel, .sentinel, .sentinel, .sentinel, .sentinel, .sentinel, .sentinel, .sentinel, .sentinel, .sentinel], laidTests := true, laidLooks := .later }
def DayAddsCardSaid : Prop := Claim7.holds Tryd.pinned (.plain (OpenSpec.ofChange dayAddsSpec)) dayAddsCard

/-- THE TIED CARD OF 'statutelaw1.DayDue'. -/
def dayDueCard : Claim7 := { stood := { row := dayDueRow, standIns := [], harness := (true, "4d66200c2ca1dd2f7e23d316a7780c86af3dba655eff6cd28411b5aba2379d35"), looks := true }, kinds := [], alts := [], laidByText := true, laidKinds := [.handle, .sentinel, .sentinel, .sentinel, .sentinel, .sentinel, .sentinel, .sentinel, .sentinel, .sentinel, .sentinel, .sentinel], laidTests := true, laidLooks := .later }
def DayDueCardSaid : Prop := Claim7.holds Tryd.pinned (.plain (OpenSpec.ofChange dayDueSpec)) dayDueCard

/-- THE TIED CARD OF 'statutelaw1.DayTerms'. -/
def dayTermsCard : Claim7 := { stood := { row := dayTermsRow, standIns := [], harness := (true, "4d66200c2ca1dd2f7e23d316a7780c86af3dba655eff6cd28411b5aba2379d35"), looks := true }, kinds := [], alts := [], laidByText := true, laidKinds := [.data, .data, .data, .handle, .sentinel, .sentinel, .sentinel, .sentinel, .sentinel, .sentinel, .sentinel, .sentinel, .sentinel, .sentinel, .sentinel], laidTests := true, laidLooks := .later }
def DayTermsCardSaid : Prop := Claim7.holds Tryd.pinned (.plain (OpenSpec.ofChange dayTermsSpec)) dayTermsCard

/-- THE SECOND FORM's CARD OF 'statutelaw1.DayAdds'. -/
def dayAddsUptoCard : Claim7 := { stood := { row := dayAddsUptoRow, standIns := [], harness := (true, "4d66200c2ca1dd2f7e23d316a7780c86af3dba655eff6cd28411b5aba2379d35"), looks := true }, kinds := [], alts := [], laidByText := true, laidKinds := [.handle, .sentinel, .sentinel, .sentinel, .sentinel, .sentinel, .sentinel, .sentinel, .sentinel, .sentinel, .sentinel, .sentinel], laidTests := true, laidLooks := .later }
def DayAddsUptoCardSaid : Prop := Claim7.holds Tryd.pinned (.plain (OpenSpec.upto dayAddsSpec)) dayAddsUptoCard

/-- THE SECOND FORM's CARD OF 'statutelaw1.DayDue'. -/
def dayDueUptoCard : Claim7 := { stood := { row := dayDueUptoRow, standIns := [], harness := (true, "4d66200c2ca1dd2f7e23d316a7780c86af3dba655eff6cd28411b5aba2379d35"), looks := true }, kinds := [], alts := [], laidByText := true, laidKinds := [.handle, .sentinel, .sentinel, .sentinel, .sentinel, .sentinel, .sentinel, .sentinel, .sentinel, .sentinel, .sentinel, .sentinel], laidTests := true, laidLooks := .later }
def DayDueUptoCardSaid : Prop := Claim7.holds Tryd.pinned (.plain (OpenSpec.upto dayDueSpec)) dayDueUptoCard

/-- THE SECOND FORM's CARD OF 'statutelaw1.DayTerms'. -/
def dayTermsUptoCard : Claim7 := { stood := { row := dayTermsUptoRow, standIns := [], harness := (true, "4d66200c2ca1dd2f7e23d316a7780c86af3dba655eff6cd28411b5aba2379d35"), looks := true }, kinds := [], alts := [], laidByText := true, laidKinds := [.data, .data, .data, .handle, .sentinel, .sentinel, .sentinel, .sentinel, .sentinel, .sentinel, .sentinel, .sentinel, .sentinel, .sentinel, .sentinel], laidTests := true, laidLooks := .later }
def DayTermsUptoCardSaid : Prop := Claim7.holds Tryd.pinned (.plain (OpenSpec.upto dayTermsSpec)) dayTermsUptoCard
end Rows
end Go.Proofs.YtikhhpmkcgblaaaDoor

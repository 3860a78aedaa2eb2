/-
  NARROWER THAN 'FOR EVERY INPUT', by the rows' own cells (each row's printed sentence says how): FactsHold: loops, laid.
  DERIVED. THE GIVEN ROWS OF THIS SEAT. 1 by the template 'for every input the law returns true; each argument reads behind the call as it read before'; 0 by the template 'total and deterministic' (their statements: YtcfeflkhmncmjaaGreatDoorTotals.lean).
  GIVEN WITH THE SEED: the statements are not yours to turn. If you find one false, say at which input.
  Laid BY PROGRAM, IN A SANDBOX (cutbox-rows.mjs): the forced cells as the released guide's own fill.sh prints them over the translation 1c8c251de142a96a… (all of the seat's roots in one cut). By AI agents, Wed Nov 11 2026. No macro, syntax, notation, axiom, sorry.
-/
import Derived.Test.YtcfeflkhmncmjaaGreatDoorChecked
import GoSem.Claim
import GoSem.ClaimJoined
import GoSem.ClaimMapViews
import Derived.JoinedTies
import Derived.KernelRfl
namespace Go.Proofs.YtcfeflkhmncmjaaGreatDoor
/- THE CELL 'sum', in the pinned program and in every row, IS THE sha256 OF THE DUMP (.gsa) THAT YtcfeflkhmncmjaaGreatDoorProg.lean LOADS. Nothing in Lean hashes anything: it is a label: what it is worth is what the hold of that sum in a sandbox is worth. -/
noncomputable def Tryz.pinned : Pinned := { name := "ytcfeflkhmncmjaagreatdoor", sum := "1c8c251de142a96a5fe1d543de2b775a6c06f67b90885025e31c85f5da30585f", checked := Tryz.checked }
namespace Rows
def none {H : Type} : Left H := { results := [], args := [] }

/- WHAT THE LISTED PACKAGE-LEVEL VARIABLES READ AS WHEN THE CALL BEGINS. Each datum BY PROGRAM (the guide's laid-datum.mjs) off the statement by which the dump's own 'gosem.cut.vars' lays the variable. In a bare row this is a premise. The card (YtcfeflkhmncmjaaGreatDoorCards.lean) ties it to the program's text. -/
def laid_errors_errorType {H : Type} : DataW H := .iface "internal/reflectlite.rtype" (.agg [.ptr (.lit (.string [101, 114, 114, 111, 114]))])
def laid_statute_api_ErrText {H : Type} : DataW H := .iface "*errors.errorString" (.ptr (.agg [.lit (.string [115, 116, 97, 116, 117, 116, 101, 58, 32, 116, 101, 120, 116])]))
def laid_statute_api_ErrBound {H : Type} : DataW H := .iface "*errors.errorString" (.ptr (.agg [.lit (.string [115, 116, 97, 116, 117, 116, 101, 58, 32, 98, 111, 117, 110, 100])]))
def laid_statute_api_ErrCoin {H : Type} : DataW H := .iface "*errors.errorString" (.ptr (.agg [.lit (.string [115, 116, 97, 116, 117, 116, 101, 58, 32, 97, 109, 111, 117, 110, 116])]))
def laid_statute_api_ErrDay {H : Type} : DataW H := .iface "*errors.errorString" (.ptr (.agg [.lit (.string [115, 116, 97, 116, 117, 116, 101, 58, 32, 100, 97, 121])]))
def laid_statute_api_ErrPath {H : Type} : DataW H := .iface "*errors.errorString" (.ptr (.agg [.lit (.string [115, 116, 97, 116, 117, 116, 101, 58, 32, 112, 97, 116, 104])]))
def laid_statute_api_ErrWords {H : Type} : DataW H := .iface "*errors.errorString" (.ptr (.agg [.lit (.string [115, 116, 97, 116, 117, 116, 101, 58, 32, 119, 111, 114, 100, 115])]))
def laid_statute_api_ErrName {H : Type} : DataW H := .iface "*errors.errorString" (.ptr (.agg [.lit (.string [115, 116, 97, 116, 117, 116, 101, 58, 32, 110, 97, 109, 101])]))
def laid_statute_api_ErrOrder {H : Type} : DataW H := .iface "*errors.errorString" (.ptr (.agg [.lit (.string [115, 116, 97, 116, 117, 116, 101, 58, 32, 111, 114, 100, 101, 114])]))
def laid_statute_api_ErrKind {H : Type} : DataW H := .iface "*errors.errorString" (.ptr (.agg [.lit (.string [115, 116, 97, 116, 117, 116, 101, 58, 32, 107, 105, 110, 100])]))
def laid_statute_api_ErrProof {H : Type} : DataW H := .iface "*errors.errorString" (.ptr (.agg [.lit (.string [115, 116, 97, 116, 117, 116, 101, 58, 32, 101, 120, 112, 108, 97, 110, 97, 116, 105, 111, 110])]))
def laid_statute_api_ErrStage {H : Type} : DataW H := .iface "*errors.errorString" (.ptr (.agg [.lit (.string [115, 116, 97, 116, 117, 116, 101, 58, 32, 115, 116, 97, 103, 101])]))

/-- 'statutelaw3.FactsHold': WHATEVER THE INPUT: true; the input reads as it did. -/
def factsHoldSpec : ChangeSpec := { name := "factsHold", fn := fun _ => fun
  | [d1, d2, d3, d4, d5] => { results := [.lit (.bool true)], args := [d1, d2, d3, d4, d5] }
  | _ => none }
def factsHoldRow : OpenClaim := { program := "ytcfeflkhmncmjaagreatdoor", sum := "1c8c251de142a96a5fe1d543de2b775a6c06f67b90885025e31c85f5da30585f", func := "statute/statutelaw3.FactsHold", spec := "factsHold", inPlace := ["internal/reflectlite.ValueOf", "(internal/reflectlite.Value).Type", "(internal/reflectlite.Value).IsNil", "internal/reflectlite.TypeOf", "(internal/reflectlite.Value).Elem", "(internal/reflectlite.Value).Set"], unfollowed := true, recurses := true, named := ["statute/api.ErrBound", "statute/api.ErrName", "statute/api.ErrKind", "statute/api.ErrCoin", "statute/api.ErrDay", "statute/api.ErrText", "statute/api.ErrPath", "statute/api.ErrWords", "statute/api.ErrOrder", "statute/api.ErrProof", "statute/api.ErrStage", "errors.errorType"], loops := true, plainKeys := false, apart := false, laid := [("errors.errorType", laid_errors_errorType), ("statute/api.ErrText", laid_statute_api_ErrText), ("statute/api.ErrBound", laid_statute_api_ErrBound), ("statute/api.ErrCoin", laid_statute_api_ErrCoin), ("statute/api.ErrDay", laid_statute_api_ErrDay), ("statute/api.ErrPath", laid_statute_api_ErrPath), ("statute/api.ErrWords", laid_statute_api_ErrWords), ("statute/api.ErrName", laid_statute_api_ErrName), ("statute/api.ErrOrder", laid_statute_api_ErrOrder), ("statute/api.ErrKind", laid_statute_api_ErrKind), ("statute/api.ErrProof", laid_statute_api_ErrProof), ("statute/api.ErrStage", laid_statute_api_ErrStage)] }
def FactsHoldSaid : Prop := factsHoldRow.holds Tryz.pinned (OpenSpec.ofChange factsHoldSpec)

/-- ITS FALSE NEIGHBOUR: 'it returns false'. Refute it at one input. -/
def factsHoldWrong : ChangeSpec := { name := "factsHold", fn := fun _ => fun
  | [d1, d2, d3, d4, d5] => { results := [.lit (.bool false)], args := [d1, d2, d3, d4, d5] }
  | _ => none }
def FactsHoldWrongFalsely : Prop := factsHoldRow.holds Tryz.pinned (OpenSpec.ofChange factsHoldWrong)

/- THE SECOND FORM. 'bulk': how many values and letters a reading holds, each counted each time it is reached (what is shared counts as often as it is met; a slice's spare places count too). A statement '..UptoSaid' is the law's where the arguments, and the package variables that the reading takes, are together of bulk at most 1048576: NARROWER than '..Said'. Prove '..Said' where nothing that the law and all that it calls make is longer than what came in: it says more and counts as full. Else prove '..UptoSaid'. A law counts once. -/
mutual
def uptoBulk {H : Type} : DataW H → Nat
  | .lit (.string bytes) => bytes.length + 1
  | .lit _ => 1
  | .nil => 1
  | .ptr d => uptoBulk d + 1
  | .slice elems spare => uptoBulkAll elems + uptoBulkAll spare + 1
  | .agg parts => uptoBulkAll parts + 1
  | .iface _ d => uptoBulk d + 1
  | .map entries => uptoBulkEntries entries + 1
  | .held _ => 1
def uptoBulkAll {H : Type} : List (DataW H) → Nat
  | [] => 0
  | d :: r => uptoBulk d + uptoBulkAll r
def uptoBulkEntries {H : Type} : List (Lit × DataW H) → Nat
  | [] => 0
  | x :: r => uptoBulkEntry x + uptoBulkEntries r
def uptoBulkEntry {H : Type} : Lit × DataW H → Nat
  | (.string bytes, d) => bytes.length + uptoBulk d + 1
  | (_, d) => uptoBulk d + 1
 end
def uptoSmall : (H : Type) → List (DataW H) → Bool := fun _ ds => decide (uptoBulkAll ds ≤ 1048576)
def OpenSpec.upto (s : _root_.Go.ChangeSpec) : _root_.Go.OpenSpec := { _root_.Go.OpenSpec.ofChange s with cond := some uptoSmall }

/-- 'statutelaw3.FactsHold', WHERE WHAT IT READS IS OF BULK AT MOST 1048576: true; the input reads as it did. -/
def factsHoldUptoRow : OpenClaim := { program := "ytcfeflkhmncmjaagreatdoor", sum := "1c8c251de142a96a5fe1d543de2b775a6c06f67b90885025e31c85f5da30585f", func := "statute/statutelaw3.FactsHold", spec := "factsHold", inPlace := ["internal/reflectlite.ValueOf", "(internal/reflectlite.Value).Type", "(internal/reflectlite.Value).IsNil", "internal/reflectlite.TypeOf", "(internal/reflectlite.Value).Elem", "(internal/reflectlite.Value).Set"], unfollowed := true, recurses := true, named := ["statute/api.ErrBound", "statute/api.ErrName", "statute/api.ErrKind", "statute/api.ErrCoin", "statute/api.ErrDay", "statute/api.ErrText", "statute/api.ErrPath", "statute/api.ErrWords", "statute/api.ErrOrder", "statute/api.ErrProof", "statute/api.ErrStage", "errors.errorType"], loops := true, plainKeys := false, apart := false, laid := [("errors.errorType", laid_errors_errorType), ("statute/api.ErrText", laid_statute_api_ErrText), ("statute/api.ErrBound", laid_statute_api_ErrBound), ("statute/api.ErrCoin", laid_statute_api_ErrCoin), ("statute/api.ErrDay", laid_statute_api_ErrDay), ("statute/api.ErrPath", laid_statute_api_ErrPath), ("statute/api.ErrWords", laid_statute_api_ErrWords), ("statute/api.ErrName", laid_statute_api_ErrName), ("statute/api.ErrOrder", laid_statute_api_ErrOrder), ("statute/api.ErrKind", laid_statute_api_ErrKind), ("statute/api.ErrProof", laid_statute_api_ErrProof), ("statute/api.ErrStage", laid_statute_api_ErrStage)], narrowed := true }
def FactsHoldUptoSaid : Prop := factsHoldUptoRow.holds Tryz.pinned (OpenSpec.upto factsHoldSpec)

end Rows
end Go.Proofs.YtcfeflkhmncmjaaGreatDoor

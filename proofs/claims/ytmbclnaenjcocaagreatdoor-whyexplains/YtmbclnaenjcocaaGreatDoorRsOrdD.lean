/-
  What isOrdered answers.
-/
import Derived.Test.YtmbclnaenjcocaaGreatDoorRsOrdPl
namespace Go.Proofs.YtmbclnaenjcocaaGreatDoor
open Go.RowKit
def OrdR (T : Thy) (w : World) (e : Ending) (w' : World) : Prop := ∃ b, e = .returned (.bool b) ∧ (b = true ↔ Ranked T) ∧ Below w.heap.size w w'
def OrdC (T : Thy) (rv ov : Value) (w : World) : Prop := Calls Tryz.prog 48 #[.agg #[.int .i64 T.names, rv, ov]] w (OrdR T w)
end Go.Proofs.YtmbclnaenjcocaaGreatDoor

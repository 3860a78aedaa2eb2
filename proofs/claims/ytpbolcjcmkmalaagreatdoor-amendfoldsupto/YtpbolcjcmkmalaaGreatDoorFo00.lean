/-
  What the laid sentinels give, where the row lists seven of them and no handle (AmendFolds: no plain.Code): lay it as Coded.
-/
import Derived.Test.YtpbolcjcmkmalaaGreatDoorProg
import Derived.WalkKit
import Derived.LaidEql
import Derived.Stop.Asserts
import Derived.RowKitTokens
import Derived.Below
import Derived.Outline
import Derived.Deep.QuietTactic
import Derived.BigQuiet
namespace Go.Proofs.YtpbolcjcmkmalaaGreatDoor
open Go.RowKit Go.Extern.Stop Go.Stop Go.Extern

/-- Where the sentinel of a code lies. -/
def gi : Nat → Nat
  | 1 => 0 | 4 => 4 | 5 => 5 | 6 => 6 | 7 => 7 | 8 => 8 | _ => 1
structure Laid (w : World) (p : Nat → Addr) : Prop where
  cell : ∀ i, i < 11 → w.cell? ⟨gi i, 0, none⟩ = some (.iface 214 (.pointer (some (p i))))
theorem Laid.below {w w' : World} {p : Nat → Addr} (h : Laid w p) (hb : Below w.heap.size w w') : Laid w' p :=
  ⟨fun i hi => (hb.cell (p := ⟨gi i, 0, none⟩) (World.block_lt_of_cell? w _ (h.cell i hi))).trans (h.cell i hi)⟩
theorem bdrewN {B : Nat} {a w : World} (h : Below B a w) : ∀ n, Below B a (w.drewN n) := fun _ => ⟨h.os, h.tape, h.output, h.size, h.block⟩
end Go.Proofs.YtpbolcjcmkmalaaGreatDoor

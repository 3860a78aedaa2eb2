/-
  What the laid sentinels give, where the program has ErrBound, ErrDay, ErrName, ErrOrder, ErrKind, ErrStage (a seat without plain.Code): lay it as Coded.
-/
import Derived.Test.YtpijiglmjkdlgaaDoorProg
import Derived.WalkKit
import Derived.LaidEql
import Derived.Stop.Asserts
import Derived.RowKitTokens
import Derived.Below
import Derived.Outline
import Derived.Deep.QuietTactic
import Derived.BigQuiet
namespace Go.Proofs.YtpijiglmjkdlgaaDoor
open Go.RowKit Go.Extern.Stop Go.Stop Go.Extern

theorem hidIt {p : Prop} (h : p) : Hid p := h
/-- Where the sentinel of a code lies. -/
def gi : Nat → Nat
  | 1 => 4 | 6 => 5 | 7 => 3 | 8 => 2 | 10 => 1 | _ => 0
structure Laid (w : World) (p : Nat → Addr) : Prop where
  cell : ∀ i, i < 11 → w.cell? ⟨gi i, 0, none⟩ = some (.iface 134 (.pointer (some (p i))))
theorem Laid.below {w w' : World} {p : Nat → Addr} (h : Laid w p) (hb : Below w.heap.size w w') : Laid w' p :=
  ⟨fun i hi => (hb.cell (p := ⟨gi i, 0, none⟩) (World.block_lt_of_cell? w _ (h.cell i hi))).trans (h.cell i hi)⟩
theorem bdrewN {B : Nat} {a w : World} (h : Below B a w) : ∀ n, Below B a (w.drewN n) := fun _ => ⟨h.os, h.tape, h.output, h.size, h.block⟩
end Go.Proofs.YtpijiglmjkdlgaaDoor

/-
  Package why: readStep: what a line says.
-/
import Derived.Test.YtfnlcblalieolaaDoorWtMap
import Derived.Test.YtfnlcblalieolaaDoorShelfN
import Derived.Deep.WholeRow
namespace Go.Proofs.YtfnlcblalieolaaDoor
open Go.RowKit Go.Maps

/-- What stands behind a step's words: none of the names; else the step. -/
def nameR (nm : List ByteArray) (a b : Bool) (r : List UInt8) : Nat ⊕ Clm :=
  if numOf nm ⟨(Lib.trimPrefix r (bl notB)).toArray⟩ = 0 then .inl 6
  else .inr (a, b, if Lib.hasPrefix r (bl notB) then -(numOf nm ⟨(Lib.trimPrefix r (bl notB)).toArray⟩ : Int) else (numOf nm ⟨(Lib.trimPrefix r (bl notB)).toArray⟩ : Int))
/-- The i-th kind of a step. -/
def kindA (i : Nat) : Bool := i = 0 ∨ i = 1
def kindB (i : Nat) : Bool := i = 0 ∨ i = 2
/-- What a line says, by the kinds from the i-th on. -/
def rowR (nm : List ByteArray) (s : List UInt8) : Nat → Nat → Nat ⊕ Clm
  | 0, _ => .inl 0
  | f + 1, i => if Lib.hasPrefix s (bl (wordB (kindA i) (kindB i))) then nameR nm (kindA i) (kindB i) (Lib.trimPrefix s (bl (wordB (kindA i) (kindB i)))) else rowR nm s f (i + 1)
/-- The error's variable. -/
structure SentW (w : World) (p : Nat → Addr) : Prop where
  t : w.cell? ⟨1, 0, none⟩ = some (.iface 107 (.pointer (some (p 0))))
  n : w.cell? ⟨6, 0, none⟩ = some (.iface 107 (.pointer (some (p 6))))
theorem SentW.bel {w w' : World} {p : Nat → Addr} (h : SentW w p) (hb : Below w.heap.size w w') : SentW w' p :=
  ⟨(hb.cell (p := ⟨1, 0, none⟩) (cell_lt h.t)).trans h.t, (hb.cell (p := ⟨6, 0, none⟩) (cell_lt h.n)).trans h.n⟩
/-- What readStep answers. -/
def RowA (p : Nat → Addr) (r : Nat ⊕ Clm) (e : Ending) : Prop := match r with
  | .inl k => e = .returned (.tuple #[.agg #[.bool false, .bool false, .int .i64 0], .iface 107 (.pointer (some (p k)))])
  | .inr c => e = .returned (.tuple #[.agg #[.bool c.1, .bool c.2.1, .int .i64 c.2.2], .nilIface])
theorem zeroIntW (w : World) : (zeroValue 3).run Tryd.prog w = .ok (.int .i64 0) w := by
  have h : (Tryd.prog.info? 3).map (fun i => (i.zero, i.size)) = some (some (.int .i64 0), 1) := by kernel_rfl
  exact (zero_of_info h).1 w
end Go.Proofs.YtfnlcblalieolaaDoor

/-
  A place of seven bools.
-/
import Derived.Test.YtpijiglmjkdlgaaDoorPlan
namespace Go.Proofs.YtpijiglmjkdlgaaDoor
open Go.RowKit Go.Sort Go.Lib
theorem idx7 (a : Nat → Bool) (i : Nat) (hi : i < 7) (w : World) : (Instr.index 73 (.agg #[.bool (a 0), .bool (a 1), .bool (a 2), .bool (a 3), .bool (a 4), .bool (a 5), .bool (a 6)]) (.int .i64 i)).run Tryd.prog w = .ok (.bool (a i)) w := by
  obtain ⟨inf, hinf⟩ := Tryd.infoBool
  have hc : Tryd.prog.cellsOf 4 = 1 := by kernel_rfl
  have hx : (#[Value.bool (a 0), .bool (a 1), .bool (a 2), .bool (a 3), .bool (a 4), .bool (a 5), .bool (a 6)])[i]? = some (.bool (a i)) := by
    have h : i = 0 ∨ i = 1 ∨ i = 2 ∨ i = 3 ∨ i = 4 ∨ i = 5 ∨ i = 6 := by omega
    rcases h with rfl | rfl | rfl | rfl | rfl | rfl | rfl <;> rfl
  have p := run_part_plain (P := Tryd.prog) w Tryd.plainBool (xs := #[.bool (a 0), .bool (a 1), .bool (a 2), .bool (a 3), .bool (a 4), .bool (a 5), .bool (a 6)]) (off := i * 1) (v := .bool (a i)) (by rw [Nat.mul_one]; exact hx)
  have s := run_sizeOf (P := Tryd.prog) w hinf
  rw [hc] at s
  have hz : (0 : Int) ≤ i ∧ (i : Int) < ((7 : Nat) : Int) := by omega
  have ht : ((i : Int)).toNat = i := by omega
  have hA : (asIntOf (Value.int .i64 (i : Int))).run Tryd.prog w = .ok (.i64, (i : Int)) w := rfl
  unfold Instr.index
  simp only [Sem.run_bind, hA, Result.andThen_ok, run_underlying (P := Tryd.prog) Tryd.underlying73]
  rw [if_pos hz]
  simp only [Sem.run_bind, s, Result.andThen_ok, ht]
  exact p
end Go.Proofs.YtpijiglmjkdlgaaDoor

/-
  Seven bools held against seven that are true.
-/
import Derived.Test.YtpijiglmjkdlgaaDoorCal
import Derived.ChangeKeysEq
namespace Go.Proofs.YtpijiglmjkdlgaaDoor
open Go.RowKit Go.Extern.Stop Go.Stop Go.Extern

theorem Tryd.plainBool : Tryd.prog.plainKey 4 = true := by kernel_rfl
theorem eq_items (a : Nat → Bool) (xs ys : Array Value) (w : World) : ∀ is : List Nat, (∀ i, i ∈ is → xs[i]? = some (.bool (a i)) ∧ ys[i]? = some (.bool true)) →
    (Op.eqItems 9999 4 1 xs ys is).run Tryd.prog w = .ok (is.all a) w
  | [], _ => by simp [Op.eqItems]
  | i :: is, h => by
    obtain ⟨h1, h2⟩ := h i (List.mem_cons_self ..)
    have ih := eq_items a xs ys w is (fun j hj => h j (List.mem_cons_of_mem _ hj))
    have p1 := run_part_plain (P := Tryd.prog) w Tryd.plainBool (xs := xs) (off := i * 1) (v := .bool (a i)) (by rw [Nat.mul_one]; exact h1)
    have p2 := run_part_plain (P := Tryd.prog) w Tryd.plainBool (xs := ys) (off := i * 1) (v := .bool true) (by rw [Nat.mul_one]; exact h2)
    have p3 := run_equalIn_bool (P := Tryd.prog) w 9998 4 (a i) true Tryd.underlying4
    simp only [Op.eqItems, Sem.run_bind, p1, p2, p3, Result.andThen_ok]
    rw [List.all_cons]
    generalize a i = c at *
    cases c
    · simp
    · simpa using ih
theorem Tryd.infoBool : ∃ i, Tryd.prog.info? 4 = some i := by
  have h : (Tryd.prog.info? 4).isSome = true := by kernel_rfl
  exact Option.isSome_iff_exists.1 h
theorem eq7 (a : Nat → Bool) (w : World) : (Op.equalIn 10000 73 (.agg #[.bool (a 0), .bool (a 1), .bool (a 2), .bool (a 3), .bool (a 4), .bool (a 5), .bool (a 6)]) (.agg #[.bool true, .bool true, .bool true, .bool true, .bool true, .bool true, .bool true])).run Tryd.prog w = .ok ((List.range 7).all a) w := by
  obtain ⟨i, hi⟩ := Tryd.infoBool
  have hc : Tryd.prog.cellsOf 4 = 1 := by kernel_rfl
  rw [show (10000 : Nat) = 9999 + 1 from rfl, run_equalIn_array (P := Tryd.prog) w 9999 _ _ Tryd.underlying73 hi, hc]
  refine eq_items a _ _ w _ fun i hi => ?_
  have h : i = 0 ∨ i = 1 ∨ i = 2 ∨ i = 3 ∨ i = 4 ∨ i = 5 ∨ i = 6 := by
    have := List.mem_range.1 hi
    omega
  rcases h with rfl | rfl | rfl | rfl | rfl | rfl | rfl <;> exact ⟨rfl, rfl⟩
end Go.Proofs.YtpijiglmjkdlgaaDoor

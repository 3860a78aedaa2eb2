/-
  Both tell the same day, date, day of the week.
-/
import Derived.Test.YtlebpojohaplnaaDoorRefDate
namespace Go.Proofs.YtlebpojohaplnaaDoor
open Go.RowKit Go.Extern.Stop Go.Stop Go.Extern

theorem Laid.drewN {w : World} {p : Nat → Addr} (L : Laid w p) (n : Nat) : Laid (w.drewN n) p := L.below (bdrewN (Below.refl _ _) n)

/-- Both tell the same day, or none. -/
theorem agree_of (y m d : Int) (p : Nat → Addr) :
    (∃ v, (∀ w, Calls Tryd.prog 76 #[.int .i64 y, .int .i64 m, .int .i64 d] w fun e w' => e = .returned (.tuple #[.int .i64 v, .nilIface]) ∧ w' = w) ∧
      (∀ w, Calls Tryd.prog 45 #[.int .i64 y, .int .i64 m, .int .i64 d] w fun e w' => e = .returned (.tuple #[.int .i64 v, .int .i64 0]) ∧ Below w.heap.size w w')) ∨
    ((∀ w, Laid w p → Calls Tryd.prog 76 #[.int .i64 y, .int .i64 m, .int .i64 d] w fun e w' => e = .returned (.tuple #[.int .i64 0, .iface 129 (.pointer (some (p 3)))]) ∧ ∃ k, w' = w.drewN k) ∧
      (∀ w, Calls Tryd.prog 45 #[.int .i64 y, .int .i64 m, .int .i64 d] w fun e w' => e = .returned (.tuple #[.int .i64 0, .int .i64 4]) ∧ Below w.heap.size w w')) := by
  by_cases h : Date y m d
  · exact .inl ⟨dof y m d, fun w => of_ok y m d w h, fun w => rDayOf_ok y m d w h⟩
  · exact .inr ⟨fun w L => of_bad y m d (p 3) w (L.cell 3 (by omega)) h, fun w => rDayOf_bad y m d w h⟩
theorem agree_parts (n : Int) : ∃ a b c, (∀ w, Calls Tryd.prog 75 #[.int .i64 n] w fun e w' => e = .returned (.tuple #[.int .i64 a, .int .i64 b, .int .i64 c]) ∧ w' = w) ∧
    (∀ w, Calls Tryd.prog 43 #[.int .i64 n] w fun e w' => e = .returned (.tuple #[.int .i64 a, .int .i64 b, .int .i64 c]) ∧ Below w.heap.size w w') := by
  cases h : isDayB n
  · exact ⟨0, 0, 0, fun w => parts_no n w h, fun w => rParts_no n w h⟩
  · obtain ⟨h1, h2⟩ := isDayB_iff.1 h
    obtain ⟨y, m, d, hd, rfl⟩ := date_ex h1 h2
    exact ⟨y, m, d, fun w => parts_ok y m d w hd, fun w => rParts_ok y m d w hd⟩
theorem agree_week (n : Int) : ∃ u, (∀ w, Calls Tryd.prog 19 #[.int .i64 n] w fun e w' => e = .returned (.int .i64 u) ∧ w' = w) ∧
    (∀ w, Calls Tryd.prog 26 #[.int .i64 n] w fun e w' => e = .returned (.int .i64 u) ∧ w' = w) := by
  cases h : isDayB n
  · exact ⟨-1, fun w => week_no n w h, fun w => by have := rWeek_any n w; rw [h] at this; exact this⟩
  · obtain ⟨h1, h2⟩ := isDayB_iff.1 h
    exact ⟨wk n, fun w => week_ok n w h1 h2, fun w => by have := rWeek_any n w; rw [h] at this; exact this⟩
end Go.Proofs.YtlebpojohaplnaaDoor

/-
  The reference's calendar by contracts.
-/
import Derived.Test.YtlebpojohaplnaaDoorParts
namespace Go.Proofs.YtlebpojohaplnaaDoor
open Go.RowKit Go.Extern.Stop Go.Stop Go.Extern

theorem rIsDay_any (n : Int) (w : World) : Calls Tryd.prog 23 #[.int .i64 n] w fun e w' => e = .returned (.bool (isDayB n)) ∧ w' = w := by
  have HE : Hid (isDayB n = (decide (0 < n) && decide (n ≤ 3652059))) := by
    show _ = _
    unfold isDayB
    congr 1
  cases h1 : decide (0 < n)
  · rw [h1] at HE
    go_enter Tryd.func23, Tryd.ntmps23
    go_wp2
    go_ret
    exact ⟨ret_bool HE.out.symm, rfl⟩
  · rw [h1] at HE
    go_enter Tryd.func23, Tryd.ntmps23
    go_wp2
    go_ret
    exact ⟨ret_bool HE.out.symm, rfl⟩

theorem rIsLeap_any (y : Int) (w : World) (hy : 0 ≤ y) : Calls Tryd.prog 60 #[.int .i64 y] w fun e w' => e = .returned (.bool (leapB y)) ∧ w' = w := by
  have HE : Hid (leapB y = (y % 4 == 0 && (y % 100 != 0 || y % 400 == 0))) := by
    show _ = _
    unfold leapB
    rw [Bool.eq_iff_iff]; simp
  cases h3 : (y % 400 == 0)
  · rw [h3] at HE
    cases h4 : (y % 4 == 0)
    · rw [h4] at HE
      go_enter Tryd.func60, Tryd.ntmps60
      go_wp2
      go_ret
      exact ⟨ret_bool HE.out.symm, rfl⟩
    · rw [h4] at HE
      have HF : Hid (leapB y = (y % 100 != 0)) := by show _ = _; rw [HE.out]; simp
      go_enter Tryd.func60, Tryd.ntmps60
      go_wp2
      go_ret
      exact ⟨ret_bool HF.out.symm, rfl⟩
  · have HF : Hid (leapB y = true) := by
      show _ = _
      rw [HE.out, h3]
      have : y % 400 = 0 := by simpa using h3
      have : (y % 4 == 0) = true := by simp; omega
      rw [this]; simp
    clear HE
    go_enter Tryd.func60, Tryd.ntmps60
    go_wp2
    go_ret
    exact ⟨ret_bool HF.out.symm, rfl⟩

theorem rYearLong_any (y : Int) (w : World) (hy : 0 ≤ y) : Calls Tryd.prog 59 #[.int .i64 y] w fun e w' => e = .returned (.int .i64 (ylen y)) ∧ w' = w := by
  have HE : Hid (ylen y = if leapB y then 366 else 365) := rfl
  have HL := hidIt (fun w => rIsLeap_any y w hy)
  cases hl : leapB y <;> rw [hl] at HE HL <;> clear hl
  all_goals
    go_enter Tryd.func59, Tryd.ntmps59
    go_wp2_with (go_at_call 60; refine (HL.out _).mono ?_; rintro e w' ⟨rfl, rfl⟩)
    go_ret
    exact ⟨ret_int HE.out.symm, rfl⟩

set_option maxHeartbeats 4000000 in
set_option maxRecDepth 10000 in
theorem rDaysOf_any (y m : Int) (w : World) (hy : 0 ≤ y) (h1 : 1 ≤ m) (h2 : m ≤ 12) : Calls Tryd.prog 44 #[.int .i64 y, .int .i64 m] w fun e w' => e = .returned (.int .i64 (mlen y m)) ∧ Below w.heap.size w w' := by
  have HL := hidIt (fun w => rIsLeap_any y w hy)
  have hm : m = 1 ∨ m = 2 ∨ m = 3 ∨ m = 4 ∨ m = 5 ∨ m = 6 ∨ m = 7 ∨ m = 8 ∨ m = 9 ∨ m = 10 ∨ m = 11 ∨ m = 12 := by omega
  clear h1 h2
  rcases hm with rfl | rfl | rfl | rfl | rfl | rfl | rfl | rfl | rfl | rfl | rfl | rfl
  case inr.inl =>
    have HE : Hid (mlen y 2 = if leapB y then 29 else 28) := rfl
    cases hl : leapB y <;> rw [hl] at HE HL <;> clear hl
    all_goals
      go_enter Tryd.func44, Tryd.ntmps44
      go_wp2_with (go_at_call 60; refine (HL.out _).mono ?_; rintro e w' ⟨rfl, rfl⟩)
      go_ret
      exact ⟨ret_int HE.out.symm, (Below.refl _ _).alloc (Nat.le_refl _) _⟩
  all_goals
    generalize leapB y = l at *
    go_enter Tryd.func44, Tryd.ntmps44
    go_wp2_with (go_at_call 60; refine (HL.out _).mono ?_; rintro e w' ⟨rfl, rfl⟩)
    go_ret
    exact ⟨rfl, (Below.refl _ _).alloc (Nat.le_refl _) _⟩

theorem rWeek_any (n : Int) (w : World) : Calls Tryd.prog 26 #[.int .i64 n] w fun e w' => e = .returned (.int .i64 (if isDayB n then wk n else -1)) ∧ w' = w := by
  have HD := hidIt (fun w => rIsDay_any n w)
  cases h : isDayB n
  · rw [h] at HD
    clear h
    go_enter Tryd.func26, Tryd.ntmps26
    go_wp2_with (go_at_call 23; refine (HD.out _).mono ?_; rintro e w' ⟨rfl, rfl⟩)
    go_ret
    exact ⟨rfl, rfl⟩
  · have h' := isDayB_iff.1 h
    have HE : Hid ((n + 6) % 7 = wk n) := by show _ = _; unfold wk; omega
    rw [h] at HD
    clear h
    go_enter Tryd.func26, Tryd.ntmps26
    go_wp2_with (go_at_call 23; refine (HD.out _).mono ?_; rintro e w' ⟨rfl, rfl⟩)
    go_ret
    exact ⟨ret_int HE.out, rfl⟩
end Go.Proofs.YtlebpojohaplnaaDoor

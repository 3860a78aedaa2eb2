/-
  The reference's Roll, Add, CountDays (written by tools/genrefroll.py).
-/
import Derived.Test.YtlebpojohaplnaaDoorRefCal
namespace Go.Proofs.YtlebpojohaplnaaDoor
open Go.RowKit Go.Extern.Stop Go.Stop Go.Extern

theorem rRoll_kind (b : Nat) (d how : Int) (w : World) (h0 : how ≠ 0) (h1 : how ≠ 1) (h2 : how ≠ 2) :
    Calls Tryd.prog 9 #[.pointer (some ⟨b, 0, none⟩), .int .i64 d, .int .i64 how] w fun e w' => e = .returned (.tuple #[.int .i64 0, .int .i64 9]) ∧ ∃ q, w' = w.drewN q := by
  have e0 : (how != 0) = true := by simpa using h0
  have e1 : (how != 1) = true := by simpa using h1
  have e2 : (how != 2) = true := by simpa using h2
  clear h0 h1 h2
  go_enter Tryd.func9, Tryd.ntmps9
  go_wp2
  go_ret2
  exact ⟨rfl, 0, rfl⟩
theorem rRoll_noday (b : Nat) (d how : Int) (w : World) (hh : how = 0 ∨ how = 1 ∨ how = 2) (hd : isDayB d = false) :
    Calls Tryd.prog 9 #[.pointer (some ⟨b, 0, none⟩), .int .i64 d, .int .i64 how] w fun e w' => e = .returned (.tuple #[.int .i64 0, .int .i64 4]) ∧ ∃ q, w' = w.drewN q := by
  have HD := hidIt (fun w => rIsDay_any d w)
  rw [hd] at HD
  clear hd
  rcases hh with rfl | rfl | rfl
  all_goals
    go_enter Tryd.func9, Tryd.ntmps9
    go_wp2_with (go_at_call 23; refine (HD.out _).mono ?_; rintro e w' ⟨rfl, rfl⟩)
    go_ret2
    exact ⟨rfl, 0, rfl⟩
theorem rRoll_here (b : Nat) (off : Int → Bool) (xs : List Int) (v : Value) (d how : Int) (w : World) (h : Cal w b off xs v) (hh : how = 0 ∨ (how = 1 ∨ how = 2) ∧ works off xs d = true) (hd : isDayB d = true) :
    Calls Tryd.prog 9 #[.pointer (some ⟨b, 0, none⟩), .int .i64 d, .int .i64 how] w fun e w' => e = .returned (.tuple #[.int .i64 d, .int .i64 0]) ∧ ∃ q, w' = w.drewN q := by
  have HD := hidIt (fun w => rIsDay_any d w)
  rw [hd] at HD
  have HW := hidIt (rWorks_any b off xs v d w h)
  clear hd h
  rcases hh with rfl | ⟨rfl | rfl, hw⟩
  · generalize works off xs d = o at *
    go_enter Tryd.func9, Tryd.ntmps9
    go_wp2_with fail
    refine (HD.out _).mono ?_
    rintro e w1 ⟨rfl, ew⟩
    subst w1
    go_wp2_with fail
    refine HW.out.mono ?_
    rintro e w1 ⟨rfl, q, ew⟩
    subst w1
    go_wp2
    go_ret2
    exact ⟨rfl, q, rfl⟩
  all_goals
    rw [hw] at HW
    clear hw
    go_enter Tryd.func9, Tryd.ntmps9
    go_wp2_with fail
    refine (HD.out _).mono ?_
    rintro e w1 ⟨rfl, ew⟩
    subst w1
    go_wp2_with fail
    refine HW.out.mono ?_
    rintro e w1 ⟨rfl, q, ew⟩
    subst w1
    go_wp2
    go_ret2
    exact ⟨rfl, q, rfl⟩

theorem rRoll_up (b : Nat) (off : Int → Bool) (xs : List Int) (v : Value) (d x y : Int) (w : World) (h : Cal w b off xs v) (hd : isDayB d = true) (hw : works off xs d = false)
    (hk : ∀ w', Cal w' b off xs v → Calls Tryd.prog 24 #[.pointer (some ⟨b, 0, none⟩), .int .i64 d, .int .i64 1, .int .i64 1] w' fun e w'' => e = .returned (.tuple #[.int .i64 x, .int .i64 y]) ∧ ∃ q, w'' = w'.drewN q) :
    Calls Tryd.prog 9 #[.pointer (some ⟨b, 0, none⟩), .int .i64 d, .int .i64 1] w fun e w' => e = .returned (.tuple #[.int .i64 x, .int .i64 y]) ∧ ∃ q, w' = w.drewN q := by
  have HD := hidIt (fun w => rIsDay_any d w)
  rw [hd] at HD
  have HW := hidIt (rWorks_any b off xs v d w h)
  rw [hw] at HW
  have HK := hidIt hk
  have HH := hidIt h
  clear hd h hk hw
  go_enter Tryd.func9, Tryd.ntmps9
  go_wp2_with fail
  refine (HD.out _).mono ?_
  rintro e w1 ⟨rfl, ew⟩
  subst w1
  go_wp2_with fail
  refine HW.out.mono ?_
  rintro e w1 ⟨rfl, q, ew⟩
  subst w1
  go_wp2_with fail
  refine (HK.out _ (HH.out.drewN q)).mono ?_
  rintro e w1 ⟨rfl, q2, ew⟩
  subst w1
  go_wp2
  go_ret2
  exact ⟨rfl, q + q2, by first | rfl | rw [World.drewN_drewN]⟩

theorem rRoll_dn (b : Nat) (off : Int → Bool) (xs : List Int) (v : Value) (d x y : Int) (w : World) (h : Cal w b off xs v) (hd : isDayB d = true) (hw : works off xs d = false)
    (hk : ∀ w', Cal w' b off xs v → Calls Tryd.prog 24 #[.pointer (some ⟨b, 0, none⟩), .int .i64 d, .int .i64 (-1), .int .i64 1] w' fun e w'' => e = .returned (.tuple #[.int .i64 x, .int .i64 y]) ∧ ∃ q, w'' = w'.drewN q) :
    Calls Tryd.prog 9 #[.pointer (some ⟨b, 0, none⟩), .int .i64 d, .int .i64 2] w fun e w' => e = .returned (.tuple #[.int .i64 x, .int .i64 y]) ∧ ∃ q, w' = w.drewN q := by
  have HD := hidIt (fun w => rIsDay_any d w)
  rw [hd] at HD
  have HW := hidIt (rWorks_any b off xs v d w h)
  rw [hw] at HW
  have HK := hidIt hk
  have HH := hidIt h
  clear hd h hk hw
  go_enter Tryd.func9, Tryd.ntmps9
  go_wp2_with fail
  refine (HD.out _).mono ?_
  rintro e w1 ⟨rfl, ew⟩
  subst w1
  go_wp2_with fail
  refine HW.out.mono ?_
  rintro e w1 ⟨rfl, q, ew⟩
  subst w1
  go_wp2_with fail
  refine (HK.out _ (HH.out.drewN q)).mono ?_
  rintro e w1 ⟨rfl, q2, ew⟩
  subst w1
  go_wp2
  go_ret2
  exact ⟨rfl, q + q2, by first | rfl | rw [World.drewN_drewN]⟩

theorem rAdd_up (b : Nat) (off : Int → Bool) (xs : List Int) (v : Value) (d n x y : Int) (w : World) (h : Cal w b off xs v) (hd : isDayB d = true) (n1 : 1 ≤ n) (n2 : n ≤ 100000)
    (hk : ∀ w', Cal w' b off xs v → Calls Tryd.prog 24 #[.pointer (some ⟨b, 0, none⟩), .int .i64 d, .int .i64 1, .int .i64 n] w' fun e w'' => e = .returned (.tuple #[.int .i64 x, .int .i64 y]) ∧ ∃ q, w'' = w'.drewN q) :
    Calls Tryd.prog 15 #[.pointer (some ⟨b, 0, none⟩), .int .i64 d, .int .i64 (n)] w fun e w' => e = .returned (.tuple #[.int .i64 x, .int .i64 y]) ∧ ∃ q, w' = w.drewN q := by
  have HD := hidIt (fun w => rIsDay_any d w)
  rw [hd] at HD
  have HK := hidIt (hk w h)
  clear hd h hk
  have e0 : (n == 0) = false := by simp; omega
  go_enter Tryd.func15, Tryd.ntmps15
  go_wp2_with fail
  refine (HD.out _).mono ?_
  rintro e w1 ⟨rfl, ew⟩
  subst w1
  go_wp2_with fail
  refine HK.out.mono ?_
  rintro e w1 ⟨rfl, q2, ew⟩
  subst w1
  go_wp2
  go_ret2
  exact ⟨rfl, q2, rfl⟩

theorem rAdd_dn (b : Nat) (off : Int → Bool) (xs : List Int) (v : Value) (d n x y : Int) (w : World) (h : Cal w b off xs v) (hd : isDayB d = true) (n1 : 1 ≤ n) (n2 : n ≤ 100000)
    (hk : ∀ w', Cal w' b off xs v → Calls Tryd.prog 24 #[.pointer (some ⟨b, 0, none⟩), .int .i64 d, .int .i64 (-1), .int .i64 n] w' fun e w'' => e = .returned (.tuple #[.int .i64 x, .int .i64 y]) ∧ ∃ q, w'' = w'.drewN q) :
    Calls Tryd.prog 15 #[.pointer (some ⟨b, 0, none⟩), .int .i64 d, .int .i64 (-n)] w fun e w' => e = .returned (.tuple #[.int .i64 x, .int .i64 y]) ∧ ∃ q, w' = w.drewN q := by
  have HD := hidIt (fun w => rIsDay_any d w)
  rw [hd] at HD
  have HK := hidIt (hk w h)
  clear hd h hk
  have e0 : (-n == 0) = false := by simp; omega
  go_enter Tryd.func15, Tryd.ntmps15
  go_wp2_with fail
  refine (HD.out _).mono ?_
  rintro e w1 ⟨rfl, ew⟩
  subst w1
  go_wp2_with fail
  refine HK.out.mono ?_
  rintro e w1 ⟨rfl, q2, ew⟩
  subst w1
  go_wp2
  go_ret2
  exact ⟨rfl, q2, rfl⟩
end Go.Proofs.YtlebpojohaplnaaDoor

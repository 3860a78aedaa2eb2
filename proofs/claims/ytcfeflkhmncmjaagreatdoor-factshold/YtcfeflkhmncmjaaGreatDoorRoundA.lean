/-
  Rounding: the plain function, and the program's and the reference's calls by contracts.
-/
import Derived.Test.YtcfeflkhmncmjaaGreatDoorProg
import Derived.WalkKit
import Derived.Below
import Derived.Outline
import Derived.Deep.QuietTactic
import Derived.BigQuiet
namespace Go.Proofs.YtcfeflkhmncmjaaGreatDoor
open Go.RowKit Go.Extern.Stop Go.Stop Go.Extern

theorem ret_int {k : IntKind} {a b : Int} (h : a = b) : Ending.returned (.int k a) = .returned (.int k b) := by rw [h]
theorem ret_bool {a b : Bool} (h : a = b) : Ending.returned (.bool a) = .returned (.bool b) := by rw [h]

/-- n over 10000 by a way. -/
def rnd (n way : Int) : Int :=
  if n % 10000 = 0 then n / 10000
  else if way = 0 then (if 0 < n then n / 10000 else n / 10000 + 1)
  else if way = 1 then (if 0 < n then n / 10000 + 1 else n / 10000)
  else if way = 2 then n / 10000
  else if way = 3 then n / 10000 + 1
  else if 2 * (n % 10000) < 10000 then n / 10000
  else if 10000 < 2 * (n % 10000) then n / 10000 + 1
  else if way = 5 then (if n / 10000 % 2 = 0 then n / 10000 else n / 10000 + 1)
  else if 0 < n then n / 10000 + 1 else n / 10000

/-- Does the way leave 0? -/
def lzB (near rest step way : Int) : Bool :=
  if way = 1 then true else if way = 2 then decide (step < 0) else if way = 3 then decide (0 < step) else if way = 4 then decide (10000 ≤ 2 * rest)
  else if way = 5 then decide (10000 < 2 * rest ∨ 2 * rest = 10000 ∧ near % 2 ≠ 0) else false

theorem td_neg (n : Int) (h : n < 0) : n.tdiv 10000 = -((-n) / 10000) ∧ n.tmod 10000 = -((-n) % 10000) := by
  have h1 : (-(-n)).tdiv 10000 = -((-n).tdiv 10000) := Int.neg_tdiv _ _
  have h2 : (-(-n)).tmod 10000 = -((-n).tmod 10000) := Int.neg_tmod _ _
  rw [Int.neg_neg] at h1 h2
  rw [Int.tdiv_eq_ediv_of_nonneg (a := -n) (by omega)] at h1
  rw [Int.tmod_eq_emod_of_nonneg (a := -n) (by omega)] at h2
  exact ⟨h1, h2⟩

theorem lz_way {way : Int} (h0 : 0 ≤ way) (h5 : way ≤ 5) : way = 0 ∨ way = 1 ∨ way = 2 ∨ way = 3 ∨ way = 4 ∨ way = 5 := by omega

theorem rnd_zero (n way : Int) (h : n % 10000 = 0) : rnd n way = n / 10000 := by unfold rnd; rw [if_pos h]
theorem rnd_pos (n way : Int) (hn : 0 ≤ n) (h : n % 10000 ≠ 0) (h0 : 0 ≤ way) (h5 : way ≤ 5) :
    rnd n way = if lzB (n / 10000) (n % 10000) 1 way = true then n / 10000 + 1 else n / 10000 := by
  have hp : 0 < n := by omega
  unfold rnd lzB
  rcases lz_way h0 h5 with rfl | rfl | rfl | rfl | rfl | rfl <;> simp [h, hp] <;> (repeat' split) <;> omega
theorem rnd_neg (n way : Int) (hn : n < 0) (h : n % 10000 ≠ 0) (h0 : 0 ≤ way) (h5 : way ≤ 5) :
    rnd n way = if lzB (n.tdiv 10000) (-(n.tmod 10000)) (-1) way = true then n.tdiv 10000 - 1 else n.tdiv 10000 := by
  have hp : ¬ 0 < n := by omega
  obtain ⟨e1, e2⟩ := td_neg n hn
  rw [e1, e2]
  unfold rnd lzB
  rcases lz_way h0 h5 with rfl | rfl | rfl | rfl | rfl | rfl <;> simp [h, hp] <;> (repeat' split) <;> omega

set_option maxHeartbeats 1000000 in
theorem floor_any (n : Int) (w : World) (h1 : -1000000000000000000 ≤ n) (h2 : n ≤ 1000000000000000000) :
    Calls Tryz.prog 61 #[.int .i64 n, .int .i64 10000] w fun e w' => e = .returned (.int .i64 (n / 10000)) ∧ w' = w := by
  by_cases hn : 0 ≤ n
  · go_enter Tryz.func61, Tryz.ntmps61
    go_wp2
    go_ret
    exact ⟨rfl, rfl⟩
  · have HE := (show Hid _ from td_neg n (by omega))
    have b1 : -100000000000000 ≤ n.tdiv 10000 := by have := HE.out; omega
    have b2 : n.tdiv 10000 ≤ 0 := by have := HE.out; omega
    go_enter Tryz.func61, Tryz.ntmps61
    go_wp2
    all_goals
      go_ret
      exact ⟨ret_int (by have := HE.out; omega), rfl⟩

set_option maxHeartbeats 1000000 in
theorem leaves_any (near rest step way : Int) (w : World) (hw0 : 0 ≤ way) (hw5 : way ≤ 5) (h1 : 0 ≤ rest) (h2 : rest < 10000) (h3 : -1000000000000000000 ≤ near) (h4 : near ≤ 1000000000000000000) :
    Calls Tryz.prog 108 #[.int .i64 near, .int .i64 rest, .int .i64 10000, .int .i64 step, .int .i64 way] w fun e w' => e = .returned (.bool (lzB near rest step way)) ∧ w' = w := by
  rcases lz_way hw0 hw5 with rfl | rfl | rfl | rfl | rfl | rfl
  · go_enter Tryz.func108, Tryz.ntmps108
    go_wp2
    go_ret
    exact ⟨rfl, rfl⟩
  · go_enter Tryz.func108, Tryz.ntmps108
    go_wp2
    go_ret
    exact ⟨rfl, rfl⟩
  · go_enter Tryz.func108, Tryz.ntmps108
    go_wp2
    go_ret
    exact ⟨rfl, rfl⟩
  · go_enter Tryz.func108, Tryz.ntmps108
    go_wp2
    go_ret
    exact ⟨rfl, rfl⟩
  · have HE : Hid (lzB near rest step 4 = decide (10000 - rest ≤ rest)) := by show _ = _; rw [Bool.eq_iff_iff]; simp [lzB]; omega
    go_enter Tryz.func108, Tryz.ntmps108
    go_wp2
    go_ret
    exact ⟨ret_bool HE.out.symm, rfl⟩
  · by_cases a1 : 10000 - rest < rest
    · have HE : Hid (lzB near rest step 5 = true) := by show _ = _; simp [lzB]; omega
      go_enter Tryz.func108, Tryz.ntmps108
      go_wp2
      go_ret
      exact ⟨ret_bool HE.out.symm, rfl⟩
    · by_cases a2 : rest = 10000 - rest
      · have hr : rest = 5000 := by omega
        subst hr
        clear a2 a1
        by_cases hn : 0 ≤ near
        · have HE : Hid (lzB near 5000 step 5 = (near % 2 != 0)) := by
            show _ = _
            rw [Bool.eq_iff_iff]; simp [lzB]
          go_enter Tryz.func108, Tryz.ntmps108
          go_wp2
          go_ret
          exact ⟨ret_bool HE.out.symm, rfl⟩
        · have hm : near.tmod 2 = -((-near) % 2) := by
            have h2 : (-(-near)).tmod 2 = -((-near).tmod 2) := Int.neg_tmod _ _
            rw [Int.neg_neg, Int.tmod_eq_emod_of_nonneg (a := -near) (by omega)] at h2
            exact h2
          have HE : Hid (lzB near 5000 step 5 = (near.tmod 2 != 0)) := by
            show _ = _
            rw [Bool.eq_iff_iff]; simp [lzB, hm]
          clear hm
          go_enter Tryz.func108, Tryz.ntmps108
          go_wp2
          go_ret
          exact ⟨ret_bool HE.out.symm, rfl⟩
      · have a3 : ((rest == 10000 - rest) = false) := by simpa using a2
        have HE : Hid (lzB near rest step 5 = false) := by show _ = _; simp [lzB]; omega
        clear a2
        go_enter Tryz.func108, Tryz.ntmps108
        go_wp2
        go_ret
        exact ⟨ret_bool HE.out.symm, rfl⟩

end Go.Proofs.YtcfeflkhmncmjaaGreatDoor
namespace Go.Proofs.YtcfeflkhmncmjaaGreatDoor
open Go.RowKit Go.Extern.Stop Go.Stop Go.Extern

set_option maxHeartbeats 1000000 in
theorem rounded_any (n way : Int) (w : World) (h1 : -1000000000000000000 ≤ n) (h2 : n ≤ 1000000000000000000) (hw0 : 0 ≤ way) (hw5 : way ≤ 5) :
    Calls Tryz.prog 96 #[.int .i64 n, .int .i64 10000, .int .i64 way] w fun e w' => e = .returned (.int .i64 (rnd n way)) ∧ ∃ k, w' = w.drewN k := by
  by_cases hn : 0 ≤ n
  · by_cases hz : n % 10000 = 0
    · have HE : Hid (rnd n way = n / 10000) := rnd_zero n way hz
      have hz' : (n % 10000 == 0) = true := by simpa using hz
      clear hz
      go_enter Tryz.func96, Tryz.ntmps96
      go_wp2_with fail
      go_quiet (fail)
      go_wp2
      go_ret
      exact ⟨ret_int HE.out.symm, _, rfl⟩
    · have HE := (show Hid _ from rnd_pos n way hn hz hw0 hw5)
      have hz' : (n % 10000 == 0) = false := by simpa using hz
      clear hz
      cases hl : lzB (n / 10000) (n % 10000) 1 way
      · have HE2 : Hid (rnd n way = n / 10000) := by have := HE.out; rw [hl] at this; exact this.trans (if_neg (by simp))
        go_enter Tryz.func96, Tryz.ntmps96
        go_wp2_with fail
        go_quiet (fail)
        go_wp2_with fail
        refine (leaves_any _ _ _ _ _ hw0 hw5 (by omega) (by omega) (by omega) (by omega)).mono ?_
        rintro e w' ⟨rfl, rfl⟩
        go_wp2
        go_ret
        exact ⟨ret_int HE2.out.symm, _, rfl⟩
      · have HE2 : Hid (rnd n way = n / 10000 + 1) := by have := HE.out; rw [hl] at this; exact this.trans (if_pos rfl)
        go_enter Tryz.func96, Tryz.ntmps96
        go_wp2_with fail
        go_quiet (fail)
        go_wp2_with fail
        refine (leaves_any _ _ _ _ _ hw0 hw5 (by omega) (by omega) (by omega) (by omega)).mono ?_
        rintro e w' ⟨rfl, rfl⟩
        go_wp2
        go_ret
        exact ⟨ret_int HE2.out.symm, _, rfl⟩
  · have HT := (show Hid _ from td_neg n (by omega))
    have b1 : -100000000000000 ≤ n.tdiv 10000 := by have := HT.out; omega
    have b2 : n.tdiv 10000 ≤ 0 := by have := HT.out; omega
    have b3 : -10000 < n.tmod 10000 := by have := HT.out; omega
    have b4 : n.tmod 10000 ≤ 0 := by have := HT.out; omega
    by_cases hz : n % 10000 = 0
    · have HE : Hid (rnd n way = n.tdiv 10000) := (rnd_zero n way hz).trans (by have := HT.out; omega)
      have hz' : (n.tmod 10000 == 0) = true := by have := HT.out; simp; omega
      clear hz
      go_enter Tryz.func96, Tryz.ntmps96
      go_wp2_with fail
      go_quiet (fail)
      go_wp2
      go_ret
      exact ⟨ret_int HE.out.symm, _, rfl⟩
    · have HE := (show Hid _ from rnd_neg n way (by omega) hz hw0 hw5)
      have hz' : (n.tmod 10000 == 0) = false := by have := HT.out; simp; omega
      have b5 : n.tmod 10000 < 0 := by have := HT.out; omega
      clear hz b4
      cases hl : lzB (n.tdiv 10000) (-(n.tmod 10000)) (-1) way
      · have HE2 : Hid (rnd n way = n.tdiv 10000) := by have := HE.out; rw [hl] at this; exact this.trans (if_neg (by simp))
        go_enter Tryz.func96, Tryz.ntmps96
        go_wp2_with fail
        go_quiet (fail)
        go_wp2_with fail
        refine (leaves_any _ _ _ _ _ hw0 hw5 (by omega) (by omega) (by omega) (by omega)).mono ?_
        rintro e w' ⟨rfl, rfl⟩
        go_wp2
        go_ret
        exact ⟨ret_int HE2.out.symm, _, rfl⟩
      · have HE2 : Hid (rnd n way = n.tdiv 10000 - 1) := by have := HE.out; rw [hl] at this; exact this.trans (if_pos rfl)
        go_enter Tryz.func96, Tryz.ntmps96
        go_wp2_with fail
        go_quiet (fail)
        go_wp2_with fail
        refine (leaves_any _ _ _ _ _ hw0 hw5 (by omega) (by omega) (by omega) (by omega)).mono ?_
        rintro e w' ⟨rfl, rfl⟩
        go_wp2
        go_ret
        exact ⟨ret_int (by have := HE2.out; omega), _, rfl⟩

theorem tm2 (a : Int) (h : a < 0) : a.tmod 2 = -((-a) % 2) := by
  have h2 : (-(-a)).tmod 2 = -((-a).tmod 2) := Int.neg_tmod _ _
  rw [Int.neg_neg, Int.tmod_eq_emod_of_nonneg (a := -a) (by omega)] at h2
  exact h2

set_option maxHeartbeats 2000000 in
theorem round_any (n way : Int) (w : World) (h1 : -1000000000000000000 ≤ n) (h2 : n ≤ 1000000000000000000) (hw0 : 0 ≤ way) (hw5 : way ≤ 5) :
    Calls Tryz.prog 47 #[.int .i64 n, .int .i64 10000, .int .i64 way] w fun e w' => e = .returned (.int .i64 (rnd n way)) ∧ w' = w := by
  by_cases hz : n % 10000 = 0
  · have HE : Hid (rnd n way = n / 10000) := rnd_zero n way hz
    have hz' : (n - n / 10000 * 10000 == 0) = true := by simp; omega
    clear hz
    go_enter Tryz.func47, Tryz.ntmps47
    go_wp2_with (go_at_call 61; refine (floor_any _ _ (by omega) (by omega)).mono ?_; rintro e w' ⟨rfl, rfl⟩)
    go_ret
    exact ⟨ret_int HE.out.symm, rfl⟩
  · have hz' : (n - n / 10000 * 10000 == 0) = false := by simp; omega
    have HZ : Hid (n % 10000 ≠ 0) := hz
    have HM : Hid (n < 0 → (n / 10000).tmod 2 = -((-(n / 10000)) % 2)) := fun h => tm2 _ (by omega)
    clear hz
    by_cases hn : 0 < n
    · rcases lz_way hw0 hw5 with rfl | rfl | rfl | rfl | rfl | rfl
      all_goals
        go_enter Tryz.func47, Tryz.ntmps47
        go_wp2_with (go_at_call 61; refine (floor_any _ _ (by omega) (by omega)).mono ?_; rintro e w' ⟨rfl, rfl⟩)
        all_goals
          go_ret
          refine ⟨ret_int ?_, rfl⟩
          have h3 := HZ.out
          simp only [beq_iff_eq, beq_eq_false_iff_ne] at *
          unfold rnd
          (repeat' split) <;> omega
    · rcases lz_way hw0 hw5 with rfl | rfl | rfl | rfl | rfl | rfl
      all_goals
        go_enter Tryz.func47, Tryz.ntmps47
        go_wp2_with (go_at_call 61; refine (floor_any _ _ (by omega) (by omega)).mono ?_; rintro e w' ⟨rfl, rfl⟩)
        all_goals
          go_ret
          refine ⟨ret_int ?_, rfl⟩
          have h3 := HZ.out
          have h4 := HM.out (by omega)
          simp only [beq_iff_eq, beq_eq_false_iff_ne] at *
          unfold rnd
          (repeat' split) <;> omega
end Go.Proofs.YtcfeflkhmncmjaaGreatDoor

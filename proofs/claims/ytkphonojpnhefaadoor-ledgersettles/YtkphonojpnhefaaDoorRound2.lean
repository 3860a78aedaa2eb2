/-
  coin.rounded and the reference's Round, at 10000, by contracts.
-/
import Derived.Test.YtkphonojpnhefaaDoorRound
namespace Go.Proofs.YtkphonojpnhefaaDoor
open Go.RowKit Go.Extern.Stop Go.Stop Go.Extern

set_option maxHeartbeats 1000000 in
theorem rounded_any (n way : Int) (w : World) (h1 : -1000000000000000000 ≤ n) (h2 : n ≤ 1000000000000000000) (hw0 : 0 ≤ way) (hw5 : way ≤ 5) :
    Calls Tryd.prog 42 #[.int .i64 n, .int .i64 10000, .int .i64 way] w fun e w' => e = .returned (.int .i64 (rnd n way)) ∧ ∃ k, w' = w.drewN k := by
  by_cases hn : 0 ≤ n
  · by_cases hz : n % 10000 = 0
    · have HE : Hid (rnd n way = n / 10000) := rnd_zero n way hz
      have hz' : (n % 10000 == 0) = true := by simpa using hz
      clear hz
      go_enter Tryd.func42, Tryd.ntmps42
      go_wp2_with fail
      go_quiet (fail)
      go_wp2
      go_ret
      exact ⟨ret_int HE.out.symm, _, rfl⟩
    · have HE := (show Hid _ from rnd_pos n way hn hz hw0 hw5)
      have hz' : (n % 10000 == 0) = false := by simpa using hz
      clear hz
      cases hl : lzB (n / 10000) (n % 10000) 1 way
      · have HE2 : Hid (rnd n way = n / 10000) := by have := HE.out; rw [hl] at this; exact this.trans (if_neg (by simp))
        go_enter Tryd.func42, Tryd.ntmps42
        go_wp2_with fail
        go_quiet (fail)
        go_wp2_with fail
        refine (leaves_any _ _ _ _ _ hw0 hw5 (by omega) (by omega) (by omega) (by omega)).mono ?_
        rintro e w' ⟨rfl, rfl⟩
        go_wp2
        go_ret
        exact ⟨ret_int HE2.out.symm, _, rfl⟩
      · have HE2 : Hid (rnd n way = n / 10000 + 1) := by have := HE.out; rw [hl] at this; exact this.trans (if_pos rfl)
        go_enter Tryd.func42, Tryd.ntmps42
        go_wp2_with fail
        go_quiet (fail)
        go_wp2_with fail
        refine (leaves_any _ _ _ _ _ hw0 hw5 (by omega) (by omega) (by omega) (by omega)).mono ?_
        rintro e w' ⟨rfl, rfl⟩
        go_wp2
        go_ret
        exact ⟨ret_int HE2.out.symm, _, rfl⟩
  · have HT := (show Hid _ from td_neg n (by omega))
    have b1 : -100000000000000 ≤ n.tdiv 10000 := by have := HT.out; omega
    have b2 : n.tdiv 10000 ≤ 0 := by have := HT.out; omega
    have b3 : -10000 < n.tmod 10000 := by have := HT.out; omega
    have b4 : n.tmod 10000 ≤ 0 := by have := HT.out; omega
    by_cases hz : n % 10000 = 0
    · have HE : Hid (rnd n way = n.tdiv 10000) := (rnd_zero n way hz).trans (by have := HT.out; omega)
      have hz' : (n.tmod 10000 == 0) = true := by have := HT.out; simp; omega
      clear hz
      go_enter Tryd.func42, Tryd.ntmps42
      go_wp2_with fail
      go_quiet (fail)
      go_wp2
      go_ret
      exact ⟨ret_int HE.out.symm, _, rfl⟩
    · have HE := (show Hid _ from rnd_neg n way (by omega) hz hw0 hw5)
      have hz' : (n.tmod 10000 == 0) = false := by have := HT.out; simp; omega
      have b5 : n.tmod 10000 < 0 := by have := HT.out; omega
      clear hz b4
      cases hl : lzB (n.tdiv 10000) (-(n.tmod 10000)) (-1) way
      · have HE2 : Hid (rnd n way = n.tdiv 10000) := by have := HE.out; rw [hl] at this; exact this.trans (if_neg (by simp))
        go_enter Tryd.func42, Tryd.ntmps42
        go_wp2_with fail
        go_quiet (fail)
        go_wp2_with fail
        refine (leaves_any _ _ _ _ _ hw0 hw5 (by omega) (by omega) (by omega) (by omega)).mono ?_
        rintro e w' ⟨rfl, rfl⟩
        go_wp2
        go_ret
        exact ⟨ret_int HE2.out.symm, _, rfl⟩
      · have HE2 : Hid (rnd n way = n.tdiv 10000 - 1) := by have := HE.out; rw [hl] at this; exact this.trans (if_pos rfl)
        go_enter Tryd.func42, Tryd.ntmps42
        go_wp2_with fail
        go_quiet (fail)
        go_wp2_with fail
        refine (leaves_any _ _ _ _ _ hw0 hw5 (by omega) (by omega) (by omega) (by omega)).mono ?_
        rintro e w' ⟨rfl, rfl⟩
        go_wp2
        go_ret
        exact ⟨ret_int (by have := HE2.out; omega), _, rfl⟩

theorem tm2 (a : Int) (h : a < 0) : a.tmod 2 = -((-a) % 2) := by
  have h2 : (-(-a)).tmod 2 = -((-a).tmod 2) := Int.neg_tmod _ _
  rw [Int.neg_neg, Int.tmod_eq_emod_of_nonneg (a := -a) (by omega)] at h2
  exact h2

set_option maxHeartbeats 2000000 in
theorem round_any (n way : Int) (w : World) (h1 : -1000000000000000000 ≤ n) (h2 : n ≤ 1000000000000000000) (hw0 : 0 ≤ way) (hw5 : way ≤ 5) :
    Calls Tryd.prog 34 #[.int .i64 n, .int .i64 10000, .int .i64 way] w fun e w' => e = .returned (.int .i64 (rnd n way)) ∧ w' = w := by
  by_cases hz : n % 10000 = 0
  · have HE : Hid (rnd n way = n / 10000) := rnd_zero n way hz
    have hz' : (n - n / 10000 * 10000 == 0) = true := by simp; omega
    clear hz
    go_enter Tryd.func34, Tryd.ntmps34
    go_wp2_with (go_at_call 44; refine (floor_any _ _ (by omega) (by omega)).mono ?_; rintro e w' ⟨rfl, rfl⟩)
    go_ret
    exact ⟨ret_int HE.out.symm, rfl⟩
  · have hz' : (n - n / 10000 * 10000 == 0) = false := by simp; omega
    have HZ : Hid (n % 10000 ≠ 0) := hz
    have HM : Hid (n < 0 → (n / 10000).tmod 2 = -((-(n / 10000)) % 2)) := fun h => tm2 _ (by omega)
    clear hz
    by_cases hn : 0 < n
    · rcases lz_way hw0 hw5 with rfl | rfl | rfl | rfl | rfl | rfl
      all_goals
        go_enter Tryd.func34, Tryd.ntmps34
        go_wp2_with (go_at_call 44; refine (floor_any _ _ (by omega) (by omega)).mono ?_; rintro e w' ⟨rfl, rfl⟩)
        all_goals
          go_ret
          refine ⟨ret_int ?_, rfl⟩
          have h3 := HZ.out
          simp only [beq_iff_eq, beq_eq_false_iff_ne] at *
          unfold rnd
          (repeat' split) <;> omega
    · rcases lz_way hw0 hw5 with rfl | rfl | rfl | rfl | rfl | rfl
      all_goals
        go_enter Tryd.func34, Tryd.ntmps34
        go_wp2_with (go_at_call 44; refine (floor_any _ _ (by omega) (by omega)).mono ?_; rintro e w' ⟨rfl, rfl⟩)
        all_goals
          go_ret
          refine ⟨ret_int ?_, rfl⟩
          have h3 := HZ.out
          have h4 := HM.out (by omega)
          simp only [beq_iff_eq, beq_eq_false_iff_ne] at *
          unfold rnd
          (repeat' split) <;> omega
end Go.Proofs.YtkphonojpnhefaaDoor

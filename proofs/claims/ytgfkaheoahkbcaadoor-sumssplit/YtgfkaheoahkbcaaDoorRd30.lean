/-
  Rounding at 30 parts: the program's and the reference's calls by contracts.
-/
import Derived.Test.YtgfkaheoahkbcaaDoorRdPl
namespace Go.Proofs.YtgfkaheoahkbcaaDoor
open Go.RowKit Go.Extern.Stop Go.Stop Go.Extern

theorem td_neg30 (n : Int) (h : n < 0) : n.tdiv 30 = -((-n) / 30) ∧ n.tmod 30 = -((-n) % 30) := by
  have h1 : (-(-n)).tdiv 30 = -((-n).tdiv 30) := Int.neg_tdiv _ _
  have h2 : (-(-n)).tmod 30 = -((-n).tmod 30) := Int.neg_tmod _ _
  rw [Int.neg_neg] at h1 h2
  rw [Int.tdiv_eq_ediv_of_nonneg (a := -n) (by omega)] at h1
  rw [Int.tmod_eq_emod_of_nonneg (a := -n) (by omega)] at h2
  exact ⟨h1, h2⟩
theorem rnd_pos30 (n way : Int) (hn : 0 ≤ n) (h : n % 30 ≠ 0) (h0 : 0 ≤ way) (h5 : way ≤ 5) :
    rnd n 30 way = if lzB (n / 30) (n % 30) 30 1 way = true then n / 30 + 1 else n / 30 := by
  have hp : 0 < n := by omega
  unfold rnd lzB
  rcases lz_way h0 h5 with rfl | rfl | rfl | rfl | rfl | rfl <;> simp [h, hp] <;> (repeat' split) <;> omega
theorem rnd_neg30 (n way : Int) (hn : n < 0) (h : n % 30 ≠ 0) (h0 : 0 ≤ way) (h5 : way ≤ 5) :
    rnd n 30 way = if lzB (n.tdiv 30) (-(n.tmod 30)) 30 (-1) way = true then n.tdiv 30 - 1 else n.tdiv 30 := by
  have hp : ¬ 0 < n := by omega
  obtain ⟨e1, e2⟩ := td_neg30 n hn
  rw [e1, e2]
  unfold rnd lzB
  rcases lz_way h0 h5 with rfl | rfl | rfl | rfl | rfl | rfl <;> simp [h, hp] <;> (repeat' split) <;> omega

set_option maxHeartbeats 1000000 in
theorem floor_any30 (n : Int) (w : World) (h1 : -1000000000000000000 ≤ n) (h2 : n ≤ 1000000000000000000) :
    Calls Tryd.prog 38 #[.int .i64 n, .int .i64 30] w fun e w' => e = .returned (.int .i64 (n / 30)) ∧ w' = w := by
  by_cases hn : 0 ≤ n
  · go_enter Tryd.func38, Tryd.ntmps38
    go_wp2
    go_ret
    exact ⟨rfl, rfl⟩
  · have HE := (show Hid _ from td_neg30 n (by omega))
    have b1 : -100000000000000000 ≤ n.tdiv 30 := by have := HE.out; omega
    have b2 : n.tdiv 30 ≤ 0 := by have := HE.out; omega
    go_enter Tryd.func38, Tryd.ntmps38
    go_wp2
    all_goals
      go_ret
      exact ⟨ret_int (by have := HE.out; omega), rfl⟩

set_option maxHeartbeats 1000000 in
theorem leaves_any30 (near rest step way : Int) (w : World) (hw0 : 0 ≤ way) (hw5 : way ≤ 5) (h1 : 0 ≤ rest) (h2 : rest < 30) (h3 : -1000000000000000000 ≤ near) (h4 : near ≤ 1000000000000000000) :
    Calls Tryd.prog 51 #[.int .i64 near, .int .i64 rest, .int .i64 30, .int .i64 step, .int .i64 way] w fun e w' => e = .returned (.bool (lzB near rest 30 step way)) ∧ w' = w := by
  rcases lz_way hw0 hw5 with rfl | rfl | rfl | rfl | rfl | rfl
  · go_enter Tryd.func51, Tryd.ntmps51
    go_wp2
    go_ret
    exact ⟨rfl, rfl⟩
  · go_enter Tryd.func51, Tryd.ntmps51
    go_wp2
    go_ret
    exact ⟨rfl, rfl⟩
  · go_enter Tryd.func51, Tryd.ntmps51
    go_wp2
    go_ret
    exact ⟨rfl, rfl⟩
  · go_enter Tryd.func51, Tryd.ntmps51
    go_wp2
    go_ret
    exact ⟨rfl, rfl⟩
  · have HE : Hid (lzB near rest 30 step 4 = decide (30 - rest ≤ rest)) := by show _ = _; rw [Bool.eq_iff_iff]; simp [lzB]; omega
    go_enter Tryd.func51, Tryd.ntmps51
    go_wp2
    go_ret
    exact ⟨ret_bool HE.out.symm, rfl⟩
  · by_cases a1 : 30 - rest < rest
    · have HE : Hid (lzB near rest 30 step 5 = true) := by show _ = _; simp [lzB]; omega
      go_enter Tryd.func51, Tryd.ntmps51
      go_wp2
      go_ret
      exact ⟨ret_bool HE.out.symm, rfl⟩
    · by_cases a2 : rest = 30 - rest
      · have hr : rest = 15 := by omega
        subst hr
        clear a2 a1
        by_cases hn : 0 ≤ near
        · have HE : Hid (lzB near 15 30 step 5 = (near % 2 != 0)) := by
            show _ = _
            rw [Bool.eq_iff_iff]; simp [lzB]
          go_enter Tryd.func51, Tryd.ntmps51
          go_wp2
          go_ret
          exact ⟨ret_bool HE.out.symm, rfl⟩
        · have hm : near.tmod 2 = -((-near) % 2) := by
            have h2 : (-(-near)).tmod 2 = -((-near).tmod 2) := Int.neg_tmod _ _
            rw [Int.neg_neg, Int.tmod_eq_emod_of_nonneg (a := -near) (by omega)] at h2
            exact h2
          have HE : Hid (lzB near 15 30 step 5 = (near.tmod 2 != 0)) := by
            show _ = _
            rw [Bool.eq_iff_iff]; simp [lzB, hm]
          clear hm
          go_enter Tryd.func51, Tryd.ntmps51
          go_wp2
          go_ret
          exact ⟨ret_bool HE.out.symm, rfl⟩
      · have a3 : ((rest == 30 - rest) = false) := by simpa using a2
        have HE : Hid (lzB near rest 30 step 5 = false) := by show _ = _; simp [lzB]; omega
        clear a2
        go_enter Tryd.func51, Tryd.ntmps51
        go_wp2
        go_ret
        exact ⟨ret_bool HE.out.symm, rfl⟩

set_option maxHeartbeats 1000000 in
theorem rounded_any30 (n way : Int) (w : World) (h1 : -1000000000000000000 ≤ n) (h2 : n ≤ 1000000000000000000) (hw0 : 0 ≤ way) (hw5 : way ≤ 5) :
    Calls Tryd.prog 43 #[.int .i64 n, .int .i64 30, .int .i64 way] w fun e w' => e = .returned (.int .i64 (rnd n 30 way)) ∧ ∃ k, w' = w.drewN k := by
  by_cases hn : 0 ≤ n
  · by_cases hz : n % 30 = 0
    · have HE : Hid (rnd n 30 way = n / 30) := rnd_zero n 30 way hz
      have hz' : (n % 30 == 0) = true := by simpa using hz
      clear hz
      go_enter Tryd.func43, Tryd.ntmps43
      go_wp2_with fail
      go_quiet (fail)
      go_wp2
      go_ret
      exact ⟨ret_int HE.out.symm, _, rfl⟩
    · have HE := (show Hid _ from rnd_pos30 n way hn hz hw0 hw5)
      have hz' : (n % 30 == 0) = false := by simpa using hz
      clear hz
      cases hl : lzB (n / 30) (n % 30) 30 1 way
      · have HE2 : Hid (rnd n 30 way = n / 30) := by have := HE.out; rw [hl] at this; exact this.trans (if_neg (by simp))
        go_enter Tryd.func43, Tryd.ntmps43
        go_wp2_with fail
        go_quiet (fail)
        go_wp2_with fail
        refine (leaves_any30 _ _ _ _ _ hw0 hw5 (by omega) (by omega) (by omega) (by omega)).mono ?_
        rintro e w' ⟨rfl, rfl⟩
        go_wp2
        go_ret
        exact ⟨ret_int HE2.out.symm, _, rfl⟩
      · have HE2 : Hid (rnd n 30 way = n / 30 + 1) := by have := HE.out; rw [hl] at this; exact this.trans (if_pos rfl)
        go_enter Tryd.func43, Tryd.ntmps43
        go_wp2_with fail
        go_quiet (fail)
        go_wp2_with fail
        refine (leaves_any30 _ _ _ _ _ hw0 hw5 (by omega) (by omega) (by omega) (by omega)).mono ?_
        rintro e w' ⟨rfl, rfl⟩
        go_wp2
        go_ret
        exact ⟨ret_int HE2.out.symm, _, rfl⟩
  · have HT := (show Hid _ from td_neg30 n (by omega))
    have b1 : -100000000000000000 ≤ n.tdiv 30 := by have := HT.out; omega
    have b2 : n.tdiv 30 ≤ 0 := by have := HT.out; omega
    have b3 : -30 < n.tmod 30 := by have := HT.out; omega
    have b4 : n.tmod 30 ≤ 0 := by have := HT.out; omega
    by_cases hz : n % 30 = 0
    · have HE : Hid (rnd n 30 way = n.tdiv 30) := (rnd_zero n 30 way hz).trans (by have := HT.out; omega)
      have hz' : (n.tmod 30 == 0) = true := by have := HT.out; simp; omega
      clear hz
      go_enter Tryd.func43, Tryd.ntmps43
      go_wp2_with fail
      go_quiet (fail)
      go_wp2
      go_ret
      exact ⟨ret_int HE.out.symm, _, rfl⟩
    · have HE := (show Hid _ from rnd_neg30 n way (by omega) hz hw0 hw5)
      have hz' : (n.tmod 30 == 0) = false := by have := HT.out; simp; omega
      have b5 : n.tmod 30 < 0 := by have := HT.out; omega
      clear hz b4
      cases hl : lzB (n.tdiv 30) (-(n.tmod 30)) 30 (-1) way
      · have HE2 : Hid (rnd n 30 way = n.tdiv 30) := by have := HE.out; rw [hl] at this; exact this.trans (if_neg (by simp))
        go_enter Tryd.func43, Tryd.ntmps43
        go_wp2_with fail
        go_quiet (fail)
        go_wp2_with fail
        refine (leaves_any30 _ _ _ _ _ hw0 hw5 (by omega) (by omega) (by omega) (by omega)).mono ?_
        rintro e w' ⟨rfl, rfl⟩
        go_wp2
        go_ret
        exact ⟨ret_int HE2.out.symm, _, rfl⟩
      · have HE2 : Hid (rnd n 30 way = n.tdiv 30 - 1) := by have := HE.out; rw [hl] at this; exact this.trans (if_pos rfl)
        go_enter Tryd.func43, Tryd.ntmps43
        go_wp2_with fail
        go_quiet (fail)
        go_wp2_with fail
        refine (leaves_any30 _ _ _ _ _ hw0 hw5 (by omega) (by omega) (by omega) (by omega)).mono ?_
        rintro e w' ⟨rfl, rfl⟩
        go_wp2
        go_ret
        exact ⟨ret_int (by have := HE2.out; omega), _, rfl⟩

set_option maxHeartbeats 2000000 in
theorem round_any30 (n way : Int) (w : World) (h1 : -1000000000000000000 ≤ n) (h2 : n ≤ 1000000000000000000) (hw0 : 0 ≤ way) (hw5 : way ≤ 5) :
    Calls Tryd.prog 23 #[.int .i64 n, .int .i64 30, .int .i64 way] w fun e w' => e = .returned (.int .i64 (rnd n 30 way)) ∧ w' = w := by
  by_cases hz : n % 30 = 0
  · have HE : Hid (rnd n 30 way = n / 30) := rnd_zero n 30 way hz
    have hz' : (n - n / 30 * 30 == 0) = true := by simp; omega
    clear hz
    go_enter Tryd.func23, Tryd.ntmps23
    go_wp2_with (go_at_call 38; refine (floor_any30 _ _ (by omega) (by omega)).mono ?_; rintro e w' ⟨rfl, rfl⟩)
    go_ret
    exact ⟨ret_int HE.out.symm, rfl⟩
  · have hz' : (n - n / 30 * 30 == 0) = false := by simp; omega
    have HZ : Hid (n % 30 ≠ 0) := hz
    have HM : Hid (n < 0 → (n / 30).tmod 2 = -((-(n / 30)) % 2)) := fun h => tm2 _ (by omega)
    clear hz
    by_cases hn : 0 < n
    · rcases lz_way hw0 hw5 with rfl | rfl | rfl | rfl | rfl | rfl
      all_goals
        go_enter Tryd.func23, Tryd.ntmps23
        go_wp2_with (go_at_call 38; refine (floor_any30 _ _ (by omega) (by omega)).mono ?_; rintro e w' ⟨rfl, rfl⟩)
        all_goals
          go_ret
          refine ⟨ret_int ?_, rfl⟩
          have h3 := HZ.out
          simp only [beq_iff_eq, beq_eq_false_iff_ne] at *
          unfold rnd
          (repeat' split) <;> omega
    · rcases lz_way hw0 hw5 with rfl | rfl | rfl | rfl | rfl | rfl
      all_goals
        go_enter Tryd.func23, Tryd.ntmps23
        go_wp2_with (go_at_call 38; refine (floor_any30 _ _ (by omega) (by omega)).mono ?_; rintro e w' ⟨rfl, rfl⟩)
        all_goals
          go_ret
          refine ⟨ret_int ?_, rfl⟩
          have h3 := HZ.out
          have h4 := HM.out (by omega)
          simp only [beq_iff_eq, beq_eq_false_iff_ne] at *
          unfold rnd
          (repeat' split) <;> omega
end Go.Proofs.YtgfkaheoahkbcaaDoor

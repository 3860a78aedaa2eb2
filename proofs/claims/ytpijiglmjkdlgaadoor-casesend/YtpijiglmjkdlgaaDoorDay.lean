/-
  Package day: dates and days by contracts.
-/
import Derived.Test.YtpijiglmjkdlgaaDoorDayPlain
import Derived.Test.YtpijiglmjkdlgaaDoorCalPlain
import Derived.Test.YtpijiglmjkdlgaaDoorCoded
import Derived.OwnWalk
namespace Go.Proofs.YtpijiglmjkdlgaaDoor
open Go.RowKit Go.Extern.Stop Go.Stop Go.Extern

theorem ret_int {a b : Int} (h : a = b) : Ending.returned (.int .i64 a) = .returned (.int .i64 b) := by rw [h]
theorem ret_bool {a b : Bool} (h : a = b) : Ending.returned (.bool a) = .returned (.bool b) := by rw [h]

theorem isDay_any (n : Int) (w : World) : Calls Tryd.prog 14 #[.int .i64 n] w fun e w' => e = .returned (.bool (isDayB n)) ∧ w' = w := by
  unfold isDayB
  cases h1 : decide (1 ≤ n)
  · go_enter Tryd.func14, Tryd.ntmps14
    go_wp2
    go_ret
    exact ⟨rfl, rfl⟩
  · go_enter Tryd.func14, Tryd.ntmps14
    go_wp2
    go_ret
    exact ⟨rfl, rfl⟩

theorem isDayB_iff {n : Int} : isDayB n = true ↔ 1 ≤ n ∧ n ≤ 3652059 := by simp [isDayB]
theorem isDayB_f {n : Int} : isDayB n = false ↔ ¬ (1 ≤ n ∧ n ≤ 3652059) := by
  rw [← isDayB_iff]; cases isDayB n <;> simp

theorem isLeap_any (y : Int) (w : World) (hy : 0 ≤ y) : Calls Tryd.prog 95 #[.int .i64 y] w fun e w' => e = .returned (.bool (leapB y)) ∧ w' = w := by
  have HE : Hid (leapB y = (y % 4 == 0 && (y % 100 != 0 || y % 400 == 0))) := by
    show _ = _
    unfold leapB
    rw [Bool.eq_iff_iff]; simp
  cases h4 : (y % 4 == 0)
  · rw [h4] at HE
    go_enter Tryd.func95, Tryd.ntmps95
    go_wp2
    go_ret
    exact ⟨ret_bool HE.out.symm, rfl⟩
  · rw [h4] at HE
    cases h1 : (y % 100 != 0)
    · rw [h1] at HE
      go_enter Tryd.func95, Tryd.ntmps95
      go_wp2
      go_ret
      exact ⟨ret_bool HE.out.symm, rfl⟩
    · rw [h1] at HE
      go_enter Tryd.func95, Tryd.ntmps95
      go_wp2
      go_ret
      exact ⟨ret_bool HE.out.symm, rfl⟩

set_option maxHeartbeats 1000000 in
theorem monthLength_any (y m : Int) (w : World) (hy : 0 ≤ y) : Calls Tryd.prog 86 #[.int .i64 y, .int .i64 m] w fun e w' => e = .returned (.int .i64 (mlen y m)) ∧ w' = w := by
  by_cases h2 : m = 2
  · subst h2
    have HE : Hid (mlen y 2 = if leapB y then 29 else 28) := rfl
    have HL := hidIt (fun w => isLeap_any y w hy)
    cases hl : leapB y <;> rw [hl] at HE HL <;> clear hl
    all_goals
      go_enter Tryd.func86, Tryd.ntmps86
      go_wp2_with fail
      refine (HL.out _).mono ?_
      rintro e w' ⟨rfl, rfl⟩
      go_wp2
      go_ret
      exact ⟨ret_int HE.out.symm, rfl⟩
  · have e2 : (m == 2) = false := by simpa using h2
    by_cases h4 : m = 4
    · subst h4
      have HE : Hid (mlen y 4 = 30) := rfl
      go_enter Tryd.func86, Tryd.ntmps86
      go_wp2
      go_ret
      exact ⟨ret_int HE.out.symm, rfl⟩
    · have e4 : (m == 4) = false := by simpa using h4
      by_cases h6 : m = 6
      · subst h6
        have HE : Hid (mlen y 6 = 30) := rfl
        go_enter Tryd.func86, Tryd.ntmps86
        go_wp2
        go_ret
        exact ⟨ret_int HE.out.symm, rfl⟩
      · have e6 : (m == 6) = false := by simpa using h6
        by_cases h9 : m = 9
        · subst h9
          have HE : Hid (mlen y 9 = 30) := rfl
          go_enter Tryd.func86, Tryd.ntmps86
          go_wp2
          go_ret
          exact ⟨ret_int HE.out.symm, rfl⟩
        · have e9 : (m == 9) = false := by simpa using h9
          by_cases h11 : m = 11
          · subst h11
            have HE : Hid (mlen y 11 = 30) := rfl
            go_enter Tryd.func86, Tryd.ntmps86
            go_wp2
            go_ret
            exact ⟨ret_int HE.out.symm, rfl⟩
          · have e11 : (m == 11) = false := by simpa using h11
            have HE : Hid (mlen y m = 31) := by show _ = _; rw [mlen, if_neg h2, if_neg (by omega)]
            clear h2 h4 h6 h9 h11
            go_enter Tryd.func86, Tryd.ntmps86
            go_wp2
            go_ret
            exact ⟨ret_int HE.out.symm, rfl⟩

theorem daysAhead_any (y : Int) (w : World) (h1 : 1 ≤ y) (h2 : y ≤ 20000) : Calls Tryd.prog 93 #[.int .i64 y] w fun e w' => e = .returned (.int .i64 (yst y)) ∧ w' = w := by
  have HE : Hid (yst y = (y - 1) * 365 + (y - 1) / 4 - (y - 1) / 100 + (y - 1) / 400) := rfl
  go_enter Tryd.func93, Tryd.ntmps93
  go_wp2
  go_ret
  exact ⟨ret_int HE.out.symm, rfl⟩

set_option maxHeartbeats 1000000 in
theorem monthsAhead_any (y m : Int) (w : World) (hy : 0 ≤ y) (h1 : 1 ≤ m) (h2 : m ≤ 12) : Calls Tryd.prog 94 #[.int .i64 y, .int .i64 m] w fun e w' => e = .returned (.int .i64 (mst y (m - 1).toNat)) ∧ w' = w := by
  have HM := hidIt (fun (i : Nat) (w : World) => monthLength_any y (i + 1) w hy)
  obtain ⟨k, hk⟩ : ∃ k : Nat, m = k + 1 := ⟨(m - 1).toNat, by omega⟩
  subst hk
  have HE : Hid (mst y ((k : Int) + 1 - 1).toNat = mst y k) := by show _ = _; congr 1; omega
  go_enter Tryd.func94, Tryd.ntmps94
  go_wp2_with fail
  go_loop [5, 9] (fun s t => ∃ i : Nat, i ≤ k ∧ t = .int .i64 i ∧ s = .int .i64 (mst y i)) (fun _ t => k - (RowKit.intOf t).toNat)
  case atStart => exact ⟨0, by omega, rfl, rfl⟩
  case round =>
    obtain ⟨i, hi, rfl, rfl⟩ := hrel
    have hm := mst_nn y i
    have hm2 := mst_le y i (by omega)
    by_cases hlt : i < k
    · have hiz : (i : Int) < k := by omega
      have HS : Hid (mst y (i + 1) = mst y i + mlen y (i + 1)) := rfl
      have hl := mlen_bd y (i + 1)
      have HMi := hidIt (HM.out i)
      generalize mst y i = s at *
      generalize mlen y (i + 1) = l at *
      go_wp2_with fail
      refine (HMi.out _).mono ?_
      rintro e w' ⟨rfl, rfl⟩
      go_wp2
      go_round
      case rel => exact ⟨i + 1, by omega, by go_num, by rw [HS.out]⟩
      case measure => simp [RowKit.intOf]; omega
    · obtain rfl : i = k := by omega
      clear hlt
      generalize hms : mst y i = s at *
      have HI := hidIt hms
      clear hms
      go_wp2
      go_ret
      exact ⟨ret_int HI.out.symm, rfl⟩

theorem yr_tt (n : Int) (k1 : 3 < (n - 1) % 146097 / 36524) (k2 : 3 < ((n - 1) % 146097 - 109572) % 1461 / 365) : yrOf n = (n - 1) / 146097 * 400 + 300 + ((n - 1) % 146097 - 109572) / 1461 * 4 + 3 + 1 := by
  have e : (3 : Int) * 36524 = 109572 := by decide
  unfold yrOf; simp only [if_pos k1, e, if_pos k2]; omega
set_option maxHeartbeats 1000000 in
theorem yearOf_any (n : Int) (w : World) (h1 : 1 ≤ n) (h2 : n ≤ 3652059) : Calls Tryd.prog 92 #[.int .i64 n] w fun e w' => e = .returned (.int .i64 (yrOf n)) ∧ w' = w := by
  by_cases k1 : 3 < (n - 1) % 146097 / 36524
  · by_cases k2 : 3 < ((n - 1) % 146097 - 109572) % 1461 / 365
    · have HE : Hid (yrOf n = (n - 1) / 146097 * 400 + 300 + ((n - 1) % 146097 - 109572) / 1461 * 4 + 3 + 1) := by
        exact yr_tt n k1 k2
      go_enter Tryd.func92, Tryd.ntmps92
      go_wp2
      go_ret
      exact ⟨ret_int (by rw [HE.out]), rfl⟩
    · exfalso; omega
  · by_cases k2 : 3 < ((n - 1) % 146097 - (n - 1) % 146097 / 36524 * 36524) % 1461 / 365
    · have HE : Hid (yrOf n = (n - 1) / 146097 * 400 + (n - 1) % 146097 / 36524 * 100 + ((n - 1) % 146097 - (n - 1) % 146097 / 36524 * 36524) / 1461 * 4 + 3 + 1) := by
        show _ = _; unfold yrOf; simp only [if_neg k1, if_pos k2]
      go_enter Tryd.func92, Tryd.ntmps92
      go_wp2
      go_ret
      exact ⟨ret_int (by rw [HE.out]), rfl⟩
    · have HE : Hid (yrOf n = (n - 1) / 146097 * 400 + (n - 1) % 146097 / 36524 * 100 + ((n - 1) % 146097 - (n - 1) % 146097 / 36524 * 36524) / 1461 * 4 + ((n - 1) % 146097 - (n - 1) % 146097 / 36524 * 36524) % 1461 / 365 + 1) := by
        show _ = _; unfold yrOf; simp only [if_neg k1, if_neg k2]
      go_enter Tryd.func92, Tryd.ntmps92
      go_wp2
      go_ret
      exact ⟨ret_int (by rw [HE.out]), rfl⟩

/-- Is there such a date? -/
def dateB (y m d : Int) : Bool := decide (1 ≤ y ∧ y ≤ 9999 ∧ 1 ≤ m ∧ m ≤ 12 ∧ 1 ≤ d ∧ d ≤ mlen y m)
theorem dateB_iff {y m d : Int} : dateB y m d = true ↔ Date y m d := by
  simp only [dateB, decide_eq_true_eq]
  exact ⟨fun ⟨a, b, c, d, e, f⟩ => ⟨a, b, c, d, e, f⟩, fun ⟨a, b, c, d, e, f⟩ => ⟨a, b, c, d, e, f⟩⟩

theorem of_ok (y m d : Int) (w : World) (h : Date y m d) : Calls Tryd.prog 85 #[.int .i64 y, .int .i64 m, .int .i64 d] w fun e w' => e = .returned (.tuple #[.int .i64 (dof y m d), .nilIface]) ∧ w' = w := by
  have hi := h.isDay
  have HE : Hid (dof y m d = yst y + mst y (m - 1).toNat + d) := rfl
  obtain ⟨y1, y2, m1, m2, d1, d2⟩ := h
  have hb := mlen_bd y m
  have HM := hidIt (fun w => monthLength_any y m w (by omega))
  have HA := hidIt (fun w => daysAhead_any y w y1 (by omega))
  have HN := hidIt (fun w => monthsAhead_any y m w (by omega) m1 m2)
  have b1 := mst_nn y (m - 1).toNat
  have b2 := mst_le y (m - 1).toNat (by omega)
  have b3 := yst_le y1
  have b4 := yst_le (a := y) (b := 10000) (by omega)
  rw [yst_1] at b3
  rw [yst_10000] at b4
  clear hi
  generalize mlen y m = l at *
  generalize mst y (m - 1).toNat = s at *
  generalize yst y = t at *
  go_enter Tryd.func85, Tryd.ntmps85
  go_wp2_with (first | (go_at_call 86; refine (HM.out _).mono ?_; rintro e w' ⟨rfl, rfl⟩) | (go_at_call 93; refine (HA.out _).mono ?_; rintro e w' ⟨rfl, rfl⟩) | (go_at_call 94; refine (HN.out _).mono ?_; rintro e w' ⟨rfl, rfl⟩))
  go_ret2
  exact ⟨by rw [HE.out]; rfl, rfl⟩

set_option maxHeartbeats 1000000 in
theorem of_bad (y m d : Int) (a : Addr) (w : World) (hc : w.cell? ⟨0, 0, none⟩ = some (.iface 134 (.pointer (some a)))) (h : ¬ Date y m d) :
    Calls Tryd.prog 85 #[.int .i64 y, .int .i64 m, .int .i64 d] w fun e w' => e = .returned (.tuple #[.int .i64 0, .iface 134 (.pointer (some a))]) ∧ ∃ k, w' = w.drewN k := by
  by_cases k1 : y < 1
  · clear h
    go_enter Tryd.func85, Tryd.ntmps85
    go_wp2
    go_quiet (fail)
    go_wp2
    go_ret2
    exact ⟨rfl, _, rfl⟩
  by_cases k2 : 9999 < y
  · clear h
    go_enter Tryd.func85, Tryd.ntmps85
    go_wp2
    go_quiet (fail)
    go_wp2
    go_ret2
    exact ⟨rfl, _, rfl⟩
  by_cases k3 : m < 1
  · clear h
    go_enter Tryd.func85, Tryd.ntmps85
    go_wp2
    go_quiet (fail)
    go_wp2
    go_ret2
    exact ⟨rfl, _, rfl⟩
  by_cases k4 : 12 < m
  · clear h
    go_enter Tryd.func85, Tryd.ntmps85
    go_wp2
    go_quiet (fail)
    go_wp2
    go_ret2
    exact ⟨rfl, _, rfl⟩
  by_cases k5 : d < 1
  · clear h
    go_enter Tryd.func85, Tryd.ntmps85
    go_wp2
    go_quiet (fail)
    go_wp2
    go_ret2
    exact ⟨rfl, _, rfl⟩
  have k6 : mlen y m < d := by
    rcases ltge (mlen y m) d with k | k
    · exact k
    · exact absurd ⟨by omega, by omega, by omega, by omega, by omega, k⟩ h
  have HM := hidIt (fun w => monthLength_any y m w (by omega))
  clear h
  generalize mlen y m = l at *
  go_enter Tryd.func85, Tryd.ntmps85
  go_wp2_with (go_at_call 86; refine (HM.out _).mono ?_; rintro e w' ⟨rfl, rfl⟩)
  go_quiet (fail)
  go_wp2
  go_ret2
  exact ⟨rfl, _, rfl⟩

theorem week_ok (n : Int) (w : World) (h1 : 1 ≤ n) (h2 : n ≤ 3652059) : Calls Tryd.prog 46 #[.int .i64 n] w fun e w' => e = .returned (.int .i64 (wk n)) ∧ w' = w := by
  have HD := hidIt (fun w => isDay_any n w)
  rw [isDayB_iff.2 ⟨h1, h2⟩] at HD
  have HE : Hid (wk n = (n - 1) % 7) := rfl
  go_enter Tryd.func46, Tryd.ntmps46
  go_wp2_with (go_at_call 14; refine (HD.out _).mono ?_; rintro e w' ⟨rfl, rfl⟩)
  go_ret
  exact ⟨ret_int HE.out.symm, rfl⟩
theorem week_no (n : Int) (w : World) (h : isDayB n = false) : Calls Tryd.prog 46 #[.int .i64 n] w fun e w' => e = .returned (.int .i64 (-1)) ∧ w' = w := by
  have HD := hidIt (fun w => isDay_any n w)
  rw [h] at HD
  clear h
  go_enter Tryd.func46, Tryd.ntmps46
  go_wp2_with (go_at_call 14; refine (HD.out _).mono ?_; rintro e w' ⟨rfl, rfl⟩)
  go_ret
  exact ⟨rfl, rfl⟩

set_option maxRecDepth 10000 in
theorem parts_no (n : Int) (w : World) (h : isDayB n = false) : Calls Tryd.prog 84 #[.int .i64 n] w fun e w' => e = .returned (.tuple #[.int .i64 0, .int .i64 0, .int .i64 0]) ∧ w' = w := by
  have HD := hidIt (fun w => isDay_any n w)
  rw [h] at HD
  clear h
  go_enter Tryd.func84, Tryd.ntmps84
  go_wp2_with (go_at_call 14; refine (HD.out _).mono ?_; rintro e w' ⟨rfl, rfl⟩)
  go_ret3
  exact ⟨rfl, rfl⟩

end Go.Proofs.YtpijiglmjkdlgaaDoor

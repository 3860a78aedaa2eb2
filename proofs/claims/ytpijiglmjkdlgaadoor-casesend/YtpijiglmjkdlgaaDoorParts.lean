/-
  day.Parts.
-/
import Derived.Test.YtpijiglmjkdlgaaDoorDay
namespace Go.Proofs.YtpijiglmjkdlgaaDoor
open Go.RowKit Go.Extern.Stop Go.Stop Go.Extern

set_option maxHeartbeats 1000000 in
set_option maxRecDepth 10000 in
theorem parts_ok (y m d : Int) (w : World) (h : Date y m d) : Calls Tryd.prog 84 #[.int .i64 (dof y m d)] w fun e w' => e = .returned (.tuple #[.int .i64 y, .int .i64 m, .int .i64 d]) ∧ w' = w := by
  have hi := h.isDay
  have hy := h.inYear
  have HD := hidIt (fun w => isDay_any (dof y m d) w)
  rw [isDayB_iff.2 hi] at HD
  have HY := hidIt (fun w => yearOf_any (dof y m d) w hi.1 hi.2)
  rw [year_is hy.1 hy.2] at HY
  have y1 := h.y1
  have y2 := h.y2
  have HA := hidIt (fun w => daysAhead_any y w y1 (by omega))
  obtain ⟨k, hk⟩ : ∃ k : Nat, m = k + 1 := ⟨(m - 1).toNat, by have := h.m1; omega⟩
  subst hk
  have m2 := h.m2
  have d1 := h.d1
  have d2 := h.d2
  have hd : dof y (k + 1) d = yst y + mst y k + d := by unfold dof; congr 2; rw [show ((k : Int) + 1 - 1).toNat = k by omega]
  have HM := hidIt (fun (i : Nat) (w : World) => monthLength_any y (i + 1) w (by omega))
  have b3 := yst_le y1
  have b4 := yst_le (a := y) (b := 10000) (by omega)
  rw [yst_1] at b3
  rw [yst_10000] at b4
  have HN := hidIt (mst_mono y)
  have HS : Hid (∀ i, mst y (i + 1) = mst y i + mlen y (i + 1)) := fun i => rfl
  have HL := hidIt (mlen_bd y)
  have HZ : Hid (mst y 0 = 0) := rfl
  have HK := hidIt (mst_le y k (by omega))
  have HK0 := hidIt (mst_nn y k)
  clear h hy
  generalize hmk : mst y k = s at *
  have HMK := hidIt hmk
  clear hmk
  have HSum := hidIt hd
  have hs1 : dof y (k + 1) d ≤ yst y + s + d := by omega
  have hs2 : yst y + s + d ≤ dof y (k + 1) d := by omega
  clear hd
  generalize dof y (k + 1) d = n at *
  generalize yst y = t at *
  have d31 : d ≤ 31 := by have := HL.out (k + 1); omega
  have hs0 := HK0.out
  have hs3 := HK.out
  have HD2 := hidIt d2
  clear d2
  go_enter Tryd.func84, Tryd.ntmps84
  go_wp2_with fail
  refine (HD.out _).mono ?_
  rintro e w' ⟨rfl, rfl⟩
  go_wp2_with fail
  refine (HY.out _).mono ?_
  rintro e w' ⟨rfl, rfl⟩
  go_wp2_with fail
  refine (HA.out _).mono ?_
  rintro e w' ⟨rfl, rfl⟩
  go_wp2_with fail
  go_loop [3, 4] (fun a b => ∃ i : Nat, i ≤ k ∧ a = .int .i64 (i + 1) ∧ b = .int .i64 (s + d - mst y i)) (fun a _ => 13 - (RowKit.intOf a).toNat)
  case atStart => exact ⟨0, by omega, rfl, by rw [HZ.out, HSum.out]; go_num⟩
  case round =>
    obtain ⟨i, hi, rfl, rfl⟩ := hrel
    by_cases hlt : i < k
    · have HSi := hidIt (HS.out i)
      have hl := HL.out (i + 1)
      have hg := HN.out (i + 1) k (by omega)
      have h0 := HN.out 0 i (by omega)
      rw [HMK.out, HSi.out] at hg
      rw [HZ.out] at h0
      have HMi := hidIt (HM.out i)
      have hu0 : 0 ≤ mst y i := by omega
      have hul : mst y i + mlen y (i + 1) ≤ s := by omega
      clear hg h0
      generalize mst y i = u at *
      generalize mlen y (i + 1) = l at *
      have c1 : decide (l < s + d - u) = true := by simp; omega
      go_wp2_with (go_at_call 86; refine (HMi.out _).mono ?_; rintro e w' ⟨rfl, rfl⟩)
      go_round
      case rel => exact ⟨i + 1, by omega, by go_num, by rw [HSi.out]; go_num⟩
      case measure => simp [RowKit.intOf]; omega
    · obtain rfl : i = k := by omega
      clear hlt
      have HMi := hidIt (HM.out i)
      have hl := HL.out (i + 1)
      have hd2 := HD2.out
      rw [HMK.out]
      generalize mlen y (i + 1) = l at *
      have c1 : decide (l < s + d - s) = false := by simp; omega
      have HX : Hid (s + d - s = d) := by show _ = _; omega
      go_wp2_with (go_at_call 86; refine (HMi.out _).mono ?_; rintro e w' ⟨rfl, rfl⟩)
      go_ret3
      exact ⟨by rw [HX.out]; rfl, rfl⟩
end Go.Proofs.YtpijiglmjkdlgaaDoor

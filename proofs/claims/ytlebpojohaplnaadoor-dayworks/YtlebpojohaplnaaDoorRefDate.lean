/-
  The reference's DayOf and PartsOf.
-/
import Derived.Test.YtlebpojohaplnaaDoorRefDay
namespace Go.Proofs.YtlebpojohaplnaaDoor
open Go.RowKit Go.Extern.Stop Go.Stop Go.Extern

theorem yst_400 (a : Int) : yst (a * 400 + 1) = a * 146097 := by
  have := yst_at a 0 0 0 (by decide) (by decide) (by decide) (by decide) (by decide) (by decide)
  rw [show a * 400 + 1 = a * 400 + 0 * 100 + 0 * 4 + 0 + 1 by omega, this]
  omega

set_option maxHeartbeats 2000000 in
set_option maxRecDepth 10000 in
theorem rDayOf_ok (y m d : Int) (w : World) (h : Date y m d) : Calls Tryd.prog 45 #[.int .i64 y, .int .i64 m, .int .i64 d] w fun e w' => e = .returned (.tuple #[.int .i64 (dof y m d), .int .i64 0]) ∧ Below w.heap.size w w' := by
  have y1 := h.y1
  have y2 := h.y2
  have d1 := h.d1
  have d2 := h.d2
  obtain ⟨k, hk⟩ : ∃ k : Nat, m = k + 1 := ⟨(m - 1).toNat, by have := h.m1; omega⟩
  subst hk
  have m2 := h.m2
  have HE : Hid (dof y (k + 1) d = yst y + mst y k + d) := by show _ = _; unfold dof; rw [show ((k : Int) + 1 - 1).toNat = k by omega]
  have HM := hidIt (fun w => rDaysOf_any y (k + 1) w (by omega) (by omega) m2)
  have HMi := hidIt (fun (i : Nat) (hi : i < k) w => rDaysOf_any y (i + 1) w (by omega) (by omega) (by omega))
  have HY := hidIt (fun (k : Int) (hk : 0 ≤ k) w => rYearLong_any k w hk)
  have hb := mlen_bd y (k + 1)
  have c1 : decide (mlen y (k + 1) < d) = false := by simp; omega
  have HS := hidIt (yst_400 ((y - 1) / 400))
  have b3 := yst_le y1
  have b4 := yst_le (a := y) (b := 10000) (by omega)
  rw [yst_1] at b3
  rw [yst_10000] at b4
  clear h
  generalize mlen y (k + 1) = l at *
  go_enter Tryd.func45, Tryd.ntmps45
  go_wp2_with fail
  refine (HM.out _).mono ?_
  rintro e w1 ⟨rfl, hb1⟩
  have HB1 := hidIt hb1
  clear hb1
  go_wp2_with fail
  go_loop [8, 9] (fun a b => ∃ k : Int, (y - 1) / 400 * 400 + 1 ≤ k ∧ k ≤ y ∧ b = .int .i64 k ∧ a = .int .i64 (yst k)) (fun _ b => (y - RowKit.intOf b).toNat)
  case atStart => exact ⟨(y - 1) / 400 * 400 + 1, by omega, by omega, rfl, by rw [HS.out]⟩
  case round =>
    obtain ⟨j, hj0, hj, rfl, rfl⟩ := hrel
    by_cases hlt : j < y
    · have g1 := yst_le (a := 1) (b := j) (by omega)
      have g2 := yst_lt hlt
      rw [yst_1] at g1
      have HYj := hidIt (HY.out j (by omega))
      have HSj := hidIt (yst_succ j)
      have g3 := ylen_bd j
      generalize yst j = s at *
      generalize ylen j = u at *
      generalize yst y = t at *
      go_wp2_with (go_at_call 59; refine (HYj.out _).mono ?_; rintro e w' ⟨rfl, rfl⟩)
      go_round
      case rel => exact ⟨j + 1, by omega, by omega, by go_num, by rw [HSj.out]⟩
      case measure => simp [RowKit.intOf]; omega
    · obtain rfl : j = y := by omega
      clear hlt hj
      generalize hys : yst j = s at *
      have HYS := hidIt hys
      clear hys
      obtain ⟨W, hW⟩ : ∃ W : World, W = w1 := ⟨_, rfl⟩
      rw [← hW]
      rw [← hW] at HB1
      clear hW
      go_wp2_with fail
      go_loopw [8, 10] (fun a b wr => ∃ i : Nat, i ≤ k ∧ b = .int .i64 (i + 1) ∧ a = .int .i64 (s + mst j i) ∧ Below w.heap.size w wr) (fun _ b _ => (13 - RowKit.intOf b).toNat)
      case atStart => exact ⟨0, by omega, rfl, by rw [show mst j 0 = 0 from rfl]; go_num, HB1.out⟩
      case round =>
        obtain ⟨i, hi, rfl, rfl, hbr⟩ := hrel
        have HB := hidIt hbr
        clear hbr
        have g1 := mst_nn j i
        have g2 := mst_le j i (by omega)
        by_cases hlt : i < k
        · have hiz : (i : Int) < k := by omega
          have HMj := hidIt (HMi.out i hlt)
          have HSi : Hid (mst j (i + 1) = mst j i + mlen j (i + 1)) := rfl
          have g3 := mlen_bd j (i + 1)
          generalize mst j i = u at *
          generalize mlen j (i + 1) = v at *
          go_wp2_with fail
          refine (HMj.out _).mono ?_
          rintro e w2 ⟨rfl, hb2⟩
          have HB2 := hidIt (HB.out.trans (hb2.mono HB.out.size))
          clear hb2
          go_wp2
          go_roundw
          case rel => exact ⟨i + 1, by omega, by go_num, by rw [HSi.out]; go_num, HB2.out⟩
          case measure => simp [RowKit.intOf]; omega
        · obtain rfl : i = k := by omega
          clear hlt
          generalize mst j i = u at *
          go_wp2
          go_ret2
          exact ⟨by rw [HE.out]; rfl, HB.out⟩

set_option maxHeartbeats 1000000 in
theorem rDayOf_bad (y m d : Int) (w : World) (h : ¬ Date y m d) :
    Calls Tryd.prog 45 #[.int .i64 y, .int .i64 m, .int .i64 d] w fun e w' => e = .returned (.tuple #[.int .i64 0, .int .i64 4]) ∧ Below w.heap.size w w' := by
  by_cases k1 : y < 1
  · clear h
    go_enter Tryd.func45, Tryd.ntmps45
    go_wp2
    go_ret2
    exact ⟨rfl, Below.refl _ _⟩
  by_cases k2 : 9999 < y
  · clear h
    go_enter Tryd.func45, Tryd.ntmps45
    go_wp2
    go_ret2
    exact ⟨rfl, Below.refl _ _⟩
  by_cases k3 : m < 1
  · clear h
    go_enter Tryd.func45, Tryd.ntmps45
    go_wp2
    go_ret2
    exact ⟨rfl, Below.refl _ _⟩
  by_cases k4 : 12 < m
  · clear h
    go_enter Tryd.func45, Tryd.ntmps45
    go_wp2
    go_ret2
    exact ⟨rfl, Below.refl _ _⟩
  by_cases k5 : d < 1
  · clear h
    go_enter Tryd.func45, Tryd.ntmps45
    go_wp2
    go_ret2
    exact ⟨rfl, Below.refl _ _⟩
  have k6 : mlen y m < d := by
    rcases ltge (mlen y m) d with k | k
    · exact k
    · exact absurd ⟨by omega, by omega, by omega, by omega, by omega, k⟩ h
  have HM := hidIt (fun w => rDaysOf_any y m w (by omega) (by omega) (by omega))
  clear h
  generalize mlen y m = l at *
  go_enter Tryd.func45, Tryd.ntmps45
  go_wp2_with fail
  refine (HM.out _).mono ?_
  rintro e w1 ⟨rfl, hb1⟩
  go_wp2
  go_ret2
  exact ⟨rfl, hb1⟩

set_option maxRecDepth 10000 in
theorem rParts_no (n : Int) (w : World) (h : isDayB n = false) : Calls Tryd.prog 43 #[.int .i64 n] w fun e w' => e = .returned (.tuple #[.int .i64 0, .int .i64 0, .int .i64 0]) ∧ Below w.heap.size w w' := by
  have HD := hidIt (fun w => rIsDay_any n w)
  rw [h] at HD
  clear h
  go_enter Tryd.func43, Tryd.ntmps43
  go_wp2_with (go_at_call 23; refine (HD.out _).mono ?_; rintro e w' ⟨rfl, rfl⟩)
  go_ret3
  exact ⟨rfl, Below.refl _ _⟩

set_option maxHeartbeats 2000000 in
set_option maxRecDepth 10000 in
theorem rParts_ok (y m d : Int) (w : World) (h : Date y m d) : Calls Tryd.prog 43 #[.int .i64 (dof y m d)] w fun e w' => e = .returned (.tuple #[.int .i64 y, .int .i64 m, .int .i64 d]) ∧ Below w.heap.size w w' := by
  have hi := h.isDay
  have hy := h.inYear
  have HD := hidIt (fun w => rIsDay_any (dof y m d) w)
  rw [isDayB_iff.2 hi] at HD
  have y1 := h.y1
  have y2 := h.y2
  obtain ⟨k, hk⟩ : ∃ k : Nat, m = k + 1 := ⟨(m - 1).toNat, by have := h.m1; omega⟩
  subst hk
  have m2 := h.m2
  have d1 := h.d1
  have d2 := h.d2
  have hd : dof y (k + 1) d = yst y + mst y k + d := by unfold dof; rw [show ((k : Int) + 1 - 1).toNat = k by omega]
  have HMi := hidIt (fun (i : Nat) (hi : i ≤ k) w => rDaysOf_any y (i + 1) w (by omega) (by omega) (by omega))
  have HY := hidIt (fun (k : Int) (hk : 0 ≤ k) w => rYearLong_any k w hk)
  have HK := hidIt (mst_le y k (by omega))
  have HK0 := hidIt (mst_nn y k)
  have HN := hidIt (mst_mono y)
  have HL := hidIt (mlen_bd y)
  have HZ : Hid (mst y 0 = 0) := rfl
  have HSum := hidIt hd
  have hs1 : dof y (k + 1) d ≤ yst y + mst y k + d := by omega
  have hs2 : yst y + mst y k + d ≤ dof y (k + 1) d := by omega
  have hs0 := HK0.out
  have hs3 := HK.out
  have HS := hidIt (yst_400 ((dof y (k + 1) d - 1) / 146097))
  have HD2 := hidIt d2
  have HY1 := hidIt hy.1
  have HY2 := hidIt hy.2
  have d31 : d ≤ 31 := by have := HL.out (k + 1); omega
  clear h hd d2 hy
  generalize hn : dof y (k + 1) d = n at *
  clear hn
  have hstart : (n - 1) / 146097 * 400 + 1 ≤ y := by
    rcases ltge y ((n - 1) / 146097 * 400 + 1) with c | c
    · have g := yst_le (a := y + 1) (b := (n - 1) / 146097 * 400 + 1) (by omega)
      have := HS.out
      have := HY2.out
      omega
    · exact c
  generalize hq : mst y k = s at *
  have HQ := hidIt hq
  clear hq
  go_enter Tryd.func43, Tryd.ntmps43
  go_wp2_with fail
  refine (HD.out _).mono ?_
  rintro e w' ⟨rfl, rfl⟩
  go_wp2_with fail
  go_loop [6, 7] (fun a b => ∃ k : Int, 1 ≤ k ∧ k ≤ y ∧ b = .int .i64 k ∧ a = .int .i64 (n - 1 - yst k)) (fun _ b => (y - RowKit.intOf b).toNat)
  case atStart => exact ⟨(n - 1) / 146097 * 400 + 1, by omega, hstart, rfl, by rw [HS.out]; congr 1; omega⟩
  case round =>
    obtain ⟨j, hj0, hj, rfl, rfl⟩ := hrel
    by_cases hlt : j < y
    · have g1 := yst_le (a := 1) (b := j) (by omega)
      have g2 := yst_le (a := j + 1) (b := y) (by omega)
      have g4 := HY1.out
      rw [yst_1] at g1
      have HYj := hidIt (HY.out j (by omega))
      have HSj := hidIt (yst_succ j)
      rw [HSj.out] at g2
      have g3 := ylen_bd j
      generalize yst j = a at *
      generalize ylen j = u at *
      generalize yst y = t at *
      have c1 : decide (u ≤ n - 1 - a) = true := by simp; omega
      go_wp2_with (go_at_call 59; refine (HYj.out _).mono ?_; rintro e w' ⟨rfl, rfl⟩)
      go_round
      case rel => exact ⟨j + 1, by omega, by omega, by go_num, by rw [HSj.out]; go_num⟩
      case measure => simp [RowKit.intOf]; omega
    · obtain rfl : j = y := by omega
      clear hlt hj
      have g4 := HY2.out
      rw [yst_succ] at g4
      have HYj := hidIt (HY.out j (by omega))
      have g3 := ylen_bd j
      have b3 := yst_le y1
      have b4 := yst_le (a := j) (b := 10000) (by omega)
      rw [yst_1] at b3
      rw [yst_10000] at b4
      generalize ylen j = u at *
      generalize yst j = t at *
      have c1 : decide (u ≤ n - 1 - t) = false := by simp; omega
      go_wp2_with (go_at_call 59; refine (HYj.out _).mono ?_; rintro e w' ⟨rfl, rfl⟩)
      obtain ⟨W, hW⟩ : ∃ W : World, W = w' := ⟨_, rfl⟩
      rw [← hW]
      go_loopw [6, 8] (fun a b wr => ∃ i : Nat, i ≤ k ∧ b = .int .i64 (i + 1) ∧ a = .int .i64 (s + d - 1 - mst j i) ∧ Below w'.heap.size w' wr) (fun _ b _ => (13 - RowKit.intOf b).toNat)
      case atStart => exact ⟨0, by omega, rfl, by rw [HZ.out]; congr 1; have := HSum.out; omega, by rw [hW]; exact Below.refl _ _⟩
      case round =>
        obtain ⟨i, hi, rfl, rfl, hbr⟩ := hrel
        have HB := hidIt hbr
        clear hbr hW
        have HMj := hidIt (HMi.out i hi)
        have g5 := HL.out (i + 1)
        have g6 := mst_nn j i
        by_cases hlt : i < k
        · have g7 := HN.out (i + 1) k (by omega)
          have HSi : Hid (mst j (i + 1) = mst j i + mlen j (i + 1)) := rfl
          rw [HQ.out, HSi.out] at g7
          have g8 : mst j i + mlen j (i + 1) ≤ s := by omega
          clear g7
          generalize mst j i = a at *
          generalize mlen j (i + 1) = v at *
          have c2 : decide (v ≤ s + d - 1 - a) = true := by simp; omega
          go_wp2_with fail
          refine (HMj.out _).mono ?_
          rintro e w2 ⟨rfl, hb2⟩
          have HB2 := hidIt (HB.out.trans (hb2.mono HB.out.size))
          clear hb2
          go_wp2_with fail
          refine (HMj.out _).mono ?_
          rintro e w3 ⟨rfl, hb3⟩
          have HB3 := hidIt (HB2.out.trans (hb3.mono HB2.out.size))
          clear hb3
          go_wp2
          go_roundw
          case rel => exact ⟨i + 1, by omega, by go_num, by rw [HSi.out]; go_num, HB3.out⟩
          case measure => simp [RowKit.intOf]; omega
        · obtain rfl : i = k := by omega
          clear hlt
          have g8 := HD2.out
          rw [HQ.out]
          generalize mlen j (i + 1) = v at *
          have c2 : decide (v ≤ s + d - 1 - s) = false := by simp; omega
          have HX : Hid (s + d - 1 - s + 1 = d) := by show _ = _; omega
          go_wp2_with fail
          refine (HMj.out _).mono ?_
          rintro e w2 ⟨rfl, hb2⟩
          have HB2 := hidIt (HB.out.trans (hb2.mono HB.out.size))
          clear hb2
          go_wp2
          go_ret3
          exact ⟨by rw [HX.out]; rfl, HB2.out⟩
end Go.Proofs.YtlebpojohaplnaaDoor

/-
  day.Months, the program's alone; the next month's first day.
-/
import Derived.Test.YtpijiglmjkdlgaaDoorParts
namespace Go.Proofs.YtpijiglmjkdlgaaDoor
open Go.RowKit Go.Extern.Stop Go.Stop Go.Extern

set_option maxHeartbeats 2000000 in
set_option maxRecDepth 10000 in
theorem months_in (n k y m d dd : Int) (w : World) (V X : Value) (R : World → Prop)
    (hP : ∀ w, Calls Tryd.prog 84 #[.int .i64 n] w fun e w' => e = .returned (.tuple #[.int .i64 y, .int .i64 m, .int .i64 d]) ∧ w' = w)
    (hD : isDayB n = true) (k1 : -119988 ≤ k) (k2 : k ≤ 119988) (y1 : 1 ≤ y) (y2 : y ≤ 9999) (m1 : 1 ≤ m) (m2 : m ≤ 12) (d1 : 1 ≤ d) (d2 : d ≤ 31)
    (ht : 12 ≤ y * 12 + m - 1 + k)
    (hl : dd = if mlen ((y * 12 + m - 1 + k) / 12) ((y * 12 + m - 1 + k) % 12 + 1) < d then mlen ((y * 12 + m - 1 + k) / 12) ((y * 12 + m - 1 + k) % 12 + 1) else d)
    (hO : Calls Tryd.prog 85 #[.int .i64 ((y * 12 + m - 1 + k) / 12), .int .i64 ((y * 12 + m - 1 + k) % 12 + 1), .int .i64 dd] w fun e w' => e = .returned (.tuple #[V, X]) ∧ R w') :
    Calls Tryd.prog 75 #[.int .i64 n, .int .i64 k] w fun e w' => e = .returned (.tuple #[V, X]) ∧ R w' := by
  have HP := hidIt hP
  have HD := hidIt (fun w => isDay_any n w)
  rw [hD] at HD
  have HO := hidIt hO
  have HM := hidIt (fun w => monthLength_any ((y * 12 + m - 1 + k) / 12) ((y * 12 + m - 1 + k) % 12 + 1) w (by omega))
  have hb := mlen_bd ((y * 12 + m - 1 + k) / 12) ((y * 12 + m - 1 + k) % 12 + 1)
  clear hP hO hD
  generalize mlen ((y * 12 + m - 1 + k) / 12) ((y * 12 + m - 1 + k) % 12 + 1) = l at *
  by_cases hld : l < d
  · rw [if_pos hld] at hl
    subst hl
    go_enter Tryd.func75, Tryd.ntmps75
    go_wp2_with fail
    refine (HD.out _).mono ?_
    rintro e w1 ⟨rfl, ew⟩
    subst w1
    go_wp2_with fail
    refine (HP.out _).mono ?_
    rintro e w1 ⟨rfl, ew⟩
    subst w1
    go_wp2_with fail
    refine (HM.out _).mono ?_
    rintro e w1 ⟨rfl, ew⟩
    subst w1
    go_wp2_with fail
    refine HO.out.mono ?_
    rintro e w1 ⟨rfl, hr⟩
    go_wp2
    go_ret2
    exact ⟨rfl, hr⟩
  · rw [if_neg hld] at hl
    subst hl
    go_enter Tryd.func75, Tryd.ntmps75
    go_wp2_with fail
    refine (HD.out _).mono ?_
    rintro e w1 ⟨rfl, ew⟩
    subst w1
    go_wp2_with fail
    refine (HP.out _).mono ?_
    rintro e w1 ⟨rfl, ew⟩
    subst w1
    go_wp2_with fail
    refine (HM.out _).mono ?_
    rintro e w1 ⟨rfl, ew⟩
    subst w1
    go_wp2_with fail
    refine HO.out.mono ?_
    rintro e w1 ⟨rfl, hr⟩
    go_wp2
    go_ret2
    exact ⟨rfl, hr⟩

set_option maxHeartbeats 1000000 in
theorem months_out (n k : Int) (a : Addr) (w : World) (hc : w.cell? ⟨0, 0, none⟩ = some (.iface 134 (.pointer (some a))))
    (h : isDayB n = false ∨ k < -119988 ∨ 119988 < k) :
    Calls Tryd.prog 75 #[.int .i64 n, .int .i64 k] w fun e w' => e = .returned (.tuple #[.int .i64 0, .iface 134 (.pointer (some a))]) ∧ ∃ k, w' = w.drewN k := by
  have HD := hidIt (fun w => isDay_any n w)
  cases hd : isDayB n
  · rw [hd] at HD
    clear h hd
    go_enter Tryd.func75, Tryd.ntmps75
    go_wp2_with (go_at_call 14; refine (HD.out _).mono ?_; rintro e w' ⟨rfl, rfl⟩)
    go_quiet (fail)
    go_wp2
    go_ret2
    exact ⟨rfl, _, rfl⟩
  · rw [hd] at HD h
    have h' : k < -119988 ∨ 119988 < k := by simpa using h
    clear h hd
    rcases h' with h | h
    all_goals
      go_enter Tryd.func75, Tryd.ntmps75
      go_wp2_with (go_at_call 14; refine (HD.out _).mono ?_; rintro e w' ⟨rfl, rfl⟩)
      go_quiet (fail)
      go_wp2
      go_ret2
      exact ⟨rfl, _, rfl⟩

theorem dof_next {y m : Int} (h : Date y m 1) (hl : m < 12 ∨ y < 9999) : ∃ y' m', Date y' m' 1 ∧ y' = (y * 12 + m - 1 + 1) / 12 ∧ m' = (y * 12 + m - 1 + 1) % 12 + 1 ∧ dof y' m' 1 = dof y m 1 + mlen y m := by
  have y1 := h.y1
  have y2 := h.y2
  have m1 := h.m1
  have m2 := h.m2
  by_cases hm : m < 12
  · refine ⟨y, m + 1, ⟨y1, y2, by omega, by omega, by omega, by have := mlen_bd y (m + 1); omega⟩, by omega, by omega, ?_⟩
    have := mst_step y m m1
    unfold dof
    rw [show m + 1 - 1 = m by omega, this]
    omega
  · obtain rfl : m = 12 := by omega
    refine ⟨y + 1, 1, ⟨by omega, by omega, by omega, by omega, by omega, by have := mlen_bd (y + 1) 1; omega⟩, by omega, by omega, ?_⟩
    have h1 := yst_succ y
    have h2 := mst_12 y
    have h3 := mst_step y 12 (by omega)
    rw [show (12 : Int).toNat = 12 from rfl] at h3
    unfold dof
    rw [show ((1 : Int) - 1).toNat = 0 from rfl, h1]
    have h0 : mst (y + 1) 0 = 0 := rfl
    omega
theorem months_next {y m : Int} (w : World) (h : Date y m 1) (hl : m < 12 ∨ y < 9999) : Calls Tryd.prog 75 #[.int .i64 (dof y m 1), .int .i64 1] w fun e w' => e = .returned (.tuple #[.int .i64 (dof y m 1 + mlen y m), .nilIface]) ∧ w' = w := by
  obtain ⟨y', m', hD, rfl, rfl, e⟩ := dof_next h hl
  rw [← e]
  refine months_in (dof y m 1) 1 y m 1 1 w _ _ (fun w' => w' = w) (fun w => parts_ok y m 1 w h) (isDayB_iff.2 h.isDay) (by omega) (by omega) h.y1 h.y2 h.m1 h.m2 (by omega) (by omega) (by have := h.y1; have := h.m1; omega) ?_ (of_ok _ _ 1 w hD)
  have := mlen_bd ((y * 12 + m - 1 + 1) / 12) ((y * 12 + m - 1 + 1) % 12 + 1)
  rw [if_neg (by omega)]
theorem months_last {y m : Int} (a : Addr) (w : World) (hc : w.cell? ⟨0, 0, none⟩ = some (.iface 134 (.pointer (some a)))) (h : Date y m 1) (hl : ¬ (m < 12 ∨ y < 9999)) :
    Calls Tryd.prog 75 #[.int .i64 (dof y m 1), .int .i64 1] w fun e w' => e = .returned (.tuple #[.int .i64 0, .iface 134 (.pointer (some a))]) ∧ ∃ k, w' = w.drewN k := by
  have y2 := h.y2
  have m2 := h.m2
  refine months_in (dof y m 1) 1 y m 1 1 w _ _ (fun w' => ∃ k, w' = w.drewN k) (fun w => parts_ok y m 1 w h) (isDayB_iff.2 h.isDay) (by omega) (by omega) h.y1 h.y2 h.m1 h.m2 (by omega) (by omega) (by have := h.y1; have := h.m1; omega) ?_ (of_bad _ _ 1 a w hc (fun hD => ?_))
  · have := mlen_bd ((y * 12 + m - 1 + 1) / 12) ((y * 12 + m - 1 + 1) % 12 + 1)
    rw [if_neg (by omega)]
  · have := hD.y2
    omega
end Go.Proofs.YtpijiglmjkdlgaaDoor

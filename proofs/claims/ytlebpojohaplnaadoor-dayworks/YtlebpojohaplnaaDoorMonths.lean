/-
  day.Months, the reference's MonthsOn.
-/
import Derived.Test.YtlebpojohaplnaaDoorAgree
namespace Go.Proofs.YtlebpojohaplnaaDoor
open Go.RowKit Go.Extern.Stop Go.Stop Go.Extern

set_option maxHeartbeats 2000000 in
set_option maxRecDepth 10000 in
theorem months_in (n k y m d dd : Int) (w : World) (V X : Value) (R : World → Prop)
    (hP : ∀ w, Calls Tryd.prog 75 #[.int .i64 n] w fun e w' => e = .returned (.tuple #[.int .i64 y, .int .i64 m, .int .i64 d]) ∧ w' = w)
    (hD : isDayB n = true) (k1 : -119988 ≤ k) (k2 : k ≤ 119988) (y1 : 1 ≤ y) (y2 : y ≤ 9999) (m1 : 1 ≤ m) (m2 : m ≤ 12) (d1 : 1 ≤ d) (d2 : d ≤ 31)
    (ht : 12 ≤ y * 12 + m - 1 + k)
    (hl : dd = if mlen ((y * 12 + m - 1 + k) / 12) ((y * 12 + m - 1 + k) % 12 + 1) < d then mlen ((y * 12 + m - 1 + k) / 12) ((y * 12 + m - 1 + k) % 12 + 1) else d)
    (hO : Calls Tryd.prog 76 #[.int .i64 ((y * 12 + m - 1 + k) / 12), .int .i64 ((y * 12 + m - 1 + k) % 12 + 1), .int .i64 dd] w fun e w' => e = .returned (.tuple #[V, X]) ∧ R w') :
    Calls Tryd.prog 58 #[.int .i64 n, .int .i64 k] w fun e w' => e = .returned (.tuple #[V, X]) ∧ R w' := by
  have HP := hidIt hP
  have HD := hidIt (fun w => isDay_any n w)
  rw [hD] at HD
  have HO := hidIt hO
  have HM := hidIt (fun w => monthLength_any ((y * 12 + m - 1 + k) / 12) ((y * 12 + m - 1 + k) % 12 + 1) w (by omega))
  have hb := mlen_bd ((y * 12 + m - 1 + k) / 12) ((y * 12 + m - 1 + k) % 12 + 1)
  clear hP hO hD
  generalize mlen ((y * 12 + m - 1 + k) / 12) ((y * 12 + m - 1 + k) % 12 + 1) = l at *
  by_cases hld : l < d
  · rw [if_pos hld] at hl
    subst hl
    go_enter Tryd.func58, Tryd.ntmps58
    go_wp2_with fail
    refine (HD.out _).mono ?_
    rintro e w1 ⟨rfl, ew⟩
    subst w1
    go_wp2_with fail
    refine (HP.out _).mono ?_
    rintro e w1 ⟨rfl, ew⟩
    subst w1
    go_wp2_with fail
    refine (HM.out _).mono ?_
    rintro e w1 ⟨rfl, ew⟩
    subst w1
    go_wp2_with fail
    refine HO.out.mono ?_
    rintro e w1 ⟨rfl, hr⟩
    go_wp2
    go_ret2
    exact ⟨rfl, hr⟩
  · rw [if_neg hld] at hl
    subst hl
    go_enter Tryd.func58, Tryd.ntmps58
    go_wp2_with fail
    refine (HD.out _).mono ?_
    rintro e w1 ⟨rfl, ew⟩
    subst w1
    go_wp2_with fail
    refine (HP.out _).mono ?_
    rintro e w1 ⟨rfl, ew⟩
    subst w1
    go_wp2_with fail
    refine (HM.out _).mono ?_
    rintro e w1 ⟨rfl, ew⟩
    subst w1
    go_wp2_with fail
    refine HO.out.mono ?_
    rintro e w1 ⟨rfl, hr⟩
    go_wp2
    go_ret2
    exact ⟨rfl, hr⟩

set_option maxHeartbeats 1000000 in
theorem months_out (n k : Int) (a : Addr) (w : World) (hc : w.cell? ⟨1, 0, none⟩ = some (.iface 129 (.pointer (some a))))
    (h : isDayB n = false ∨ k < -119988 ∨ 119988 < k) :
    Calls Tryd.prog 58 #[.int .i64 n, .int .i64 k] w fun e w' => e = .returned (.tuple #[.int .i64 0, .iface 129 (.pointer (some a))]) ∧ ∃ k, w' = w.drewN k := by
  have HD := hidIt (fun w => isDay_any n w)
  cases hd : isDayB n
  · rw [hd] at HD
    clear h hd
    go_enter Tryd.func58, Tryd.ntmps58
    go_wp2_with (go_at_call 18; refine (HD.out _).mono ?_; rintro e w' ⟨rfl, rfl⟩)
    go_quiet (fail)
    go_wp2
    go_ret2
    exact ⟨rfl, _, rfl⟩
  · rw [hd] at HD h
    have h' : k < -119988 ∨ 119988 < k := by simpa using h
    clear h hd
    rcases h' with h | h
    all_goals
      go_enter Tryd.func58, Tryd.ntmps58
      go_wp2_with (go_at_call 18; refine (HD.out _).mono ?_; rintro e w' ⟨rfl, rfl⟩)
      go_quiet (fail)
      go_wp2
      go_ret2
      exact ⟨rfl, _, rfl⟩

set_option maxHeartbeats 1000000 in
theorem months_low (n k y m d : Int) (a : Addr) (w : World) (hc : w.cell? ⟨1, 0, none⟩ = some (.iface 129 (.pointer (some a))))
    (hP : ∀ w, Calls Tryd.prog 75 #[.int .i64 n] w fun e w' => e = .returned (.tuple #[.int .i64 y, .int .i64 m, .int .i64 d]) ∧ w' = w)
    (hD : isDayB n = true) (k1 : -119988 ≤ k) (k2 : k ≤ 119988) (y1 : 1 ≤ y) (y2 : y ≤ 9999) (m1 : 1 ≤ m) (m2 : m ≤ 12) (ht : y * 12 + m - 1 + k < 12) :
    Calls Tryd.prog 58 #[.int .i64 n, .int .i64 k] w fun e w' => e = .returned (.tuple #[.int .i64 0, .iface 129 (.pointer (some a))]) ∧ ∃ k, w' = w.drewN k := by
  have HP := hidIt hP
  have HD := hidIt (fun w => isDay_any n w)
  rw [hD] at HD
  clear hP hD
  go_enter Tryd.func58, Tryd.ntmps58
  go_wp2_with fail
  refine (HD.out _).mono ?_
  rintro e w1 ⟨rfl, ew⟩
  subst w1
  go_wp2_with fail
  refine (HP.out _).mono ?_
  rintro e w1 ⟨rfl, ew⟩
  subst w1
  go_wp2
  go_quiet (fail)
  go_wp2
  go_ret2
  exact ⟨rfl, _, rfl⟩

set_option maxHeartbeats 1000000 in
theorem rMonths_out (n k : Int) (w : World) (h : isDayB n = false ∨ k < -200000 ∨ 200000 < k) :
    Calls Tryd.prog 30 #[.int .i64 n, .int .i64 k] w fun e w' => e = .returned (.tuple #[.int .i64 0, .int .i64 4]) ∧ Below w.heap.size w w' := by
  have HD := hidIt (fun w => rIsDay_any n w)
  cases hd : isDayB n
  · rw [hd] at HD
    clear h hd
    go_enter Tryd.func30, Tryd.ntmps30
    go_wp2_with (go_at_call 23; refine (HD.out _).mono ?_; rintro e w' ⟨rfl, rfl⟩)
    go_ret2
    exact ⟨rfl, Below.refl _ _⟩
  · rw [hd] at HD h
    have h' : k < -200000 ∨ 200000 < k := by simpa using h
    clear h hd
    rcases h' with h | h
    all_goals
      go_enter Tryd.func30, Tryd.ntmps30
      go_wp2_with (go_at_call 23; refine (HD.out _).mono ?_; rintro e w' ⟨rfl, rfl⟩)
      go_ret2
      exact ⟨rfl, Below.refl _ _⟩

set_option maxHeartbeats 1000000 in
set_option maxRecDepth 10000 in
theorem rMonths_low (n k y m d : Int) (w : World)
    (hP : ∀ w, Calls Tryd.prog 43 #[.int .i64 n] w fun e w' => e = .returned (.tuple #[.int .i64 y, .int .i64 m, .int .i64 d]) ∧ Below w.heap.size w w')
    (hD : isDayB n = true) (k1 : -200000 ≤ k) (k2 : k ≤ 200000) (y1 : 1 ≤ y) (y2 : y ≤ 9999) (m1 : 1 ≤ m) (m2 : m ≤ 12)
    (ht : (y - 1) * 12 + m - 1 + k < 0 ∨ 119988 ≤ (y - 1) * 12 + m - 1 + k) :
    Calls Tryd.prog 30 #[.int .i64 n, .int .i64 k] w fun e w' => e = .returned (.tuple #[.int .i64 0, .int .i64 4]) ∧ Below w.heap.size w w' := by
  have HP := hidIt hP
  have HD := hidIt (fun w => rIsDay_any n w)
  rw [hD] at HD
  clear hP hD
  rcases ht with ht | ht
  all_goals
    go_enter Tryd.func30, Tryd.ntmps30
    go_wp2_with fail
    refine (HD.out _).mono ?_
    rintro e w1 ⟨rfl, ew⟩
    subst w1
    go_wp2_with fail
    refine (HP.out _).mono ?_
    rintro e w1 ⟨rfl, hb1⟩
    go_wp2
    go_ret2
    exact ⟨rfl, hb1⟩

set_option maxHeartbeats 2000000 in
set_option maxRecDepth 10000 in
theorem rMonths_in (n k y m d dd v : Int) (w : World)
    (hP : ∀ w, Calls Tryd.prog 43 #[.int .i64 n] w fun e w' => e = .returned (.tuple #[.int .i64 y, .int .i64 m, .int .i64 d]) ∧ Below w.heap.size w w')
    (hD : isDayB n = true) (k1 : -200000 ≤ k) (k2 : k ≤ 200000) (y1 : 1 ≤ y) (y2 : y ≤ 9999) (d1 : 1 ≤ d) (d2 : d ≤ 31)
    (ht1 : 0 ≤ (y - 1) * 12 + m - 1 + k) (ht2 : (y - 1) * 12 + m - 1 + k < 119988)
    (hl : dd = if mlen (((y - 1) * 12 + m - 1 + k) / 12 + 1) (((y - 1) * 12 + m - 1 + k) % 12 + 1) < d then mlen (((y - 1) * 12 + m - 1 + k) / 12 + 1) (((y - 1) * 12 + m - 1 + k) % 12 + 1) else d)
    (hO : ∀ w, Calls Tryd.prog 45 #[.int .i64 (((y - 1) * 12 + m - 1 + k) / 12 + 1), .int .i64 (((y - 1) * 12 + m - 1 + k) % 12 + 1), .int .i64 dd] w fun e w' => e = .returned (.tuple #[.int .i64 v, .int .i64 0]) ∧ Below w.heap.size w w') :
    Calls Tryd.prog 30 #[.int .i64 n, .int .i64 k] w fun e w' => e = .returned (.tuple #[.int .i64 v, .int .i64 0]) ∧ Below w.heap.size w w' := by
  have HP := hidIt hP
  have HD := hidIt (fun w => rIsDay_any n w)
  rw [hD] at HD
  have HO := hidIt hO
  have HM := hidIt (fun w => rDaysOf_any (((y - 1) * 12 + m - 1 + k) / 12 + 1) (((y - 1) * 12 + m - 1 + k) % 12 + 1) w (by omega) (by omega) (by omega))
  have hb := mlen_bd (((y - 1) * 12 + m - 1 + k) / 12 + 1) (((y - 1) * 12 + m - 1 + k) % 12 + 1)
  clear hP hO hD
  generalize mlen (((y - 1) * 12 + m - 1 + k) / 12 + 1) (((y - 1) * 12 + m - 1 + k) % 12 + 1) = l at *
  by_cases hld : l < d
  · rw [if_pos hld] at hl
    subst hl
    go_enter Tryd.func30, Tryd.ntmps30
    go_wp2_with fail
    refine (HD.out _).mono ?_
    rintro e w1 ⟨rfl, ew⟩
    subst w1
    go_wp2_with fail
    refine (HP.out _).mono ?_
    rintro e w1 ⟨rfl, hb1⟩
    have HB1 := hidIt hb1
    clear hb1
    go_wp2_with fail
    refine (HM.out _).mono ?_
    rintro e w2 ⟨rfl, hb2⟩
    have HB2 := hidIt (HB1.out.trans (hb2.mono HB1.out.size))
    clear hb2
    go_wp2_with fail
    refine (HM.out _).mono ?_
    rintro e w3 ⟨rfl, hb3⟩
    have HB3 := hidIt (HB2.out.trans (hb3.mono HB2.out.size))
    clear hb3
    go_wp2_with fail
    refine (HO.out _).mono ?_
    rintro e w4 ⟨rfl, hb4⟩
    have HB4 := hidIt (HB3.out.trans (hb4.mono HB3.out.size))
    clear hb4
    go_wp2
    go_ret2
    exact ⟨rfl, HB4.out⟩
  · rw [if_neg hld] at hl
    subst hl
    go_enter Tryd.func30, Tryd.ntmps30
    go_wp2_with fail
    refine (HD.out _).mono ?_
    rintro e w1 ⟨rfl, ew⟩
    subst w1
    go_wp2_with fail
    refine (HP.out _).mono ?_
    rintro e w1 ⟨rfl, hb1⟩
    have HB1 := hidIt hb1
    clear hb1
    go_wp2_with fail
    refine (HM.out _).mono ?_
    rintro e w2 ⟨rfl, hb2⟩
    have HB2 := hidIt (HB1.out.trans (hb2.mono HB1.out.size))
    clear hb2
    go_wp2_with fail
    refine (HO.out _).mono ?_
    rintro e w4 ⟨rfl, hb4⟩
    have HB4 := hidIt (HB2.out.trans (hb4.mono HB2.out.size))
    clear hb4
    go_wp2
    go_ret2
    exact ⟨rfl, HB4.out⟩

/-- The same date, months later, to both. -/
theorem agree_months (n k : Int) (p : Nat → Addr) :
    (∃ v, (∀ w, Calls Tryd.prog 58 #[.int .i64 n, .int .i64 k] w fun e w' => e = .returned (.tuple #[.int .i64 v, .nilIface]) ∧ w' = w) ∧ isDayB v = true ∧
      (∀ w, Calls Tryd.prog 30 #[.int .i64 n, .int .i64 k] w fun e w' => e = .returned (.tuple #[.int .i64 v, .int .i64 0]) ∧ Below w.heap.size w w')) ∨
    ((∀ w, Laid w p → Calls Tryd.prog 58 #[.int .i64 n, .int .i64 k] w fun e w' => e = .returned (.tuple #[.int .i64 0, .iface 129 (.pointer (some (p 3)))]) ∧ ∃ k, w' = w.drewN k) ∧
      (∀ w, Calls Tryd.prog 30 #[.int .i64 n, .int .i64 k] w fun e w' => e = .returned (.tuple #[.int .i64 0, .int .i64 4]) ∧ Below w.heap.size w w')) := by
  cases hd : isDayB n
  · exact .inr ⟨fun w L => months_out n k (p 3) w (L.cell 3 (by omega)) (.inl hd), fun w => rMonths_out n k w (.inl hd)⟩
  obtain ⟨h1, h2⟩ := isDayB_iff.1 hd
  obtain ⟨y, m, d, hD, he⟩ := date_ex h1 h2
  have hP : ∀ w, Calls Tryd.prog 75 #[.int .i64 n] w fun e w' => e = .returned (.tuple #[.int .i64 y, .int .i64 m, .int .i64 d]) ∧ w' = w := fun w => by
    have := parts_ok y m d w hD; rwa [he] at this
  have hQ : ∀ w, Calls Tryd.prog 43 #[.int .i64 n] w fun e w' => e = .returned (.tuple #[.int .i64 y, .int .i64 m, .int .i64 d]) ∧ Below w.heap.size w w' := fun w => by
    have := rParts_ok y m d w hD; rwa [he] at this
  have y1 := hD.y1
  have y2 := hD.y2
  have m1 := hD.m1
  have m2 := hD.m2
  have d1 := hD.d1
  have d2 : d ≤ 31 := by have := hD.d2; have := mlen_bd y m; omega
  by_cases hk : k < -119988 ∨ 119988 < k
  · refine .inr ⟨fun w L => months_out n k (p 3) w (L.cell 3 (by omega)) (.inr hk), fun w => ?_⟩
    by_cases hk2 : k < -200000 ∨ 200000 < k
    · exact rMonths_out n k w (.inr hk2)
    · exact rMonths_low n k y m d w hQ hd (by omega) (by omega) y1 y2 m1 m2 (by omega)
  · by_cases hlow : y * 12 + m - 1 + k < 12
    · exact .inr ⟨fun w L => months_low n k y m d (p 3) w (L.cell 3 (by omega)) hP hd (by omega) (by omega) y1 y2 m1 m2 hlow, fun w => rMonths_low n k y m d w hQ hd (by omega) (by omega) y1 y2 m1 m2 (by omega)⟩
    · have eY : ((y - 1) * 12 + m - 1 + k) / 12 + 1 = (y * 12 + m - 1 + k) / 12 := by omega
      have eM : ((y - 1) * 12 + m - 1 + k) % 12 + 1 = (y * 12 + m - 1 + k) % 12 + 1 := by omega
      have hb := mlen_bd ((y * 12 + m - 1 + k) / 12) ((y * 12 + m - 1 + k) % 12 + 1)
      obtain ⟨dd, hdd⟩ : ∃ dd, dd = if mlen ((y * 12 + m - 1 + k) / 12) ((y * 12 + m - 1 + k) % 12 + 1) < d then mlen ((y * 12 + m - 1 + k) / 12) ((y * 12 + m - 1 + k) % 12 + 1) else d := ⟨_, rfl⟩
      have hdd1 : 1 ≤ dd ∧ dd ≤ mlen ((y * 12 + m - 1 + k) / 12) ((y * 12 + m - 1 + k) % 12 + 1) := by rw [hdd]; split <;> omega
      by_cases hhi : 120000 ≤ y * 12 + m - 1 + k
      · refine .inr ⟨fun w L => months_in n k y m d dd w _ _ _ hP hd (by omega) (by omega) y1 y2 m1 m2 d1 d2 (by omega) hdd (of_bad _ _ _ (p 3) w (L.cell 3 (by omega)) (fun h => by have := h.y2; omega)), fun w => rMonths_low n k y m d w hQ hd (by omega) (by omega) y1 y2 m1 m2 (by omega)⟩
      · have hD' : Date ((y * 12 + m - 1 + k) / 12) ((y * 12 + m - 1 + k) % 12 + 1) dd := ⟨by omega, by omega, by omega, by omega, hdd1.1, hdd1.2⟩
        refine .inl ⟨dof ((y * 12 + m - 1 + k) / 12) ((y * 12 + m - 1 + k) % 12 + 1) dd, fun w => months_in n k y m d dd w _ _ _ hP hd (by omega) (by omega) y1 y2 m1 m2 d1 d2 (by omega) hdd (of_ok _ _ _ w hD'), isDayB_iff.2 hD'.isDay, fun w => ?_⟩
        refine rMonths_in n k y m d dd _ w hQ hd (by omega) (by omega) y1 y2 d1 d2 (by omega) (by omega) ?_ ?_
        · rw [eY, eM]; exact hdd
        · intro w; rw [eY, eM]; exact rDayOf_ok _ _ _ w hD'

end Go.Proofs.YtlebpojohaplnaaDoor

/-
  The walk of DayNext.
-/
import Derived.Test.YtepljjagfoiinaaDoorParts
namespace Go.Proofs.YtepljjagfoiinaaDoor
open Go.RowKit Go.Extern.Stop Go.Stop Go.Extern

/-- The next day's date. -/
theorem next_date {y m d : Int} (h : Date y m d) (hl : dof y m d < 3652059) :
    (Date y m (d + 1) ∧ dof y m (d + 1) = dof y m d + 1) ∨ (Date y (m + 1) 1 ∧ dof y (m + 1) 1 = dof y m d + 1) ∨ (m = 12 ∧ Date (y + 1) 1 1 ∧ dof (y + 1) 1 1 = dof y m d + 1) := by
  have hs := mst_step y m h.m1
  have hm1 := h.m1
  have hm2 := h.m2
  have hd1 := h.d1
  have hd2 := h.d2
  by_cases k : d < mlen y m
  · exact .inl ⟨⟨h.y1, h.y2, h.m1, h.m2, by omega, by omega⟩, by unfold dof; omega⟩
  · by_cases k2 : m < 12
    · refine .inr (.inl ⟨⟨h.y1, h.y2, by omega, by omega, by omega, by have := mlen_bd y (m + 1); omega⟩, ?_⟩)
      unfold dof
      rw [show (m + 1 - 1).toNat = m.toNat by omega, hs]
      omega
    · obtain rfl : m = 12 := by omega
      have hy := yst_succ y
      have h12 := mst_12 y
      have e : (12 : Int).toNat = 12 := by decide
      rw [e, h12] at hs
      have he : dof (y + 1) 1 1 = dof y 12 d + 1 := by
        unfold dof
        rw [show ((1 : Int) - 1).toNat = 0 by decide, hy]
        simp only [mst]
        omega
      refine .inr (.inr ⟨rfl, ⟨by have := h.y1; omega, ?_, by omega, by omega, by omega, by have := mlen_bd (y + 1) 1; omega⟩, he⟩)
      rcases ltge y 9999 with c | c
      · omega
      · have hy9 : y = 9999 := by have := h.y2; omega
        subst hy9
        exfalso
        unfold dof at hl he
        have e1 : yst (9999 + 1) = 3652059 := by decide
        have e2 : mst (9999 + 1) ((1 : Int) - 1).toNat = 0 := rfl
        rw [e1, e2] at he
        omega
theorem wk_next (n : Int) : (wk (n + 1) == (wk n + 1) % 7) = true := by unfold wk; rw [beq_iff_eq]; omega
theorem of_111 (w : World) : Calls Tryd.prog 9 #[.int .i64 1, .int .i64 1, .int .i64 1] w fun e w' => e = .returned (.tuple #[.int .i64 1, .nilIface]) ∧ w' = w :=
  of_ok 1 1 1 w ⟨by decide, by decide, by decide, by decide, by decide, by decide⟩

set_option maxHeartbeats 2000000 in
set_option maxRecDepth 10000 in
theorem dayNext_in (n y m d a b c : Int) (w : World) (h1 : 1 ≤ n) (h2 : n < 3652059)
    (hP : ∀ w, Calls Tryd.prog 13 #[.int .i64 n] w fun e w' => e = .returned (.tuple #[.int .i64 y, .int .i64 m, .int .i64 d]) ∧ w' = w)
    (hQ : ∀ w, Calls Tryd.prog 13 #[.int .i64 (n + 1)] w fun e w' => e = .returned (.tuple #[.int .i64 a, .int .i64 b, .int .i64 c]) ∧ w' = w)
    (hO : ∀ w, Calls Tryd.prog 9 #[.int .i64 y, .int .i64 m, .int .i64 d] w fun e w' => e = .returned (.tuple #[.int .i64 n, .nilIface]) ∧ w' = w)
    (y2 : y ≤ 9999) (m2 : m ≤ 12) (d2 : d ≤ 31) (y1 : 1 ≤ y) (m1 : 1 ≤ m) (d1 : 1 ≤ d)
    (hc : (a = y ∧ b = m ∧ c = d + 1) ∨ (a = y ∧ b = m + 1 ∧ c = 1) ∨ (m = 12 ∧ a = y + 1 ∧ b = 1 ∧ c = 1)) :
    Calls Tryd.prog 4 #[.int .i64 n] w fun e w' => e = .returned (.bool true) ∧ w' = w := by
  have HP := hidIt hP
  have HQ := hidIt hQ
  have HO := hidIt hO
  have HW := hidIt (fun w => week_ok n w h1 (by omega))
  have HV := hidIt (fun w => week_ok (n + 1) w (by omega) (by omega))
  have hu := wk_bd n
  have huv := wk_next n
  clear hP hQ hO
  generalize wk n = u at *
  generalize wk (n + 1) = v at *
  have s1 : (m + 1 == m) = false := by simp; omega
  have s2 : (y == y + 1) = false := by simp; omega
  have s3 : (y + 1 == y) = false := by simp; omega
  rcases hc with ⟨rfl, rfl, rfl⟩ | ⟨rfl, rfl, rfl⟩ | ⟨rfl, rfl, rfl, rfl⟩
  all_goals
    go_enter Tryd.func4, Tryd.ntmps4
    go_wp2_with fail
    refine (of_111 _).mono ?_
    rintro e w' ⟨rfl, rfl⟩
    go_wp2_with fail
    refine (HP.out _).mono ?_
    rintro e w' ⟨rfl, rfl⟩
    go_wp2_with fail
    refine (HQ.out _).mono ?_
    rintro e w' ⟨rfl, rfl⟩
    go_wp2_with fail
    refine (HO.out _).mono ?_
    rintro e w' ⟨rfl, rfl⟩
    go_wp2_with fail
    refine (HV.out _).mono ?_
    rintro e w' ⟨rfl, rfl⟩
    go_wp2_with fail
    refine (HW.out _).mono ?_
    rintro e w' ⟨rfl, rfl⟩
    go_wp2
    go_ret
    exact ⟨rfl, rfl⟩

set_option maxHeartbeats 1000000 in
set_option maxRecDepth 10000 in
theorem dayNext_walk (n : Int) (w : World) : Calls Tryd.prog 4 #[.int .i64 n] w fun e w' => e = .returned (.bool true) ∧ w' = w := by
  by_cases h : 1 ≤ n ∧ n < 3652059
  · obtain ⟨y, m, d, hd, he⟩ := date_ex h.1 (by omega)
    obtain ⟨a, b, c, hd', he'⟩ := date_ex (n := n + 1) (by omega) (by omega)
    refine dayNext_in n y m d a b c w h.1 h.2 ?_ ?_ ?_ hd.y2 hd.m2 (by have := hd.d2; have := mlen_bd y m; omega) hd.y1 hd.m1 hd.d1 ?_
    · intro w; have := parts_ok y m d w hd; rwa [he] at this
    · intro w; have := parts_ok a b c w hd'; rwa [he'] at this
    · intro w; have := of_ok y m d w hd; rwa [he] at this
    · rcases next_date hd (by omega) with ⟨x, e⟩ | ⟨x, e⟩ | ⟨rfl, x, e⟩
      · obtain ⟨r1, r2, r3⟩ := hd'.uniq x (by rw [e, he, he'])
        exact .inl ⟨r1, r2, r3⟩
      · obtain ⟨r1, r2, r3⟩ := hd'.uniq x (by rw [e, he, he'])
        exact .inr (.inl ⟨r1, r2, r3⟩)
      · obtain ⟨r1, r2, r3⟩ := hd'.uniq x (by rw [e, he, he'])
        exact .inr (.inr ⟨rfl, r1, r2, r3⟩)
  · by_cases hm : n = 3652059
    · have HP := hidIt (fun w => parts_ok 9999 12 31 w ⟨by decide, by decide, by decide, by decide, by decide, by decide⟩)
      rw [show dof 9999 12 31 = 3652059 by decide] at HP
      subst hm
      go_enter Tryd.func4, Tryd.ntmps4
      go_wp2_with fail
      refine (of_111 _).mono ?_
      rintro e w' ⟨rfl, rfl⟩
      go_wp2_with fail
      refine (HP.out _).mono ?_
      rintro e w' ⟨rfl, rfl⟩
      go_wp2
      go_ret
      exact ⟨rfl, rfl⟩
    · have HP := hidIt (fun w => parts_no n w (isDayB_f.2 (by omega)))
      have e1 : (n == 3652059) = false := by simpa using hm
      have hd : (decide (n < 1) || decide (3652059 ≤ n)) = true := by simp; omega
      by_cases hn : n < 1
      · clear h hm hd
        go_enter Tryd.func4, Tryd.ntmps4
        go_wp2_with fail
        refine (of_111 _).mono ?_
        rintro e w' ⟨rfl, rfl⟩
        go_wp2_with fail
        refine (HP.out _).mono ?_
        rintro e w' ⟨rfl, rfl⟩
        go_wp2
        go_ret
        exact ⟨rfl, rfl⟩
      · have hg : 3652059 ≤ n := by omega
        clear h hm hd
        go_enter Tryd.func4, Tryd.ntmps4
        go_wp2_with fail
        refine (of_111 _).mono ?_
        rintro e w' ⟨rfl, rfl⟩
        go_wp2_with fail
        refine (HP.out _).mono ?_
        rintro e w' ⟨rfl, rfl⟩
        go_wp2
        go_ret
        exact ⟨rfl, rfl⟩
end Go.Proofs.YtepljjagfoiinaaDoor

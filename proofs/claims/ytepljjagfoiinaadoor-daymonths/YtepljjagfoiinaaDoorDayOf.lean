/-
  The walk of DayOf.
-/
import Derived.Test.YtepljjagfoiinaaDoorAgree
namespace Go.Proofs.YtepljjagfoiinaaDoor
open Go.RowKit Go.Extern.Stop Go.Stop Go.Extern

theorem of_today (w : World) : Calls Tryd.prog 9 #[.int .i64 2026, .int .i64 11, .int .i64 15] w fun e w' => e = .returned (.tuple #[.int .i64 739935, .nilIface]) ∧ w' = w := by
  have h := of_ok 2026 11 15 w ⟨by decide, by decide, by decide, by decide, by decide, by decide⟩
  rw [show dof 2026 11 15 = 739935 by decide] at h
  exact h
theorem week_today (w : World) : Calls Tryd.prog 10 #[.int .i64 739935] w fun e w' => e = .returned (.int .i64 6) ∧ w' = w := by
  have h := week_ok 739935 w (by decide) (by decide)
  rw [show wk 739935 = 6 by decide] at h
  exact h

set_option maxHeartbeats 2000000 in
set_option maxRecDepth 10000 in
theorem dayOf_walk (y m d n : Int) (p : Nat → Addr) (w : World) (L : Laid w p) :
    Calls Tryd.prog 3 #[.int .i64 y, .int .i64 m, .int .i64 d, .int .i64 n] w fun e w' => e = .returned (.bool true) ∧ Below w.heap.size w w' := by
  obtain ⟨a, b, c, hp, hq⟩ := agree_parts n
  obtain ⟨u, hu, hv⟩ := agree_week n
  have HP := hidIt hp
  have HQ := hidIt hq
  have HU := hidIt hu
  have HV := hidIt hv
  have HL := hidIt L
  clear hp hq hu hv L
  rcases agree_of y m d p with ⟨v, ho, hr⟩ | ⟨ho, hr⟩
  · have HO := hidIt ho
    have HR := hidIt hr
    clear ho hr
    go_enter Tryd.func3, Tryd.ntmps3
    go_wp2_with fail
    refine (of_today _).mono ?_
    rintro e w1 ⟨rfl, ew⟩
    subst w1
    go_wp2_with fail
    refine (week_today _).mono ?_
    rintro e w1 ⟨rfl, ew⟩
    subst w1
    go_wp2_with fail
    refine (HO.out _).mono ?_
    rintro e w1 ⟨rfl, ew⟩
    subst w1
    go_wp2_with fail
    refine (HR.out _).mono ?_
    rintro e w2 ⟨rfl, hb2⟩
    have HB2 := hidIt hb2
    clear hb2
    go_wp2_with fail
    refine (coded_nil _ _).mono ?_
    rintro e w3 ⟨rfl, ew⟩
    subst w3
    go_wp2_with fail
    refine (HP.out _).mono ?_
    rintro e w3 ⟨rfl, ew⟩
    subst w3
    go_wp2_with fail
    refine (HQ.out _).mono ?_
    rintro e w4 ⟨rfl, hb4⟩
    have HB4 := hidIt (HB2.out.trans (hb4.mono HB2.out.size))
    clear hb4
    go_wp2_with fail
    refine (HU.out _).mono ?_
    rintro e w5 ⟨rfl, ew⟩
    subst w5
    go_wp2_with fail
    refine (HV.out _).mono ?_
    rintro e w5 ⟨rfl, ew⟩
    subst w5
    go_wp2
    go_ret
    exact ⟨rfl, HB4.out⟩
  · have HO := hidIt ho
    have HR := hidIt hr
    clear ho hr
    go_enter Tryd.func3, Tryd.ntmps3
    go_wp2_with fail
    refine (of_today _).mono ?_
    rintro e w1 ⟨rfl, ew⟩
    subst w1
    go_wp2_with fail
    refine (week_today _).mono ?_
    rintro e w1 ⟨rfl, ew⟩
    subst w1
    go_wp2_with fail
    refine (HO.out _ HL.out).mono ?_
    rintro e w1 ⟨rfl, k, hk⟩
    have HB1 : Hid (Below w.heap.size w w1) := by show Below _ _ _; rw [hk]; exact bdrewN (Below.refl _ _) _
    clear hk
    go_wp2_with fail
    refine (HR.out _).mono ?_
    rintro e w2 ⟨rfl, hb2⟩
    have HB2 := hidIt (HB1.out.trans (hb2.mono HB1.out.size))
    clear hb2
    go_wp2_with fail
    refine (coded_sent 3 (by omega) _ p _ (HL.out.below HB2.out)).mono ?_
    rintro e w3 ⟨rfl, hb3⟩
    have HB3 := hidIt (HB2.out.trans (hb3.mono HB2.out.size))
    clear hb3
    go_wp2_with fail
    refine (HP.out _).mono ?_
    rintro e w4 ⟨rfl, ew⟩
    subst w4
    go_wp2_with fail
    refine (HQ.out _).mono ?_
    rintro e w4 ⟨rfl, hb4⟩
    have HB4 := hidIt (HB3.out.trans (hb4.mono HB3.out.size))
    clear hb4
    go_wp2_with fail
    refine (HU.out _).mono ?_
    rintro e w5 ⟨rfl, ew⟩
    subst w5
    go_wp2_with fail
    refine (HV.out _).mono ?_
    rintro e w5 ⟨rfl, ew⟩
    subst w5
    go_wp2
    go_ret
    exact ⟨rfl, HB4.out⟩
end Go.Proofs.YtepljjagfoiinaaDoor

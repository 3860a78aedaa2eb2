/-
  The walk of DayWorks.
-/
import Derived.Test.YtlebpojohaplnaaDoorBothAny
import Derived.Test.YtlebpojohaplnaaDoorRefCount
namespace Go.Proofs.YtlebpojohaplnaaDoor
open Go.RowKit Go.Extern.Stop Go.Stop Go.Extern

set_option maxHeartbeats 4000000 in
set_option maxRecDepth 10000 in
theorem dayWorks_walk (oa ha : Option Addr) (n cap m c2 : Nat) (B : Nat → Bool) (xs : List Int) (d how to : Int) (p : Nat → Addr) (w : World) (L : Laid w p) (hc : CalArg w B n oa ha m c2 xs) :
    Calls Tryd.prog 3 #[.agg #[.slice oa n cap, .slice ha m c2], .int .i64 d, .int .i64 how, .int .i64 to] w fun e w' => e = .returned (.bool true) ∧ Below w.heap.size w w' := by
  have HC := hidIt hc
  have HL := hidIt L
  have HW5 := hidIt works_5
  have m1 := hc.m1
  clear hc L
  go_enter Tryd.func3, Tryd.ntmps3
  go_wp2_with fail
  refine (works_any _ _ _ _ _ _ (cal_first2 w _ _)).mono ?_
  rintro e W ⟨rfl, q, hq⟩
  have HX := hidIt (boxed_first hq)
  rw [HW5.out]
  clear hq
  have c0 := HX.out.c0
  have c1 := HX.out.c1
  by_cases k0 : (100 : Int) < m
  · go_wp2
    go_ret
    exact ⟨rfl, HX.out.bel⟩
  by_cases k1 : wrap64 (d + 4000) < to
  · go_wp2
    go_ret
    exact ⟨rfl, HX.out.bel⟩
  by_cases k2 : to < wrap64 (d - 4000)
  · go_wp2
    go_ret
    exact ⟨rfl, HX.out.bel⟩
  by_cases k3 : 1099511627776 < d
  · go_wp2
    go_ret
    exact ⟨rfl, HX.out.bel⟩
  by_cases k4 : d < -1099511627776
  · go_wp2
    go_ret
    exact ⟨rfl, HX.out.bel⟩
  have hD : -1099511627776 ≤ d ∧ d ≤ 1099511627776 := ⟨by omega, by omega⟩
  have hT : d - 4000 ≤ to ∧ to ≤ d + 4000 := by
    unfold wrap64 at k1 k2
    omega
  clear k1 k2
  have k1 := hT.2
  have k2 := hT.1
  have HD := hidIt hD
  have HT := hidIt hT
  clear hD hT
  go_wp2_with fail
  clear k1 k2 k3 k4 c0 c1
  refine (both_any B n cap oa ha m c2 xs _ (HC.out.below HX.out.bel) (by omega)).mono ?_
  rintro e W2 ⟨v1, v2, rfl, hcx, hcy, hb2⟩
  have HX2 := hidIt hcx
  have HY2 := hidIt hcy
  have HB2 := hidIt (HX.out.bel.trans (hb2.mono HX.out.bel.size))
  clear hcx hcy hb2
  generalize hb1 : W.heap.size + 1 = b1 at *
  generalize hbb : W.heap.size + 2 = b2 at *
  clear hb1 hbb
  generalize hoff : offB B n = off at *
  clear hoff
  have HWk := hidIt (works_any b1 off xs v1 d)
  have HRk := hidIt (rWorks_any b2 off xs v2 d)
  have HPC := hidIt (pCount_any b1 off xs v1 d to)
  have HRC := hidIt (fun W h => rCount_any b2 off xs v2 d to W h (by have := HD.out; omega) (by have := HD.out; omega) (by have := HD.out; have := HT.out; omega) (by have := HD.out; have := HT.out; omega))
  generalize works off xs d = wk at *
  generalize cntD off xs d to = cc at *
  go_wp2_with fail
  refine (HWk.out _ HX2.out).mono ?_
  rintro e W3 ⟨rfl, q3, hq3⟩
  have HB3 : Hid (Below W2.heap.size W2 W3) := by show Below _ _ _; rw [hq3]; exact bdrewN (Below.refl _ _) _
  have HX3 := hidIt (HX2.out.below HB3.out)
  have HY3 := hidIt (HY2.out.below HB3.out)
  have HB3' := hidIt (HB2.out.trans (HB3.out.mono HB2.out.size))
  clear hq3 HB3
  rcases agree_roll off xs v1 v2 b1 b2 d how p with ⟨x, hp, hr⟩ | ⟨k, hk, hp, hr⟩
  · have HP := hidIt hp
    have HR := hidIt hr
    clear hp hr
    go_wp2_with fail
    refine (HP.out _ HX3.out).mono ?_
    rintro e W4 ⟨rfl, hb4⟩
    have HX4 := hidIt (HX3.out.below hb4)
    have HY4 := hidIt (HY3.out.below hb4)
    have HB4 := hidIt (HB3'.out.trans (hb4.mono HB3'.out.size))
    clear hb4
    go_wp2_with fail
    refine (HR.out _ HY4.out).mono ?_
    rintro e W5 ⟨rfl, q5, hq5⟩
    have HB5 : Hid (Below W4.heap.size W4 W5) := by show Below _ _ _; rw [hq5]; exact bdrewN (Below.refl _ _) _
    have HX5 := hidIt (HX4.out.below HB5.out)
    have HY5 := hidIt (HY4.out.below HB5.out)
    have HB5' := hidIt (HB4.out.trans (HB5.out.mono HB4.out.size))
    clear hq5 HB5
    go_wp2_with fail
    refine (coded_nil _ _).mono ?_
    rintro e W6 ⟨rfl, ew⟩
    have hb6 : Below W5.heap.size W5 W6 := by rw [ew]; exact Below.refl _ _
    clear ew
    have HX6 := hidIt (HX5.out.below hb6)
    have HY6 := hidIt (HY5.out.below hb6)
    have HB6 := hidIt (HB5'.out.trans (hb6.mono HB5'.out.size))
    clear hb6
    go_wp2_with fail
    refine (HRk.out _ HY6.out).mono ?_
    rintro e W7 ⟨rfl, q7, hq7⟩
    have HB7 : Hid (Below W6.heap.size W6 W7) := by show Below _ _ _; rw [hq7]; exact bdrewN (Below.refl _ _) _
    have HX7 := hidIt (HX6.out.below HB7.out)
    have HY7 := hidIt (HY6.out.below HB7.out)
    have HB7' := hidIt (HB6.out.trans (HB7.out.mono HB6.out.size))
    clear hq7 HB7
    go_wp2_with fail
    refine (HPC.out _ HX7.out).mono ?_
    rintro e W8 ⟨rfl, hb8⟩
    have HY8 := hidIt (HY7.out.below hb8)
    have HB8 := hidIt (HB7'.out.trans (hb8.mono HB7'.out.size))
    clear hb8
    go_wp2_with fail
    refine (HRC.out _ HY8.out).mono ?_
    rintro e W9 ⟨rfl, q9, hq9⟩
    have HB9 : Hid (Below W8.heap.size W8 W9) := by show Below _ _ _; rw [hq9]; exact bdrewN (Below.refl _ _) _
    have HB9' := hidIt (HB8.out.trans (HB9.out.mono HB8.out.size))
    clear hq9 HB9
    go_wp2
    go_ret
    exact ⟨rfl, HB9'.out⟩
  · have HP := hidIt hp
    have HR := hidIt hr
    clear hp hr
    go_wp2_with fail
    refine (HP.out _ (HL.out.below HB3'.out) HX3.out).mono ?_
    rintro e W4 ⟨rfl, hb4⟩
    have HX4 := hidIt (HX3.out.below hb4)
    have HY4 := hidIt (HY3.out.below hb4)
    have HB4 := hidIt (HB3'.out.trans (hb4.mono HB3'.out.size))
    clear hb4
    go_wp2_with fail
    refine (HR.out _ HY4.out).mono ?_
    rintro e W5 ⟨rfl, q5, hq5⟩
    have HB5 : Hid (Below W4.heap.size W4 W5) := by show Below _ _ _; rw [hq5]; exact bdrewN (Below.refl _ _) _
    have HX5 := hidIt (HX4.out.below HB5.out)
    have HY5 := hidIt (HY4.out.below HB5.out)
    have HB5' := hidIt (HB4.out.trans (HB5.out.mono HB4.out.size))
    clear hq5 HB5
    go_wp2_with fail
    refine (coded_sent k hk _ p _ (HL.out.below HB5'.out)).mono ?_
    rintro e W6 ⟨rfl, hb6⟩
    have HX6 := hidIt (HX5.out.below hb6)
    have HY6 := hidIt (HY5.out.below hb6)
    have HB6 := hidIt (HB5'.out.trans (hb6.mono HB5'.out.size))
    clear hb6
    go_wp2_with fail
    refine (HRk.out _ HY6.out).mono ?_
    rintro e W7 ⟨rfl, q7, hq7⟩
    have HB7 : Hid (Below W6.heap.size W6 W7) := by show Below _ _ _; rw [hq7]; exact bdrewN (Below.refl _ _) _
    have HX7 := hidIt (HX6.out.below HB7.out)
    have HY7 := hidIt (HY6.out.below HB7.out)
    have HB7' := hidIt (HB6.out.trans (HB7.out.mono HB6.out.size))
    clear hq7 HB7
    go_wp2_with fail
    refine (HPC.out _ HX7.out).mono ?_
    rintro e W8 ⟨rfl, hb8⟩
    have HY8 := hidIt (HY7.out.below hb8)
    have HB8 := hidIt (HB7'.out.trans (hb8.mono HB7'.out.size))
    clear hb8
    go_wp2_with fail
    refine (HRC.out _ HY8.out).mono ?_
    rintro e W9 ⟨rfl, q9, hq9⟩
    have HB9 : Hid (Below W8.heap.size W8 W9) := by show Below _ _ _; rw [hq9]; exact bdrewN (Below.refl _ _) _
    have HB9' := hidIt (HB8.out.trans (HB9.out.mono HB8.out.size))
    clear hq9 HB9
    go_wp2
    go_ret
    exact ⟨rfl, HB9'.out⟩
end Go.Proofs.YtlebpojohaplnaaDoor

/-
  The walk of DayAdds (written by tools/genadds.py).
-/
import Derived.Test.YtlebpojohaplnaaDoorBothAny
import Derived.Test.YtlebpojohaplnaaDoorAdds
namespace Go.Proofs.YtlebpojohaplnaaDoor
open Go.RowKit Go.Extern.Stop Go.Stop Go.Extern

theorem boxed_below {w W : World} {offv holv : Value} {t1 t2 : TypeId} {os : Array Value} (hb : Below ((w.alloc (.cells #[offv, holv] t1)).alloc (.cells os t2)).heap.size ((w.alloc (.cells #[offv, holv] t1)).alloc (.cells os t2)) W) : HandBox w W offv holv := by
  have h0 : HandBox w ((w.alloc (.cells #[offv, holv] t1)).alloc (.cells os t2)) offv holv := boxed_first (q := 0) rfl
  have hl := h0.lt
  exact ⟨(hb.cell (p := ⟨w.heap.size, 0, none⟩) (by show w.heap.size < _; omega)).trans h0.c0, (hb.cell (p := ⟨w.heap.size, 1, none⟩) (by show w.heap.size < _; omega)).trans h0.c1, h0.bel.trans (hb.mono h0.bel.size), Nat.le_trans h0.lt hb.size⟩
theorem add_5_3 (b : Nat) (v : Value) (w : World) (h : Cal w b (fun _ => false) [] v) :
    Calls Tryd.prog 14 #[.pointer (some ⟨b, 0, none⟩), .int .i64 5, .int .i64 3] w fun e w' => e = .returned (.tuple #[.int .i64 8, .nilIface]) ∧ Below w.heap.size w w' := by
  have h0 := add_up_hit b _ _ v 5 3 2 w h (by decide) (by omega) (by omega) hit_5_3
  rw [show (5 : Int) + 1 + ((2 : Nat) : Int) = 8 by rfl] at h0
  exact h0

set_option maxHeartbeats 4000000 in
set_option maxRecDepth 10000 in
theorem dayAdds_far (oa ha : Option Addr) (n cap m c2 : Nat) (B : Nat → Bool) (xs : List Int) (d k : Int) (p : Nat → Addr) (w : World) (L : Laid w p) (hc : CalArg w B n oa ha m c2 xs) (hk : k < -100000 ∨ 100000 < k) :
    Calls Tryd.prog 4 #[.agg #[.slice oa n cap, .slice ha m c2], .int .i64 d, .int .i64 k] w fun e w' => e = .returned (.bool true) ∧ Below w.heap.size w w' := by
  have HC := hidIt hc
  have HL := hidIt L
  have m1 := hc.m1
  clear hc L
  go_enter Tryd.func4, Tryd.ntmps4
  go_wp2_with fail
  refine (add_5_3 _ _ _ (cal_first2 w _ _)).mono ?_
  rintro e W ⟨rfl, hb⟩
  have HX := hidIt (boxed_below hb)
  clear hb
  have c0 := HX.out.c0
  have c1 := HX.out.c1
  by_cases k0 : (100 : Int) < m
  · go_wp2
    go_ret
    exact ⟨rfl, HX.out.bel⟩
  have HJ : Hid (((1 : Nat) : Int) + 1 = 2) := rfl
  rcases hk with hk | hk
  all_goals
    go_wp2_with fail
    clear c0 c1
    refine (both_any B n cap oa ha m c2 xs _ (HC.out.below HX.out.bel) (by omega)).mono ?_
    rintro e W2 ⟨v1, v2, rfl, hcx, hcy, hb2⟩
    have HX2 := hidIt hcx
    have HY2 := hidIt hcy
    have HB2 := hidIt (HX.out.bel.trans (hb2.mono HX.out.bel.size))
    clear hcx hcy hb2
    generalize hb1 : W.heap.size + 1 = b1 at *
    generalize hbb : W.heap.size + 2 = b2 at *
    clear hb1 hbb
    generalize hoff : offB B n = off at *
    clear hoff
    have HP := hidIt (fun w c => add_bound b1 d k (p 1) w c (by omega))
    have HR := hidIt (fun w => rAdd_bound b2 d k w (by omega))
    go_wp2_with fail
    refine (HP.out _ ((HL.out.below HB2.out).cell 1 (by omega))).mono ?_
    rintro e W3 ⟨rfl, hb3⟩
    have HX3 := hidIt (HX2.out.below hb3)
    have HY3 := hidIt (HY2.out.below hb3)
    have HB3 := hidIt (HB2.out.trans (hb3.mono HB2.out.size))
    clear hb3
    go_wp2_with fail
    refine (HR.out _).mono ?_
    rintro e W4 ⟨rfl, q4, hq4⟩
    have hb4 : Below W3.heap.size W3 W4 := by rw [hq4]; exact bdrewN (Below.refl _ _) _
    clear hq4
    have HX4 := hidIt (HX3.out.below hb4)
    have HY4 := hidIt (HY3.out.below hb4)
    have HB4 := hidIt (HB3.out.trans (hb4.mono HB3.out.size))
    clear hb4
    go_wp2_with fail
    refine (coded_sent 1 (by omega) _ p _ (HL.out.below HB4.out)).mono ?_
    rintro e W5 ⟨rfl, hb5⟩
    have HX5 := hidIt (HX4.out.below hb5)
    have HB5 := hidIt (HB4.out.trans (hb5.mono HB4.out.size))
    clear hb5
    rw [HJ.out]
    go_wp2
    go_ret
    exact ⟨rfl, HB5.out⟩

set_option maxHeartbeats 4000000 in
set_option maxRecDepth 10000 in
theorem dayAdds_near (oa ha : Option Addr) (n cap m c2 : Nat) (B : Nat → Bool) (xs : List Int) (d k : Int) (p : Nat → Addr) (w : World) (L : Laid w p) (hc : CalArg w B n oa ha m c2 xs) (hk1 : -3000 ≤ k) (hk2 : k ≤ 3000) :
    Calls Tryd.prog 4 #[.agg #[.slice oa n cap, .slice ha m c2], .int .i64 d, .int .i64 k] w fun e w' => e = .returned (.bool true) ∧ Below w.heap.size w w' := by
  have HC := hidIt hc
  have HL := hidIt L
  have m1 := hc.m1
  clear hc L
  go_enter Tryd.func4, Tryd.ntmps4
  go_wp2_with fail
  refine (add_5_3 _ _ _ (cal_first2 w _ _)).mono ?_
  rintro e W ⟨rfl, hb⟩
  have HX := hidIt (boxed_below hb)
  clear hb
  have c0 := HX.out.c0
  have c1 := HX.out.c1
  by_cases k0 : (100 : Int) < m
  · go_wp2
    go_ret
    exact ⟨rfl, HX.out.bel⟩
  go_wp2_with fail
  clear c0 c1
  refine (both_any B n cap oa ha m c2 xs _ (HC.out.below HX.out.bel) (by omega)).mono ?_
  rintro e W2 ⟨v1, v2, rfl, hcx, hcy, hb2⟩
  have HX2 := hidIt hcx
  have HY2 := hidIt hcy
  have HB2 := hidIt (HX.out.bel.trans (hb2.mono HX.out.bel.size))
  clear hcx hcy hb2
  generalize hb1 : W.heap.size + 1 = b1 at *
  generalize hbb : W.heap.size + 2 = b2 at *
  clear hb1 hbb
  generalize hoff : offB B n = off at *
  clear hoff
  rcases agree_add off xs v1 v2 b1 b2 d k p with ⟨x, hp, hr, hx, hf⟩ | ⟨j, hj, hp, hr, _⟩
  · have HP := hidIt hp
    have HR := hidIt hr
    clear hp hr
    go_wp2_with fail
    refine (HP.out _ HX2.out).mono ?_
    rintro e W3 ⟨rfl, hb3⟩
    have HX3 := hidIt (HX2.out.below hb3)
    have HY3 := hidIt (HY2.out.below hb3)
    have HB3 := hidIt (HB2.out.trans (hb3.mono HB2.out.size))
    clear hb3
    go_wp2_with fail
    refine (HR.out _ HY3.out).mono ?_
    rintro e W4 ⟨rfl, q4, hq4⟩
    have hb4 : Below W3.heap.size W3 W4 := by rw [hq4]; exact bdrewN (Below.refl _ _) _
    clear hq4
    have HX4 := hidIt (HX3.out.below hb4)
    have HY4 := hidIt (HY3.out.below hb4)
    have HB4 := hidIt (HB3.out.trans (hb4.mono HB3.out.size))
    clear hb4
    go_wp2_with fail
    refine (coded_nil _ _).mono ?_
    rintro e W5 ⟨rfl, ew⟩
    have hb5 : Below W4.heap.size W4 W5 := by rw [ew]; exact Below.refl _ _
    clear ew
    have HX5 := hidIt (HX4.out.below hb5)
    have HB5 := hidIt (HB4.out.trans (hb5.mono HB4.out.size))
    clear hb5
    by_cases kk : k < 1
    · go_wp2
      go_ret
      exact ⟨rfl, HB5.out⟩
    have HF := hidIt hf
    obtain ⟨x1, x2⟩ := isDayB_iff.1 hx
    obtain ⟨d1, d2⟩ := isDayB_iff.1 (hf (by omega)).1
    have HPC := hidIt (pCount_any b1 off xs v1 (d + 1) (x + 1))
    rw [add_count hf (by omega)] at HPC
    clear hf hx
    have HWk := hidIt (works_any b1 off xs v1 d)
    go_wp2_with fail
    refine (HWk.out _ HX5.out).mono ?_
    rintro e W6 ⟨rfl, q6, hq6⟩
    have hb6 : Below W5.heap.size W5 W6 := by rw [hq6]; exact bdrewN (Below.refl _ _) _
    clear hq6
    have HX6 := hidIt (HX5.out.below hb6)
    have HB6 := hidIt (HB5.out.trans (hb6.mono HB5.out.size))
    clear hb6
    cases hw : works off xs d
    · rcases agree_add off xs v1 v2 b1 b2 x (-k) p with ⟨z, hp, _⟩ | ⟨j, hj, hp, _⟩
      · have HP2 := hidIt hp
        clear hp
        go_wp2_with fail
        refine (HP2.out _ HX6.out).mono ?_
        rintro e W7 ⟨rfl, hb7⟩
        have HX7 := hidIt (HX6.out.below hb7)
        have HB7 := hidIt (HB6.out.trans (hb7.mono HB6.out.size))
        clear hb7
        go_wp2_with fail
        refine (HPC.out _ HX7.out).mono ?_
        rintro e W8 ⟨rfl, hb8⟩
        have HB8 := hidIt (HB7.out.trans (hb8.mono HB7.out.size))
        clear hb8
        go_wp2
        go_ret
        exact ⟨rfl, HB8.out⟩
      · have HP2 := hidIt hp
        clear hp
        go_wp2_with fail
        refine (HP2.out _ (HL.out.below HB6.out) HX6.out).mono ?_
        rintro e W7 ⟨rfl, hb7⟩
        have HX7 := hidIt (HX6.out.below hb7)
        have HB7 := hidIt (HB6.out.trans (hb7.mono HB6.out.size))
        clear hb7
        go_wp2_with fail
        refine (HPC.out _ HX7.out).mono ?_
        rintro e W8 ⟨rfl, hb8⟩
        have HB8 := hidIt (HB7.out.trans (hb8.mono HB7.out.size))
        clear hb8
        go_wp2
        go_ret
        exact ⟨rfl, HB8.out⟩
    · obtain ⟨s, es, hh⟩ := add_back HF.out (by omega) hw
      have HA := hidIt (fun w h => add_dn_hit b1 off xs v1 x k s w h (isDayB_iff.2 ⟨x1, x2⟩) (by omega) (by omega) hh)
      rw [← es] at HA
      clear hh es
      go_wp2_with fail
      refine (HA.out _ HX6.out).mono ?_
      rintro e W7 ⟨rfl, hb7⟩
      have HX7 := hidIt (HX6.out.below hb7)
      have HB7 := hidIt (HB6.out.trans (hb7.mono HB6.out.size))
      clear hb7
      go_wp2_with fail
      refine (HPC.out _ HX7.out).mono ?_
      rintro e W8 ⟨rfl, hb8⟩
      have HB8 := hidIt (HB7.out.trans (hb8.mono HB7.out.size))
      clear hb8
      go_wp2
      go_ret
      exact ⟨rfl, HB8.out⟩
  · have HP := hidIt hp
    have HR := hidIt hr
    clear hp hr
    go_wp2_with fail
    refine (HP.out _ (HL.out.below HB2.out) HX2.out).mono ?_
    rintro e W3 ⟨rfl, hb3⟩
    have HX3 := hidIt (HX2.out.below hb3)
    have HY3 := hidIt (HY2.out.below hb3)
    have HB3 := hidIt (HB2.out.trans (hb3.mono HB2.out.size))
    clear hb3
    go_wp2_with fail
    refine (HR.out _ HY3.out).mono ?_
    rintro e W4 ⟨rfl, q4, hq4⟩
    have hb4 : Below W3.heap.size W3 W4 := by rw [hq4]; exact bdrewN (Below.refl _ _) _
    clear hq4
    have HX4 := hidIt (HX3.out.below hb4)
    have HY4 := hidIt (HY3.out.below hb4)
    have HB4 := hidIt (HB3.out.trans (hb4.mono HB3.out.size))
    clear hb4
    go_wp2_with fail
    refine (coded_sent j hj _ p _ (HL.out.below HB4.out)).mono ?_
    rintro e W5 ⟨rfl, hb5⟩
    have HX5 := hidIt (HX4.out.below hb5)
    have HB5 := hidIt (HB4.out.trans (hb5.mono HB4.out.size))
    clear hb5
    go_wp2
    go_ret
    exact ⟨rfl, HB5.out⟩

set_option maxHeartbeats 4000000 in
set_option maxRecDepth 10000 in
theorem dayAdds_walk (oa ha : Option Addr) (n cap m c2 : Nat) (B : Nat → Bool) (xs : List Int) (d k : Int) (p : Nat → Addr) (w : World) (L : Laid w p) (hc : CalArg w B n oa ha m c2 xs) :
    Calls Tryd.prog 4 #[.agg #[.slice oa n cap, .slice ha m c2], .int .i64 d, .int .i64 k] w fun e w' => e = .returned (.bool true) ∧ Below w.heap.size w w' := by
  by_cases h1 : k < -100000 ∨ 100000 < k
  · exact dayAdds_far oa ha n cap m c2 B xs d k p w L hc h1
  by_cases h2 : -3000 ≤ k ∧ k ≤ 3000
  · exact dayAdds_near oa ha n cap m c2 B xs d k p w L hc h2.1 h2.2
  have HC := hidIt hc
  have HL := hidIt L
  have m1 := hc.m1
  clear hc L
  go_enter Tryd.func4, Tryd.ntmps4
  go_wp2_with fail
  refine (add_5_3 _ _ _ (cal_first2 w _ _)).mono ?_
  rintro e W ⟨rfl, hb⟩
  have HX := hidIt (boxed_below hb)
  clear hb
  have c0 := HX.out.c0
  have c1 := HX.out.c1
  by_cases k0 : (100 : Int) < m
  · go_wp2
    go_ret
    exact ⟨rfl, HX.out.bel⟩
  by_cases k1 : 3000 < k
  · have k2 : k ≤ 100000 := by omega
    go_wp2
    go_ret
    exact ⟨rfl, HX.out.bel⟩
  · have k2 : k < -3000 := by omega
    have k3 : -100000 ≤ k := by omega
    go_wp2
    go_ret
    exact ⟨rfl, HX.out.bel⟩
end Go.Proofs.YtlebpojohaplnaaDoor

/-
  The walk of DayDue (written by tools/gendaydue.py).
-/
import Derived.Test.YtlebpojohaplnaaDoorBothAny
import Derived.Test.YtlebpojohaplnaaDoorRefDue
namespace Go.Proofs.YtlebpojohaplnaaDoor
open Go.RowKit Go.Extern.Stop Go.Stop Go.Extern

/-- The boxed calendar and term, and what lies below. -/
structure Hand2 (w W : World) (offv holv : Value) (N U R : Int) : Prop where
  c0 : W.cell? ⟨w.heap.size, 0, none⟩ = some offv
  c1 : W.cell? ⟨w.heap.size, 1, none⟩ = some holv
  t0 : W.cell? ⟨w.heap.size + 1, 0, none⟩ = some (.int .i64 N)
  t1 : W.cell? ⟨w.heap.size + 1, 0 + 1, none⟩ = some (.int .i64 U)
  t2 : W.cell? ⟨w.heap.size + 1, 0 + 2, none⟩ = some (.int .i64 R)
  bel : Below w.heap.size w W
  lt : w.heap.size + 2 ≤ W.heap.size
theorem Hand2.on {w W W' : World} {offv holv : Value} {N U R : Int} (h : Hand2 w W offv holv N U R) (hb : Below W.heap.size W W') : Hand2 w W' offv holv N U R := by
  have hl := h.lt
  have l0 : w.heap.size < W.heap.size := by omega
  have l1 : w.heap.size + 1 < W.heap.size := by omega
  exact ⟨(hb.cell (p := ⟨w.heap.size, 0, none⟩) l0).trans h.c0, (hb.cell (p := ⟨w.heap.size, 1, none⟩) l0).trans h.c1, (hb.cell (p := ⟨w.heap.size + 1, 0, none⟩) l1).trans h.t0, (hb.cell (p := ⟨w.heap.size + 1, 0 + 1, none⟩) l1).trans h.t1, (hb.cell (p := ⟨w.heap.size + 1, 0 + 2, none⟩) l1).trans h.t2, h.bel.trans (hb.mono h.bel.size), Nat.le_trans hl hb.size⟩
theorem Hand2.start (w : World) (offv holv : Value) (N U R : Int) (t1 t2 t3 : TypeId) (os : Array Value) : Hand2 w (((w.alloc (.cells #[offv, holv] t1)).alloc (.cells #[.int .i64 N, .int .i64 U, .int .i64 R] t2)).alloc (.cells os t3)) offv holv N U R := by
  have a0 : ∀ j : Nat, (((w.alloc (.cells #[offv, holv] t1)).alloc (.cells #[.int .i64 N, .int .i64 U, .int .i64 R] t2)).alloc (.cells os t3)).cell? ⟨w.heap.size, j, none⟩ = #[offv, holv][j]? := fun j => by
    rw [World.cell?_alloc_lt _ _ ⟨w.heap.size, j, none⟩ (by simp; omega), World.cell?_alloc_lt _ _ ⟨w.heap.size, j, none⟩ (by simp), World.cell?_alloc_at _ _ _ _ rfl]
  have a1 : ∀ j : Nat, (((w.alloc (.cells #[offv, holv] t1)).alloc (.cells #[.int .i64 N, .int .i64 U, .int .i64 R] t2)).alloc (.cells os t3)).cell? ⟨w.heap.size + 1, j, none⟩ = #[Value.int .i64 N, .int .i64 U, .int .i64 R][j]? := fun j => by
    rw [World.cell?_alloc_lt _ _ ⟨w.heap.size + 1, j, none⟩ (by simp), World.cell?_alloc_at _ _ _ _ (by simp)]
  exact ⟨a0 0, a0 1, a1 0, a1 1, a1 2, (((Below.refl _ _).alloc (Nat.le_refl _) _).alloc (by simp) _).alloc (by simp; omega) _, by simp⟩
theorem cal_first3 (w : World) (o o' : Obj) (t : TypeId) : Cal (((w.alloc o).alloc o').alloc (.cells #[.bool false, .bool false, .bool false, .bool false, .bool false, .bool false, .bool false, .slice none 0 0] t)) (w.heap.size + 2) (fun _ => false) [] (.slice none 0 0) := by
  have h := cal_first ((w.alloc o).alloc o') t
  simpa using h
theorem due_1_2 (b : Nat) (v : Value) (w : World) (p : Nat → Addr) (L : Laid w p) (h : Cal w b (fun _ => false) [] v) :
    Calls Tryd.prog 16 #[.pointer (some ⟨b, 0, none⟩), .int .i64 1, .agg #[.int .i64 2, .int .i64 2, .int .i64 0]] w fun e w' => e = .returned (.tuple #[.int .i64 15, .nilIface]) ∧ Below w.heap.size w w' :=
  due_ok b (fun _ => false) [] v 1 2 2 0 15 _ _ w h p L (by omega) (by omega) (by decide) (by decide) (by decide) (fun w _ _ => end_weeks b 1 2 0 w (by omega) (by omega) (by omega) (by omega)) (fun w _ _ => g_roll_stay b 15 w (by decide))

set_option maxHeartbeats 4000000 in
set_option maxRecDepth 10000 in
theorem dayDue_other (oa ha : Option Addr) (n cap m c2 : Nat) (B : Nat → Bool) (xs : List Int) (d N U R : Int) (p : Nat → Addr) (w : World) (L : Laid w p) (hc : CalArg w B n oa ha m c2 xs) (k1 : U ≠ 1) :
    Calls Tryd.prog 5 #[.agg #[.slice oa n cap, .slice ha m c2], .int .i64 d, .agg #[.int .i64 N, .int .i64 U, .int .i64 R]] w fun e w' => e = .returned (.bool true) ∧ Below w.heap.size w w' := by
  have e1 : (U == 1) = false := by simpa using k1
  clear k1
  have HC := hidIt hc
  have HL := hidIt L
  have m1 := hc.m1
  clear hc L
  go_enter Tryd.func5, Tryd.ntmps5
  go_wp2_with fail
  refine (due_1_2 _ _ _ p (((HL.out.alloc _).alloc _).alloc _) (cal_first3 w _ _ _)).mono ?_
  rintro e W ⟨rfl, hb⟩
  have HX := hidIt ((Hand2.start w _ _ N U R _ _ _ _).on hb)
  clear hb
  have c0 := HX.out.c0
  have c1 := HX.out.c1
  have t0 := HX.out.t0
  have t1 := HX.out.t1
  by_cases k0 : (100 : Int) < m
  · go_wp2
    go_ret
    exact ⟨rfl, HX.out.bel⟩
  go_wp2_with fail
  clear c0 c1 t0 t1
  refine (both_any B n cap oa ha m c2 xs _ (HC.out.below HX.out.bel) (by omega)).mono ?_
  rintro e W2 ⟨v1, v2, rfl, hcx, hcy, hb2⟩
  have HX2 := hidIt hcx
  have HY2 := hidIt hcy
  have HH2 := hidIt (HX.out.on hb2)
  clear hcx hcy hb2
  have t0 := HH2.out.t0
  have t1 := HH2.out.t1
  have t2 := HH2.out.t2
  generalize hb1 : W.heap.size + 1 = b1 at *
  generalize hbb : W.heap.size + 2 = b2 at *
  clear hb1 hbb
  generalize hoff : offB B n = off at *
  clear hoff
  rcases agree_due off xs v1 v2 b1 b2 d N U R p with ⟨x, hp, hr⟩ | ⟨j, hj, hp, hr⟩
  · have HP := hidIt hp
    have HR := hidIt hr
    clear hp hr
    go_wp2_with fail
    refine (HP.out _ (HL.out.below HH2.out.bel) HX2.out).mono ?_
    rintro e W3 ⟨rfl, hb3⟩
    have HY3 := hidIt (HY2.out.below hb3)
    have HH3 := hidIt (HH2.out.on hb3)
    clear hb3 t0 t1 t2
    have t0 := HH3.out.t0
    have t1 := HH3.out.t1
    have t2 := HH3.out.t2
    go_wp2_with fail
    refine (HR.out _ HY3.out).mono ?_
    rintro e W4 ⟨rfl, hb4⟩
    have HB4 := hidIt (HH3.out.bel.trans (hb4.mono HH3.out.bel.size))
    clear hb4 t0 t1 t2
    go_wp2_with fail
    refine (coded_nil _ _).mono ?_
    rintro e W5 ⟨rfl, ew⟩
    have HB5 : Hid (Below w.heap.size w W5) := by show Below _ _ _; rw [ew]; exact HB4.out
    clear ew
    go_wp2
    go_ret
    exact ⟨rfl, HB5.out⟩
  · have HP := hidIt hp
    have HR := hidIt hr
    clear hp hr
    go_wp2_with fail
    refine (HP.out _ (HL.out.below HH2.out.bel) HX2.out).mono ?_
    rintro e W3 ⟨rfl, hb3⟩
    have HY3 := hidIt (HY2.out.below hb3)
    have HH3 := hidIt (HH2.out.on hb3)
    clear hb3 t0 t1 t2
    have t0 := HH3.out.t0
    have t1 := HH3.out.t1
    have t2 := HH3.out.t2
    go_wp2_with fail
    refine (HR.out _ HY3.out).mono ?_
    rintro e W4 ⟨rfl, hb4⟩
    have HB4 := hidIt (HH3.out.bel.trans (hb4.mono HH3.out.bel.size))
    clear hb4 t0 t1 t2
    go_wp2_with fail
    refine (coded_sent j hj _ p _ (HL.out.below HB4.out)).mono ?_
    rintro e W5 ⟨rfl, hb5⟩
    have HB5 := hidIt (HB4.out.trans (hb5.mono HB4.out.size))
    clear hb5
    go_wp2
    go_ret
    exact ⟨rfl, HB5.out⟩

set_option maxHeartbeats 4000000 in
set_option maxRecDepth 10000 in
theorem dayDue_few (oa ha : Option Addr) (n cap m c2 : Nat) (B : Nat → Bool) (xs : List Int) (d N R : Int) (p : Nat → Addr) (w : World) (L : Laid w p) (hc : CalArg w B n oa ha m c2 xs) (k1 : N ≤ 3000) :
    Calls Tryd.prog 5 #[.agg #[.slice oa n cap, .slice ha m c2], .int .i64 d, .agg #[.int .i64 N, .int .i64 1, .int .i64 R]] w fun e w' => e = .returned (.bool true) ∧ Below w.heap.size w w' := by
  have HC := hidIt hc
  have HL := hidIt L
  have m1 := hc.m1
  clear hc L
  go_enter Tryd.func5, Tryd.ntmps5
  go_wp2_with fail
  refine (due_1_2 _ _ _ p (((HL.out.alloc _).alloc _).alloc _) (cal_first3 w _ _ _)).mono ?_
  rintro e W ⟨rfl, hb⟩
  have HX := hidIt ((Hand2.start w _ _ N 1 R _ _ _ _).on hb)
  clear hb
  have c0 := HX.out.c0
  have c1 := HX.out.c1
  have t0 := HX.out.t0
  have t1 := HX.out.t1
  by_cases k0 : (100 : Int) < m
  · go_wp2
    go_ret
    exact ⟨rfl, HX.out.bel⟩
  go_wp2_with fail
  clear c0 c1 t0 t1
  refine (both_any B n cap oa ha m c2 xs _ (HC.out.below HX.out.bel) (by omega)).mono ?_
  rintro e W2 ⟨v1, v2, rfl, hcx, hcy, hb2⟩
  have HX2 := hidIt hcx
  have HY2 := hidIt hcy
  have HH2 := hidIt (HX.out.on hb2)
  clear hcx hcy hb2
  have t0 := HH2.out.t0
  have t1 := HH2.out.t1
  have t2 := HH2.out.t2
  generalize hb1 : W.heap.size + 1 = b1 at *
  generalize hbb : W.heap.size + 2 = b2 at *
  clear hb1 hbb
  generalize hoff : offB B n = off at *
  clear hoff
  rcases agree_due off xs v1 v2 b1 b2 d N 1 R p with ⟨x, hp, hr⟩ | ⟨j, hj, hp, hr⟩
  · have HP := hidIt hp
    have HR := hidIt hr
    clear hp hr
    go_wp2_with fail
    refine (HP.out _ (HL.out.below HH2.out.bel) HX2.out).mono ?_
    rintro e W3 ⟨rfl, hb3⟩
    have HY3 := hidIt (HY2.out.below hb3)
    have HH3 := hidIt (HH2.out.on hb3)
    clear hb3 t0 t1 t2
    have t0 := HH3.out.t0
    have t1 := HH3.out.t1
    have t2 := HH3.out.t2
    go_wp2_with fail
    refine (HR.out _ HY3.out).mono ?_
    rintro e W4 ⟨rfl, hb4⟩
    have HB4 := hidIt (HH3.out.bel.trans (hb4.mono HH3.out.bel.size))
    clear hb4 t0 t1 t2
    go_wp2_with fail
    refine (coded_nil _ _).mono ?_
    rintro e W5 ⟨rfl, ew⟩
    have HB5 : Hid (Below w.heap.size w W5) := by show Below _ _ _; rw [ew]; exact HB4.out
    clear ew
    go_wp2
    go_ret
    exact ⟨rfl, HB5.out⟩
  · have HP := hidIt hp
    have HR := hidIt hr
    clear hp hr
    go_wp2_with fail
    refine (HP.out _ (HL.out.below HH2.out.bel) HX2.out).mono ?_
    rintro e W3 ⟨rfl, hb3⟩
    have HY3 := hidIt (HY2.out.below hb3)
    have HH3 := hidIt (HH2.out.on hb3)
    clear hb3 t0 t1 t2
    have t0 := HH3.out.t0
    have t1 := HH3.out.t1
    have t2 := HH3.out.t2
    go_wp2_with fail
    refine (HR.out _ HY3.out).mono ?_
    rintro e W4 ⟨rfl, hb4⟩
    have HB4 := hidIt (HH3.out.bel.trans (hb4.mono HH3.out.bel.size))
    clear hb4 t0 t1 t2
    go_wp2_with fail
    refine (coded_sent j hj _ p _ (HL.out.below HB4.out)).mono ?_
    rintro e W5 ⟨rfl, hb5⟩
    have HB5 := hidIt (HB4.out.trans (hb5.mono HB4.out.size))
    clear hb5
    go_wp2
    go_ret
    exact ⟨rfl, HB5.out⟩

set_option maxHeartbeats 4000000 in
set_option maxRecDepth 10000 in
theorem dayDue_far (oa ha : Option Addr) (n cap m c2 : Nat) (B : Nat → Bool) (xs : List Int) (d N R : Int) (p : Nat → Addr) (w : World) (L : Laid w p) (hc : CalArg w B n oa ha m c2 xs) (k1 : 100000 < N) :
    Calls Tryd.prog 5 #[.agg #[.slice oa n cap, .slice ha m c2], .int .i64 d, .agg #[.int .i64 N, .int .i64 1, .int .i64 R]] w fun e w' => e = .returned (.bool true) ∧ Below w.heap.size w w' := by
  have HC := hidIt hc
  have HL := hidIt L
  have m1 := hc.m1
  clear hc L
  go_enter Tryd.func5, Tryd.ntmps5
  go_wp2_with fail
  refine (due_1_2 _ _ _ p (((HL.out.alloc _).alloc _).alloc _) (cal_first3 w _ _ _)).mono ?_
  rintro e W ⟨rfl, hb⟩
  have HX := hidIt ((Hand2.start w _ _ N 1 R _ _ _ _).on hb)
  clear hb
  have c0 := HX.out.c0
  have c1 := HX.out.c1
  have t0 := HX.out.t0
  have t1 := HX.out.t1
  by_cases k0 : (100 : Int) < m
  · go_wp2
    go_ret
    exact ⟨rfl, HX.out.bel⟩
  go_wp2_with fail
  clear c0 c1 t0 t1
  refine (both_any B n cap oa ha m c2 xs _ (HC.out.below HX.out.bel) (by omega)).mono ?_
  rintro e W2 ⟨v1, v2, rfl, hcx, hcy, hb2⟩
  have HX2 := hidIt hcx
  have HY2 := hidIt hcy
  have HH2 := hidIt (HX.out.on hb2)
  clear hcx hcy hb2
  have t0 := HH2.out.t0
  have t1 := HH2.out.t1
  have t2 := HH2.out.t2
  generalize hb1 : W.heap.size + 1 = b1 at *
  generalize hbb : W.heap.size + 2 = b2 at *
  clear hb1 hbb
  generalize hoff : offB B n = off at *
  clear hoff
  rcases agree_due off xs v1 v2 b1 b2 d N 1 R p with ⟨x, hp, hr⟩ | ⟨j, hj, hp, hr⟩
  · have HP := hidIt hp
    have HR := hidIt hr
    clear hp hr
    go_wp2_with fail
    refine (HP.out _ (HL.out.below HH2.out.bel) HX2.out).mono ?_
    rintro e W3 ⟨rfl, hb3⟩
    have HY3 := hidIt (HY2.out.below hb3)
    have HH3 := hidIt (HH2.out.on hb3)
    clear hb3 t0 t1 t2
    have t0 := HH3.out.t0
    have t1 := HH3.out.t1
    have t2 := HH3.out.t2
    go_wp2_with fail
    refine (HR.out _ HY3.out).mono ?_
    rintro e W4 ⟨rfl, hb4⟩
    have HB4 := hidIt (HH3.out.bel.trans (hb4.mono HH3.out.bel.size))
    clear hb4 t0 t1 t2
    go_wp2_with fail
    refine (coded_nil _ _).mono ?_
    rintro e W5 ⟨rfl, ew⟩
    have HB5 : Hid (Below w.heap.size w W5) := by show Below _ _ _; rw [ew]; exact HB4.out
    clear ew
    go_wp2
    go_ret
    exact ⟨rfl, HB5.out⟩
  · have HP := hidIt hp
    have HR := hidIt hr
    clear hp hr
    go_wp2_with fail
    refine (HP.out _ (HL.out.below HH2.out.bel) HX2.out).mono ?_
    rintro e W3 ⟨rfl, hb3⟩
    have HY3 := hidIt (HY2.out.below hb3)
    have HH3 := hidIt (HH2.out.on hb3)
    clear hb3 t0 t1 t2
    have t0 := HH3.out.t0
    have t1 := HH3.out.t1
    have t2 := HH3.out.t2
    go_wp2_with fail
    refine (HR.out _ HY3.out).mono ?_
    rintro e W4 ⟨rfl, hb4⟩
    have HB4 := hidIt (HH3.out.bel.trans (hb4.mono HH3.out.bel.size))
    clear hb4 t0 t1 t2
    go_wp2_with fail
    refine (coded_sent j hj _ p _ (HL.out.below HB4.out)).mono ?_
    rintro e W5 ⟨rfl, hb5⟩
    have HB5 := hidIt (HB4.out.trans (hb5.mono HB4.out.size))
    clear hb5
    go_wp2
    go_ret
    exact ⟨rfl, HB5.out⟩

set_option maxHeartbeats 4000000 in
set_option maxRecDepth 10000 in
theorem dayDue_walk (oa ha : Option Addr) (n cap m c2 : Nat) (B : Nat → Bool) (xs : List Int) (d N U R : Int) (p : Nat → Addr) (w : World) (L : Laid w p) (hc : CalArg w B n oa ha m c2 xs) :
    Calls Tryd.prog 5 #[.agg #[.slice oa n cap, .slice ha m c2], .int .i64 d, .agg #[.int .i64 N, .int .i64 U, .int .i64 R]] w fun e w' => e = .returned (.bool true) ∧ Below w.heap.size w w' := by
  by_cases h1 : U = 1
  · subst h1
    by_cases h2 : N ≤ 3000
    · exact dayDue_few oa ha n cap m c2 B xs d N R p w L hc h2
    by_cases h3 : 100000 < N
    · exact dayDue_far oa ha n cap m c2 B xs d N R p w L hc h3
    have HC := hidIt hc
    have HL := hidIt L
    have m1 := hc.m1
    clear hc L
    go_enter Tryd.func5, Tryd.ntmps5
    go_wp2_with fail
    refine (due_1_2 _ _ _ p (((HL.out.alloc _).alloc _).alloc _) (cal_first3 w _ _ _)).mono ?_
    rintro e W ⟨rfl, hb⟩
    have HX := hidIt ((Hand2.start w _ _ N 1 R _ _ _ _).on hb)
    clear hb
    have c0 := HX.out.c0
    have c1 := HX.out.c1
    have t0 := HX.out.t0
    have t1 := HX.out.t1
    by_cases k0 : (100 : Int) < m
    · go_wp2
      go_ret
      exact ⟨rfl, HX.out.bel⟩
    have k1 : 3000 < N := by omega
    have k2 : N ≤ 100000 := by omega
    go_wp2
    go_ret
    exact ⟨rfl, HX.out.bel⟩
  · exact dayDue_other oa ha n cap m c2 B xs d N U R p w L hc h1
end Go.Proofs.YtlebpojohaplnaaDoor

/-
  day.roll, day.add by contracts, with the method value of the plan, and Roll, Add (written by tools/gendaym.py).
-/
import Derived.Test.YtlebpojohaplnaaDoorSearch2
namespace Go.Proofs.YtlebpojohaplnaaDoor
open Go.RowKit Go.Sort Go.Lib

def rollB (h : Int) : Bool := decide (0 ≤ h) && decide (h ≤ 2)
theorem isRoll_any (n : Int) (w : World) : Calls Tryd.prog 32 #[.int .i64 n] w fun e w' => e = .returned (.bool (rollB n)) ∧ w' = w := by
  unfold rollB
  cases h1 : decide (0 ≤ n)
  · go_enter Tryd.func32, Tryd.ntmps32
    go_wp2
    go_ret
    exact ⟨rfl, rfl⟩
  · go_enter Tryd.func32, Tryd.ntmps32
    go_wp2
    go_ret
    exact ⟨rfl, rfl⟩
theorem lt_of_cell {w : World} {g : Nat} {v : Value} (h : w.cell? ⟨g, 0, none⟩ = some v) : g < w.heap.size := by
  rcases Nat.lt_or_ge g w.heap.size with k | k
  · exact k
  · simp [World.cell?, Array.getElem?_eq_none k] at h

/-- A plan is made. -/
def PlanR (off : Int → Bool) (xs : List Int) (w : World) (e : Ending) (w' : World) : Prop := (∃ v', e = .returned v' ∧ IsPlan w' v' off xs) ∧ Below w.heap.size w w'
theorem g_roll_kind (b : Nat) (d how : Int) (ad : Addr) (w : World) (hc : w.cell? ⟨0, 0, none⟩ = some (.iface 129 (.pointer (some ad)))) (h : rollB how = false) :
    Calls Tryd.prog 21 #[.int .i64 d, .int .i64 how, .func (.func 22) #[.pointer (some ⟨b, 0, none⟩)] #[]] w fun e w' => e = .returned (.tuple #[.int .i64 0, .iface 129 (.pointer (some ad))]) ∧ Below w.heap.size w w' := by
  have HR := hidIt (fun w => isRoll_any how w)
  rw [h] at HR
  clear h
  go_enter Tryd.func21, Tryd.ntmps21
  go_wp2_with (go_at_call 32; refine (HR.out _).mono ?_; rintro e w' ⟨rfl, rfl⟩)
  go_quiet (fail)
  go_wp2
  go_ret2
  exact ⟨rfl, bdrewN (Below.refl _ _) _⟩
theorem g_roll_noday (b : Nat) (d how : Int) (ad : Addr) (w : World) (hc : w.cell? ⟨1, 0, none⟩ = some (.iface 129 (.pointer (some ad)))) (h : rollB how = true) (hd : isDayB d = false) :
    Calls Tryd.prog 21 #[.int .i64 d, .int .i64 how, .func (.func 22) #[.pointer (some ⟨b, 0, none⟩)] #[]] w fun e w' => e = .returned (.tuple #[.int .i64 0, .iface 129 (.pointer (some ad))]) ∧ Below w.heap.size w w' := by
  have HR := hidIt (fun w => isRoll_any how w)
  rw [h] at HR
  have HD := hidIt (fun w => isDay_any d w)
  rw [hd] at HD
  clear h hd
  go_enter Tryd.func21, Tryd.ntmps21
  go_wp2_with (first | (go_at_call 32; refine (HR.out _).mono ?_; rintro e w' ⟨rfl, rfl⟩) | (go_at_call 18; refine (HD.out _).mono ?_; rintro e w' ⟨rfl, rfl⟩))
  go_quiet (fail)
  go_wp2
  go_ret2
  exact ⟨rfl, bdrewN (Below.refl _ _) _⟩
theorem g_roll_stay (b : Nat) (d : Int) (w : World) (hd : isDayB d = true) :
    Calls Tryd.prog 21 #[.int .i64 d, .int .i64 0, .func (.func 22) #[.pointer (some ⟨b, 0, none⟩)] #[]] w fun e w' => e = .returned (.tuple #[.int .i64 d, .nilIface]) ∧ Below w.heap.size w w' := by
  have HR := hidIt (fun w => isRoll_any 0 w)
  rw [show rollB 0 = true from rfl] at HR
  have HD := hidIt (fun w => isDay_any d w)
  rw [hd] at HD
  clear hd
  go_enter Tryd.func21, Tryd.ntmps21
  go_wp2_with (first | (go_at_call 32; refine (HR.out _).mono ?_; rintro e w' ⟨rfl, rfl⟩) | (go_at_call 18; refine (HD.out _).mono ?_; rintro e w' ⟨rfl, rfl⟩))
  go_ret2
  exact ⟨rfl, Below.refl _ _⟩

set_option maxHeartbeats 1000000 in
theorem g_roll_up_hit (b : Nat) (off : Int → Bool) (xs : List Int) (d : Int) (s : Nat) (w : World) (h : Calls Tryd.prog 22 #[.pointer (some ⟨b, 0, none⟩)] w (PlanR off xs w)) (hd : isDayB d = true) (hh : Hit (upG off xs d) (3652060 - d).toNat 1 s) :
    Calls Tryd.prog 21 #[.int .i64 d, .int .i64 1, .func (.func 22) #[.pointer (some ⟨b, 0, none⟩)] #[]] w fun e w' => e = .returned (.tuple #[.int .i64 (d + s), .nilIface]) ∧ Below w.heap.size w w' := by
  obtain ⟨d1, d2⟩ := isDayB_iff.1 hd
  have HR := hidIt (fun w => isRoll_any 1 w)
  rw [show rollB 1 = true from rfl] at HR
  have HD := hidIt (fun w => isDay_any d w)
  rw [hd] at HD
  have HP := hidIt h
  have HL := hidIt (fun v' w' (hv : IsPlan w' v' off xs) => later_hit v' off xs d 1 s w' hv (by omega) (by omega) hh)
  clear h hd hh
  go_enter Tryd.func21, Tryd.ntmps21
  go_wp2_with fail
  refine (HR.out _).mono ?_
  rintro e w1 ⟨rfl, ew⟩
  subst w1
  go_wp2_with fail
  refine (HD.out _).mono ?_
  rintro e w1 ⟨rfl, ew⟩
  subst w1
  go_wp2_with fail
  refine HP.out.mono ?_
  rintro e w1 ⟨⟨v', rfl, hv⟩, hb1⟩
  have HB1 := hidIt hb1
  have HV := hidIt hv
  clear hb1 hv
  go_wp2_with fail
  refine (HL.out _ _ HV.out).mono ?_
  rintro e w2 ⟨rfl, hb2⟩
  have HB2 := hidIt (HB1.out.trans (hb2.mono HB1.out.size))
  clear hb2
  go_wp2
  go_ret2
  exact ⟨rfl, HB2.out⟩

set_option maxHeartbeats 1000000 in
theorem g_roll_up_miss (b : Nat) (off : Int → Bool) (xs : List Int) (d : Int) (ad : Addr) (w : World) (hc : w.cell? ⟨1, 0, none⟩ = some (.iface 129 (.pointer (some ad)))) (h : Calls Tryd.prog 22 #[.pointer (some ⟨b, 0, none⟩)] w (PlanR off xs w)) (hd : isDayB d = true) (hh : cn (upG off xs d) (3652060 - d).toNat < 1) :
    Calls Tryd.prog 21 #[.int .i64 d, .int .i64 1, .func (.func 22) #[.pointer (some ⟨b, 0, none⟩)] #[]] w fun e w' => e = .returned (.tuple #[.int .i64 0, .iface 129 (.pointer (some ad))]) ∧ Below w.heap.size w w' := by
  obtain ⟨d1, d2⟩ := isDayB_iff.1 hd
  have HR := hidIt (fun w => isRoll_any 1 w)
  rw [show rollB 1 = true from rfl] at HR
  have HD := hidIt (fun w => isDay_any d w)
  rw [hd] at HD
  have HP := hidIt h
  have HC := hidIt hc
  have HL := hidIt (fun v' w' (hv : IsPlan w' v' off xs) hc' => later_miss v' off xs d 1 ad w' hc' hv (by omega) (by omega) hh)
  clear h hd hh hc
  go_enter Tryd.func21, Tryd.ntmps21
  go_wp2_with fail
  refine (HR.out _).mono ?_
  rintro e w1 ⟨rfl, ew⟩
  subst w1
  go_wp2_with fail
  refine (HD.out _).mono ?_
  rintro e w1 ⟨rfl, ew⟩
  subst w1
  go_wp2_with fail
  refine HP.out.mono ?_
  rintro e w1 ⟨⟨v', rfl, hv⟩, hb1⟩
  have HB1 := hidIt hb1
  have HV := hidIt hv
  clear hb1 hv
  go_wp2_with fail
  refine (HL.out _ _ HV.out ((HB1.out.cell (p := ⟨1, 0, none⟩) (lt_of_cell HC.out)).trans HC.out)).mono ?_
  rintro e w2 ⟨rfl, hb2⟩
  have HB2 := hidIt (HB1.out.trans (hb2.mono HB1.out.size))
  clear hb2
  go_wp2
  go_ret2
  exact ⟨rfl, HB2.out⟩

set_option maxHeartbeats 1000000 in
theorem g_roll_dn_hit (b : Nat) (off : Int → Bool) (xs : List Int) (d : Int) (s : Nat) (w : World) (h : Calls Tryd.prog 22 #[.pointer (some ⟨b, 0, none⟩)] w (PlanR off xs w)) (hd : isDayB d = true) (hh : Hit (dnG off xs d) d.toNat 1 s) :
    Calls Tryd.prog 21 #[.int .i64 d, .int .i64 2, .func (.func 22) #[.pointer (some ⟨b, 0, none⟩)] #[]] w fun e w' => e = .returned (.tuple #[.int .i64 (d - s), .nilIface]) ∧ Below w.heap.size w w' := by
  obtain ⟨d1, d2⟩ := isDayB_iff.1 hd
  have HR := hidIt (fun w => isRoll_any 2 w)
  rw [show rollB 2 = true from rfl] at HR
  have HD := hidIt (fun w => isDay_any d w)
  rw [hd] at HD
  have HP := hidIt h
  have HL := hidIt (fun v' w' (hv : IsPlan w' v' off xs) => earlier_hit v' off xs d 1 s w' hv (by omega) (by omega) hh)
  clear h hd hh
  go_enter Tryd.func21, Tryd.ntmps21
  go_wp2_with fail
  refine (HR.out _).mono ?_
  rintro e w1 ⟨rfl, ew⟩
  subst w1
  go_wp2_with fail
  refine (HD.out _).mono ?_
  rintro e w1 ⟨rfl, ew⟩
  subst w1
  go_wp2_with fail
  refine HP.out.mono ?_
  rintro e w1 ⟨⟨v', rfl, hv⟩, hb1⟩
  have HB1 := hidIt hb1
  have HV := hidIt hv
  clear hb1 hv
  go_wp2_with fail
  refine (HL.out _ _ HV.out).mono ?_
  rintro e w2 ⟨rfl, hb2⟩
  have HB2 := hidIt (HB1.out.trans (hb2.mono HB1.out.size))
  clear hb2
  go_wp2
  go_ret2
  exact ⟨rfl, HB2.out⟩

set_option maxHeartbeats 1000000 in
theorem g_roll_dn_miss (b : Nat) (off : Int → Bool) (xs : List Int) (d : Int) (ad : Addr) (w : World) (hc : w.cell? ⟨1, 0, none⟩ = some (.iface 129 (.pointer (some ad)))) (h : Calls Tryd.prog 22 #[.pointer (some ⟨b, 0, none⟩)] w (PlanR off xs w)) (hd : isDayB d = true) (hh : cn (dnG off xs d) d.toNat < 1) :
    Calls Tryd.prog 21 #[.int .i64 d, .int .i64 2, .func (.func 22) #[.pointer (some ⟨b, 0, none⟩)] #[]] w fun e w' => e = .returned (.tuple #[.int .i64 0, .iface 129 (.pointer (some ad))]) ∧ Below w.heap.size w w' := by
  obtain ⟨d1, d2⟩ := isDayB_iff.1 hd
  have HR := hidIt (fun w => isRoll_any 2 w)
  rw [show rollB 2 = true from rfl] at HR
  have HD := hidIt (fun w => isDay_any d w)
  rw [hd] at HD
  have HP := hidIt h
  have HC := hidIt hc
  have HL := hidIt (fun v' w' (hv : IsPlan w' v' off xs) hc' => earlier_miss v' off xs d 1 ad w' hc' hv (by omega) (by omega) hh)
  clear h hd hh hc
  go_enter Tryd.func21, Tryd.ntmps21
  go_wp2_with fail
  refine (HR.out _).mono ?_
  rintro e w1 ⟨rfl, ew⟩
  subst w1
  go_wp2_with fail
  refine (HD.out _).mono ?_
  rintro e w1 ⟨rfl, ew⟩
  subst w1
  go_wp2_with fail
  refine HP.out.mono ?_
  rintro e w1 ⟨⟨v', rfl, hv⟩, hb1⟩
  have HB1 := hidIt hb1
  have HV := hidIt hv
  clear hb1 hv
  go_wp2_with fail
  refine (HL.out _ _ HV.out ((HB1.out.cell (p := ⟨1, 0, none⟩) (lt_of_cell HC.out)).trans HC.out)).mono ?_
  rintro e w2 ⟨rfl, hb2⟩
  have HB2 := hidIt (HB1.out.trans (hb2.mono HB1.out.size))
  clear hb2
  go_wp2
  go_ret2
  exact ⟨rfl, HB2.out⟩

set_option maxHeartbeats 1000000 in
theorem g_add_up_hit (b : Nat) (off : Int → Bool) (xs : List Int) (d n : Int) (s : Nat) (w : World) (h : Calls Tryd.prog 22 #[.pointer (some ⟨b, 0, none⟩)] w (PlanR off xs w)) (hd : isDayB d = true) (n1 : 1 ≤ n) (n2 : n ≤ 100000) (hh : Hit (upG off xs (d + 1)) ((3652060 - (d + 1)).toNat) n s) :
    Calls Tryd.prog 28 #[.int .i64 d, .int .i64 (n), .func (.func 22) #[.pointer (some ⟨b, 0, none⟩)] #[]] w fun e w' => e = .returned (.tuple #[.int .i64 (d + 1 + s), .nilIface]) ∧ Below w.heap.size w w' := by
  obtain ⟨d1, d2⟩ := isDayB_iff.1 hd
  have HD := hidIt (fun w => isDay_any d w)
  rw [hd] at HD
  have HP := hidIt h
  have HL := hidIt (fun v' w' (hv : IsPlan w' v' off xs) => later_hit v' off xs (d + 1) n s w' hv (by omega) (by omega) hh)
  clear h hd hh
  go_enter Tryd.func28, Tryd.ntmps28
  go_wp2_with fail
  refine (HD.out _).mono ?_
  rintro e w1 ⟨rfl, ew⟩
  subst w1
  go_wp2_with fail
  refine HP.out.mono ?_
  rintro e w1 ⟨⟨v', rfl, hv⟩, hb1⟩
  have HB1 := hidIt hb1
  have HV := hidIt hv
  clear hb1 hv
  go_wp2_with fail
  refine (HL.out _ _ HV.out).mono ?_
  rintro e w2 ⟨rfl, hb2⟩
  have HB2 := hidIt (HB1.out.trans (hb2.mono HB1.out.size))
  clear hb2
  go_wp2
  go_ret2
  exact ⟨rfl, HB2.out⟩

set_option maxHeartbeats 1000000 in
theorem g_add_up_miss (b : Nat) (off : Int → Bool) (xs : List Int) (d n : Int) (ad : Addr) (w : World) (hc : w.cell? ⟨1, 0, none⟩ = some (.iface 129 (.pointer (some ad)))) (h : Calls Tryd.prog 22 #[.pointer (some ⟨b, 0, none⟩)] w (PlanR off xs w)) (hd : isDayB d = true) (n1 : 1 ≤ n) (n2 : n ≤ 100000) (hh : cn (upG off xs (d + 1)) ((3652060 - (d + 1)).toNat) < n) :
    Calls Tryd.prog 28 #[.int .i64 d, .int .i64 (n), .func (.func 22) #[.pointer (some ⟨b, 0, none⟩)] #[]] w fun e w' => e = .returned (.tuple #[.int .i64 0, .iface 129 (.pointer (some ad))]) ∧ Below w.heap.size w w' := by
  obtain ⟨d1, d2⟩ := isDayB_iff.1 hd
  have HD := hidIt (fun w => isDay_any d w)
  rw [hd] at HD
  have HP := hidIt h
  have HC := hidIt hc
  have HL := hidIt (fun v' w' (hv : IsPlan w' v' off xs) hc' => later_miss v' off xs (d + 1) n ad w' hc' hv (by omega) (by omega) hh)
  clear h hd hh hc
  go_enter Tryd.func28, Tryd.ntmps28
  go_wp2_with fail
  refine (HD.out _).mono ?_
  rintro e w1 ⟨rfl, ew⟩
  subst w1
  go_wp2_with fail
  refine HP.out.mono ?_
  rintro e w1 ⟨⟨v', rfl, hv⟩, hb1⟩
  have HB1 := hidIt hb1
  have HV := hidIt hv
  clear hb1 hv
  go_wp2_with fail
  refine (HL.out _ _ HV.out ((HB1.out.cell (p := ⟨1, 0, none⟩) (lt_of_cell HC.out)).trans HC.out)).mono ?_
  rintro e w2 ⟨rfl, hb2⟩
  have HB2 := hidIt (HB1.out.trans (hb2.mono HB1.out.size))
  clear hb2
  go_wp2
  go_ret2
  exact ⟨rfl, HB2.out⟩

set_option maxHeartbeats 1000000 in
theorem g_add_dn_hit (b : Nat) (off : Int → Bool) (xs : List Int) (d n : Int) (s : Nat) (w : World) (h : Calls Tryd.prog 22 #[.pointer (some ⟨b, 0, none⟩)] w (PlanR off xs w)) (hd : isDayB d = true) (n1 : 1 ≤ n) (n2 : n ≤ 100000) (hh : Hit (dnG off xs (d - 1)) ((d - 1).toNat) n s) :
    Calls Tryd.prog 28 #[.int .i64 d, .int .i64 (-n), .func (.func 22) #[.pointer (some ⟨b, 0, none⟩)] #[]] w fun e w' => e = .returned (.tuple #[.int .i64 (d - 1 - s), .nilIface]) ∧ Below w.heap.size w w' := by
  obtain ⟨d1, d2⟩ := isDayB_iff.1 hd
  have HD := hidIt (fun w => isDay_any d w)
  rw [hd] at HD
  have HP := hidIt h
  have HL := hidIt (fun v' w' (hv : IsPlan w' v' off xs) => earlier_hit v' off xs (d - 1) n s w' hv (by omega) (by omega) hh)
  clear h hd hh
  go_enter Tryd.func28, Tryd.ntmps28
  go_wp2_with fail
  refine (HD.out _).mono ?_
  rintro e w1 ⟨rfl, ew⟩
  subst w1
  go_wp2_with fail
  refine HP.out.mono ?_
  rintro e w1 ⟨⟨v', rfl, hv⟩, hb1⟩
  have HB1 := hidIt hb1
  have HV := hidIt hv
  clear hb1 hv
  go_wp2_with fail
  refine (HL.out _ _ HV.out).mono ?_
  rintro e w2 ⟨rfl, hb2⟩
  have HB2 := hidIt (HB1.out.trans (hb2.mono HB1.out.size))
  clear hb2
  go_wp2
  go_ret2
  exact ⟨rfl, HB2.out⟩

set_option maxHeartbeats 1000000 in
theorem g_add_dn_miss (b : Nat) (off : Int → Bool) (xs : List Int) (d n : Int) (ad : Addr) (w : World) (hc : w.cell? ⟨1, 0, none⟩ = some (.iface 129 (.pointer (some ad)))) (h : Calls Tryd.prog 22 #[.pointer (some ⟨b, 0, none⟩)] w (PlanR off xs w)) (hd : isDayB d = true) (n1 : 1 ≤ n) (n2 : n ≤ 100000) (hh : cn (dnG off xs (d - 1)) ((d - 1).toNat) < n) :
    Calls Tryd.prog 28 #[.int .i64 d, .int .i64 (-n), .func (.func 22) #[.pointer (some ⟨b, 0, none⟩)] #[]] w fun e w' => e = .returned (.tuple #[.int .i64 0, .iface 129 (.pointer (some ad))]) ∧ Below w.heap.size w w' := by
  obtain ⟨d1, d2⟩ := isDayB_iff.1 hd
  have HD := hidIt (fun w => isDay_any d w)
  rw [hd] at HD
  have HP := hidIt h
  have HC := hidIt hc
  have HL := hidIt (fun v' w' (hv : IsPlan w' v' off xs) hc' => earlier_miss v' off xs (d - 1) n ad w' hc' hv (by omega) (by omega) hh)
  clear h hd hh hc
  go_enter Tryd.func28, Tryd.ntmps28
  go_wp2_with fail
  refine (HD.out _).mono ?_
  rintro e w1 ⟨rfl, ew⟩
  subst w1
  go_wp2_with fail
  refine HP.out.mono ?_
  rintro e w1 ⟨⟨v', rfl, hv⟩, hb1⟩
  have HB1 := hidIt hb1
  have HV := hidIt hv
  clear hb1 hv
  go_wp2_with fail
  refine (HL.out _ _ HV.out ((HB1.out.cell (p := ⟨1, 0, none⟩) (lt_of_cell HC.out)).trans HC.out)).mono ?_
  rintro e w2 ⟨rfl, hb2⟩
  have HB2 := hidIt (HB1.out.trans (hb2.mono HB1.out.size))
  clear hb2
  go_wp2
  go_ret2
  exact ⟨rfl, HB2.out⟩

theorem g_add_bound (b : Nat) (d n : Int) (ad : Addr) (w : World) (hc : w.cell? ⟨3, 0, none⟩ = some (.iface 129 (.pointer (some ad)))) (h : n < -100000 ∨ 100000 < n) :
    Calls Tryd.prog 28 #[.int .i64 d, .int .i64 n, .func (.func 22) #[.pointer (some ⟨b, 0, none⟩)] #[]] w fun e w' => e = .returned (.tuple #[.int .i64 0, .iface 129 (.pointer (some ad))]) ∧ Below w.heap.size w w' := by
  by_cases h0 : n < -100000
  · clear h
    go_enter Tryd.func28, Tryd.ntmps28
    go_wp2
    go_quiet (fail)
    go_wp2
    go_ret2
    exact ⟨rfl, bdrewN (Below.refl _ _) _⟩
  · have h1 : 100000 < n := by omega
    clear h
    go_enter Tryd.func28, Tryd.ntmps28
    go_wp2
    go_quiet (fail)
    go_wp2
    go_ret2
    exact ⟨rfl, bdrewN (Below.refl _ _) _⟩
theorem g_add_noday (b : Nat) (d n : Int) (ad : Addr) (w : World) (hc : w.cell? ⟨1, 0, none⟩ = some (.iface 129 (.pointer (some ad)))) (n1 : -100000 ≤ n) (n2 : n ≤ 100000) (hd : isDayB d = false) :
    Calls Tryd.prog 28 #[.int .i64 d, .int .i64 n, .func (.func 22) #[.pointer (some ⟨b, 0, none⟩)] #[]] w fun e w' => e = .returned (.tuple #[.int .i64 0, .iface 129 (.pointer (some ad))]) ∧ Below w.heap.size w w' := by
  have HD := hidIt (fun w => isDay_any d w)
  rw [hd] at HD
  clear hd
  go_enter Tryd.func28, Tryd.ntmps28
  go_wp2_with (go_at_call 18; refine (HD.out _).mono ?_; rintro e w' ⟨rfl, rfl⟩)
  go_quiet (fail)
  go_wp2
  go_ret2
  exact ⟨rfl, bdrewN (Below.refl _ _) _⟩
theorem g_add_zero' (b : Nat) (d : Int) (w : World) (hd : isDayB d = true) :
    Calls Tryd.prog 28 #[.int .i64 d, .int .i64 0, .func (.func 22) #[.pointer (some ⟨b, 0, none⟩)] #[]] w fun e w' => e = .returned (.tuple #[.int .i64 d, .nilIface]) ∧ Below w.heap.size w w' := by
  have HD := hidIt (fun w => isDay_any d w)
  rw [hd] at HD
  clear hd
  go_enter Tryd.func28, Tryd.ntmps28
  go_wp2_with (go_at_call 18; refine (HD.out _).mono ?_; rintro e w' ⟨rfl, rfl⟩)
  go_ret2
  exact ⟨rfl, Below.refl _ _⟩
set_option maxHeartbeats 1000000 in
theorem roll_kind (b : Nat) (d how : Int) (ad : Addr) (w : World) (hc : w.cell? ⟨0, 0, none⟩ = some (.iface 129 (.pointer (some ad)))) (h : rollB how = false) :
    Calls Tryd.prog 8 #[.pointer (some ⟨b, 0, none⟩), .int .i64 d, .int .i64 how] w fun e w' => e = .returned (.tuple #[.int .i64 0, .iface 129 (.pointer (some ad))]) ∧ Below w.heap.size w w' := by
  have HC := hidIt (g_roll_kind b d how ad w hc h)
  clear hc h
  go_enter Tryd.func8, Tryd.ntmps8
  go_wp2_with fail
  refine HC.out.mono ?_
  rintro e w1 ⟨rfl, hb⟩
  have HB := hidIt hb
  clear hb
  go_wp2
  go_ret2
  exact ⟨rfl, HB.out⟩
set_option maxHeartbeats 1000000 in
theorem roll_noday (b : Nat) (d how : Int) (ad : Addr) (w : World) (hc : w.cell? ⟨1, 0, none⟩ = some (.iface 129 (.pointer (some ad)))) (h : rollB how = true) (hd : isDayB d = false) :
    Calls Tryd.prog 8 #[.pointer (some ⟨b, 0, none⟩), .int .i64 d, .int .i64 how] w fun e w' => e = .returned (.tuple #[.int .i64 0, .iface 129 (.pointer (some ad))]) ∧ Below w.heap.size w w' := by
  have HC := hidIt (g_roll_noday b d how ad w hc h hd)
  clear hc h hd
  go_enter Tryd.func8, Tryd.ntmps8
  go_wp2_with fail
  refine HC.out.mono ?_
  rintro e w1 ⟨rfl, hb⟩
  have HB := hidIt hb
  clear hb
  go_wp2
  go_ret2
  exact ⟨rfl, HB.out⟩
set_option maxHeartbeats 1000000 in
theorem roll_stay (b : Nat) (d : Int) (w : World) (hd : isDayB d = true) :
    Calls Tryd.prog 8 #[.pointer (some ⟨b, 0, none⟩), .int .i64 d, .int .i64 0] w fun e w' => e = .returned (.tuple #[.int .i64 d, .nilIface]) ∧ Below w.heap.size w w' := by
  have HC := hidIt (g_roll_stay b d w hd)
  clear hd
  go_enter Tryd.func8, Tryd.ntmps8
  go_wp2_with fail
  refine HC.out.mono ?_
  rintro e w1 ⟨rfl, hb⟩
  have HB := hidIt hb
  clear hb
  go_wp2
  go_ret2
  exact ⟨rfl, HB.out⟩
set_option maxHeartbeats 1000000 in
theorem roll_up_hit (b : Nat) (off : Int → Bool) (xs : List Int) (v : Value) (d : Int) (s : Nat) (w : World) (h : Cal w b off xs v) (hd : isDayB d = true) (hh : Hit (upG off xs d) (3652060 - d).toNat 1 s) :
    Calls Tryd.prog 8 #[.pointer (some ⟨b, 0, none⟩), .int .i64 d, .int .i64 1] w fun e w' => e = .returned (.tuple #[.int .i64 (d + s), .nilIface]) ∧ Below w.heap.size w w' := by
  have HC := hidIt (g_roll_up_hit b off xs d s w (plan_any b off xs v w h) hd hh)
  clear h hd hh
  go_enter Tryd.func8, Tryd.ntmps8
  go_wp2_with fail
  refine HC.out.mono ?_
  rintro e w1 ⟨rfl, hb⟩
  have HB := hidIt hb
  clear hb
  go_wp2
  go_ret2
  exact ⟨rfl, HB.out⟩
set_option maxHeartbeats 1000000 in
theorem roll_up_miss (b : Nat) (off : Int → Bool) (xs : List Int) (v : Value) (d : Int) (ad : Addr) (w : World) (hc : w.cell? ⟨1, 0, none⟩ = some (.iface 129 (.pointer (some ad)))) (h : Cal w b off xs v) (hd : isDayB d = true) (hh : cn (upG off xs d) (3652060 - d).toNat < 1) :
    Calls Tryd.prog 8 #[.pointer (some ⟨b, 0, none⟩), .int .i64 d, .int .i64 1] w fun e w' => e = .returned (.tuple #[.int .i64 0, .iface 129 (.pointer (some ad))]) ∧ Below w.heap.size w w' := by
  have HC := hidIt (g_roll_up_miss b off xs d ad w hc (plan_any b off xs v w h) hd hh)
  clear hc h hd hh
  go_enter Tryd.func8, Tryd.ntmps8
  go_wp2_with fail
  refine HC.out.mono ?_
  rintro e w1 ⟨rfl, hb⟩
  have HB := hidIt hb
  clear hb
  go_wp2
  go_ret2
  exact ⟨rfl, HB.out⟩
set_option maxHeartbeats 1000000 in
theorem roll_dn_hit (b : Nat) (off : Int → Bool) (xs : List Int) (v : Value) (d : Int) (s : Nat) (w : World) (h : Cal w b off xs v) (hd : isDayB d = true) (hh : Hit (dnG off xs d) d.toNat 1 s) :
    Calls Tryd.prog 8 #[.pointer (some ⟨b, 0, none⟩), .int .i64 d, .int .i64 2] w fun e w' => e = .returned (.tuple #[.int .i64 (d - s), .nilIface]) ∧ Below w.heap.size w w' := by
  have HC := hidIt (g_roll_dn_hit b off xs d s w (plan_any b off xs v w h) hd hh)
  clear h hd hh
  go_enter Tryd.func8, Tryd.ntmps8
  go_wp2_with fail
  refine HC.out.mono ?_
  rintro e w1 ⟨rfl, hb⟩
  have HB := hidIt hb
  clear hb
  go_wp2
  go_ret2
  exact ⟨rfl, HB.out⟩
set_option maxHeartbeats 1000000 in
theorem roll_dn_miss (b : Nat) (off : Int → Bool) (xs : List Int) (v : Value) (d : Int) (ad : Addr) (w : World) (hc : w.cell? ⟨1, 0, none⟩ = some (.iface 129 (.pointer (some ad)))) (h : Cal w b off xs v) (hd : isDayB d = true) (hh : cn (dnG off xs d) d.toNat < 1) :
    Calls Tryd.prog 8 #[.pointer (some ⟨b, 0, none⟩), .int .i64 d, .int .i64 2] w fun e w' => e = .returned (.tuple #[.int .i64 0, .iface 129 (.pointer (some ad))]) ∧ Below w.heap.size w w' := by
  have HC := hidIt (g_roll_dn_miss b off xs d ad w hc (plan_any b off xs v w h) hd hh)
  clear hc h hd hh
  go_enter Tryd.func8, Tryd.ntmps8
  go_wp2_with fail
  refine HC.out.mono ?_
  rintro e w1 ⟨rfl, hb⟩
  have HB := hidIt hb
  clear hb
  go_wp2
  go_ret2
  exact ⟨rfl, HB.out⟩
set_option maxHeartbeats 1000000 in
theorem add_up_hit (b : Nat) (off : Int → Bool) (xs : List Int) (v : Value) (d n : Int) (s : Nat) (w : World) (h : Cal w b off xs v) (hd : isDayB d = true) (n1 : 1 ≤ n) (n2 : n ≤ 100000) (hh : Hit (upG off xs (d + 1)) ((3652060 - (d + 1)).toNat) n s) :
    Calls Tryd.prog 14 #[.pointer (some ⟨b, 0, none⟩), .int .i64 d, .int .i64 (n)] w fun e w' => e = .returned (.tuple #[.int .i64 (d + 1 + s), .nilIface]) ∧ Below w.heap.size w w' := by
  have HC := hidIt (g_add_up_hit b off xs d n s w (plan_any b off xs v w h) hd n1 n2 hh)
  clear h hd n1 n2 hh
  go_enter Tryd.func14, Tryd.ntmps14
  go_wp2_with fail
  refine HC.out.mono ?_
  rintro e w1 ⟨rfl, hb⟩
  have HB := hidIt hb
  clear hb
  go_wp2
  go_ret2
  exact ⟨rfl, HB.out⟩
set_option maxHeartbeats 1000000 in
theorem add_up_miss (b : Nat) (off : Int → Bool) (xs : List Int) (v : Value) (d n : Int) (ad : Addr) (w : World) (hc : w.cell? ⟨1, 0, none⟩ = some (.iface 129 (.pointer (some ad)))) (h : Cal w b off xs v) (hd : isDayB d = true) (n1 : 1 ≤ n) (n2 : n ≤ 100000) (hh : cn (upG off xs (d + 1)) ((3652060 - (d + 1)).toNat) < n) :
    Calls Tryd.prog 14 #[.pointer (some ⟨b, 0, none⟩), .int .i64 d, .int .i64 (n)] w fun e w' => e = .returned (.tuple #[.int .i64 0, .iface 129 (.pointer (some ad))]) ∧ Below w.heap.size w w' := by
  have HC := hidIt (g_add_up_miss b off xs d n ad w hc (plan_any b off xs v w h) hd n1 n2 hh)
  clear hc h hd n1 n2 hh
  go_enter Tryd.func14, Tryd.ntmps14
  go_wp2_with fail
  refine HC.out.mono ?_
  rintro e w1 ⟨rfl, hb⟩
  have HB := hidIt hb
  clear hb
  go_wp2
  go_ret2
  exact ⟨rfl, HB.out⟩
set_option maxHeartbeats 1000000 in
theorem add_dn_hit (b : Nat) (off : Int → Bool) (xs : List Int) (v : Value) (d n : Int) (s : Nat) (w : World) (h : Cal w b off xs v) (hd : isDayB d = true) (n1 : 1 ≤ n) (n2 : n ≤ 100000) (hh : Hit (dnG off xs (d - 1)) ((d - 1).toNat) n s) :
    Calls Tryd.prog 14 #[.pointer (some ⟨b, 0, none⟩), .int .i64 d, .int .i64 (-n)] w fun e w' => e = .returned (.tuple #[.int .i64 (d - 1 - s), .nilIface]) ∧ Below w.heap.size w w' := by
  have HC := hidIt (g_add_dn_hit b off xs d n s w (plan_any b off xs v w h) hd n1 n2 hh)
  clear h hd n1 n2 hh
  go_enter Tryd.func14, Tryd.ntmps14
  go_wp2_with fail
  refine HC.out.mono ?_
  rintro e w1 ⟨rfl, hb⟩
  have HB := hidIt hb
  clear hb
  go_wp2
  go_ret2
  exact ⟨rfl, HB.out⟩
set_option maxHeartbeats 1000000 in
theorem add_dn_miss (b : Nat) (off : Int → Bool) (xs : List Int) (v : Value) (d n : Int) (ad : Addr) (w : World) (hc : w.cell? ⟨1, 0, none⟩ = some (.iface 129 (.pointer (some ad)))) (h : Cal w b off xs v) (hd : isDayB d = true) (n1 : 1 ≤ n) (n2 : n ≤ 100000) (hh : cn (dnG off xs (d - 1)) ((d - 1).toNat) < n) :
    Calls Tryd.prog 14 #[.pointer (some ⟨b, 0, none⟩), .int .i64 d, .int .i64 (-n)] w fun e w' => e = .returned (.tuple #[.int .i64 0, .iface 129 (.pointer (some ad))]) ∧ Below w.heap.size w w' := by
  have HC := hidIt (g_add_dn_miss b off xs d n ad w hc (plan_any b off xs v w h) hd n1 n2 hh)
  clear hc h hd n1 n2 hh
  go_enter Tryd.func14, Tryd.ntmps14
  go_wp2_with fail
  refine HC.out.mono ?_
  rintro e w1 ⟨rfl, hb⟩
  have HB := hidIt hb
  clear hb
  go_wp2
  go_ret2
  exact ⟨rfl, HB.out⟩
set_option maxHeartbeats 1000000 in
theorem add_bound (b : Nat) (d n : Int) (ad : Addr) (w : World) (hc : w.cell? ⟨3, 0, none⟩ = some (.iface 129 (.pointer (some ad)))) (h : n < -100000 ∨ 100000 < n) :
    Calls Tryd.prog 14 #[.pointer (some ⟨b, 0, none⟩), .int .i64 d, .int .i64 n] w fun e w' => e = .returned (.tuple #[.int .i64 0, .iface 129 (.pointer (some ad))]) ∧ Below w.heap.size w w' := by
  have HC := hidIt (g_add_bound b d n ad w hc h)
  clear hc h
  go_enter Tryd.func14, Tryd.ntmps14
  go_wp2_with fail
  refine HC.out.mono ?_
  rintro e w1 ⟨rfl, hb⟩
  have HB := hidIt hb
  clear hb
  go_wp2
  go_ret2
  exact ⟨rfl, HB.out⟩
set_option maxHeartbeats 1000000 in
theorem add_noday (b : Nat) (d n : Int) (ad : Addr) (w : World) (hc : w.cell? ⟨1, 0, none⟩ = some (.iface 129 (.pointer (some ad)))) (n1 : -100000 ≤ n) (n2 : n ≤ 100000) (hd : isDayB d = false) :
    Calls Tryd.prog 14 #[.pointer (some ⟨b, 0, none⟩), .int .i64 d, .int .i64 n] w fun e w' => e = .returned (.tuple #[.int .i64 0, .iface 129 (.pointer (some ad))]) ∧ Below w.heap.size w w' := by
  have HC := hidIt (g_add_noday b d n ad w hc n1 n2 hd)
  clear hc n1 n2 hd
  go_enter Tryd.func14, Tryd.ntmps14
  go_wp2_with fail
  refine HC.out.mono ?_
  rintro e w1 ⟨rfl, hb⟩
  have HB := hidIt hb
  clear hb
  go_wp2
  go_ret2
  exact ⟨rfl, HB.out⟩
set_option maxHeartbeats 1000000 in
theorem add_zero' (b : Nat) (d : Int) (w : World) (hd : isDayB d = true) :
    Calls Tryd.prog 14 #[.pointer (some ⟨b, 0, none⟩), .int .i64 d, .int .i64 0] w fun e w' => e = .returned (.tuple #[.int .i64 d, .nilIface]) ∧ Below w.heap.size w w' := by
  have HC := hidIt (g_add_zero' b d w hd)
  clear hd
  go_enter Tryd.func14, Tryd.ntmps14
  go_wp2_with fail
  refine HC.out.mono ?_
  rintro e w1 ⟨rfl, hb⟩
  have HB := hidIt hb
  clear hb
  go_wp2
  go_ret2
  exact ⟨rfl, HB.out⟩
end Go.Proofs.YtlebpojohaplnaaDoor

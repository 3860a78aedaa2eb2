/-
  day.roll, day.add by contracts, with any function value that makes the plan (written by tools/genrollg.py).
-/
import Derived.Test.YtpijiglmjkdlgaaDoorSearch2
namespace Go.Proofs.YtpijiglmjkdlgaaDoor
open Go.RowKit Go.Sort Go.Lib

def rollB (h : Int) : Bool := decide (0 ≤ h) && decide (h ≤ 2)
theorem isRoll_any (n : Int) (w : World) : Calls Tryd.prog 59 #[.int .i64 n] w fun e w' => e = .returned (.bool (rollB n)) ∧ w' = w := by
  unfold rollB
  cases h1 : decide (0 ≤ n)
  · go_enter Tryd.func59, Tryd.ntmps59
    go_wp2
    go_ret
    exact ⟨rfl, rfl⟩
  · go_enter Tryd.func59, Tryd.ntmps59
    go_wp2
    go_ret
    exact ⟨rfl, rfl⟩
theorem lt_of_cell {w : World} {g : Nat} {v : Value} (h : w.cell? ⟨g, 0, none⟩ = some v) : g < w.heap.size := by
  rcases Nat.lt_or_ge g w.heap.size with k | k
  · exact k
  · simp [World.cell?, Array.getElem?_eq_none k] at h

/-- A plan is made. -/
def PlanR (off : Int → Bool) (xs : List Int) (w : World) (e : Ending) (w' : World) : Prop := (∃ v', e = .returned v' ∧ IsPlan w' v' off xs) ∧ Below w.heap.size w w'
theorem roll_kind (pb : Nat) (d how : Int) (ad : Addr) (w : World) (hc : w.cell? ⟨2, 0, none⟩ = some (.iface 134 (.pointer (some ad)))) (h : rollB how = false) :
    Calls Tryd.prog 61 #[.int .i64 d, .int .i64 how, .func (.func 50) #[] #[.pointer (some ⟨pb, 0, none⟩)]] w fun e w' => e = .returned (.tuple #[.int .i64 0, .iface 134 (.pointer (some ad))]) ∧ Below w.heap.size w w' := by
  have HR := hidIt (fun w => isRoll_any how w)
  rw [h] at HR
  clear h
  go_enter Tryd.func61, Tryd.ntmps61
  go_wp2_with (go_at_call 59; refine (HR.out _).mono ?_; rintro e w' ⟨rfl, rfl⟩)
  go_quiet (fail)
  go_wp2
  go_ret2
  exact ⟨rfl, bdrewN (Below.refl _ _) _⟩
theorem roll_noday (pb : Nat) (d how : Int) (ad : Addr) (w : World) (hc : w.cell? ⟨0, 0, none⟩ = some (.iface 134 (.pointer (some ad)))) (h : rollB how = true) (hd : isDayB d = false) :
    Calls Tryd.prog 61 #[.int .i64 d, .int .i64 how, .func (.func 50) #[] #[.pointer (some ⟨pb, 0, none⟩)]] w fun e w' => e = .returned (.tuple #[.int .i64 0, .iface 134 (.pointer (some ad))]) ∧ Below w.heap.size w w' := by
  have HR := hidIt (fun w => isRoll_any how w)
  rw [h] at HR
  have HD := hidIt (fun w => isDay_any d w)
  rw [hd] at HD
  clear h hd
  go_enter Tryd.func61, Tryd.ntmps61
  go_wp2_with (first | (go_at_call 59; refine (HR.out _).mono ?_; rintro e w' ⟨rfl, rfl⟩) | (go_at_call 14; refine (HD.out _).mono ?_; rintro e w' ⟨rfl, rfl⟩))
  go_quiet (fail)
  go_wp2
  go_ret2
  exact ⟨rfl, bdrewN (Below.refl _ _) _⟩
theorem roll_stay (pb : Nat) (d : Int) (w : World) (hd : isDayB d = true) :
    Calls Tryd.prog 61 #[.int .i64 d, .int .i64 0, .func (.func 50) #[] #[.pointer (some ⟨pb, 0, none⟩)]] w fun e w' => e = .returned (.tuple #[.int .i64 d, .nilIface]) ∧ Below w.heap.size w w' := by
  have HR := hidIt (fun w => isRoll_any 0 w)
  rw [show rollB 0 = true from rfl] at HR
  have HD := hidIt (fun w => isDay_any d w)
  rw [hd] at HD
  clear hd
  go_enter Tryd.func61, Tryd.ntmps61
  go_wp2_with (first | (go_at_call 59; refine (HR.out _).mono ?_; rintro e w' ⟨rfl, rfl⟩) | (go_at_call 14; refine (HD.out _).mono ?_; rintro e w' ⟨rfl, rfl⟩))
  go_ret2
  exact ⟨rfl, Below.refl _ _⟩

set_option maxHeartbeats 1000000 in
theorem roll_up_hit (pb : Nat) (off : Int → Bool) (xs : List Int) (d : Int) (s : Nat) (w : World) (h : Calls Tryd.prog 50 #[.pointer (some ⟨pb, 0, none⟩)] w (PlanR off xs w)) (hd : isDayB d = true) (hh : Hit (upG off xs d) (3652060 - d).toNat 1 s) :
    Calls Tryd.prog 61 #[.int .i64 d, .int .i64 1, .func (.func 50) #[] #[.pointer (some ⟨pb, 0, none⟩)]] w fun e w' => e = .returned (.tuple #[.int .i64 (d + s), .nilIface]) ∧ Below w.heap.size w w' := by
  obtain ⟨d1, d2⟩ := isDayB_iff.1 hd
  have HR := hidIt (fun w => isRoll_any 1 w)
  rw [show rollB 1 = true from rfl] at HR
  have HD := hidIt (fun w => isDay_any d w)
  rw [hd] at HD
  have HP := hidIt h
  have HL := hidIt (fun v' w' (hv : IsPlan w' v' off xs) => later_hit v' off xs d 1 s w' hv (by omega) (by omega) hh)
  clear h hd hh
  go_enter Tryd.func61, Tryd.ntmps61
  go_wp2_with fail
  refine (HR.out _).mono ?_
  rintro e w1 ⟨rfl, ew⟩
  subst w1
  go_wp2_with fail
  refine (HD.out _).mono ?_
  rintro e w1 ⟨rfl, ew⟩
  subst w1
  go_wp2_with fail
  refine HP.out.mono ?_
  rintro e w1 ⟨⟨v', rfl, hv⟩, hb1⟩
  have HB1 := hidIt hb1
  have HV := hidIt hv
  clear hb1 hv
  go_wp2_with fail
  refine (HL.out _ _ HV.out).mono ?_
  rintro e w2 ⟨rfl, hb2⟩
  have HB2 := hidIt (HB1.out.trans (hb2.mono HB1.out.size))
  clear hb2
  go_wp2
  go_ret2
  exact ⟨rfl, HB2.out⟩

set_option maxHeartbeats 1000000 in
theorem roll_up_miss (pb : Nat) (off : Int → Bool) (xs : List Int) (d : Int) (ad : Addr) (w : World) (hc : w.cell? ⟨0, 0, none⟩ = some (.iface 134 (.pointer (some ad)))) (h : Calls Tryd.prog 50 #[.pointer (some ⟨pb, 0, none⟩)] w (PlanR off xs w)) (hd : isDayB d = true) (hh : cn (upG off xs d) (3652060 - d).toNat < 1) :
    Calls Tryd.prog 61 #[.int .i64 d, .int .i64 1, .func (.func 50) #[] #[.pointer (some ⟨pb, 0, none⟩)]] w fun e w' => e = .returned (.tuple #[.int .i64 0, .iface 134 (.pointer (some ad))]) ∧ Below w.heap.size w w' := by
  obtain ⟨d1, d2⟩ := isDayB_iff.1 hd
  have HR := hidIt (fun w => isRoll_any 1 w)
  rw [show rollB 1 = true from rfl] at HR
  have HD := hidIt (fun w => isDay_any d w)
  rw [hd] at HD
  have HP := hidIt h
  have HC := hidIt hc
  have HL := hidIt (fun v' w' (hv : IsPlan w' v' off xs) hc' => later_miss v' off xs d 1 ad w' hc' hv (by omega) (by omega) hh)
  clear h hd hh hc
  go_enter Tryd.func61, Tryd.ntmps61
  go_wp2_with fail
  refine (HR.out _).mono ?_
  rintro e w1 ⟨rfl, ew⟩
  subst w1
  go_wp2_with fail
  refine (HD.out _).mono ?_
  rintro e w1 ⟨rfl, ew⟩
  subst w1
  go_wp2_with fail
  refine HP.out.mono ?_
  rintro e w1 ⟨⟨v', rfl, hv⟩, hb1⟩
  have HB1 := hidIt hb1
  have HV := hidIt hv
  clear hb1 hv
  go_wp2_with fail
  refine (HL.out _ _ HV.out ((HB1.out.cell (p := ⟨0, 0, none⟩) (lt_of_cell HC.out)).trans HC.out)).mono ?_
  rintro e w2 ⟨rfl, hb2⟩
  have HB2 := hidIt (HB1.out.trans (hb2.mono HB1.out.size))
  clear hb2
  go_wp2
  go_ret2
  exact ⟨rfl, HB2.out⟩

set_option maxHeartbeats 1000000 in
theorem roll_dn_hit (pb : Nat) (off : Int → Bool) (xs : List Int) (d : Int) (s : Nat) (w : World) (h : Calls Tryd.prog 50 #[.pointer (some ⟨pb, 0, none⟩)] w (PlanR off xs w)) (hd : isDayB d = true) (hh : Hit (dnG off xs d) d.toNat 1 s) :
    Calls Tryd.prog 61 #[.int .i64 d, .int .i64 2, .func (.func 50) #[] #[.pointer (some ⟨pb, 0, none⟩)]] w fun e w' => e = .returned (.tuple #[.int .i64 (d - s), .nilIface]) ∧ Below w.heap.size w w' := by
  obtain ⟨d1, d2⟩ := isDayB_iff.1 hd
  have HR := hidIt (fun w => isRoll_any 2 w)
  rw [show rollB 2 = true from rfl] at HR
  have HD := hidIt (fun w => isDay_any d w)
  rw [hd] at HD
  have HP := hidIt h
  have HL := hidIt (fun v' w' (hv : IsPlan w' v' off xs) => earlier_hit v' off xs d 1 s w' hv (by omega) (by omega) hh)
  clear h hd hh
  go_enter Tryd.func61, Tryd.ntmps61
  go_wp2_with fail
  refine (HR.out _).mono ?_
  rintro e w1 ⟨rfl, ew⟩
  subst w1
  go_wp2_with fail
  refine (HD.out _).mono ?_
  rintro e w1 ⟨rfl, ew⟩
  subst w1
  go_wp2_with fail
  refine HP.out.mono ?_
  rintro e w1 ⟨⟨v', rfl, hv⟩, hb1⟩
  have HB1 := hidIt hb1
  have HV := hidIt hv
  clear hb1 hv
  go_wp2_with fail
  refine (HL.out _ _ HV.out).mono ?_
  rintro e w2 ⟨rfl, hb2⟩
  have HB2 := hidIt (HB1.out.trans (hb2.mono HB1.out.size))
  clear hb2
  go_wp2
  go_ret2
  exact ⟨rfl, HB2.out⟩

set_option maxHeartbeats 1000000 in
theorem roll_dn_miss (pb : Nat) (off : Int → Bool) (xs : List Int) (d : Int) (ad : Addr) (w : World) (hc : w.cell? ⟨0, 0, none⟩ = some (.iface 134 (.pointer (some ad)))) (h : Calls Tryd.prog 50 #[.pointer (some ⟨pb, 0, none⟩)] w (PlanR off xs w)) (hd : isDayB d = true) (hh : cn (dnG off xs d) d.toNat < 1) :
    Calls Tryd.prog 61 #[.int .i64 d, .int .i64 2, .func (.func 50) #[] #[.pointer (some ⟨pb, 0, none⟩)]] w fun e w' => e = .returned (.tuple #[.int .i64 0, .iface 134 (.pointer (some ad))]) ∧ Below w.heap.size w w' := by
  obtain ⟨d1, d2⟩ := isDayB_iff.1 hd
  have HR := hidIt (fun w => isRoll_any 2 w)
  rw [show rollB 2 = true from rfl] at HR
  have HD := hidIt (fun w => isDay_any d w)
  rw [hd] at HD
  have HP := hidIt h
  have HC := hidIt hc
  have HL := hidIt (fun v' w' (hv : IsPlan w' v' off xs) hc' => earlier_miss v' off xs d 1 ad w' hc' hv (by omega) (by omega) hh)
  clear h hd hh hc
  go_enter Tryd.func61, Tryd.ntmps61
  go_wp2_with fail
  refine (HR.out _).mono ?_
  rintro e w1 ⟨rfl, ew⟩
  subst w1
  go_wp2_with fail
  refine (HD.out _).mono ?_
  rintro e w1 ⟨rfl, ew⟩
  subst w1
  go_wp2_with fail
  refine HP.out.mono ?_
  rintro e w1 ⟨⟨v', rfl, hv⟩, hb1⟩
  have HB1 := hidIt hb1
  have HV := hidIt hv
  clear hb1 hv
  go_wp2_with fail
  refine (HL.out _ _ HV.out ((HB1.out.cell (p := ⟨0, 0, none⟩) (lt_of_cell HC.out)).trans HC.out)).mono ?_
  rintro e w2 ⟨rfl, hb2⟩
  have HB2 := hidIt (HB1.out.trans (hb2.mono HB1.out.size))
  clear hb2
  go_wp2
  go_ret2
  exact ⟨rfl, HB2.out⟩

set_option maxHeartbeats 1000000 in
theorem add_up_hit (pb : Nat) (off : Int → Bool) (xs : List Int) (d n : Int) (s : Nat) (w : World) (h : Calls Tryd.prog 50 #[.pointer (some ⟨pb, 0, none⟩)] w (PlanR off xs w)) (hd : isDayB d = true) (n1 : 1 ≤ n) (n2 : n ≤ 100000) (hh : Hit (upG off xs (d + 1)) ((3652060 - (d + 1)).toNat) n s) :
    Calls Tryd.prog 74 #[.int .i64 d, .int .i64 (n), .func (.func 50) #[] #[.pointer (some ⟨pb, 0, none⟩)]] w fun e w' => e = .returned (.tuple #[.int .i64 (d + 1 + s), .nilIface]) ∧ Below w.heap.size w w' := by
  obtain ⟨d1, d2⟩ := isDayB_iff.1 hd
  have HD := hidIt (fun w => isDay_any d w)
  rw [hd] at HD
  have HP := hidIt h
  have HL := hidIt (fun v' w' (hv : IsPlan w' v' off xs) => later_hit v' off xs (d + 1) n s w' hv (by omega) (by omega) hh)
  clear h hd hh
  go_enter Tryd.func74, Tryd.ntmps74
  go_wp2_with fail
  refine (HD.out _).mono ?_
  rintro e w1 ⟨rfl, ew⟩
  subst w1
  go_wp2_with fail
  refine HP.out.mono ?_
  rintro e w1 ⟨⟨v', rfl, hv⟩, hb1⟩
  have HB1 := hidIt hb1
  have HV := hidIt hv
  clear hb1 hv
  go_wp2_with fail
  refine (HL.out _ _ HV.out).mono ?_
  rintro e w2 ⟨rfl, hb2⟩
  have HB2 := hidIt (HB1.out.trans (hb2.mono HB1.out.size))
  clear hb2
  go_wp2
  go_ret2
  exact ⟨rfl, HB2.out⟩

set_option maxHeartbeats 1000000 in
theorem add_up_miss (pb : Nat) (off : Int → Bool) (xs : List Int) (d n : Int) (ad : Addr) (w : World) (hc : w.cell? ⟨0, 0, none⟩ = some (.iface 134 (.pointer (some ad)))) (h : Calls Tryd.prog 50 #[.pointer (some ⟨pb, 0, none⟩)] w (PlanR off xs w)) (hd : isDayB d = true) (n1 : 1 ≤ n) (n2 : n ≤ 100000) (hh : cn (upG off xs (d + 1)) ((3652060 - (d + 1)).toNat) < n) :
    Calls Tryd.prog 74 #[.int .i64 d, .int .i64 (n), .func (.func 50) #[] #[.pointer (some ⟨pb, 0, none⟩)]] w fun e w' => e = .returned (.tuple #[.int .i64 0, .iface 134 (.pointer (some ad))]) ∧ Below w.heap.size w w' := by
  obtain ⟨d1, d2⟩ := isDayB_iff.1 hd
  have HD := hidIt (fun w => isDay_any d w)
  rw [hd] at HD
  have HP := hidIt h
  have HC := hidIt hc
  have HL := hidIt (fun v' w' (hv : IsPlan w' v' off xs) hc' => later_miss v' off xs (d + 1) n ad w' hc' hv (by omega) (by omega) hh)
  clear h hd hh hc
  go_enter Tryd.func74, Tryd.ntmps74
  go_wp2_with fail
  refine (HD.out _).mono ?_
  rintro e w1 ⟨rfl, ew⟩
  subst w1
  go_wp2_with fail
  refine HP.out.mono ?_
  rintro e w1 ⟨⟨v', rfl, hv⟩, hb1⟩
  have HB1 := hidIt hb1
  have HV := hidIt hv
  clear hb1 hv
  go_wp2_with fail
  refine (HL.out _ _ HV.out ((HB1.out.cell (p := ⟨0, 0, none⟩) (lt_of_cell HC.out)).trans HC.out)).mono ?_
  rintro e w2 ⟨rfl, hb2⟩
  have HB2 := hidIt (HB1.out.trans (hb2.mono HB1.out.size))
  clear hb2
  go_wp2
  go_ret2
  exact ⟨rfl, HB2.out⟩

set_option maxHeartbeats 1000000 in
theorem add_dn_hit (pb : Nat) (off : Int → Bool) (xs : List Int) (d n : Int) (s : Nat) (w : World) (h : Calls Tryd.prog 50 #[.pointer (some ⟨pb, 0, none⟩)] w (PlanR off xs w)) (hd : isDayB d = true) (n1 : 1 ≤ n) (n2 : n ≤ 100000) (hh : Hit (dnG off xs (d - 1)) ((d - 1).toNat) n s) :
    Calls Tryd.prog 74 #[.int .i64 d, .int .i64 (-n), .func (.func 50) #[] #[.pointer (some ⟨pb, 0, none⟩)]] w fun e w' => e = .returned (.tuple #[.int .i64 (d - 1 - s), .nilIface]) ∧ Below w.heap.size w w' := by
  obtain ⟨d1, d2⟩ := isDayB_iff.1 hd
  have HD := hidIt (fun w => isDay_any d w)
  rw [hd] at HD
  have HP := hidIt h
  have HL := hidIt (fun v' w' (hv : IsPlan w' v' off xs) => earlier_hit v' off xs (d - 1) n s w' hv (by omega) (by omega) hh)
  clear h hd hh
  go_enter Tryd.func74, Tryd.ntmps74
  go_wp2_with fail
  refine (HD.out _).mono ?_
  rintro e w1 ⟨rfl, ew⟩
  subst w1
  go_wp2_with fail
  refine HP.out.mono ?_
  rintro e w1 ⟨⟨v', rfl, hv⟩, hb1⟩
  have HB1 := hidIt hb1
  have HV := hidIt hv
  clear hb1 hv
  go_wp2_with fail
  refine (HL.out _ _ HV.out).mono ?_
  rintro e w2 ⟨rfl, hb2⟩
  have HB2 := hidIt (HB1.out.trans (hb2.mono HB1.out.size))
  clear hb2
  go_wp2
  go_ret2
  exact ⟨rfl, HB2.out⟩

set_option maxHeartbeats 1000000 in
theorem add_dn_miss (pb : Nat) (off : Int → Bool) (xs : List Int) (d n : Int) (ad : Addr) (w : World) (hc : w.cell? ⟨0, 0, none⟩ = some (.iface 134 (.pointer (some ad)))) (h : Calls Tryd.prog 50 #[.pointer (some ⟨pb, 0, none⟩)] w (PlanR off xs w)) (hd : isDayB d = true) (n1 : 1 ≤ n) (n2 : n ≤ 100000) (hh : cn (dnG off xs (d - 1)) ((d - 1).toNat) < n) :
    Calls Tryd.prog 74 #[.int .i64 d, .int .i64 (-n), .func (.func 50) #[] #[.pointer (some ⟨pb, 0, none⟩)]] w fun e w' => e = .returned (.tuple #[.int .i64 0, .iface 134 (.pointer (some ad))]) ∧ Below w.heap.size w w' := by
  obtain ⟨d1, d2⟩ := isDayB_iff.1 hd
  have HD := hidIt (fun w => isDay_any d w)
  rw [hd] at HD
  have HP := hidIt h
  have HC := hidIt hc
  have HL := hidIt (fun v' w' (hv : IsPlan w' v' off xs) hc' => earlier_miss v' off xs (d - 1) n ad w' hc' hv (by omega) (by omega) hh)
  clear h hd hh hc
  go_enter Tryd.func74, Tryd.ntmps74
  go_wp2_with fail
  refine (HD.out _).mono ?_
  rintro e w1 ⟨rfl, ew⟩
  subst w1
  go_wp2_with fail
  refine HP.out.mono ?_
  rintro e w1 ⟨⟨v', rfl, hv⟩, hb1⟩
  have HB1 := hidIt hb1
  have HV := hidIt hv
  clear hb1 hv
  go_wp2_with fail
  refine (HL.out _ _ HV.out ((HB1.out.cell (p := ⟨0, 0, none⟩) (lt_of_cell HC.out)).trans HC.out)).mono ?_
  rintro e w2 ⟨rfl, hb2⟩
  have HB2 := hidIt (HB1.out.trans (hb2.mono HB1.out.size))
  clear hb2
  go_wp2
  go_ret2
  exact ⟨rfl, HB2.out⟩

theorem add_bound (pb : Nat) (d n : Int) (ad : Addr) (w : World) (hc : w.cell? ⟨4, 0, none⟩ = some (.iface 134 (.pointer (some ad)))) (h : n < -100000 ∨ 100000 < n) :
    Calls Tryd.prog 74 #[.int .i64 d, .int .i64 n, .func (.func 50) #[] #[.pointer (some ⟨pb, 0, none⟩)]] w fun e w' => e = .returned (.tuple #[.int .i64 0, .iface 134 (.pointer (some ad))]) ∧ Below w.heap.size w w' := by
  by_cases h0 : n < -100000
  · clear h
    go_enter Tryd.func74, Tryd.ntmps74
    go_wp2
    go_quiet (fail)
    go_wp2
    go_ret2
    exact ⟨rfl, bdrewN (Below.refl _ _) _⟩
  · have h1 : 100000 < n := by omega
    clear h
    go_enter Tryd.func74, Tryd.ntmps74
    go_wp2
    go_quiet (fail)
    go_wp2
    go_ret2
    exact ⟨rfl, bdrewN (Below.refl _ _) _⟩
theorem add_noday (pb : Nat) (d n : Int) (ad : Addr) (w : World) (hc : w.cell? ⟨0, 0, none⟩ = some (.iface 134 (.pointer (some ad)))) (n1 : -100000 ≤ n) (n2 : n ≤ 100000) (hd : isDayB d = false) :
    Calls Tryd.prog 74 #[.int .i64 d, .int .i64 n, .func (.func 50) #[] #[.pointer (some ⟨pb, 0, none⟩)]] w fun e w' => e = .returned (.tuple #[.int .i64 0, .iface 134 (.pointer (some ad))]) ∧ Below w.heap.size w w' := by
  have HD := hidIt (fun w => isDay_any d w)
  rw [hd] at HD
  clear hd
  go_enter Tryd.func74, Tryd.ntmps74
  go_wp2_with (go_at_call 14; refine (HD.out _).mono ?_; rintro e w' ⟨rfl, rfl⟩)
  go_quiet (fail)
  go_wp2
  go_ret2
  exact ⟨rfl, bdrewN (Below.refl _ _) _⟩
theorem add_zero' (pb : Nat) (d : Int) (w : World) (hd : isDayB d = true) :
    Calls Tryd.prog 74 #[.int .i64 d, .int .i64 0, .func (.func 50) #[] #[.pointer (some ⟨pb, 0, none⟩)]] w fun e w' => e = .returned (.tuple #[.int .i64 d, .nilIface]) ∧ Below w.heap.size w w' := by
  have HD := hidIt (fun w => isDay_any d w)
  rw [hd] at HD
  clear hd
  go_enter Tryd.func74, Tryd.ntmps74
  go_wp2_with (go_at_call 14; refine (HD.out _).mono ?_; rintro e w' ⟨rfl, rfl⟩)
  go_ret2
  exact ⟨rfl, Below.refl _ _⟩
end Go.Proofs.YtpijiglmjkdlgaaDoor
namespace Go.Proofs.YtpijiglmjkdlgaaDoor
namespace M
open Go.RowKit Go.Sort Go.Lib

theorem roll_kind (pb : Option Addr) (d how : Int) (ad : Addr) (w : World) (hc : w.cell? ⟨2, 0, none⟩ = some (.iface 134 (.pointer (some ad)))) (h : rollB how = false) :
    Calls Tryd.prog 61 #[.int .i64 d, .int .i64 how, .func (.func 32) #[.pointer pb] #[]] w fun e w' => e = .returned (.tuple #[.int .i64 0, .iface 134 (.pointer (some ad))]) ∧ Below w.heap.size w w' := by
  have HR := hidIt (fun w => isRoll_any how w)
  rw [h] at HR
  clear h
  go_enter Tryd.func61, Tryd.ntmps61
  go_wp2_with (go_at_call 59; refine (HR.out _).mono ?_; rintro e w' ⟨rfl, rfl⟩)
  go_quiet (fail)
  go_wp2
  go_ret2
  exact ⟨rfl, bdrewN (Below.refl _ _) _⟩
theorem roll_noday (pb : Option Addr) (d how : Int) (ad : Addr) (w : World) (hc : w.cell? ⟨0, 0, none⟩ = some (.iface 134 (.pointer (some ad)))) (h : rollB how = true) (hd : isDayB d = false) :
    Calls Tryd.prog 61 #[.int .i64 d, .int .i64 how, .func (.func 32) #[.pointer pb] #[]] w fun e w' => e = .returned (.tuple #[.int .i64 0, .iface 134 (.pointer (some ad))]) ∧ Below w.heap.size w w' := by
  have HR := hidIt (fun w => isRoll_any how w)
  rw [h] at HR
  have HD := hidIt (fun w => isDay_any d w)
  rw [hd] at HD
  clear h hd
  go_enter Tryd.func61, Tryd.ntmps61
  go_wp2_with (first | (go_at_call 59; refine (HR.out _).mono ?_; rintro e w' ⟨rfl, rfl⟩) | (go_at_call 14; refine (HD.out _).mono ?_; rintro e w' ⟨rfl, rfl⟩))
  go_quiet (fail)
  go_wp2
  go_ret2
  exact ⟨rfl, bdrewN (Below.refl _ _) _⟩
theorem roll_stay (pb : Option Addr) (d : Int) (w : World) (hd : isDayB d = true) :
    Calls Tryd.prog 61 #[.int .i64 d, .int .i64 0, .func (.func 32) #[.pointer pb] #[]] w fun e w' => e = .returned (.tuple #[.int .i64 d, .nilIface]) ∧ Below w.heap.size w w' := by
  have HR := hidIt (fun w => isRoll_any 0 w)
  rw [show rollB 0 = true from rfl] at HR
  have HD := hidIt (fun w => isDay_any d w)
  rw [hd] at HD
  clear hd
  go_enter Tryd.func61, Tryd.ntmps61
  go_wp2_with (first | (go_at_call 59; refine (HR.out _).mono ?_; rintro e w' ⟨rfl, rfl⟩) | (go_at_call 14; refine (HD.out _).mono ?_; rintro e w' ⟨rfl, rfl⟩))
  go_ret2
  exact ⟨rfl, Below.refl _ _⟩

set_option maxHeartbeats 1000000 in
theorem roll_up_hit (pb : Option Addr) (off : Int → Bool) (xs : List Int) (d : Int) (s : Nat) (w : World) (h : Calls Tryd.prog 32 #[.pointer pb] w (PlanR off xs w)) (hd : isDayB d = true) (hh : Hit (upG off xs d) (3652060 - d).toNat 1 s) :
    Calls Tryd.prog 61 #[.int .i64 d, .int .i64 1, .func (.func 32) #[.pointer pb] #[]] w fun e w' => e = .returned (.tuple #[.int .i64 (d + s), .nilIface]) ∧ Below w.heap.size w w' := by
  obtain ⟨d1, d2⟩ := isDayB_iff.1 hd
  have HR := hidIt (fun w => isRoll_any 1 w)
  rw [show rollB 1 = true from rfl] at HR
  have HD := hidIt (fun w => isDay_any d w)
  rw [hd] at HD
  have HP := hidIt h
  have HL := hidIt (fun v' w' (hv : IsPlan w' v' off xs) => later_hit v' off xs d 1 s w' hv (by omega) (by omega) hh)
  clear h hd hh
  go_enter Tryd.func61, Tryd.ntmps61
  go_wp2_with fail
  refine (HR.out _).mono ?_
  rintro e w1 ⟨rfl, ew⟩
  subst w1
  go_wp2_with fail
  refine (HD.out _).mono ?_
  rintro e w1 ⟨rfl, ew⟩
  subst w1
  go_wp2_with fail
  refine HP.out.mono ?_
  rintro e w1 ⟨⟨v', rfl, hv⟩, hb1⟩
  have HB1 := hidIt hb1
  have HV := hidIt hv
  clear hb1 hv
  go_wp2_with fail
  refine (HL.out _ _ HV.out).mono ?_
  rintro e w2 ⟨rfl, hb2⟩
  have HB2 := hidIt (HB1.out.trans (hb2.mono HB1.out.size))
  clear hb2
  go_wp2
  go_ret2
  exact ⟨rfl, HB2.out⟩

set_option maxHeartbeats 1000000 in
theorem roll_up_miss (pb : Option Addr) (off : Int → Bool) (xs : List Int) (d : Int) (ad : Addr) (w : World) (hc : w.cell? ⟨0, 0, none⟩ = some (.iface 134 (.pointer (some ad)))) (h : Calls Tryd.prog 32 #[.pointer pb] w (PlanR off xs w)) (hd : isDayB d = true) (hh : cn (upG off xs d) (3652060 - d).toNat < 1) :
    Calls Tryd.prog 61 #[.int .i64 d, .int .i64 1, .func (.func 32) #[.pointer pb] #[]] w fun e w' => e = .returned (.tuple #[.int .i64 0, .iface 134 (.pointer (some ad))]) ∧ Below w.heap.size w w' := by
  obtain ⟨d1, d2⟩ := isDayB_iff.1 hd
  have HR := hidIt (fun w => isRoll_any 1 w)
  rw [show rollB 1 = true from rfl] at HR
  have HD := hidIt (fun w => isDay_any d w)
  rw [hd] at HD
  have HP := hidIt h
  have HC := hidIt hc
  have HL := hidIt (fun v' w' (hv : IsPlan w' v' off xs) hc' => later_miss v' off xs d 1 ad w' hc' hv (by omega) (by omega) hh)
  clear h hd hh hc
  go_enter Tryd.func61, Tryd.ntmps61
  go_wp2_with fail
  refine (HR.out _).mono ?_
  rintro e w1 ⟨rfl, ew⟩
  subst w1
  go_wp2_with fail
  refine (HD.out _).mono ?_
  rintro e w1 ⟨rfl, ew⟩
  subst w1
  go_wp2_with fail
  refine HP.out.mono ?_
  rintro e w1 ⟨⟨v', rfl, hv⟩, hb1⟩
  have HB1 := hidIt hb1
  have HV := hidIt hv
  clear hb1 hv
  go_wp2_with fail
  refine (HL.out _ _ HV.out ((HB1.out.cell (p := ⟨0, 0, none⟩) (lt_of_cell HC.out)).trans HC.out)).mono ?_
  rintro e w2 ⟨rfl, hb2⟩
  have HB2 := hidIt (HB1.out.trans (hb2.mono HB1.out.size))
  clear hb2
  go_wp2
  go_ret2
  exact ⟨rfl, HB2.out⟩

set_option maxHeartbeats 1000000 in
theorem roll_dn_hit (pb : Option Addr) (off : Int → Bool) (xs : List Int) (d : Int) (s : Nat) (w : World) (h : Calls Tryd.prog 32 #[.pointer pb] w (PlanR off xs w)) (hd : isDayB d = true) (hh : Hit (dnG off xs d) d.toNat 1 s) :
    Calls Tryd.prog 61 #[.int .i64 d, .int .i64 2, .func (.func 32) #[.pointer pb] #[]] w fun e w' => e = .returned (.tuple #[.int .i64 (d - s), .nilIface]) ∧ Below w.heap.size w w' := by
  obtain ⟨d1, d2⟩ := isDayB_iff.1 hd
  have HR := hidIt (fun w => isRoll_any 2 w)
  rw [show rollB 2 = true from rfl] at HR
  have HD := hidIt (fun w => isDay_any d w)
  rw [hd] at HD
  have HP := hidIt h
  have HL := hidIt (fun v' w' (hv : IsPlan w' v' off xs) => earlier_hit v' off xs d 1 s w' hv (by omega) (by omega) hh)
  clear h hd hh
  go_enter Tryd.func61, Tryd.ntmps61
  go_wp2_with fail
  refine (HR.out _).mono ?_
  rintro e w1 ⟨rfl, ew⟩
  subst w1
  go_wp2_with fail
  refine (HD.out _).mono ?_
  rintro e w1 ⟨rfl, ew⟩
  subst w1
  go_wp2_with fail
  refine HP.out.mono ?_
  rintro e w1 ⟨⟨v', rfl, hv⟩, hb1⟩
  have HB1 := hidIt hb1
  have HV := hidIt hv
  clear hb1 hv
  go_wp2_with fail
  refine (HL.out _ _ HV.out).mono ?_
  rintro e w2 ⟨rfl, hb2⟩
  have HB2 := hidIt (HB1.out.trans (hb2.mono HB1.out.size))
  clear hb2
  go_wp2
  go_ret2
  exact ⟨rfl, HB2.out⟩

set_option maxHeartbeats 1000000 in
theorem roll_dn_miss (pb : Option Addr) (off : Int → Bool) (xs : List Int) (d : Int) (ad : Addr) (w : World) (hc : w.cell? ⟨0, 0, none⟩ = some (.iface 134 (.pointer (some ad)))) (h : Calls Tryd.prog 32 #[.pointer pb] w (PlanR off xs w)) (hd : isDayB d = true) (hh : cn (dnG off xs d) d.toNat < 1) :
    Calls Tryd.prog 61 #[.int .i64 d, .int .i64 2, .func (.func 32) #[.pointer pb] #[]] w fun e w' => e = .returned (.tuple #[.int .i64 0, .iface 134 (.pointer (some ad))]) ∧ Below w.heap.size w w' := by
  obtain ⟨d1, d2⟩ := isDayB_iff.1 hd
  have HR := hidIt (fun w => isRoll_any 2 w)
  rw [show rollB 2 = true from rfl] at HR
  have HD := hidIt (fun w => isDay_any d w)
  rw [hd] at HD
  have HP := hidIt h
  have HC := hidIt hc
  have HL := hidIt (fun v' w' (hv : IsPlan w' v' off xs) hc' => earlier_miss v' off xs d 1 ad w' hc' hv (by omega) (by omega) hh)
  clear h hd hh hc
  go_enter Tryd.func61, Tryd.ntmps61
  go_wp2_with fail
  refine (HR.out _).mono ?_
  rintro e w1 ⟨rfl, ew⟩
  subst w1
  go_wp2_with fail
  refine (HD.out _).mono ?_
  rintro e w1 ⟨rfl, ew⟩
  subst w1
  go_wp2_with fail
  refine HP.out.mono ?_
  rintro e w1 ⟨⟨v', rfl, hv⟩, hb1⟩
  have HB1 := hidIt hb1
  have HV := hidIt hv
  clear hb1 hv
  go_wp2_with fail
  refine (HL.out _ _ HV.out ((HB1.out.cell (p := ⟨0, 0, none⟩) (lt_of_cell HC.out)).trans HC.out)).mono ?_
  rintro e w2 ⟨rfl, hb2⟩
  have HB2 := hidIt (HB1.out.trans (hb2.mono HB1.out.size))
  clear hb2
  go_wp2
  go_ret2
  exact ⟨rfl, HB2.out⟩

set_option maxHeartbeats 1000000 in
theorem add_up_hit (pb : Option Addr) (off : Int → Bool) (xs : List Int) (d n : Int) (s : Nat) (w : World) (h : Calls Tryd.prog 32 #[.pointer pb] w (PlanR off xs w)) (hd : isDayB d = true) (n1 : 1 ≤ n) (n2 : n ≤ 100000) (hh : Hit (upG off xs (d + 1)) ((3652060 - (d + 1)).toNat) n s) :
    Calls Tryd.prog 74 #[.int .i64 d, .int .i64 (n), .func (.func 32) #[.pointer pb] #[]] w fun e w' => e = .returned (.tuple #[.int .i64 (d + 1 + s), .nilIface]) ∧ Below w.heap.size w w' := by
  obtain ⟨d1, d2⟩ := isDayB_iff.1 hd
  have HD := hidIt (fun w => isDay_any d w)
  rw [hd] at HD
  have HP := hidIt h
  have HL := hidIt (fun v' w' (hv : IsPlan w' v' off xs) => later_hit v' off xs (d + 1) n s w' hv (by omega) (by omega) hh)
  clear h hd hh
  go_enter Tryd.func74, Tryd.ntmps74
  go_wp2_with fail
  refine (HD.out _).mono ?_
  rintro e w1 ⟨rfl, ew⟩
  subst w1
  go_wp2_with fail
  refine HP.out.mono ?_
  rintro e w1 ⟨⟨v', rfl, hv⟩, hb1⟩
  have HB1 := hidIt hb1
  have HV := hidIt hv
  clear hb1 hv
  go_wp2_with fail
  refine (HL.out _ _ HV.out).mono ?_
  rintro e w2 ⟨rfl, hb2⟩
  have HB2 := hidIt (HB1.out.trans (hb2.mono HB1.out.size))
  clear hb2
  go_wp2
  go_ret2
  exact ⟨rfl, HB2.out⟩

set_option maxHeartbeats 1000000 in
theorem add_up_miss (pb : Option Addr) (off : Int → Bool) (xs : List Int) (d n : Int) (ad : Addr) (w : World) (hc : w.cell? ⟨0, 0, none⟩ = some (.iface 134 (.pointer (some ad)))) (h : Calls Tryd.prog 32 #[.pointer pb] w (PlanR off xs w)) (hd : isDayB d = true) (n1 : 1 ≤ n) (n2 : n ≤ 100000) (hh : cn (upG off xs (d + 1)) ((3652060 - (d + 1)).toNat) < n) :
    Calls Tryd.prog 74 #[.int .i64 d, .int .i64 (n), .func (.func 32) #[.pointer pb] #[]] w fun e w' => e = .returned (.tuple #[.int .i64 0, .iface 134 (.pointer (some ad))]) ∧ Below w.heap.size w w' := by
  obtain ⟨d1, d2⟩ := isDayB_iff.1 hd
  have HD := hidIt (fun w => isDay_any d w)
  rw [hd] at HD
  have HP := hidIt h
  have HC := hidIt hc
  have HL := hidIt (fun v' w' (hv : IsPlan w' v' off xs) hc' => later_miss v' off xs (d + 1) n ad w' hc' hv (by omega) (by omega) hh)
  clear h hd hh hc
  go_enter Tryd.func74, Tryd.ntmps74
  go_wp2_with fail
  refine (HD.out _).mono ?_
  rintro e w1 ⟨rfl, ew⟩
  subst w1
  go_wp2_with fail
  refine HP.out.mono ?_
  rintro e w1 ⟨⟨v', rfl, hv⟩, hb1⟩
  have HB1 := hidIt hb1
  have HV := hidIt hv
  clear hb1 hv
  go_wp2_with fail
  refine (HL.out _ _ HV.out ((HB1.out.cell (p := ⟨0, 0, none⟩) (lt_of_cell HC.out)).trans HC.out)).mono ?_
  rintro e w2 ⟨rfl, hb2⟩
  have HB2 := hidIt (HB1.out.trans (hb2.mono HB1.out.size))
  clear hb2
  go_wp2
  go_ret2
  exact ⟨rfl, HB2.out⟩

set_option maxHeartbeats 1000000 in
theorem add_dn_hit (pb : Option Addr) (off : Int → Bool) (xs : List Int) (d n : Int) (s : Nat) (w : World) (h : Calls Tryd.prog 32 #[.pointer pb] w (PlanR off xs w)) (hd : isDayB d = true) (n1 : 1 ≤ n) (n2 : n ≤ 100000) (hh : Hit (dnG off xs (d - 1)) ((d - 1).toNat) n s) :
    Calls Tryd.prog 74 #[.int .i64 d, .int .i64 (-n), .func (.func 32) #[.pointer pb] #[]] w fun e w' => e = .returned (.tuple #[.int .i64 (d - 1 - s), .nilIface]) ∧ Below w.heap.size w w' := by
  obtain ⟨d1, d2⟩ := isDayB_iff.1 hd
  have HD := hidIt (fun w => isDay_any d w)
  rw [hd] at HD
  have HP := hidIt h
  have HL := hidIt (fun v' w' (hv : IsPlan w' v' off xs) => earlier_hit v' off xs (d - 1) n s w' hv (by omega) (by omega) hh)
  clear h hd hh
  go_enter Tryd.func74, Tryd.ntmps74
  go_wp2_with fail
  refine (HD.out _).mono ?_
  rintro e w1 ⟨rfl, ew⟩
  subst w1
  go_wp2_with fail
  refine HP.out.mono ?_
  rintro e w1 ⟨⟨v', rfl, hv⟩, hb1⟩
  have HB1 := hidIt hb1
  have HV := hidIt hv
  clear hb1 hv
  go_wp2_with fail
  refine (HL.out _ _ HV.out).mono ?_
  rintro e w2 ⟨rfl, hb2⟩
  have HB2 := hidIt (HB1.out.trans (hb2.mono HB1.out.size))
  clear hb2
  go_wp2
  go_ret2
  exact ⟨rfl, HB2.out⟩

set_option maxHeartbeats 1000000 in
theorem add_dn_miss (pb : Option Addr) (off : Int → Bool) (xs : List Int) (d n : Int) (ad : Addr) (w : World) (hc : w.cell? ⟨0, 0, none⟩ = some (.iface 134 (.pointer (some ad)))) (h : Calls Tryd.prog 32 #[.pointer pb] w (PlanR off xs w)) (hd : isDayB d = true) (n1 : 1 ≤ n) (n2 : n ≤ 100000) (hh : cn (dnG off xs (d - 1)) ((d - 1).toNat) < n) :
    Calls Tryd.prog 74 #[.int .i64 d, .int .i64 (-n), .func (.func 32) #[.pointer pb] #[]] w fun e w' => e = .returned (.tuple #[.int .i64 0, .iface 134 (.pointer (some ad))]) ∧ Below w.heap.size w w' := by
  obtain ⟨d1, d2⟩ := isDayB_iff.1 hd
  have HD := hidIt (fun w => isDay_any d w)
  rw [hd] at HD
  have HP := hidIt h
  have HC := hidIt hc
  have HL := hidIt (fun v' w' (hv : IsPlan w' v' off xs) hc' => earlier_miss v' off xs (d - 1) n ad w' hc' hv (by omega) (by omega) hh)
  clear h hd hh hc
  go_enter Tryd.func74, Tryd.ntmps74
  go_wp2_with fail
  refine (HD.out _).mono ?_
  rintro e w1 ⟨rfl, ew⟩
  subst w1
  go_wp2_with fail
  refine HP.out.mono ?_
  rintro e w1 ⟨⟨v', rfl, hv⟩, hb1⟩
  have HB1 := hidIt hb1
  have HV := hidIt hv
  clear hb1 hv
  go_wp2_with fail
  refine (HL.out _ _ HV.out ((HB1.out.cell (p := ⟨0, 0, none⟩) (lt_of_cell HC.out)).trans HC.out)).mono ?_
  rintro e w2 ⟨rfl, hb2⟩
  have HB2 := hidIt (HB1.out.trans (hb2.mono HB1.out.size))
  clear hb2
  go_wp2
  go_ret2
  exact ⟨rfl, HB2.out⟩

theorem add_bound (pb : Option Addr) (d n : Int) (ad : Addr) (w : World) (hc : w.cell? ⟨4, 0, none⟩ = some (.iface 134 (.pointer (some ad)))) (h : n < -100000 ∨ 100000 < n) :
    Calls Tryd.prog 74 #[.int .i64 d, .int .i64 n, .func (.func 32) #[.pointer pb] #[]] w fun e w' => e = .returned (.tuple #[.int .i64 0, .iface 134 (.pointer (some ad))]) ∧ Below w.heap.size w w' := by
  by_cases h0 : n < -100000
  · clear h
    go_enter Tryd.func74, Tryd.ntmps74
    go_wp2
    go_quiet (fail)
    go_wp2
    go_ret2
    exact ⟨rfl, bdrewN (Below.refl _ _) _⟩
  · have h1 : 100000 < n := by omega
    clear h
    go_enter Tryd.func74, Tryd.ntmps74
    go_wp2
    go_quiet (fail)
    go_wp2
    go_ret2
    exact ⟨rfl, bdrewN (Below.refl _ _) _⟩
theorem add_noday (pb : Option Addr) (d n : Int) (ad : Addr) (w : World) (hc : w.cell? ⟨0, 0, none⟩ = some (.iface 134 (.pointer (some ad)))) (n1 : -100000 ≤ n) (n2 : n ≤ 100000) (hd : isDayB d = false) :
    Calls Tryd.prog 74 #[.int .i64 d, .int .i64 n, .func (.func 32) #[.pointer pb] #[]] w fun e w' => e = .returned (.tuple #[.int .i64 0, .iface 134 (.pointer (some ad))]) ∧ Below w.heap.size w w' := by
  have HD := hidIt (fun w => isDay_any d w)
  rw [hd] at HD
  clear hd
  go_enter Tryd.func74, Tryd.ntmps74
  go_wp2_with (go_at_call 14; refine (HD.out _).mono ?_; rintro e w' ⟨rfl, rfl⟩)
  go_quiet (fail)
  go_wp2
  go_ret2
  exact ⟨rfl, bdrewN (Below.refl _ _) _⟩
theorem add_zero' (pb : Option Addr) (d : Int) (w : World) (hd : isDayB d = true) :
    Calls Tryd.prog 74 #[.int .i64 d, .int .i64 0, .func (.func 32) #[.pointer pb] #[]] w fun e w' => e = .returned (.tuple #[.int .i64 d, .nilIface]) ∧ Below w.heap.size w w' := by
  have HD := hidIt (fun w => isDay_any d w)
  rw [hd] at HD
  clear hd
  go_enter Tryd.func74, Tryd.ntmps74
  go_wp2_with (go_at_call 14; refine (HD.out _).mono ?_; rintro e w' ⟨rfl, rfl⟩)
  go_ret2
  exact ⟨rfl, Below.refl _ _⟩
end M
end Go.Proofs.YtpijiglmjkdlgaaDoor

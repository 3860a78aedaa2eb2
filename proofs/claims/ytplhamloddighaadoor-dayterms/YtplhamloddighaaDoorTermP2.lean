/-
  day.wordAhead by contracts.
-/
import Derived.Test.YtplhamloddighaaDoorTermP1
namespace Go.Proofs.YtplhamloddighaaDoor
open Go.RowKit Go.Extern.Stop Go.Stop Go.Extern

set_option maxHeartbeats 2000000 in
theorem wordAhead_unit (t : ByteArray) (u : Int) (hu : IsUnit (bl t) u) (h1 : -1 ≤ u) (h2 : u ≤ 4) (w : World) :
    Calls Tryd.prog 42 #[.string t, .int .i64 0, .int .i64 4, .func (.func 43) #[] #[]] w fun e w' => e = .returned (.int .i64 u) ∧ w' = w := by
  have HU := hidIt hu
  have HP := hidIt (fun (i : Nat) w => Go.Proofs.Tryd.strings_HasPrefix t (wdS i) w)
  clear hu
  go_enter Tryd.func42, Tryd.ntmps42
  go_wp2_with fail
  go_loop [9] (fun t => ∃ i : Nat, i ≤ 5 ∧ t = .int .i64 i ∧ (u = -1 ∨ i ≤ u)) (fun t => 5 - (RowKit.intOf t).toNat)
  case atStart => exact ⟨0, by omega, rfl, by omega⟩
  case round =>
    obtain ⟨i, hi, rfl, hr⟩ := hrel
    by_cases hlt : i < 5
    · have hiz : (i : Int) ≤ 4 := by omega
      have HW := hidIt (fun w => unitWord_any i hlt w)
      have HPi := hidIt (HP.out i)
      rw [bl_wdS, HU.out i hlt] at HPi
      have HR := hidIt hr
      clear hr
      by_cases he : (i : Int) = u
      · have HE := hidIt he
        rw [show decide ((i : Int) = u) = true by simpa using he] at HPi
        clear he
        go_wp2_with fail
        refine (HW.out _).mono ?_
        rintro e w1 ⟨rfl, ew⟩
        subst w1
        go_wp2_with fail
        refine (HPi.out _).mono ?_
        rintro e w1 ⟨rfl, ew⟩
        subst w1
        go_wp2
        go_ret
        exact ⟨ret_int HE.out, rfl⟩
      · rw [show decide ((i : Int) = u) = false by simpa using he] at HPi
        have HN := hidIt he
        clear he
        go_wp2_with fail
        refine (HW.out _).mono ?_
        rintro e w1 ⟨rfl, ew⟩
        subst w1
        go_wp2_with fail
        refine (HPi.out _).mono ?_
        rintro e w1 ⟨rfl, ew⟩
        subst w1
        go_wp2
        go_round
        case rel => exact ⟨i + 1, by omega, by go_num, by have := HR.out; have := HN.out; omega⟩
        case measure => simp [RowKit.intOf]; omega
    · obtain rfl : i = 5 := by omega
      have HE : Hid (-1 = u) := by show _ = _; omega
      clear hr
      go_wp2
      go_ret
      exact ⟨ret_int HE.out, rfl⟩
set_option maxHeartbeats 2000000 in
theorem wordAhead_roll (t : ByteArray) (u : Int) (hu : IsRoll (bl t) u) (h1 : u = -1 ∨ u = 1 ∨ u = 2) (w : World) :
    Calls Tryd.prog 42 #[.string t, .int .i64 1, .int .i64 2, .func (.func 48) #[] #[]] w fun e w' => e = .returned (.int .i64 u) ∧ w' = w := by
  have HU : Hid (∀ i : Nat, i = 1 ∨ i = 2 → Lib.hasPrefix (bl t) (rwL i) = decide ((i : Int) = u)) := fun i hi => by
    rcases hi with rfl | rfl
    · exact hu.1.trans (by congr 1; exact propext ⟨fun h => h.symm, fun h => h.symm⟩)
    · exact hu.2.trans (by congr 1; exact propext ⟨fun h => h.symm, fun h => h.symm⟩)
  have HP := hidIt (fun (i : Nat) w => Go.Proofs.Tryd.strings_HasPrefix t (rwS i) w)
  clear hu
  go_enter Tryd.func42, Tryd.ntmps42
  go_wp2_with fail
  go_loop [9] (fun t => ∃ i : Nat, 1 ≤ i ∧ i ≤ 3 ∧ t = .int .i64 i ∧ (u = -1 ∨ i ≤ u)) (fun t => 3 - (RowKit.intOf t).toNat)
  case atStart => exact ⟨1, by omega, by omega, rfl, by omega⟩
  case round =>
    obtain ⟨i, hi0, hi, rfl, hr⟩ := hrel
    by_cases hlt : i < 3
    · have hiz : (i : Int) ≤ 2 := by omega
      have hi2 : i = 1 ∨ i = 2 := by omega
      have HW := hidIt (fun w => rollWord_any i hi2 w)
      have HPi := hidIt (HP.out i)
      rw [bl_rwS, HU.out i hi2] at HPi
      have HR := hidIt hr
      clear hr hi2
      by_cases he : (i : Int) = u
      · have HE := hidIt he
        rw [show decide ((i : Int) = u) = true by simpa using he] at HPi
        clear he
        go_wp2_with fail
        refine (HW.out _).mono ?_
        rintro e w1 ⟨rfl, ew⟩
        subst w1
        go_wp2_with fail
        refine (HPi.out _).mono ?_
        rintro e w1 ⟨rfl, ew⟩
        subst w1
        go_wp2
        go_ret
        exact ⟨ret_int HE.out, rfl⟩
      · rw [show decide ((i : Int) = u) = false by simpa using he] at HPi
        have HN := hidIt he
        clear he
        go_wp2_with fail
        refine (HW.out _).mono ?_
        rintro e w1 ⟨rfl, ew⟩
        subst w1
        go_wp2_with fail
        refine (HPi.out _).mono ?_
        rintro e w1 ⟨rfl, ew⟩
        subst w1
        go_wp2
        go_round
        case rel => exact ⟨i + 1, by omega, by omega, by go_num, by have := HR.out; have := HN.out; omega⟩
        case measure => simp [RowKit.intOf]; omega
    · obtain rfl : i = 3 := by omega
      have HE : Hid (-1 = u) := by show _ = _; omega
      clear hr
      go_wp2
      go_ret
      exact ⟨ret_int HE.out, rfl⟩
end Go.Proofs.YtplhamloddighaaDoor

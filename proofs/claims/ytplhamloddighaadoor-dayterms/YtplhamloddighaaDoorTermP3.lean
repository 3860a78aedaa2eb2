/-
  day.readRoll by contracts.
-/
import Derived.Test.YtplhamloddighaaDoorTermP2
namespace Go.Proofs.YtplhamloddighaaDoor
open Go.RowKit Go.Extern.Stop Go.Stop Go.Extern

set_option maxHeartbeats 2000000 in
theorem rr_comma (s : ByteArray) (a : Nat) (ad : Addr) (w : World) (hc : w.cell? ⟨3, 0, none⟩ = some (.iface 159 (.pointer (some ad)))) (ha : a ≤ 3000) (h0 : atIs s a 44 = false) :
    Calls Tryd.prog 44 #[.string s, .int .i64 a] w fun e w' => e = .returned (.tuple #[.int .i64 0, .int .i64 0, .iface 75 (.pointer (some ⟨w.heap.size, 0, none⟩))]) ∧ w' = w.alloc (.cells #[.int .i64 a, .iface 159 (.pointer (some ad))] 77) := by
  have H0 := hidIt (fun w => stands_any s a 44 44 w (by decide))
  rw [h0] at H0
  have HW := hidIt (wrongText_any a ad w hc)
  clear h0 hc
  go_enter Tryd.func44, Tryd.ntmps44
  go_wp2_with fail
  go_loop [8] (fun t => t = .int .i64 0) (fun _ => 0)
  case atStart => exact rfl
  case round =>
    subst hrel
    go_wp2_with fail
    refine (H0.out _).mono ?_
    rintro e w1 ⟨rfl, ew⟩
    subst w1
    go_wp2_with fail
    refine HW.out.mono ?_
    rintro e w1 ⟨rfl, ew⟩
    subst w1
    go_wp2
    go_ret3
    exact ⟨rfl, rfl⟩
set_option maxHeartbeats 2000000 in
theorem rr_blank (s : ByteArray) (a : Nat) (ad : Addr) (w : World) (hc : w.cell? ⟨3, 0, none⟩ = some (.iface 159 (.pointer (some ad)))) (ha : a ≤ 3000) (h0 : atIs s a 44 = true) (h1 : atIs s (a + 1) 32 = false) :
    Calls Tryd.prog 44 #[.string s, .int .i64 a] w fun e w' => e = .returned (.tuple #[.int .i64 0, .int .i64 0, .iface 75 (.pointer (some ⟨w.heap.size, 0, none⟩))]) ∧ w' = w.alloc (.cells #[.int .i64 (a + 1), .iface 159 (.pointer (some ad))] 77) := by
  have H0 := hidIt (fun w => stands_any s a 44 44 w (by decide))
  have H1 := hidIt (fun w => stands_any s (a + 1) 32 32 w (by decide))
  rw [h0] at H0
  rw [h1, show ((a + 1 : Nat) : Int) = a + 1 by omega] at H1
  have HW := hidIt (wrongText_any (a + 1) ad w hc)
  clear h0 h1 hc
  go_enter Tryd.func44, Tryd.ntmps44
  go_wp2_with fail
  go_loop [8] (fun t => t = .int .i64 0 ∨ t = .int .i64 1) (fun t => (1 - RowKit.intOf t).toNat)
  case atStart => exact .inl rfl
  case round =>
    rcases hrel with rfl | rfl
    · go_wp2_with fail
      refine (H0.out _).mono ?_
      rintro e w1 ⟨rfl, ew⟩
      subst w1
      go_wp2
      go_round
      case rel => exact .inr rfl
      case measure => simp [RowKit.intOf]
    · go_wp2_with fail
      refine (H1.out _).mono ?_
      rintro e w1 ⟨rfl, ew⟩
      subst w1
      go_wp2_with fail
      refine HW.out.mono ?_
      rintro e w1 ⟨rfl, ew⟩
      subst w1
      go_wp2
      go_ret3
      exact ⟨rfl, rfl⟩
set_option maxHeartbeats 2000000 in
theorem rr_word (s : ByteArray) (a : Nat) (ad : Addr) (w : World) (hc : w.cell? ⟨3, 0, none⟩ = some (.iface 159 (.pointer (some ad)))) (ha : a ≤ 3000) (h0 : atIs s a 44 = true) (h1 : atIs s (a + 1) 32 = true) (h2 : IsRoll (bl (s.extract (a + 2) s.size)) (-1)) :
    Calls Tryd.prog 44 #[.string s, .int .i64 a] w fun e w' => e = .returned (.tuple #[.int .i64 0, .int .i64 0, .iface 75 (.pointer (some ⟨w.heap.size, 0, none⟩))]) ∧ w' = w.alloc (.cells #[.int .i64 (a + 2), .iface 159 (.pointer (some ad))] 77) := by
  have H0 := hidIt (fun w => stands_any s a 44 44 w (by decide))
  have H1 := hidIt (fun w => stands_any s (a + 1) 32 32 w (by decide))
  have hsz := atIs_lt h1
  rw [h0] at H0
  rw [h1, show ((a + 1 : Nat) : Int) = a + 1 by omega] at H1
  have HW := hidIt (wrongText_any (a + 2) ad w hc)
  have HA := hidIt (fun w => wordAhead_roll (s.extract (a + 2) s.size) (-1) h2 (by omega) w)
  clear h0 h1 hc h2
  go_enter Tryd.func44, Tryd.ntmps44
  go_wp2_with fail
  go_loop [8] (fun t => t = .int .i64 0 ∨ t = .int .i64 1 ∨ t = .int .i64 2) (fun t => (2 - RowKit.intOf t).toNat)
  case atStart => exact .inl rfl
  case round =>
    rcases hrel with rfl | rfl | rfl
    · go_wp2_with fail
      refine (H0.out _).mono ?_
      rintro e w1 ⟨rfl, ew⟩
      subst w1
      go_wp2
      go_round
      case rel => exact .inr (.inl rfl)
      case measure => simp [RowKit.intOf]
    · go_wp2_with fail
      refine (H1.out _).mono ?_
      rintro e w1 ⟨rfl, ew⟩
      subst w1
      go_wp2
      go_round
      case rel => exact .inr (.inr rfl)
      case measure => simp [RowKit.intOf]
    · go_wp2_with fail
      refine (HA.out _).mono ?_
      rintro e w1 ⟨rfl, ew⟩
      subst w1
      go_wp2_with fail
      refine HW.out.mono ?_
      rintro e w1 ⟨rfl, ew⟩
      subst w1
      go_wp2
      go_ret3
      exact ⟨rfl, rfl⟩
set_option maxHeartbeats 2000000 in
theorem rr_ok (s : ByteArray) (a : Nat) (r : Nat) (hr : r = 1 ∨ r = 2) (w : World) (ha : a ≤ 3000) (h0 : atIs s a 44 = true) (h1 : atIs s (a + 1) 32 = true) (h2 : IsRoll (bl (s.extract (a + 2) s.size)) r) :
    Calls Tryd.prog 44 #[.string s, .int .i64 a] w fun e w' => e = .returned (.tuple #[.int .i64 r, .int .i64 (a + 2 + (rwS r).size), .nilIface]) ∧ w' = w := by
  have H0 := hidIt (fun w => stands_any s a 44 44 w (by decide))
  have H1 := hidIt (fun w => stands_any s (a + 1) 32 32 w (by decide))
  have hsz := atIs_lt h1
  rw [h0] at H0
  rw [h1, show ((a + 1 : Nat) : Int) = a + 1 by omega] at H1
  have HA := hidIt (fun w => wordAhead_roll (s.extract (a + 2) s.size) r h2 (by omega) w)
  have HR := hidIt (fun w => rollWord_any r hr w)
  have hz : (rwS r).size ≤ 10 := by rcases hr with rfl | rfl <;> decide
  have hr0 : (0 : Int) ≤ r := by omega
  clear h0 h1 h2 hr
  generalize rwS r = rw at *
  go_enter Tryd.func44, Tryd.ntmps44
  go_wp2_with fail
  go_loop [8] (fun t => t = .int .i64 0 ∨ t = .int .i64 1 ∨ t = .int .i64 2) (fun t => (2 - RowKit.intOf t).toNat)
  case atStart => exact .inl rfl
  case round =>
    rcases hrel with rfl | rfl | rfl
    · go_wp2_with fail
      refine (H0.out _).mono ?_
      rintro e w1 ⟨rfl, ew⟩
      subst w1
      go_wp2
      go_round
      case rel => exact .inr (.inl rfl)
      case measure => simp [RowKit.intOf]
    · go_wp2_with fail
      refine (H1.out _).mono ?_
      rintro e w1 ⟨rfl, ew⟩
      subst w1
      go_wp2
      go_round
      case rel => exact .inr (.inr rfl)
      case measure => simp [RowKit.intOf]
    · go_wp2_with fail
      refine (HA.out _).mono ?_
      rintro e w1 ⟨rfl, ew⟩
      subst w1
      go_wp2_with fail
      refine (HR.out _).mono ?_
      rintro e w1 ⟨rfl, ew⟩
      subst w1
      go_wp2
      go_ret3
      exact ⟨rfl, rfl⟩
end Go.Proofs.YtplhamloddighaaDoor

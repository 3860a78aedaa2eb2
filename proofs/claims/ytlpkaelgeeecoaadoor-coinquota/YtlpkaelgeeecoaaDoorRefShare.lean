/-
  The reference's Share, where it refuses.
-/
import Derived.Test.YtlpkaelgeeecoaaDoorShare
import Derived.Test.YtlpkaelgeeecoaaDoorPortion
namespace Go.Proofs.YtlpkaelgeeecoaaDoor
open Go.RowKit Go.Sort Go.Shelf

theorem any_succ (wv : Nat → Int) (i : Nat) : (lst wv (i + 1)).any badW = ((lst wv i).any badW || badW (wv i)) := by
  simp [lst, List.range_succ]
theorem badW_lo {x : Int} (h : x < 0) : badW x = true := by simp [badW]; omega
theorem badW_hi {x : Int} (h : 1000000 < x) : badW x = true := by simp [badW]; omega
theorem badW_ok {x : Int} (h0 : 0 ≤ x) (h1 : x ≤ 1000000) : badW x = false := by simp [badW]; omega
def refErr (k : Int) : Ending := .returned (.tuple #[.slice none 0 0, .int .i64 k])

theorem ref_bound (T : Int) (o : Option Addr) (n cap : Nat) (w : World) (hn : 60 < n) :
    Calls Tryd.prog 22 #[.int .i64 T, .slice o n cap] w fun e w' => e = refErr 2 ∧ w' = w := by
  have d0 : decide ((60 : Int) < n) = true := by simp; omega
  go_enter Tryd.func22, Tryd.ntmps22
  go_wp2
  go_ret2
  exact ⟨rfl, rfl⟩
set_option maxHeartbeats 1000000 in
theorem ref_none (T : Int) (o : Option Addr) (cap : Nat) (w : World) :
    Calls Tryd.prog 22 #[.int .i64 T, .slice o 0 cap] w fun e w' => e = refErr 3 ∧ w' = w := by
  cases hs : szB T 1000000000000
  all_goals
    have HS := hidIt (fun w => small_any T w)
    rw [hs] at HS
    go_enter Tryd.func22, Tryd.ntmps22
    go_wp2_with fail
    go_loop [6, 7, 8] (fun s bd t => s = .int .i64 0 ∧ bd = .bool false ∧ t = .int .i64 0) (fun _ _ _ => 0)
    case atStart => exact ⟨rfl, rfl, rfl⟩
    case round =>
      obtain ⟨rfl, rfl, rfl⟩ := hrel
      go_wp2_with fail
      refine (HS.out _).mono ?_
      rintro e w' ⟨rfl, rfl⟩
      go_wp2
      go_ret2
      exact ⟨rfl, rfl⟩
set_option maxHeartbeats 4000000 in
theorem ref_err (T : Int) (b off n cap : Nat) (wv : Nat → Int) (w : World) (hn : n ≤ 60) (hw : ∀ i, i < n → w.cell? ⟨b, off + i, none⟩ = some (.int .i64 (wv i)))
    (hE : (lst wv n).any badW = true ∨ szB T 1000000000000 = false ∨ (lst wv n).sum = 0) :
    Calls Tryd.prog 22 #[.int .i64 T, .slice (some ⟨b, off, none⟩) n cap] w fun e w' => e = refErr 3 ∧ w' = w := by
  have d0 : decide ((60 : Int) < n) = false := by simp; omega
  have HS := hidIt (fun w => small_any T w)
  have HW := hidIt hw
  have HE := hidIt hE
  clear hw hE
  go_enter Tryd.func22, Tryd.ntmps22
  go_wp2_with fail
  go_loop [6, 7, 8] (fun s bd t => ∃ (i : Nat) (x : Int), i ≤ n ∧ t = .int .i64 i ∧ bd = .bool ((lst wv i).any badW) ∧ s = .int .i64 x ∧ ((lst wv i).any badW = false → x = (lst wv i).sum)) (fun _ _ t => n - (RowKit.intOf t).toNat)
  case atStart => exact ⟨0, 0, by omega, rfl, rfl, rfl, fun _ => rfl⟩
  case round =>
    obtain ⟨i, x, hi, rfl, rfl, rfl, hx⟩ := hrel
    have HX := hidIt hx
    clear hx
    by_cases hlt : i < n
    · have c0 : decide ((i : Int) < n) = true := by simp; omega
      have cx := HW.out i hlt
      have hiz : (i : Int) < n := by omega
      cases ha : (lst wv i).any badW
      · by_cases h1 : wv i < 0
        · have e1 : decide (wv i < 0) = true := by simpa using h1
          have HA : Hid ((lst wv (i + 1)).any badW = true) := by show _ = _; rw [any_succ, badW_lo h1]; simp
          clear ha h1
          go_wp2
          go_round
          case rel => exact ⟨i + 1, _, by omega, by go_num, by rw [HA.out], rfl, fun h => by rw [HA.out] at h; cases h⟩
          case measure => simp [RowKit.intOf]; omega
        · have e1 : decide (wv i < 0) = false := by simpa using h1
          by_cases h2 : 1000000 < wv i
          · have e2 : decide (1000000 < wv i) = true := by simpa using h2
            have HA : Hid ((lst wv (i + 1)).any badW = true) := by show _ = _; rw [any_succ, badW_hi h2]; simp
            clear ha h1 h2
            go_wp2
            go_round
            case rel => exact ⟨i + 1, _, by omega, by go_num, by rw [HA.out], rfl, fun h => by rw [HA.out] at h; cases h⟩
            case measure => simp [RowKit.intOf]; omega
          · have e2 : decide (1000000 < wv i) = false := by simpa using h2
            have HA : Hid ((lst wv (i + 1)).any badW = false) := by show _ = _; rw [any_succ, ha, badW_ok (by omega) (by omega)]; rfl
            have hxs := HX.out ha
            have hsl := sum_lt ha (by omega)
            have HSm : Hid ((lst wv (i + 1)).sum = (lst wv i).sum + wv i) := lst_succ wv i
            rw [← hxs] at hsl HSm
            clear ha hxs HX
            go_wp2
            go_round
            case rel => exact ⟨i + 1, _, by omega, by go_num, by rw [HA.out], rfl, fun _ => by rw [HSm.out]⟩
            case measure => simp [RowKit.intOf]; omega
      · have HA : Hid ((lst wv (i + 1)).any badW = true) := by show _ = _; rw [any_succ, ha]; rfl
        clear ha
        go_wp2
        go_round
        case rel => exact ⟨i + 1, _, by omega, by go_num, by rw [HA.out], rfl, fun h => by rw [HA.out] at h; cases h⟩
        case measure => simp [RowKit.intOf]; omega
    · have c0 : decide ((i : Int) < n) = false := by simp; omega
      obtain rfl : i = n := by omega
      cases ha : (lst wv i).any badW
      · cases hs : szB T 1000000000000
        · rw [hs] at HS
          clear ha
          go_wp2_with fail
          refine (HS.out _).mono ?_
          rintro e w' ⟨rfl, rfl⟩
          go_wp2
          go_ret2
          exact ⟨rfl, rfl⟩
        · have hz : x = 0 := by
            rw [HX.out ha]
            rcases HE.out with h | h | h
            · rw [ha] at h; cases h
            · rw [hs] at h; cases h
            · exact h
          subst hz
          rw [hs] at HS
          clear ha HX
          go_wp2_with fail
          refine (HS.out _).mono ?_
          rintro e w' ⟨rfl, rfl⟩
          go_wp2
          go_ret2
          exact ⟨rfl, rfl⟩
      · clear ha
        generalize szB T 1000000000000 = c at HS
        go_wp2_with fail
        refine (HS.out _).mono ?_
        rintro e w' ⟨rfl, rfl⟩
        go_wp2
        go_ret2
        exact ⟨rfl, rfl⟩
end Go.Proofs.YtlpkaelgeeecoaaDoor

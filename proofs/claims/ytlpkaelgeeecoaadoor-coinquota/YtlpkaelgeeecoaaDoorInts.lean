/-
  Rows of numbers: read, summed, looked through, written.
-/
import Derived.Test.YtlpkaelgeeecoaaDoorPlaces
namespace Go.Proofs.YtlpkaelgeeecoaaDoor
open Go.RowKit Go.Sort Go.Shelf

/-- Numbers lie behind an address. -/
def Reads (w : World) (b off : Nat) (xs : List Int) : Prop := ∀ (i : Nat) (x : Int), xs[i]? = some x → w.cell? ⟨b, off + i, none⟩ = some (.int .i64 x)
theorem Reads.below {w w' : World} {B b off : Nat} {xs : List Int} (h : Reads w b off xs) (hb : Below B w w') (hlt : b < B) : Reads w' b off xs := fun i x hx => (hb.cell (p := ⟨b, off + i, none⟩) hlt).trans (h i x hx)

theorem sum_snoc (xs : List Int) (i : Nat) (x : Int) (h : xs[i]? = some x) : (xs.take (i + 1)).sum = (xs.take i).sum + x := by
  obtain ⟨hi, e⟩ := List.getElem?_eq_some_iff.1 h
  rw [List.take_succ_eq_append_getElem hi, List.sum_append, e]; simp
theorem sum_bd (M : Int) (hM : 0 ≤ M) : ∀ (xs : List Int), (∀ x, x ∈ xs → 0 ≤ x ∧ x ≤ M) → 0 ≤ xs.sum ∧ xs.sum ≤ xs.length * M
  | [], _ => by simp
  | x :: xs, h => by
    have ih := sum_bd M hM xs (fun y hy => h y (List.mem_cons_of_mem _ hy))
    have := h x (List.mem_cons_self ..)
    rw [List.sum_cons, List.length_cons, Int.natCast_add, Int.add_mul]
    simp only [Int.natCast_one, Int.one_mul]
    omega

theorem sum_take (xs : List Int) (h : ∀ x, x ∈ xs → 0 ≤ x ∧ x ≤ 1000000000000) (hn : xs.length ≤ 60) (i : Nat) : 0 ≤ (xs.take i).sum ∧ (xs.take i).sum ≤ 60000000000000 := by
  have := sum_bd 1000000000000 (by decide) (xs.take i) (fun x hx => h x (List.mem_of_mem_take hx))
  have hl : (xs.take i).length ≤ 60 := by rw [List.length_take]; omega
  omega

set_option maxHeartbeats 1000000 in
theorem sum_any (b off cap : Nat) (xs : List Int) (w : World) (hr : Reads w b off xs) (hb : ∀ x, x ∈ xs → 0 ≤ x ∧ x ≤ 1000000000000) (hn : xs.length ≤ 60) :
    Calls Tryd.prog 48 #[.slice (some ⟨b, off, none⟩) xs.length cap] w fun e w' => e = .returned (.int .i64 xs.sum) ∧ w' = w := by
  have HR := hidIt hr
  have HT := hidIt (sum_take xs hb hn)
  clear hr hb
  generalize hL : xs.length = n at *
  have HL := hidIt hL
  clear hL
  go_enter Tryd.func48, Tryd.ntmps48
  go_wp2_with fail
  go_loop [3, 8] (fun s t => ∃ i : Nat, i ≤ n ∧ t = .int .i64 i ∧ s = .int .i64 (xs.take i).sum) (fun _ t => n - (RowKit.intOf t).toNat)
  case atStart => exact ⟨0, by omega, rfl, by simp⟩
  case round =>
    obtain ⟨i, hi, rfl, rfl⟩ := hrel
    by_cases hlt : i < n
    · have c0 : decide ((i : Int) < n) = true := by simp; omega
      have hL := HL.out
      obtain ⟨x, hx⟩ : ∃ x, xs[i]? = some x := ⟨_, List.getElem?_eq_getElem (by omega)⟩
      have cx := HR.out i x hx
      have HS := hidIt (sum_snoc xs i x hx)
      obtain ⟨s0, s1⟩ := HT.out i
      obtain ⟨s2, s3⟩ := HT.out (i + 1)
      rw [HS.out] at s2 s3
      have hiz : (i : Int) < n := by omega
      clear hx hL
      generalize (xs.take i).sum = s at *
      go_wp2
      go_round
      case rel => exact ⟨i + 1, by omega, by go_num, by rw [HS.out]⟩
      case measure => simp [RowKit.intOf]; omega
    · have c0 : decide ((i : Int) < n) = false := by simp; omega
      have HE : Hid ((xs.take i).sum = xs.sum) := by
        show _ = _
        rw [List.take_of_length_le (by have := HL.out; omega)]
      rw [HE.out]
      go_wp2
      go_ret
      exact ⟨rfl, rfl⟩

/-! A weight that is none. -/
def badW (x : Int) : Bool := !(decide (0 ≤ x) && decide (x ≤ 1000000))
theorem upTo_any (x m : Int) (w : World) : Calls Tryd.prog 42 #[.int .i64 x, .int .i64 m] w fun e w' => e = .returned (.bool (decide (0 ≤ x) && decide (x ≤ m))) ∧ w' = w := by
  cases d1 : decide (0 ≤ x)
  · go_enter Tryd.func42, Tryd.ntmps42
    go_wp2
    go_ret
    exact ⟨rfl, rfl⟩
  · cases d2 : decide (x ≤ m)
    · go_enter Tryd.func42, Tryd.ntmps42
      go_wp2
      go_ret
      exact ⟨rfl, rfl⟩
    · go_enter Tryd.func42, Tryd.ntmps42
      go_wp2
      go_ret
      exact ⟨rfl, rfl⟩
theorem wrong_any (x : Int) (w : World) : Calls Tryd.prog 46 #[.int .i64 x] w fun e w' => e = .returned (.bool (badW x)) ∧ w' = w := by
  have H := hidIt (fun w => upTo_any x 1000000 w)
  have HE : Hid ((!(decide (0 ≤ x) && decide (x ≤ 1000000))) = badW x) := rfl
  generalize (decide (0 ≤ x) && decide (x ≤ 1000000)) = c at *
  go_enter Tryd.func46, Tryd.ntmps46
  go_wp2_with fail
  refine (H.out _).mono ?_
  rintro e w' ⟨rfl, rfl⟩
  go_wp2
  go_ret
  exact ⟨by rw [← HE.out]; rfl, rfl⟩

set_option maxHeartbeats 1000000 in
theorem index_any (b off cap : Nat) (xs : List Int) (w : World) (hr : Reads w b off xs) (hn : xs.length ≤ 60) :
    Calls Tryd.prog 63 #[.slice (some ⟨b, off, none⟩) xs.length cap, .func (.func 46) #[] #[]] w fun e w' => (∃ j : Int, e = .returned (.int .i64 j) ∧ decide (0 ≤ j) = xs.any badW) ∧ w' = w := by
  have HR := hidIt hr
  clear hr
  generalize hL : xs.length = n at *
  have HL := hidIt hL
  clear hL
  go_enter Tryd.func63, Tryd.ntmps63
  go_wp2_with fail
  go_loop [8] (fun t => ∃ i : Nat, i ≤ n ∧ t = .int .i64 i ∧ ∀ j x, j < i → xs[j]? = some x → badW x = false) (fun t => n - (RowKit.intOf t).toNat)
  case atStart => exact ⟨0, by omega, rfl, by intro j x h; omega⟩
  case round =>
    obtain ⟨i, hi, rfl, hall⟩ := hrel
    have HA := hidIt hall
    clear hall
    by_cases hlt : i < n
    · have c0 : decide ((i : Int) < n) = true := by simp; omega
      have hL := HL.out
      obtain ⟨x, hx⟩ : ∃ x, xs[i]? = some x := ⟨_, List.getElem?_eq_getElem (by omega)⟩
      have cx := HR.out i x hx
      have HX := hidIt hx
      have hiz : (i : Int) < n := by omega
      have HC := hidIt (fun w => wrong_any x w)
      clear hx hL
      cases hb : badW x
      · rw [hb] at HC
        go_wp2_with fail
        refine (HC.out _).mono ?_
        rintro e w' ⟨rfl, rfl⟩
        have HN : Hid (∀ j y, j < i + 1 → xs[j]? = some y → badW y = false) := fun j y hj hy => by
          rcases Nat.lt_or_ge j i with h | h
          · exact HA.out j y h hy
          · obtain rfl : j = i := by omega
            rw [HX.out] at hy
            obtain rfl := Option.some.inj hy
            exact hb
        clear hb
        go_wp2
        go_round
        case rel => exact ⟨i + 1, by omega, by go_num, HN.out⟩
        case measure => simp [RowKit.intOf]; omega
      · rw [hb] at HC
        go_wp2_with fail
        refine (HC.out _).mono ?_
        rintro e w' ⟨rfl, rfl⟩
        have HE : Hid (xs.any badW = true) := List.any_eq_true.2 ⟨x, List.mem_of_getElem? HX.out, hb⟩
        clear hb
        go_wp2
        go_ret
        exact ⟨⟨_, rfl, by rw [HE.out]; simp⟩, rfl⟩
    · have c0 : decide ((i : Int) < n) = false := by simp; omega
      have HE : Hid (xs.any badW = false) := by
        show _ = _
        rw [List.any_eq_false]
        intro x hx
        obtain ⟨j, hj⟩ := List.getElem?_of_mem hx
        have := HA.out j x (by
          have h1 := (List.getElem?_eq_some_iff.1 hj).1
          have := HL.out
          omega) hj
        rw [this]; decide
      go_wp2
      go_ret
      exact ⟨⟨_, rfl, by rw [HE.out]; decide⟩, rfl⟩
theorem contains_any (b off cap : Nat) (xs : List Int) (w : World) (hr : Reads w b off xs) (hn : xs.length ≤ 60) :
    Calls Tryd.prog 47 #[.slice (some ⟨b, off, none⟩) xs.length cap, .func (.func 46) #[] #[]] w fun e w' => e = .returned (.bool (xs.any badW)) ∧ w' = w := by
  have H := hidIt (index_any b off cap xs w hr hn)
  generalize xs.any badW = c at *
  clear hr
  go_enter Tryd.func47, Tryd.ntmps47
  go_wp2_with fail
  refine H.out.mono ?_
  rintro e w' ⟨⟨j, rfl, hj⟩, rfl⟩
  go_wp2
  go_ret
  exact ⟨rfl, rfl⟩
end Go.Proofs.YtlpkaelgeeecoaaDoor

/-
  coin.Part and the reference's Part where nothing is wrong (as in Part).
-/
import Derived.Test.YtkphonojpnhefaaDoorRound2
import Derived.Test.YtkphonojpnhefaaDoorCoded
import Derived.Test.YtkphonojpnhefaaDoorLePl
namespace Go.Proofs.YtkphonojpnhefaaDoor
open Go.RowKit Go.Extern.Stop Go.Stop Go.Extern

/-- Is there such a way? -/
def wyB (n : Int) : Bool := decide (0 ≤ n ∧ n ≤ 5)

theorem mul_bd (a b : Int) (h1 : -1000000000000 ≤ a) (h2 : a ≤ 1000000000000) (h3 : -1000000 ≤ b) (h4 : b ≤ 1000000) : -1000000000000000000 ≤ a * b ∧ a * b ≤ 1000000000000000000 := by
  have h5 : a.natAbs ≤ 1000000000000 := by omega
  have h6 : b.natAbs ≤ 1000000 := by omega
  have h7 : (a * b).natAbs ≤ 1000000000000 * 1000000 := by rw [Int.natAbs_mul]; exact Nat.mul_le_mul h5 h6
  omega

set_option maxHeartbeats 1000000 in
theorem isWay_any (n : Int) (w : World) : Calls Tryd.prog 41 #[.int .i64 n] w fun e w' => e = .returned (.bool (wyB n)) ∧ w' = w := by
  by_cases h0 : 0 ≤ n
  · have HE : Hid (wyB n = decide (n ≤ 5)) := by show _ = _; simp [wyB, h0]
    have hd : decide (0 ≤ n) = true := by simpa using h0
    go_enter Tryd.func41, Tryd.ntmps41
    go_wp2
    go_ret
    exact ⟨ret_bool HE.out.symm, rfl⟩
  · have HE : Hid (wyB n = false) := by show _ = _; simp [wyB, h0]
    have hd : decide (0 ≤ n) = false := by simpa using h0
    go_enter Tryd.func41, Tryd.ntmps41
    go_wp2
    go_ret
    exact ⟨ret_bool HE.out.symm, rfl⟩

set_option maxHeartbeats 1000000 in
theorem sized_any (n m : Int) (w : World) (hm0 : 0 ≤ m) (hm : m ≤ 1000000000000) : Calls Tryd.prog 37 #[.int .i64 n, .int .i64 m] w fun e w' => e = .returned (.bool (szB n m)) ∧ w' = w := by
  by_cases h0 : -m ≤ n
  · have HE : Hid (szB n m = decide (n ≤ m)) := by show _ = _; simp [szB, h0]
    have hd : decide (-m ≤ n) = true := by simpa using h0
    go_enter Tryd.func37, Tryd.ntmps37
    go_wp2
    go_ret
    exact ⟨ret_bool HE.out.symm, rfl⟩
  · have HE : Hid (szB n m = false) := by show _ = _; simp [szB, h0]
    have hd : decide (-m ≤ n) = false := by simpa using h0
    go_enter Tryd.func37, Tryd.ntmps37
    go_wp2
    go_ret
    exact ⟨ret_bool HE.out.symm, rfl⟩

theorem isAmount_any (n : Int) (w : World) : Calls Tryd.prog 25 #[.int .i64 n] w fun e w' => e = .returned (.bool (szB n 1000000000000)) ∧ w' = w := by
  have H := hidIt (fun w => sized_any n 1000000000000 w (by omega) (by omega))
  generalize szB n 1000000000000 = b at *
  go_enter Tryd.func25, Tryd.ntmps25
  go_wp2_with (go_at_call 37; refine (H.out _).mono ?_; rintro e w' ⟨rfl, rfl⟩)
  go_ret
  exact ⟨rfl, rfl⟩
set_option maxHeartbeats 1000000 in
theorem small_any (n : Int) (w : World) : Calls Tryd.prog 18 #[.int .i64 n] w fun e w' => e = .returned (.bool (szB n 1000000000000)) ∧ w' = w := by
  by_cases h0 : n ≤ 1000000000000
  · have HE : Hid (szB n 1000000000000 = decide (-1000000000000 ≤ n)) := by show _ = _; simp [szB, h0]
    have hd : decide (n ≤ 1000000000000) = true := by simpa using h0
    go_enter Tryd.func18, Tryd.ntmps18
    go_wp2
    go_ret
    exact ⟨ret_bool HE.out.symm, rfl⟩
  · have HE : Hid (szB n 1000000000000 = false) := by show _ = _; simp [szB, h0]
    have hd : decide (n ≤ 1000000000000) = false := by simpa using h0
    go_enter Tryd.func18, Tryd.ntmps18
    go_wp2
    go_ret
    exact ⟨ret_bool HE.out.symm, rfl⟩

set_option maxHeartbeats 2000000 in
theorem refIsWay_any (n : Int) (w : World) : Calls Tryd.prog 33 #[.int .i64 n] w fun e w' => e = .returned (.bool (wyB n)) ∧ w' = w := by
  by_cases h : 0 ≤ n ∧ n ≤ 5
  · rcases lz_way h.1 h.2 with rfl | rfl | rfl | rfl | rfl | rfl
    all_goals
      go_enter Tryd.func33, Tryd.ntmps33
      go_wp2
      go_ret
      exact ⟨rfl, rfl⟩
  · have HE : Hid (wyB n = false) := by show _ = _; simp only [wyB, decide_eq_false_iff_not]; exact h
    have e0 : (n == 0) = false := by simp; omega
    have e1 : (n == 1) = false := by simp; omega
    have e2 : (n == 2) = false := by simp; omega
    have e3 : (n == 3) = false := by simp; omega
    have e4 : (n == 4) = false := by simp; omega
    have e5 : (n == 5) = false := by simp; omega
    clear h
    go_enter Tryd.func33, Tryd.ntmps33
    go_wp2
    go_ret
    exact ⟨ret_bool HE.out.symm, rfl⟩

set_option maxHeartbeats 2000000 in
theorem part_ok (amount rate way : Int) (w : World) (hw : wyB way = true) (hs : szB amount 1000000000000 = true) (hr : szB rate 1000000 = true) (hn : szB (rnd (amount * rate) way) 1000000000000 = true) :
    Calls Tryd.prog 29 #[.int .i64 amount, .int .i64 rate, .int .i64 way] w fun e w' => e = .returned (.tuple #[.int .i64 (rnd (amount * rate) way), .nilIface]) ∧ ∃ k, w' = w.drewN k := by
  have ⟨a1, a2⟩ := szB_iff.1 hs
  have ⟨a3, a4⟩ := szB_iff.1 hr
  have ⟨a5, a6⟩ := mul_bd amount rate (by omega) a2 (by omega) a4
  have ⟨a7, a8⟩ : 0 ≤ way ∧ way ≤ 5 := by simpa [wyB] using hw
  go_enter Tryd.func29, Tryd.ntmps29
  go_wp2_with (first | (go_at_call 41; refine (isWay_any _ _).mono ?_; rintro e w' ⟨rfl, rfl⟩) | (go_at_call 25; refine (isAmount_any _ _).mono ?_; rintro e w' ⟨rfl, rfl⟩) | (go_at_call 37; refine (sized_any _ _ _ (by omega) (by omega)).mono ?_; rintro e w' ⟨rfl, rfl⟩) | (go_at_call 42; refine (rounded_any _ _ _ (by omega) (by omega) (by omega) (by omega)).mono ?_; rintro e w' ⟨rfl, nk, rfl⟩))
  go_ret2
  exact ⟨rfl, _, rfl⟩

set_option maxHeartbeats 2000000 in
theorem refPart_ok (amount rate way : Int) (w : World) (hw : wyB way = true) (hs : szB amount 1000000000000 = true) (hr : szB rate 1000000 = true) (hn : szB (rnd (amount * rate) way) 1000000000000 = true) :
    Calls Tryd.prog 19 #[.int .i64 amount, .int .i64 rate, .int .i64 way] w fun e w' => e = .returned (.tuple #[.int .i64 (rnd (amount * rate) way), .int .i64 0]) ∧ w' = w := by
  have ⟨a1, a2⟩ := szB_iff.1 hs
  have ⟨a3, a4⟩ := szB_iff.1 hr
  have ⟨a5, a6⟩ := mul_bd amount rate (by omega) a2 (by omega) a4
  have ⟨a7, a8⟩ : 0 ≤ way ∧ way ≤ 5 := by simpa [wyB] using hw
  have d1 : decide (1000000 < rate) = false := by simp; omega
  have d2 : decide (rate < -1000000) = false := by simp; omega
  go_enter Tryd.func19, Tryd.ntmps19
  go_wp2_with (first | (go_at_call 33; refine (refIsWay_any _ _).mono ?_; rintro e w' ⟨rfl, rfl⟩) | (go_at_call 18; refine (small_any _ _).mono ?_; rintro e w' ⟨rfl, rfl⟩) | (go_at_call 34; refine (round_any _ _ _ (by omega) (by omega) (by omega) (by omega)).mono ?_; rintro e w' ⟨rfl, rfl⟩))
  go_ret2
  exact ⟨rfl, rfl⟩

end Go.Proofs.YtkphonojpnhefaaDoor

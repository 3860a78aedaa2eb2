/-
  coin.Part, the reference's Part, and the walk of CoinPart.
-/
import Derived.Test.YtlpkaelgeeecoaaDoorRound2
import Derived.Test.YtlpkaelgeeecoaaDoorCoded
namespace Go.Proofs.YtlpkaelgeeecoaaDoor
open Go.RowKit Go.Extern.Stop Go.Stop Go.Extern

/-- Is a number of at most that size? -/
def szB (n m : Int) : Bool := decide (-m ≤ n ∧ n ≤ m)
theorem szB_t {n m : Int} (h1 : -m ≤ n) (h2 : n ≤ m) : szB n m = true := by simp [szB, h1, h2]
theorem szB_f {n m : Int} (h : ¬ (-m ≤ n ∧ n ≤ m)) : szB n m = false := by simp only [szB, decide_eq_false_iff_not]; exact h
theorem szB_iff {n m : Int} : szB n m = true ↔ -m ≤ n ∧ n ≤ m := by simp [szB]
/-- Is there such a way? -/
def wyB (n : Int) : Bool := decide (0 ≤ n ∧ n ≤ 5)

theorem mul_bd (a b : Int) (h1 : -1000000000000 ≤ a) (h2 : a ≤ 1000000000000) (h3 : -1000000 ≤ b) (h4 : b ≤ 1000000) : -1000000000000000000 ≤ a * b ∧ a * b ≤ 1000000000000000000 := by
  have h5 : a.natAbs ≤ 1000000000000 := by omega
  have h6 : b.natAbs ≤ 1000000 := by omega
  have h7 : (a * b).natAbs ≤ 1000000000000 * 1000000 := by rw [Int.natAbs_mul]; exact Nat.mul_le_mul h5 h6
  omega

set_option maxHeartbeats 1000000 in
theorem isWay_any (n : Int) (w : World) : Calls Tryd.prog 35 #[.int .i64 n] w fun e w' => e = .returned (.bool (wyB n)) ∧ w' = w := by
  by_cases h0 : 0 ≤ n
  · have HE : Hid (wyB n = decide (n ≤ 5)) := by show _ = _; simp [wyB, h0]
    have hd : decide (0 ≤ n) = true := by simpa using h0
    go_enter Tryd.func35, Tryd.ntmps35
    go_wp2
    go_ret
    exact ⟨ret_bool HE.out.symm, rfl⟩
  · have HE : Hid (wyB n = false) := by show _ = _; simp [wyB, h0]
    have hd : decide (0 ≤ n) = false := by simpa using h0
    go_enter Tryd.func35, Tryd.ntmps35
    go_wp2
    go_ret
    exact ⟨ret_bool HE.out.symm, rfl⟩

set_option maxHeartbeats 1000000 in
theorem sized_any (n m : Int) (w : World) (hm0 : 0 ≤ m) (hm : m ≤ 1000000000000) : Calls Tryd.prog 37 #[.int .i64 n, .int .i64 m] w fun e w' => e = .returned (.bool (szB n m)) ∧ w' = w := by
  by_cases h0 : -m ≤ n
  · have HE : Hid (szB n m = decide (n ≤ m)) := by show _ = _; simp [szB, h0]
    have hd : decide (-m ≤ n) = true := by simpa using h0
    go_enter Tryd.func37, Tryd.ntmps37
    go_wp2
    go_ret
    exact ⟨ret_bool HE.out.symm, rfl⟩
  · have HE : Hid (szB n m = false) := by show _ = _; simp [szB, h0]
    have hd : decide (-m ≤ n) = false := by simpa using h0
    go_enter Tryd.func37, Tryd.ntmps37
    go_wp2
    go_ret
    exact ⟨ret_bool HE.out.symm, rfl⟩

theorem isAmount_any (n : Int) (w : World) : Calls Tryd.prog 36 #[.int .i64 n] w fun e w' => e = .returned (.bool (szB n 1000000000000)) ∧ w' = w := by
  have H := hidIt (fun w => sized_any n 1000000000000 w (by omega) (by omega))
  generalize szB n 1000000000000 = b at *
  go_enter Tryd.func36, Tryd.ntmps36
  go_wp2_with (go_at_call 37; refine (H.out _).mono ?_; rintro e w' ⟨rfl, rfl⟩)
  go_ret
  exact ⟨rfl, rfl⟩
set_option maxHeartbeats 1000000 in
theorem small_any (n : Int) (w : World) : Calls Tryd.prog 15 #[.int .i64 n] w fun e w' => e = .returned (.bool (szB n 1000000000000)) ∧ w' = w := by
  by_cases h0 : n ≤ 1000000000000
  · have HE : Hid (szB n 1000000000000 = decide (-1000000000000 ≤ n)) := by show _ = _; simp [szB, h0]
    have hd : decide (n ≤ 1000000000000) = true := by simpa using h0
    go_enter Tryd.func15, Tryd.ntmps15
    go_wp2
    go_ret
    exact ⟨ret_bool HE.out.symm, rfl⟩
  · have HE : Hid (szB n 1000000000000 = false) := by show _ = _; simp [szB, h0]
    have hd : decide (n ≤ 1000000000000) = false := by simpa using h0
    go_enter Tryd.func15, Tryd.ntmps15
    go_wp2
    go_ret
    exact ⟨ret_bool HE.out.symm, rfl⟩

set_option maxHeartbeats 2000000 in
theorem refIsWay_any (n : Int) (w : World) : Calls Tryd.prog 39 #[.int .i64 n] w fun e w' => e = .returned (.bool (wyB n)) ∧ w' = w := by
  by_cases h : 0 ≤ n ∧ n ≤ 5
  · rcases lz_way h.1 h.2 with rfl | rfl | rfl | rfl | rfl | rfl
    all_goals
      go_enter Tryd.func39, Tryd.ntmps39
      go_wp2
      go_ret
      exact ⟨rfl, rfl⟩
  · have HE : Hid (wyB n = false) := by show _ = _; simp only [wyB, decide_eq_false_iff_not]; exact h
    have e0 : (n == 0) = false := by simp; omega
    have e1 : (n == 1) = false := by simp; omega
    have e2 : (n == 2) = false := by simp; omega
    have e3 : (n == 3) = false := by simp; omega
    have e4 : (n == 4) = false := by simp; omega
    have e5 : (n == 5) = false := by simp; omega
    clear h
    go_enter Tryd.func39, Tryd.ntmps39
    go_wp2
    go_ret
    exact ⟨ret_bool HE.out.symm, rfl⟩

set_option maxHeartbeats 2000000 in
theorem part_kind (amount rate way : Int) (a : Addr) (w : World) (hc : w.cell? ⟨2, 0, none⟩ = some (.iface 157 (.pointer (some a)))) (hw : wyB way = false) :
    Calls Tryd.prog 16 #[.int .i64 amount, .int .i64 rate, .int .i64 way] w fun e w' => e = .returned (.tuple #[.int .i64 0, .iface 157 (.pointer (some a))]) ∧ ∃ k, w' = w.drewN k := by
  go_enter Tryd.func16, Tryd.ntmps16
  go_wp2_with (first | (go_at_call 35; refine (isWay_any _ _).mono ?_; rintro e w' ⟨rfl, rfl⟩) | (go_at_call 36; refine (isAmount_any _ _).mono ?_; rintro e w' ⟨rfl, rfl⟩) | (go_at_call 37; refine (sized_any _ _ _ (by omega) (by omega)).mono ?_; rintro e w' ⟨rfl, rfl⟩) | (go_at_call 38; refine (rounded_any _ _ _ (by omega) (by omega) (by omega) (by omega)).mono ?_; rintro e w' ⟨rfl, nk, rfl⟩))
  go_quiet (fail)
  go_wp2
  go_ret2
  exact ⟨rfl, _, rfl⟩

set_option maxHeartbeats 2000000 in
theorem part_great (amount rate way : Int) (a : Addr) (w : World) (hc : w.cell? ⟨1, 0, none⟩ = some (.iface 157 (.pointer (some a)))) (hw : wyB way = true) (hs : szB amount 1000000000000 = false ∨ szB amount 1000000000000 = true ∧ szB rate 1000000 = false) :
    Calls Tryd.prog 16 #[.int .i64 amount, .int .i64 rate, .int .i64 way] w fun e w' => e = .returned (.tuple #[.int .i64 0, .iface 157 (.pointer (some a))]) ∧ ∃ k, w' = w.drewN k := by
  rcases hs with hs | ⟨hs, hr⟩
  all_goals
    go_enter Tryd.func16, Tryd.ntmps16
    go_wp2_with (first | (go_at_call 35; refine (isWay_any _ _).mono ?_; rintro e w' ⟨rfl, rfl⟩) | (go_at_call 36; refine (isAmount_any _ _).mono ?_; rintro e w' ⟨rfl, rfl⟩) | (go_at_call 37; refine (sized_any _ _ _ (by omega) (by omega)).mono ?_; rintro e w' ⟨rfl, rfl⟩) | (go_at_call 38; refine (rounded_any _ _ _ (by omega) (by omega) (by omega) (by omega)).mono ?_; rintro e w' ⟨rfl, nk, rfl⟩))
    go_quiet (fail)
    go_wp2
    go_ret2
    exact ⟨rfl, _, rfl⟩

set_option maxHeartbeats 2000000 in
theorem part_over (amount rate way : Int) (a : Addr) (w : World) (hc : w.cell? ⟨1, 0, none⟩ = some (.iface 157 (.pointer (some a)))) (hw : wyB way = true) (hs : szB amount 1000000000000 = true) (hr : szB rate 1000000 = true) (hn : szB (rnd (amount * rate) way) 1000000000000 = false) :
    Calls Tryd.prog 16 #[.int .i64 amount, .int .i64 rate, .int .i64 way] w fun e w' => e = .returned (.tuple #[.int .i64 0, .iface 157 (.pointer (some a))]) ∧ ∃ k, w' = w.drewN k := by
  have ⟨a1, a2⟩ := szB_iff.1 hs
  have ⟨a3, a4⟩ := szB_iff.1 hr
  have ⟨a5, a6⟩ := mul_bd amount rate (by omega) a2 (by omega) a4
  have ⟨a7, a8⟩ : 0 ≤ way ∧ way ≤ 5 := by simpa [wyB] using hw
  go_enter Tryd.func16, Tryd.ntmps16
  go_wp2_with (first | (go_at_call 35; refine (isWay_any _ _).mono ?_; rintro e w' ⟨rfl, rfl⟩) | (go_at_call 36; refine (isAmount_any _ _).mono ?_; rintro e w' ⟨rfl, rfl⟩) | (go_at_call 37; refine (sized_any _ _ _ (by omega) (by omega)).mono ?_; rintro e w' ⟨rfl, rfl⟩) | (go_at_call 38; refine (rounded_any _ _ _ (by omega) (by omega) (by omega) (by omega)).mono ?_; rintro e w' ⟨rfl, nk, rfl⟩))
  go_quiet (fail)
  go_wp2
  go_ret2
  exact ⟨rfl, _, World.drewN_drewN _ _ _⟩

set_option maxHeartbeats 2000000 in
theorem part_ok (amount rate way : Int) (w : World) (hw : wyB way = true) (hs : szB amount 1000000000000 = true) (hr : szB rate 1000000 = true) (hn : szB (rnd (amount * rate) way) 1000000000000 = true) :
    Calls Tryd.prog 16 #[.int .i64 amount, .int .i64 rate, .int .i64 way] w fun e w' => e = .returned (.tuple #[.int .i64 (rnd (amount * rate) way), .nilIface]) ∧ ∃ k, w' = w.drewN k := by
  have ⟨a1, a2⟩ := szB_iff.1 hs
  have ⟨a3, a4⟩ := szB_iff.1 hr
  have ⟨a5, a6⟩ := mul_bd amount rate (by omega) a2 (by omega) a4
  have ⟨a7, a8⟩ : 0 ≤ way ∧ way ≤ 5 := by simpa [wyB] using hw
  go_enter Tryd.func16, Tryd.ntmps16
  go_wp2_with (first | (go_at_call 35; refine (isWay_any _ _).mono ?_; rintro e w' ⟨rfl, rfl⟩) | (go_at_call 36; refine (isAmount_any _ _).mono ?_; rintro e w' ⟨rfl, rfl⟩) | (go_at_call 37; refine (sized_any _ _ _ (by omega) (by omega)).mono ?_; rintro e w' ⟨rfl, rfl⟩) | (go_at_call 38; refine (rounded_any _ _ _ (by omega) (by omega) (by omega) (by omega)).mono ?_; rintro e w' ⟨rfl, nk, rfl⟩))
  go_ret2
  exact ⟨rfl, _, rfl⟩

set_option maxHeartbeats 2000000 in
theorem refPart_kind (amount rate way : Int) (w : World) (hw : wyB way = false) :
    Calls Tryd.prog 17 #[.int .i64 amount, .int .i64 rate, .int .i64 way] w fun e w' => e = .returned (.tuple #[.int .i64 0, .int .i64 9]) ∧ w' = w := by
  go_enter Tryd.func17, Tryd.ntmps17
  go_wp2_with (first | (go_at_call 39; refine (refIsWay_any _ _).mono ?_; rintro e w' ⟨rfl, rfl⟩) | (go_at_call 15; refine (small_any _ _).mono ?_; rintro e w' ⟨rfl, rfl⟩) | (go_at_call 40; refine (round_any _ _ _ (by omega) (by omega) (by omega) (by omega)).mono ?_; rintro e w' ⟨rfl, rfl⟩))
  go_ret2
  exact ⟨rfl, rfl⟩

set_option maxHeartbeats 2000000 in
theorem refPart_great (amount rate way : Int) (w : World) (hw : wyB way = true) (hs : szB amount 1000000000000 = false ∨ szB amount 1000000000000 = true ∧ szB rate 1000000 = false) :
    Calls Tryd.prog 17 #[.int .i64 amount, .int .i64 rate, .int .i64 way] w fun e w' => e = .returned (.tuple #[.int .i64 0, .int .i64 3]) ∧ w' = w := by
  rcases hs with hs | ⟨hs, hr⟩
  · go_enter Tryd.func17, Tryd.ntmps17
    go_wp2_with (first | (go_at_call 39; refine (refIsWay_any _ _).mono ?_; rintro e w' ⟨rfl, rfl⟩) | (go_at_call 15; refine (small_any _ _).mono ?_; rintro e w' ⟨rfl, rfl⟩) | (go_at_call 40; refine (round_any _ _ _ (by omega) (by omega) (by omega) (by omega)).mono ?_; rintro e w' ⟨rfl, rfl⟩))
    go_ret2
    exact ⟨rfl, rfl⟩
  · by_cases hg : 1000000 < rate
    · clear hr
      have hd : decide (1000000 < rate) = true := by simpa using hg
      go_enter Tryd.func17, Tryd.ntmps17
      go_wp2_with (first | (go_at_call 39; refine (refIsWay_any _ _).mono ?_; rintro e w' ⟨rfl, rfl⟩) | (go_at_call 15; refine (small_any _ _).mono ?_; rintro e w' ⟨rfl, rfl⟩) | (go_at_call 40; refine (round_any _ _ _ (by omega) (by omega) (by omega) (by omega)).mono ?_; rintro e w' ⟨rfl, rfl⟩))
      go_ret2
      exact ⟨rfl, rfl⟩
    · have hl : rate < -1000000 := by
        have h3 : ¬ (-1000000 ≤ rate ∧ rate ≤ 1000000) := fun h => by rw [szB_t h.1 h.2] at hr; cases hr
        omega
      have hd : decide (1000000 < rate) = false := by simpa using hg
      have hd2 : decide (rate < -1000000) = true := by simpa using hl
      clear hr
      go_enter Tryd.func17, Tryd.ntmps17
      go_wp2_with (first | (go_at_call 39; refine (refIsWay_any _ _).mono ?_; rintro e w' ⟨rfl, rfl⟩) | (go_at_call 15; refine (small_any _ _).mono ?_; rintro e w' ⟨rfl, rfl⟩) | (go_at_call 40; refine (round_any _ _ _ (by omega) (by omega) (by omega) (by omega)).mono ?_; rintro e w' ⟨rfl, rfl⟩))
      go_ret2
      exact ⟨rfl, rfl⟩

set_option maxHeartbeats 2000000 in
theorem refPart_over (amount rate way : Int) (w : World) (hw : wyB way = true) (hs : szB amount 1000000000000 = true) (hr : szB rate 1000000 = true) (hn : szB (rnd (amount * rate) way) 1000000000000 = false) :
    Calls Tryd.prog 17 #[.int .i64 amount, .int .i64 rate, .int .i64 way] w fun e w' => e = .returned (.tuple #[.int .i64 0, .int .i64 3]) ∧ w' = w := by
  have ⟨a1, a2⟩ := szB_iff.1 hs
  have ⟨a3, a4⟩ := szB_iff.1 hr
  have ⟨a5, a6⟩ := mul_bd amount rate (by omega) a2 (by omega) a4
  have ⟨a7, a8⟩ : 0 ≤ way ∧ way ≤ 5 := by simpa [wyB] using hw
  have d1 : decide (1000000 < rate) = false := by simp; omega
  have d2 : decide (rate < -1000000) = false := by simp; omega
  go_enter Tryd.func17, Tryd.ntmps17
  go_wp2_with (first | (go_at_call 39; refine (refIsWay_any _ _).mono ?_; rintro e w' ⟨rfl, rfl⟩) | (go_at_call 15; refine (small_any _ _).mono ?_; rintro e w' ⟨rfl, rfl⟩) | (go_at_call 40; refine (round_any _ _ _ (by omega) (by omega) (by omega) (by omega)).mono ?_; rintro e w' ⟨rfl, rfl⟩))
  go_ret2
  exact ⟨rfl, rfl⟩

set_option maxHeartbeats 2000000 in
theorem refPart_ok (amount rate way : Int) (w : World) (hw : wyB way = true) (hs : szB amount 1000000000000 = true) (hr : szB rate 1000000 = true) (hn : szB (rnd (amount * rate) way) 1000000000000 = true) :
    Calls Tryd.prog 17 #[.int .i64 amount, .int .i64 rate, .int .i64 way] w fun e w' => e = .returned (.tuple #[.int .i64 (rnd (amount * rate) way), .int .i64 0]) ∧ w' = w := by
  have ⟨a1, a2⟩ := szB_iff.1 hs
  have ⟨a3, a4⟩ := szB_iff.1 hr
  have ⟨a5, a6⟩ := mul_bd amount rate (by omega) a2 (by omega) a4
  have ⟨a7, a8⟩ : 0 ≤ way ∧ way ≤ 5 := by simpa [wyB] using hw
  have d1 : decide (1000000 < rate) = false := by simp; omega
  have d2 : decide (rate < -1000000) = false := by simp; omega
  go_enter Tryd.func17, Tryd.ntmps17
  go_wp2_with (first | (go_at_call 39; refine (refIsWay_any _ _).mono ?_; rintro e w' ⟨rfl, rfl⟩) | (go_at_call 15; refine (small_any _ _).mono ?_; rintro e w' ⟨rfl, rfl⟩) | (go_at_call 40; refine (round_any _ _ _ (by omega) (by omega) (by omega) (by omega)).mono ?_; rintro e w' ⟨rfl, rfl⟩))
  go_ret2
  exact ⟨rfl, rfl⟩

theorem part_first (w : World) : Calls Tryd.prog 16 #[.int .i64 105, .int .i64 5000, .int .i64 4] w fun e w' => e = .returned (.tuple #[.int .i64 53, .nilIface]) ∧ ∃ k, w' = w.drewN k := by
  have h : rnd (105 * 5000) 4 = 53 := by decide
  have h2 := part_ok 105 5000 4 w (by decide) (by decide) (by decide) (by decide)
  rw [h] at h2
  exact h2

theorem Laid.drewN {w : World} {p : Nat → Addr} (L : Laid w p) (n : Nat) : Laid (w.drewN n) p := L.below (bdrewN (Below.refl _ _) n)

set_option maxHeartbeats 2000000 in
theorem coinPart_err (amount rate way : Int) (k : Nat) (hk : k < 11) (p : Nat → Addr) (w : World) (L : Laid w p)
    (hP : ∀ w1, Laid w1 p → Calls Tryd.prog 16 #[.int .i64 amount, .int .i64 rate, .int .i64 way] w1 fun e w' => e = .returned (.tuple #[.int .i64 0, .iface 157 (.pointer (some (p k)))]) ∧ ∃ k, w' = w1.drewN k)
    (hR : ∀ w1, Calls Tryd.prog 17 #[.int .i64 amount, .int .i64 rate, .int .i64 way] w1 fun e w' => e = .returned (.tuple #[.int .i64 0, .int .i64 (k + 1)]) ∧ w' = w1) :
    Calls Tryd.prog 5 #[.int .i64 amount, .int .i64 rate, .int .i64 way] w fun e w' => e = .returned (.bool true) ∧ Below w.heap.size w w' := by
  have HP := hidIt hP
  have HR := hidIt hR
  have HL := hidIt L
  clear hP hR L
  go_enter Tryd.func5, Tryd.ntmps5
  go_wp2_with fail
  refine (part_first _).mono ?_
  rintro e w1 ⟨rfl, n1, rfl⟩
  go_wp2_with fail
  refine (HP.out _ (HL.out.drewN n1)).mono ?_
  rintro e w2 ⟨rfl, n2, rfl⟩
  go_wp2_with fail
  refine (HR.out _).mono ?_
  rintro e w3 ⟨rfl, rfl⟩
  go_wp2_with fail
  refine (coded_sent k hk _ p _ (HL.out.drewN _)).mono ?_
  rintro e w4 ⟨rfl, hb⟩
  have ht : ((k : Int) + 1 == (k : Int) + 1) = true := by simp
  rw [ht]
  have Hb := hidIt hb
  clear hb ht
  go_wp2
  go_ret
  exact ⟨rfl, (bdrewN (Below.refl w.heap.size w) _).trans Hb.out⟩

set_option maxHeartbeats 2000000 in
theorem coinPart_fine (amount rate way : Int) (w : World) (v : Int)
    (hP : ∀ w1, Calls Tryd.prog 16 #[.int .i64 amount, .int .i64 rate, .int .i64 way] w1 fun e w' => e = .returned (.tuple #[.int .i64 v, .nilIface]) ∧ ∃ k, w' = w1.drewN k)
    (hR : ∀ w1, Calls Tryd.prog 17 #[.int .i64 amount, .int .i64 rate, .int .i64 way] w1 fun e w' => e = .returned (.tuple #[.int .i64 v, .int .i64 0]) ∧ w' = w1) :
    Calls Tryd.prog 5 #[.int .i64 amount, .int .i64 rate, .int .i64 way] w fun e w' => e = .returned (.bool true) ∧ Below w.heap.size w w' := by
  have HP := hidIt hP
  have HR := hidIt hR
  clear hP hR
  go_enter Tryd.func5, Tryd.ntmps5
  go_wp2_with fail
  refine (part_first _).mono ?_
  rintro e w1 ⟨rfl, n1, rfl⟩
  go_wp2_with fail
  refine (HP.out _).mono ?_
  rintro e w2 ⟨rfl, n2, rfl⟩
  go_wp2_with fail
  refine (HR.out _).mono ?_
  rintro e w3 ⟨rfl, rfl⟩
  go_wp2_with fail
  refine (coded_nil _ _).mono ?_
  rintro e w4 ⟨rfl, rfl⟩
  go_wp2
  go_ret
  exact ⟨rfl, bdrewN (Below.refl w.heap.size w) _⟩

theorem coinPart_walk (amount rate way : Int) (p : Nat → Addr) (w : World) (L : Laid w p) :
    Calls Tryd.prog 5 #[.int .i64 amount, .int .i64 rate, .int .i64 way] w fun e w' => e = .returned (.bool true) ∧ Below w.heap.size w w' := by
  cases hw : wyB way
  · exact coinPart_err amount rate way 8 (by omega) p w L (fun w1 L1 => part_kind amount rate way (p 8) w1 (L1.cell 8 (by omega)) hw) (fun w1 => refPart_kind amount rate way w1 hw)
  cases hs : szB amount 1000000000000
  · exact coinPart_err amount rate way 2 (by omega) p w L (fun w1 L1 => part_great amount rate way (p 2) w1 (L1.cell 2 (by omega)) hw (.inl hs)) (fun w1 => refPart_great amount rate way w1 hw (.inl hs))
  cases hr : szB rate 1000000
  · exact coinPart_err amount rate way 2 (by omega) p w L (fun w1 L1 => part_great amount rate way (p 2) w1 (L1.cell 2 (by omega)) hw (.inr ⟨hs, hr⟩)) (fun w1 => refPart_great amount rate way w1 hw (.inr ⟨hs, hr⟩))
  cases hn : szB (rnd (amount * rate) way) 1000000000000
  · exact coinPart_err amount rate way 2 (by omega) p w L (fun w1 L1 => part_over amount rate way (p 2) w1 (L1.cell 2 (by omega)) hw hs hr hn) (fun w1 => refPart_over amount rate way w1 hw hs hr hn)
  · exact coinPart_fine amount rate way w _ (fun w1 => part_ok amount rate way w1 hw hs hr hn) (fun w1 => refPart_ok amount rate way w1 hw hs hr hn)
end Go.Proofs.YtlpkaelgeeecoaaDoor

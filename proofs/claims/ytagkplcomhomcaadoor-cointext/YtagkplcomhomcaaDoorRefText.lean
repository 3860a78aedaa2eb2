/-
  The reference's CoinText.
-/
import Derived.Test.YtagkplcomhomcaaDoorWrite
namespace Go.Proofs.YtagkplcomhomcaaDoor
open Go.RowKit Go.Sort Go.Lib

/-- Where the loop ends. -/
theorem ends_at (u k : Nat) (h3 : 3 ≤ k) (h0 : u / 10 ^ k = 0) (h1 : k ≤ 3 ∨ u / 10 ^ (k - 1) ≠ 0) : S u k = txt u := by
  obtain ⟨j, rfl⟩ : ∃ j, k = j + 2 := ⟨k - 2, by omega⟩
  have e : ∀ i, u / 10 ^ (i + 2) = u / 100 / 10 ^ i := fun i => by
    rw [Nat.div_div_eq_div_mul, Nat.pow_add, Nat.mul_comm]
  rw [e] at h0
  have hn : nDigits (u / 100) = j := by
    rcases h1 with h1 | h1
    · obtain rfl : j = 1 := by omega
      rw [Nat.pow_one] at h0
      exact nDigits_small (by omega)
    · obtain ⟨i, rfl⟩ : ∃ i, j = i + 1 := ⟨j - 1, by omega⟩
      rw [show i + 1 + 2 - 1 = i + 2 by omega, e] at h1
      have p1 : 0 < 10 ^ i := Nat.pow_pos (by decide)
      have p2 : 0 < 10 ^ (i + 1) := Nat.pow_pos (by decide)
      refine nDigits_unique i _ ?_ ?_
      · rcases Nat.lt_or_ge (u / 100) (10 ^ i) with h | h
        · exact absurd (Nat.div_eq_of_lt h) h1
        · exact h
      · rcases Nat.lt_or_ge (u / 100) (10 ^ (i + 1)) with h | h
        · exact h
        · have := Nat.div_pos h p2
          omega
  rw [txt, hn]
theorem bound20 (u k : Nat) (h : u < 18446744073709551616) (h0 : u / 10 ^ k ≠ 0) : k < 20 := by
  rcases Nat.lt_or_ge k 20 with h1 | h1
  · exact h1
  · have : 10 ^ 20 ≤ 10 ^ k := Nat.pow_le_pow_right (by decide) h1
    exact absurd (Nat.div_eq_of_lt (by omega)) h0
theorem conv_one (w : World) (c : UInt8) (v : Int) (h : v = c.toNat) : (convert 65 9 (.slice (some ⟨w.heap.size, 0, none⟩) 1 1)).run Tryd.prog (w.alloc (.cells #[.int .u8 v] 5)) = .ok (.string ⟨#[c]⟩) (w.alloc (.cells #[.int .u8 v] 5)) := by
  subst h
  exact run_convert_bytes_back (P := Tryd.prog) (w.alloc (.cells #[.int .u8 (c.toNat : Int)] 5)) 65 9 5 ⟨w.heap.size, 0, none⟩ 1 [c] Tryd.underlying65 Tryd.underlying5 Tryd.underlying9 (fun j hj => by
    have : j = 0 := by simpa using hj
    subst this
    simp [Addr.add])
theorem S_point (u k : Nat) (h : k = 2) : S u (k + 1) = dg u k :: 46 :: S u k := by rw [S, if_pos h]
theorem S_comma (u k : Nat) (h : 2 < k) (h3 : (k - 2) % 3 = 0) : S u (k + 1) = dg u k :: 44 :: S u k := by rw [S, if_neg (by omega), if_pos ⟨h, h3⟩]
theorem S_plain (u k : Nat) (h : k ≠ 2) (h3 : ¬ (2 < k ∧ (k - 2) % 3 = 0)) : S u (k + 1) = dg u k :: S u k := by rw [S, if_neg h, if_neg h3]

theorem bl_app (a b : ByteArray) : bl (a ++ b) = bl a ++ bl b := by
  show (a ++ b).data.toList = _
  rw [ByteArray.data_append, Array.toList_append]

set_option maxHeartbeats 8000000 in
set_option maxRecDepth 100000 in
theorem ref_pos (u : Nat) (hu : u < 9223372036854775808) (w : World) :
    Calls Tryd.prog 16 #[.int .i64 ((u : Int))] w fun e w' => (∃ s, e = .returned (.string s) ∧ bl s = txt u) ∧ Below w.heap.size w w' := by
  have d1 : decide ((u : Int) < 0) = false := by simp
  go_enter Tryd.func16, Tryd.ntmps16
  go_wp2_with fail
  go_loopw [0, 4, 5] (fun n o t wr => ∃ k : Nat, k ≤ 21 ∧ (k ≤ 3 ∨ u / 10 ^ (k - 1) ≠ 0) ∧ t = .int .i64 k ∧ n = .int .i64 (((u / 10 ^ k : Nat) : Int)) ∧ (∃ s, o = .string s ∧ bl s = S u k) ∧ Below w.heap.size w wr) (fun _ _ t _ => 21 - (RowKit.intOf t).toNat)
  case atStart => exact ⟨0, by omega, .inl (by omega), rfl, by rw [Nat.pow_zero, Nat.div_one], ⟨_, rfl, rfl⟩, Below.refl _ _⟩
  case round =>
    obtain ⟨k, hk, hk1, rfl, rfl, ⟨s, rfl, hs⟩, hbw⟩ := hrel
    have HS := hidIt hs
    have HK := hidIt hk1
    have HB := hidIt hbw
    have hss : s.size ≤ 42 := by rw [← size_bl, hs]; have := S_len u k; omega
    clear hs hk1 hbw
    have hy : u / 10 ^ k < 9223372036854775808 := Nat.lt_of_le_of_lt (Nat.div_le_self _ _) hu
    have HD : Hid (u / 10 ^ (k + 1) = u / 10 ^ k / 10) := by show _ = _; rw [Nat.pow_succ, Nat.div_div_eq_div_mul]
    have HE : Hid ((dg u k).toNat = 48 + u / 10 ^ k % 10) := dg_nat u k
    have HZ : Hid (u / 10 ^ k ≠ 0 → k < 20) := bound20 u k (by omega)
    have HEnd : Hid (3 ≤ k → u / 10 ^ k = 0 → S u k = txt u) := fun a b => ends_at u k a b HK.out
    have HNx : Hid (k + 1 ≤ 3 ∨ u / 10 ^ k ≠ 0 → k + 1 ≤ 3 ∨ u / 10 ^ (k + 1 - 1) ≠ 0) := fun h => h
    generalize u / 10 ^ k = y at *
    have hcv := conv_one wr (dg u k) (48 + (y : Int) % 10) (by rw [HE.out]; rfl)
    generalize hdg : dg u k = c at *
    by_cases h3 : k < 3
    · have c1 : decide ((k : Int) < 3) = true := by simp; omega
      by_cases h2 : k = 2
      · have c2 : ((k : Int) == 2) = true := by rw [h2]; rfl
        have c3 : decide ((2 : Int) < k) = false := by simp; omega
        cases hy0 : decide (y = 0)
        · have c0 : ¬ y = 0 := by simpa using hy0
          have e0 : (((y : Int)) != 0) = true := by simp; omega
          clear hy0
          have HStep : Hid (bl (⟨#[c]⟩ ++ (⟨#[46]⟩ ++ s)) = S u (k + 1)) := by show _ = _; rw [S_point u k h2, bl_app, bl_app, HS.out, hdg]; rfl
          go_wp2
          refine ⟨⟨k + 1, by omega, HNx.out (by omega), by go_num, by rw [HD.out]; go_num, ⟨_, rfl, HStep.out⟩, HB.out.alloc HB.out.size _⟩, by simp [RowKit.intOf]; omega⟩
        · have c0 : y = 0 := by simpa using hy0
          have e0 : (((y : Int)) != 0) = false := by simp; omega
          clear hy0
          have HC0 := hidIt c0
          clear c0
          have HStep : Hid (bl (⟨#[c]⟩ ++ (⟨#[46]⟩ ++ s)) = S u (k + 1)) := by show _ = _; rw [S_point u k h2, bl_app, bl_app, HS.out, hdg]; rfl
          go_wp2
          all_goals refine ⟨⟨k + 1, by omega, HNx.out (by omega), by go_num, by rw [HD.out]; go_num, ⟨_, rfl, HStep.out⟩, HB.out.alloc HB.out.size _⟩, by simp [RowKit.intOf]; omega⟩
      · have c2 : ((k : Int) == 2) = false := by simp; omega
        have c3 : decide ((2 : Int) < k) = false := by simp; omega
        cases hy0 : decide (y = 0)
        · have c0 : ¬ y = 0 := by simpa using hy0
          have e0 : (((y : Int)) != 0) = true := by simp; omega
          clear hy0
          have HStep : Hid (bl (⟨#[c]⟩ ++ s) = S u (k + 1)) := by show _ = _; rw [S_plain u k (by omega) (by omega), bl_app, HS.out, hdg]; rfl
          go_wp2
          refine ⟨⟨k + 1, by omega, HNx.out (by omega), by go_num, by rw [HD.out]; go_num, ⟨_, rfl, HStep.out⟩, HB.out.alloc HB.out.size _⟩, by simp [RowKit.intOf]; omega⟩
        · have c0 : y = 0 := by simpa using hy0
          have e0 : (((y : Int)) != 0) = false := by simp; omega
          clear hy0
          have HC0 := hidIt c0
          clear c0
          have HStep : Hid (bl (⟨#[c]⟩ ++ s) = S u (k + 1)) := by show _ = _; rw [S_plain u k (by omega) (by omega), bl_app, HS.out, hdg]; rfl
          go_wp2
          all_goals refine ⟨⟨k + 1, by omega, HNx.out (by omega), by go_num, by rw [HD.out]; go_num, ⟨_, rfl, HStep.out⟩, HB.out.alloc HB.out.size _⟩, by simp [RowKit.intOf]; omega⟩
    · have c1 : decide ((k : Int) < 3) = false := by simp; omega
      have c2 : ((k : Int) == 2) = false := by simp; omega
      have c3 : decide ((2 : Int) < k) = true := by simp; omega
      cases hy0 : decide (y = 0)
      · have c0 : ¬ y = 0 := by simpa using hy0
        have e0 : (((y : Int)) != 0) = true := by simp; omega
        have hk20 := HZ.out c0
        clear hy0
        by_cases h4 : (k - 2) % 3 = 0
        · have c4 : ((k : Int) - 2) % 3 = 0 := by omega
          have HStep : Hid (bl (⟨#[c]⟩ ++ (⟨#[44]⟩ ++ s)) = S u (k + 1)) := by show _ = _; rw [S_comma u k (by omega) h4, bl_app, bl_app, HS.out, hdg]; rfl
          go_wp2
          refine ⟨⟨k + 1, by omega, HNx.out (by omega), by go_num, by rw [HD.out]; go_num, ⟨_, rfl, HStep.out⟩, HB.out.alloc HB.out.size _⟩, by simp [RowKit.intOf]; omega⟩
        · have c4 : ¬ ((k : Int) - 2) % 3 = 0 := by omega
          have HStep : Hid (bl (⟨#[c]⟩ ++ s) = S u (k + 1)) := by show _ = _; rw [S_plain u k (by omega) (by omega), bl_app, HS.out, hdg]; rfl
          go_wp2
          refine ⟨⟨k + 1, by omega, HNx.out (by omega), by go_num, by rw [HD.out]; go_num, ⟨_, rfl, HStep.out⟩, HB.out.alloc HB.out.size _⟩, by simp [RowKit.intOf]; omega⟩
      · have c0 : y = 0 := by simpa using hy0
        have e0 : (((y : Int)) != 0) = false := by simp; omega
        clear hy0
        have HT := hidIt (HEnd.out (by omega) c0)
        go_wp2
        go_ret
        exact ⟨⟨_, rfl, by rw [bl_app, HS.out, HT.out]; rfl⟩, HB.out⟩

set_option maxHeartbeats 8000000 in
set_option maxRecDepth 100000 in
theorem ref_neg (u : Nat) (hu0 : 1 ≤ u) (hu : u ≤ 9223372036854775808) (w : World) :
    Calls Tryd.prog 16 #[.int .i64 (-(u : Int))] w fun e w' => (∃ s, e = .returned (.string s) ∧ bl s = 45 :: txt u) ∧ Below w.heap.size w w' := by
  have d1 : decide (-(u : Int) < 0) = true := by simp; omega
  go_enter Tryd.func16, Tryd.ntmps16
  go_wp2_with fail
  go_loopw [0, 4, 5] (fun n o t wr => ∃ k : Nat, k ≤ 21 ∧ (k ≤ 3 ∨ u / 10 ^ (k - 1) ≠ 0) ∧ t = .int .i64 k ∧ n = .int .i64 (-((u / 10 ^ k : Nat) : Int)) ∧ (∃ s, o = .string s ∧ bl s = S u k) ∧ Below w.heap.size w wr) (fun _ _ t _ => 21 - (RowKit.intOf t).toNat)
  case atStart => exact ⟨0, by omega, .inl (by omega), rfl, by rw [Nat.pow_zero, Nat.div_one], ⟨_, rfl, rfl⟩, Below.refl _ _⟩
  case round =>
    obtain ⟨k, hk, hk1, rfl, rfl, ⟨s, rfl, hs⟩, hbw⟩ := hrel
    have HS := hidIt hs
    have HK := hidIt hk1
    have HB := hidIt hbw
    have hss : s.size ≤ 42 := by rw [← size_bl, hs]; have := S_len u k; omega
    clear hs hk1 hbw
    have hy : u / 10 ^ k ≤ 9223372036854775808 := Nat.le_trans (Nat.div_le_self _ _) hu
    have HD : Hid (u / 10 ^ (k + 1) = u / 10 ^ k / 10) := by show _ = _; rw [Nat.pow_succ, Nat.div_div_eq_div_mul]
    have HE : Hid ((dg u k).toNat = 48 + u / 10 ^ k % 10) := dg_nat u k
    have HZ : Hid (u / 10 ^ k ≠ 0 → k < 20) := bound20 u k (by omega)
    have HEnd : Hid (3 ≤ k → u / 10 ^ k = 0 → S u k = txt u) := fun a b => ends_at u k a b HK.out
    have HNx : Hid (k + 1 ≤ 3 ∨ u / 10 ^ k ≠ 0 → k + 1 ≤ 3 ∨ u / 10 ^ (k + 1 - 1) ≠ 0) := fun h => h
    generalize u / 10 ^ k = y at *
    have hcv := conv_one wr (dg u k) (48 + (y : Int) % 10) (by rw [HE.out]; rfl)
    generalize hdg : dg u k = c at *
    by_cases h3 : k < 3
    · have c1 : decide ((k : Int) < 3) = true := by simp; omega
      by_cases h2 : k = 2
      · have c2 : ((k : Int) == 2) = true := by rw [h2]; rfl
        have c3 : decide ((2 : Int) < k) = false := by simp; omega
        cases hy0 : decide (y = 0)
        · have c0 : ¬ y = 0 := by simpa using hy0
          have e0 : ((-(y : Int)) != 0) = true := by simp; omega
          clear hy0
          cases hd0 : decide (y % 10 = 0)
          · have cd : ¬ y % 10 = 0 := by simpa using hd0
            have cd1 : decide (-((y : Int) % 10) < 0) = true := by simp; omega
            clear hd0
            have HStep : Hid (bl (⟨#[c]⟩ ++ (⟨#[46]⟩ ++ s)) = S u (k + 1)) := by show _ = _; rw [S_point u k h2, bl_app, bl_app, HS.out, hdg]; rfl
            go_wp2
            refine ⟨⟨k + 1, by omega, HNx.out (by omega), by go_num, by rw [HD.out]; go_num, ⟨_, rfl, HStep.out⟩, HB.out.alloc HB.out.size _⟩, by simp [RowKit.intOf]; omega⟩
          · have cd : y % 10 = 0 := by simpa using hd0
            have cd1 : decide (-((y : Int) % 10) < 0) = false := by simp; omega
            have hcv2 := conv_one wr c (48 + -((y : Int) % 10)) (by rw [HE.out]; omega)
            clear hd0
            have HStep : Hid (bl (⟨#[c]⟩ ++ (⟨#[46]⟩ ++ s)) = S u (k + 1)) := by show _ = _; rw [S_point u k h2, bl_app, bl_app, HS.out, hdg]; rfl
            go_wp2
            refine ⟨⟨k + 1, by omega, HNx.out (by omega), by go_num, by rw [HD.out]; go_num, ⟨_, rfl, HStep.out⟩, HB.out.alloc HB.out.size _⟩, by simp [RowKit.intOf]; omega⟩
        · have c0 : y = 0 := by simpa using hy0
          have e0 : ((-(y : Int)) != 0) = false := by simp; omega
          clear hy0
          have HC0 := hidIt c0
          have cd1 : decide (-((y : Int) % 10) < 0) = false := by simp; omega
          have hcv2 := conv_one wr c (48 + -((y : Int) % 10)) (by rw [HE.out]; omega)
          clear c0
          have HStep : Hid (bl (⟨#[c]⟩ ++ (⟨#[46]⟩ ++ s)) = S u (k + 1)) := by show _ = _; rw [S_point u k h2, bl_app, bl_app, HS.out, hdg]; rfl
          go_wp2
          all_goals refine ⟨⟨k + 1, by omega, HNx.out (by omega), by go_num, by rw [HD.out]; go_num, ⟨_, rfl, HStep.out⟩, HB.out.alloc HB.out.size _⟩, by simp [RowKit.intOf]; omega⟩
      · have c2 : ((k : Int) == 2) = false := by simp; omega
        have c3 : decide ((2 : Int) < k) = false := by simp; omega
        cases hy0 : decide (y = 0)
        · have c0 : ¬ y = 0 := by simpa using hy0
          have e0 : ((-(y : Int)) != 0) = true := by simp; omega
          clear hy0
          cases hd0 : decide (y % 10 = 0)
          · have cd : ¬ y % 10 = 0 := by simpa using hd0
            have cd1 : decide (-((y : Int) % 10) < 0) = true := by simp; omega
            clear hd0
            have HStep : Hid (bl (⟨#[c]⟩ ++ s) = S u (k + 1)) := by show _ = _; rw [S_plain u k (by omega) (by omega), bl_app, HS.out, hdg]; rfl
            go_wp2
            refine ⟨⟨k + 1, by omega, HNx.out (by omega), by go_num, by rw [HD.out]; go_num, ⟨_, rfl, HStep.out⟩, HB.out.alloc HB.out.size _⟩, by simp [RowKit.intOf]; omega⟩
          · have cd : y % 10 = 0 := by simpa using hd0
            have cd1 : decide (-((y : Int) % 10) < 0) = false := by simp; omega
            have hcv2 := conv_one wr c (48 + -((y : Int) % 10)) (by rw [HE.out]; omega)
            clear hd0
            have HStep : Hid (bl (⟨#[c]⟩ ++ s) = S u (k + 1)) := by show _ = _; rw [S_plain u k (by omega) (by omega), bl_app, HS.out, hdg]; rfl
            go_wp2
            refine ⟨⟨k + 1, by omega, HNx.out (by omega), by go_num, by rw [HD.out]; go_num, ⟨_, rfl, HStep.out⟩, HB.out.alloc HB.out.size _⟩, by simp [RowKit.intOf]; omega⟩
        · have c0 : y = 0 := by simpa using hy0
          have e0 : ((-(y : Int)) != 0) = false := by simp; omega
          clear hy0
          have HC0 := hidIt c0
          have cd1 : decide (-((y : Int) % 10) < 0) = false := by simp; omega
          have hcv2 := conv_one wr c (48 + -((y : Int) % 10)) (by rw [HE.out]; omega)
          clear c0
          have HStep : Hid (bl (⟨#[c]⟩ ++ s) = S u (k + 1)) := by show _ = _; rw [S_plain u k (by omega) (by omega), bl_app, HS.out, hdg]; rfl
          go_wp2
          all_goals refine ⟨⟨k + 1, by omega, HNx.out (by omega), by go_num, by rw [HD.out]; go_num, ⟨_, rfl, HStep.out⟩, HB.out.alloc HB.out.size _⟩, by simp [RowKit.intOf]; omega⟩
    · have c1 : decide ((k : Int) < 3) = false := by simp; omega
      have c2 : ((k : Int) == 2) = false := by simp; omega
      have c3 : decide ((2 : Int) < k) = true := by simp; omega
      cases hy0 : decide (y = 0)
      · have c0 : ¬ y = 0 := by simpa using hy0
        have e0 : ((-(y : Int)) != 0) = true := by simp; omega
        have hk20 := HZ.out c0
        clear hy0
        by_cases h4 : (k - 2) % 3 = 0
        · have c4 : ((k : Int) - 2) % 3 = 0 := by omega
          cases hd0 : decide (y % 10 = 0)
          · have cd : ¬ y % 10 = 0 := by simpa using hd0
            have cd1 : decide (-((y : Int) % 10) < 0) = true := by simp; omega
            clear hd0
            have HStep : Hid (bl (⟨#[c]⟩ ++ (⟨#[44]⟩ ++ s)) = S u (k + 1)) := by show _ = _; rw [S_comma u k (by omega) h4, bl_app, bl_app, HS.out, hdg]; rfl
            go_wp2
            refine ⟨⟨k + 1, by omega, HNx.out (by omega), by go_num, by rw [HD.out]; go_num, ⟨_, rfl, HStep.out⟩, HB.out.alloc HB.out.size _⟩, by simp [RowKit.intOf]; omega⟩
          · have cd : y % 10 = 0 := by simpa using hd0
            have cd1 : decide (-((y : Int) % 10) < 0) = false := by simp; omega
            have hcv2 := conv_one wr c (48 + -((y : Int) % 10)) (by rw [HE.out]; omega)
            clear hd0
            have HStep : Hid (bl (⟨#[c]⟩ ++ (⟨#[44]⟩ ++ s)) = S u (k + 1)) := by show _ = _; rw [S_comma u k (by omega) h4, bl_app, bl_app, HS.out, hdg]; rfl
            go_wp2
            refine ⟨⟨k + 1, by omega, HNx.out (by omega), by go_num, by rw [HD.out]; go_num, ⟨_, rfl, HStep.out⟩, HB.out.alloc HB.out.size _⟩, by simp [RowKit.intOf]; omega⟩
        · have c4 : ¬ ((k : Int) - 2) % 3 = 0 := by omega
          cases hd0 : decide (y % 10 = 0)
          · have cd : ¬ y % 10 = 0 := by simpa using hd0
            have cd1 : decide (-((y : Int) % 10) < 0) = true := by simp; omega
            clear hd0
            have HStep : Hid (bl (⟨#[c]⟩ ++ s) = S u (k + 1)) := by show _ = _; rw [S_plain u k (by omega) (by omega), bl_app, HS.out, hdg]; rfl
            go_wp2
            refine ⟨⟨k + 1, by omega, HNx.out (by omega), by go_num, by rw [HD.out]; go_num, ⟨_, rfl, HStep.out⟩, HB.out.alloc HB.out.size _⟩, by simp [RowKit.intOf]; omega⟩
          · have cd : y % 10 = 0 := by simpa using hd0
            have cd1 : decide (-((y : Int) % 10) < 0) = false := by simp; omega
            have hcv2 := conv_one wr c (48 + -((y : Int) % 10)) (by rw [HE.out]; omega)
            clear hd0
            have HStep : Hid (bl (⟨#[c]⟩ ++ s) = S u (k + 1)) := by show _ = _; rw [S_plain u k (by omega) (by omega), bl_app, HS.out, hdg]; rfl
            go_wp2
            refine ⟨⟨k + 1, by omega, HNx.out (by omega), by go_num, by rw [HD.out]; go_num, ⟨_, rfl, HStep.out⟩, HB.out.alloc HB.out.size _⟩, by simp [RowKit.intOf]; omega⟩
      · have c0 : y = 0 := by simpa using hy0
        have e0 : ((-(y : Int)) != 0) = false := by simp; omega
        clear hy0
        have HT := hidIt (HEnd.out (by omega) c0)
        go_wp2
        go_ret
        exact ⟨⟨_, rfl, by rw [bl_app, HS.out, HT.out]; rfl⟩, HB.out⟩
end Go.Proofs.YtagkplcomhomcaaDoor

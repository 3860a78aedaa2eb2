/-
  The reference's Portion: a product's part, bit by bit.
-/
import Derived.Test.YtlpkaelgeeecoaaDoorTurn
namespace Go.Proofs.YtlpkaelgeeecoaaDoor
open Go.RowKit

/-! A product's part, bit by bit. -/
theorem por0 {q c r m b : Int} (h : q * c + r = m * b) : (q * 2) * c + r * 2 = (m * 2) * b := by
  rw [Int.mul_right_comm q 2 c, Int.mul_right_comm m 2 b]; omega
theorem por1 {q c r x : Int} (h : q * c + r = x) : (q + 1) * c + (r - c) = x := by
  rw [Int.add_mul, Int.one_mul]; omega
theorem por2 {q c r m b : Int} (h : q * c + r = m * b) : q * c + (r + b) = (m + 1) * b := by
  rw [Int.add_mul, Int.one_mul]; omega
theorem por_end {q c r x : Int} (hc : 0 < c) (h : q * c + r = x) (h0 : 0 ≤ r) (h1 : r < c) : x / c = q ∧ x % c = r :=
  (Int.ediv_emod_unique hc).2 ⟨by rw [Int.mul_comm c q]; omega, h0, h1⟩
theorem por_le {q c r m a b : Int} (hc : 0 < c) (h : q * c + r = m * b) (h0 : 0 ≤ r) (hm : 0 ≤ m) (hma : m ≤ a) (hbc : b ≤ c) (hb : 0 ≤ b) (h1 : r < c) : 0 ≤ q ∧ q ≤ a := by
  have h2 : m * b ≤ a * c := Int.mul_le_mul hma hbc hb (by omega)
  have h3 : 0 ≤ m * b := Int.mul_nonneg hm hb
  constructor
  · by_cases hq : 0 ≤ q
    · exact hq
    · have := Int.mul_le_mul_of_nonneg_right (show q ≤ -1 by omega) (Int.le_of_lt hc)
      omega
  · by_cases hq : q ≤ a
    · exact hq
    · have := Int.mul_le_mul_of_nonneg_right (show a + 1 ≤ q by omega) (Int.le_of_lt hc)
      rw [Int.add_mul, Int.one_mul] at this
      omega

theorem ediv_two (a x : Int) (hx : 0 < x) : a / (x * 2) = a / x / 2 := by
  rw [Int.ediv_ediv_of_nonneg (by omega)]
theorem pow_half (k : Nat) : ((2 ^ (k + 1) : Nat) : Int) / 2 = ((2 ^ k : Nat) : Int) := by
  rw [Nat.pow_succ]; omega
/-- Where the second loop is: q and r tell of the bits ahead. -/
def Por (a b c q r x : Int) : Prop := ∃ m : Int, q * c + r = m * b ∧ 0 ≤ r ∧ r < c ∧ 0 ≤ m ∧ m ≤ a ∧ (x = 0 ∧ m = a ∨ ∃ k : Nat, x = ((2 ^ k : Nat) : Int) ∧ m = a / (x * 2))
theorem Por.next {a b c x q' r' : Int} (ha : 0 ≤ a) (hx : 0 < x) (hk : ∃ k : Nat, x = ((2 ^ k : Nat) : Int)) (he : q' * c + r' = (a / x) * b) (h0 : 0 ≤ r') (h1 : r' < c) : Por a b c q' r' (x / 2) := by
  have m0 : 0 ≤ a / x := Int.ediv_nonneg ha (by omega)
  have m1 : a / x ≤ a := Int.ediv_le_self x ha
  refine ⟨a / x, he, h0, h1, m0, m1, ?_⟩
  obtain ⟨k, rfl⟩ := hk
  cases k with
  | zero => left; simp
  | succ k =>
    right
    refine ⟨k, pow_half k, ?_⟩
    rw [pow_half k, show ((2 ^ (k + 1) : Nat) : Int) = ((2 ^ k : Nat) : Int) * 2 by rw [Nat.pow_succ]; omega]

set_option maxHeartbeats 4000000 in
theorem portion_any (a b c : Int) (w : World) (ha : 0 ≤ a) (ha1 : a ≤ 1000000000000) (hb : 0 ≤ b) (hbc : b ≤ c) (hc : 0 < c) (hc1 : c ≤ 60000000) :
    Calls Tryd.prog 23 #[.int .i64 a, .int .i64 b, .int .i64 c] w fun e w' => e = .returned (.tuple #[.int .i64 (a * b / c), .int .i64 (a * b % c)]) ∧ w' = w := by
  have HE : Hid (∀ q r, q * c + r = a * b → 0 ≤ r → r < c → a * b / c = q ∧ a * b % c = r) := fun q r h1 h2 h3 => por_end hc h1 h2 h3
  go_enter Tryd.func23, Tryd.ntmps23
  go_wp2_with fail
  go_loop [10] (fun t => ∃ x : Int, t = .int .i64 x ∧ 0 < x ∧ (x = 1 ∨ x ≤ a) ∧ Hid (∃ k : Nat, x = ((2 ^ k : Nat) : Int))) (fun t => (a - RowKit.intOf t).toNat)
  case atStart => exact ⟨1, rfl, by omega, .inl rfl, ⟨0, by simp⟩⟩
  case round =>
    obtain ⟨x, rfl, hx0, hx1, HK⟩ := hrel
    by_cases hlt : x ≤ a / 2
    · have c0 : decide (x ≤ a / 2) = true := by simpa using hlt
      have HK2 : Hid (∃ k : Nat, x * 2 = ((2 ^ k : Nat) : Int)) := by
        obtain ⟨k, e⟩ := HK.out
        exact ⟨k + 1, by rw [e, Nat.pow_succ]; omega⟩
      go_wp2
      go_round
      case rel => exact ⟨x * 2, rfl, by omega, by omega, HK2⟩
      case measure => simp [RowKit.intOf]; omega
    · have c0 : decide (x ≤ a / 2) = false := by simpa using hlt
      have HP : Hid (Por a b c 0 0 x) := by
        refine ⟨0, by simp, by omega, hc, by omega, ha, .inr ?_⟩
        obtain ⟨k, e⟩ := HK.out
        exact ⟨k, e, by rw [Int.ediv_eq_zero_of_lt ha (by omega)]⟩
      go_wp2_with fail
      clear c0
      go_loop [8, 9, 10] (fun t8 t9 t10 => ∃ q r y : Int, t8 = .int .i64 q ∧ t9 = .int .i64 r ∧ t10 = .int .i64 y ∧ 0 ≤ y ∧ y ≤ x ∧ Hid (Por a b c q r y)) (fun _ _ t => (RowKit.intOf t).toNat)
      case atStart => exact ⟨0, 0, x, rfl, rfl, rfl, by omega, by omega, HP⟩
      case round =>
        obtain ⟨q, r, y, rfl, rfl, rfl, hy0, hy1, HQ⟩ := hrel
        obtain ⟨m, e0, r0, r1, m0, m1, hm⟩ := HQ.out
        obtain ⟨q0, q1⟩ := por_le hc e0 r0 m0 m1 hbc hb r1
        by_cases hy : y = 0
        · subst hy
          have hma : m = a := by
            rcases hm with ⟨_, h⟩ | ⟨k, h, _⟩
            · exact h
            · have : 0 < 2 ^ k := Nat.two_pow_pos k
              omega
          subst hma
          obtain ⟨z1, z2⟩ := HE.out q r e0 r0 r1
          have HZ := hidIt (And.intro z1 z2)
          clear z1 z2 e0 hm HQ
          go_wp2
          go_ret2
          rw [HZ.out.1, HZ.out.2]
          exact ⟨rfl, rfl⟩
        · have hyp : 0 < y := by omega
          obtain ⟨k, hk, hmk⟩ : ∃ k : Nat, y = ((2 ^ k : Nat) : Int) ∧ m = a / (y * 2) := by
            rcases hm with ⟨h, _⟩ | h
            · omega
            · exact h
          have HKy : Hid (∃ k : Nat, y = ((2 ^ k : Nat) : Int)) := ⟨k, hk⟩
          rw [ediv_two a y hyp] at hmk
          have E0 := hidIt (por0 e0)
          have hz0 : 0 ≤ a / y := Int.ediv_nonneg ha (by omega)
          have hz1 : a / y ≤ a := Int.ediv_le_self y ha
          have HN : Hid (∀ q' r', q' * c + r' = (a / y) * b → 0 ≤ r' → r' < c → Por a b c q' r' (y / 2)) := fun q' r' h1 h2 h3 => Por.next ha hyp HKy.out h1 h2 h3
          clear e0 hm hk HQ HP
          have cy : decide (0 < y) = true := by simpa using hyp
          by_cases g1 : c ≤ r * 2
          · have d1 : decide (c ≤ r * 2) = true := by simpa using g1
            have E1 := hidIt (por1 E0.out)
            by_cases g2 : a / y % 2 = 1
            · have d2 : (a / y % 2 == 1) = true := by simpa using g2
              have em : m * 2 + 1 = a / y := by omega
              have E2 := hidIt (por2 E1.out)
              rw [em] at E2
              by_cases g3 : c ≤ r * 2 - c + b
              · have d3 : decide (c ≤ r * 2 - c + b) = true := by simpa using g3
                have E3 := hidIt (por1 E2.out)
                go_wp2
                go_round
                case rel => exact ⟨_, _, y / 2, rfl, rfl, by go_num, by omega, by omega, HN.out _ _ E3.out (by omega) (by omega)⟩
                case measure => simp [RowKit.intOf]; omega
              · have d3 : decide (c ≤ r * 2 - c + b) = false := by simpa using g3
                go_wp2
                go_round
                case rel => exact ⟨_, _, y / 2, rfl, rfl, by go_num, by omega, by omega, HN.out _ _ E2.out (by omega) (by omega)⟩
                case measure => simp [RowKit.intOf]; omega
            · have d2 : (a / y % 2 == 1) = false := by simpa using g2
              have em : m * 2 = a / y := by omega
              rw [em] at E1
              go_wp2
              go_round
              case rel => exact ⟨_, _, y / 2, rfl, rfl, by go_num, by omega, by omega, HN.out _ _ E1.out (by omega) (by omega)⟩
              case measure => simp [RowKit.intOf]; omega
          · have d1 : decide (c ≤ r * 2) = false := by simpa using g1
            by_cases g2 : a / y % 2 = 1
            · have d2 : (a / y % 2 == 1) = true := by simpa using g2
              have em : m * 2 + 1 = a / y := by omega
              have E2 := hidIt (por2 E0.out)
              rw [em] at E2
              by_cases g3 : c ≤ r * 2 + b
              · have d3 : decide (c ≤ r * 2 + b) = true := by simpa using g3
                have E3 := hidIt (por1 E2.out)
                go_wp2
                go_round
                case rel => exact ⟨_, _, y / 2, rfl, rfl, by go_num, by omega, by omega, HN.out _ _ E3.out (by omega) (by omega)⟩
                case measure => simp [RowKit.intOf]; omega
              · have d3 : decide (c ≤ r * 2 + b) = false := by simpa using g3
                go_wp2
                go_round
                case rel => exact ⟨_, _, y / 2, rfl, rfl, by go_num, by omega, by omega, HN.out _ _ E2.out (by omega) (by omega)⟩
                case measure => simp [RowKit.intOf]; omega
            · have d2 : (a / y % 2 == 1) = false := by simpa using g2
              have em : m * 2 = a / y := by omega
              rw [em] at E0
              go_wp2
              go_round
              case rel => exact ⟨_, _, y / 2, rfl, rfl, by go_num, by omega, by omega, HN.out _ _ E0.out (by omega) (by omega)⟩
              case measure => simp [RowKit.intOf]; omega
end Go.Proofs.YtlpkaelgeeecoaaDoor

/-
  The reference's ReadCoin by contracts: no digit at all.
-/
import Derived.Test.YtagkplcomhomcaaDoorRef0
namespace Go.Proofs.YtagkplcomhomcaaDoor
open Go.RowKit Go.Extern.Stop Go.Stop Go.Extern

set_option maxHeartbeats 8000000 in
set_option maxRecDepth 100000 in
theorem ref_none (s b : ByteArray) (neg : Bool) (ahead : Nat) (O : Off s b neg ahead) (w : World) (h0 : ¬ ahead < s.size ∨ At s ahead isDg false) :
    Calls Tryd.prog 13 #[.string s] w fun e w' => e = .returned (.tuple #[.int .i64 0, .agg #[.int .i64 1, .int .i64 ahead]]) ∧ Below w.heap.size w w' := by
  have hsm := O.small
  cases neg
  · obtain rfl : ahead = 0 := O.lead
    rcases h0 with h0 | ⟨h1, h2⟩
    · have hz : ¬ (0 : Int) < s.size := by omega
      have hz2 : decide ((0 : Int) < s.size) = false := by simpa using hz
      clear O h0
      go_enter Tryd.func13, Tryd.ntmps13
      go_wp2_with fail
      refine wp_loop_rounds 1 ?_
      rw [rounds_succ]
      go_wp2_with (go_at_call 31; refine (refDig_any _ _).mono ?_; rintro ee w' ⟨rfl, rfl⟩)
      exact bodyPost_ret (v := .tuple #[.int .i64 0, .agg #[.int .i64 1, .int .i64 0]]) (by simp [results, Tryd.results13, go_sem]) rfl ⟨rfl, (Below.refl _ _).alloc (Nat.le_refl _) _⟩
    · have n45 : (((s[0].toNat : Nat) : Int) == 45) = false := by
        have h1 := O.nosign rfl h1
        have h2 : s[0].toNat ≠ 45 := fun h => h1 (UInt8.toNat_inj.1 h)
        simp; omega
      have hp0 : (0 : Int) < s.size := by omega
      clear O
      cases h4 : (((s[0].toNat : Nat) : Int) != 44)
      all_goals
        go_enter Tryd.func13, Tryd.ntmps13
        go_wp2_with fail
        refine wp_loop_rounds 1 ?_
        rw [rounds_succ]
        go_wp2_with (go_at_call 31; refine (refDig_any _ _).mono ?_; rintro ee w' ⟨rfl, rfl⟩)
        exact bodyPost_ret (v := .tuple #[.int .i64 0, .agg #[.int .i64 1, .int .i64 0]]) (by simp [results, Tryd.results13, go_sem]) rfl ⟨rfl, (Below.refl _ _).alloc (Nat.le_refl _) _⟩
  · obtain rfl : ahead = 1 := O.lead
    obtain ⟨hs0, h45⟩ := O.sign rfl
    have n45 : (((s[0].toNat : Nat) : Int) == 45) = true := by simp [h45]
    have hp0 : (0 : Int) < s.size := by omega
    clear h45
    rcases h0 with h0 | ⟨h1, h2⟩
    · have hz : ¬ (1 : Int) < s.size := by omega
      clear O h0
      go_enter Tryd.func13, Tryd.ntmps13
      go_wp2_with fail
      refine wp_loop_rounds 1 ?_
      rw [rounds_succ]
      go_wp2_with (go_at_call 31; refine (refDig_any _ _).mono ?_; rintro ee w' ⟨rfl, rfl⟩)
      exact bodyPost_ret (v := .tuple #[.int .i64 0, .agg #[.int .i64 1, .int .i64 1]]) (by simp [results, Tryd.results13, go_sem]) rfl ⟨rfl, (Below.refl _ _).alloc (Nat.le_refl _) _⟩
    · have hp1 : (1 : Int) < s.size := by omega
      clear O
      cases h4 : (((s[1].toNat : Nat) : Int) != 44)
      all_goals
        go_enter Tryd.func13, Tryd.ntmps13
        go_wp2_with fail
        refine wp_loop_rounds 1 ?_
        rw [rounds_succ]
        go_wp2_with (go_at_call 31; refine (refDig_any _ _).mono ?_; rintro ee w' ⟨rfl, rfl⟩)
        exact bodyPost_ret (v := .tuple #[.int .i64 0, .agg #[.int .i64 1, .int .i64 1]]) (by simp [results, Tryd.results13, go_sem]) rfl ⟨rfl, (Below.refl _ _).alloc (Nat.le_refl _) _⟩
end Go.Proofs.YtagkplcomhomcaaDoor

/-
  The reference's label: bytes, runs.
-/
import Derived.Test.YtgfaeeacndpniaaDoorLabP3
import Derived.Test.YtgfaeeacndpniaaDoorTermPlain
import Derived.Laws.Cover1
namespace Go.Proofs.YtgfaeeacndpniaaDoor
open Go.RowKit Go.Extern.Stop Go.Stop Go.Extern

theorem rIsDg (c : UInt8) (w : World) : Calls Tryd.prog 16 #[.int .u8 c.toNat] w fun e w' => e = .returned (.bool (dgN c.toNat)) ∧ w' = w := by
  rw [dgN_raw]
  cases h1 : decide ((48 : Int) ≤ c.toNat)
  all_goals
    go_enter Tryd.func16, Tryd.ntmps16
    go_wp2
    go_ret
    exact ⟨rfl, rfl⟩
theorem rIsSm (c : UInt8) (w : World) : Calls Tryd.prog 17 #[.int .u8 c.toNat] w fun e w' => e = .returned (.bool (smN c.toNat)) ∧ w' = w := by
  rw [smN_raw]
  cases h1 : decide ((97 : Int) ≤ c.toNat)
  all_goals
    go_enter Tryd.func17, Tryd.ntmps17
    go_wp2
    go_ret
    exact ⟨rfl, rfl⟩
theorem rIsCp (c : UInt8) (w : World) : Calls Tryd.prog 18 #[.int .u8 c.toNat] w fun e w' => e = .returned (.bool (cpN c.toNat)) ∧ w' = w := by
  rw [cpN_raw]
  cases h1 : decide ((65 : Int) ≤ c.toNat)
  all_goals
    go_enter Tryd.func18, Tryd.ntmps18
    go_wp2
    go_ret
    exact ⟨rfl, rfl⟩

/-! How many bytes a text begins with, of which it holds. -/
def runP (p : Nat → Bool) (s : ByteArray) : Nat := ((bl s).takeWhile (fun c => p c.toNat)).length
theorem runP_le (p : Nat → Bool) (s : ByteArray) : runP p s ≤ s.size := by
  rw [← size_bl]
  exact (List.takeWhile_sublist _).length_le
theorem runP_at (p : Nat → Bool) (s : ByteArray) (i : Nat) (h : i < runP p s) : ∃ hs : i < s.size, p s[i].toNat = true := by
  have hl := runP_le p s
  have hs : i < s.size := by omega
  exact ⟨hs, tw_at (fun c => p c.toNat) (bl s) i _ h (bl_get s i hs)⟩
theorem runP_end (p : Nat → Bool) (s : ByteArray) (hs : runP p s < s.size) : p s[runP p s].toNat = false := tw_end (fun c => p c.toNat) (bl s) _ (bl_get s _ hs)
theorem runP_eq {p : Nat → Bool} {s : ByteArray} {k : Nat} (hk : k ≤ s.size) (h1 : AllP p s 0 k) (h2 : ∀ h : k < s.size, p s[k].toNat = false) : runP p s = k := by
  have hl := runP_le p s
  rcases Nat.lt_trichotomy (runP p s) k with c | c | c
  · have := runP_end p s (by omega)
    rw [h1 _ (by omega) (Nat.zero_le _) c] at this
    cases this
  · exact c
  · obtain ⟨hs, h⟩ := runP_at p s k c
    rw [h2 hs] at h
    cases h
theorem lab_dig {s : ByteArray} {k : Nat} (h : Lab s k false) : runP dgN s = k := by
  refine runP_eq h.ks ?_ (fun hk => ?_)
  · rcases h.stem with ⟨_, a, _⟩ | ⟨e, _⟩
    · exact a
    · cases e
  · cases hc : dgN s[k].toNat
    · rfl
    · have := dgN_iff.1 hc
      have := cpN_iff.1 (h.cap k hk (Nat.le_refl _) hk)
      omega
theorem lab_sm {s : ByteArray} {k : Nat} (h : Lab s k true) : runP dgN s = 0 ∧ runP smN s = k := by
  have ha : AllP smN s 0 k := by
    rcases h.stem with ⟨e, _⟩ | ⟨_, a⟩
    · cases e
    · exact a
  constructor
  · refine runP_eq (Nat.zero_le _) (fun i hi a b => by omega) (fun hk => ?_)
    cases hc : dgN s[0].toNat
    · rfl
    · have := dgN_iff.1 hc
      have := smN_iff.1 (ha 0 hk (Nat.zero_le _) h.k1)
      omega
  · refine runP_eq h.ks ha (fun hk => ?_)
    cases hc : smN s[k].toNat
    · rfl
    · have := smN_iff.1 hc
      have := cpN_iff.1 (h.cap k hk (Nat.le_refl _) hk)
      omega
theorem vd_snoc : ∀ (l : List UInt8) (c : UInt8), vd (l ++ [c]) = vd l * 10 + (c.toNat - 48)
  | [], c => by simp [vd]
  | d :: t, c => by
    show (d.toNat - 48) * 10 ^ (t ++ [c]).length + vd (t ++ [c]) = ((d.toNat - 48) * 10 ^ t.length + vd t) * 10 + (c.toNat - 48)
    rw [vd_snoc t c, List.length_append, show [c].length = 1 from rfl, Nat.pow_succ, Nat.add_mul, ← Nat.mul_assoc]
    omega
theorem vd_take (s : ByteArray) (i : Nat) (h : i < s.size) : vd ((bl s).take (i + 1)) = vd ((bl s).take i) * 10 + (s[i].toNat - 48) := by
  have e : (bl s).take (i + 1) = (bl s).take i ++ [s[i]] := by
    rw [List.take_add_one, bl_get s i h]
    rfl
  rw [e, vd_snoc]
end Go.Proofs.YtgfaeeacndpniaaDoor

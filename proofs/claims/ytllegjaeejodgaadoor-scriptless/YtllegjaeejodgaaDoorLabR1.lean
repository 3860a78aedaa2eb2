/-
  The reference's label: bytes, runs, which of two texts is ahead.
-/
import Derived.Test.YtllegjaeejodgaaDoorLabP3
import Derived.Test.YtllegjaeejodgaaDoorTermPlain
import Derived.Laws.Cover1
namespace Go.Proofs.YtllegjaeejodgaaDoor
open Go.RowKit Go.Extern.Stop Go.Stop Go.Extern

theorem rIsDg (c : UInt8) (w : World) : Calls Tryd.prog 16 #[.int .u8 c.toNat] w fun e w' => e = .returned (.bool (dgN c.toNat)) ∧ w' = w := by
  rw [dgN_raw]
  cases h1 : decide ((48 : Int) ≤ c.toNat)
  all_goals
    go_enter Tryd.func16, Tryd.ntmps16
    go_wp2
    go_ret
    exact ⟨rfl, rfl⟩
theorem rIsSm (c : UInt8) (w : World) : Calls Tryd.prog 17 #[.int .u8 c.toNat] w fun e w' => e = .returned (.bool (smN c.toNat)) ∧ w' = w := by
  rw [smN_raw]
  cases h1 : decide ((97 : Int) ≤ c.toNat)
  all_goals
    go_enter Tryd.func17, Tryd.ntmps17
    go_wp2
    go_ret
    exact ⟨rfl, rfl⟩
theorem rIsCp (c : UInt8) (w : World) : Calls Tryd.prog 18 #[.int .u8 c.toNat] w fun e w' => e = .returned (.bool (cpN c.toNat)) ∧ w' = w := by
  rw [cpN_raw]
  cases h1 : decide ((65 : Int) ≤ c.toNat)
  all_goals
    go_enter Tryd.func18, Tryd.ntmps18
    go_wp2
    go_ret
    exact ⟨rfl, rfl⟩

theorem bl_cmp : ∀ a b : List UInt8, a.length = b.length → Op.bytesLess a b = decide (Lib.compareBytes a b < 0) ∧ (a == b) = decide (Lib.compareBytes a b = 0)
  | [], [], _ => by simp [Op.bytesLess, Lib.compareBytes]
  | [], _ :: _, h => by simp at h
  | _ :: _, [], h => by simp at h
  | a :: xs, b :: ys, h => by
    obtain ⟨i1, i2⟩ := bl_cmp xs ys (by simpa using h)
    unfold Op.bytesLess Lib.compareBytes
    by_cases h1 : a < b
    · have hne : a ≠ b := fun e => by rw [e] at h1; exact absurd h1 (by simp)
      simp [h1, hne]
    · by_cases h2 : b < a
      · have hne : a ≠ b := fun e => by rw [e] at h2; exact absurd h2 (by simp)
        simp [h1, h2, hne]
      · have hab : a = b := UInt8.toNat_inj.1 (by have := mt UInt8.lt_iff_toNat_lt.2 h1; have := mt UInt8.lt_iff_toNat_lt.2 h2; omega)
        subst hab
        simp only [h1, if_false]
        rw [i1]
        refine ⟨by simp, ?_⟩
        rw [← i2]
        simp
/-- A number that tells the reference's order. -/
theorem shorter_any (a b : ByteArray) (ha : Nz (bl a)) (hb : Nz (bl b)) (w : World) :
    ∃ c, IsCmp c (bl a) (bl b) ∧ Calls Tryd.prog 15 #[.string a, .string b] w fun e w' => e = .returned (.int .i64 c) ∧ w' = w := by
  rcases Nat.lt_trichotomy a.size b.size with k | k | k
  · refine ⟨-1, cmp_short ha hb _ (fun _ => rfl) (fun h => by first | rfl | (rw [size_bl, size_bl] at h; omega)) (fun h => by first | rfl | (rw [size_bl, size_bl] at h; omega)), ?_⟩
    have k' : (a.size : Int) < b.size := by omega
    have k2 : ((a.size : Int) != b.size) = true := by simp; omega
    clear ha hb
    go_enter Tryd.func15, Tryd.ntmps15
    go_wp2
    go_ret
    exact ⟨rfl, rfl⟩
  · obtain ⟨i1, i2⟩ := bl_cmp (bl a) (bl b) (by rw [size_bl, size_bl]; exact k)
    have k2 : ((a.size : Int) != b.size) = false := by rw [k]; simp
    have ea : a.toList = bl a := Lib.toList_data a
    have eb : b.toList = bl b := Lib.toList_data b
    rcases Int.lt_trichotomy (Lib.compareBytes (bl a) (bl b)) 0 with c | c | c
    · refine ⟨-1, cmp_short ha hb _ (fun h => by first | rfl | (rw [size_bl, size_bl] at h; omega)) (fun h => by first | rfl | (rw [size_bl, size_bl] at h; omega)) (fun _ => ⟨by omega, by omega⟩), ?_⟩
      have e1 : Op.bytesLess a.toList b.toList = true := by rw [ea, eb]; exact i1.trans (decide_eq_true c)
      clear ha hb i1 i2 c ea eb
      go_enter Tryd.func15, Tryd.ntmps15
      go_wp2
      go_ret
      exact ⟨rfl, rfl⟩
    · refine ⟨0, cmp_short ha hb _ (fun h => by first | rfl | (rw [size_bl, size_bl] at h; omega)) (fun h => by first | rfl | (rw [size_bl, size_bl] at h; omega)) (fun _ => ⟨by omega, by omega⟩), ?_⟩
      have e2 : (a.toList == b.toList) = true := by rw [ea, eb]; exact i2.trans (decide_eq_true c)
      have e3 : a.toList = b.toList := by simpa using e2
      have e1 : Op.bytesLess b.toList b.toList = false := by
        have : Op.bytesLess a.toList b.toList = false := by rw [ea, eb]; exact i1.trans (decide_eq_false (by omega))
        rw [e3] at this
        exact this
      clear e2
      clear ha hb i1 i2 c ea eb
      go_enter Tryd.func15, Tryd.ntmps15
      go_wp2
      go_ret
      exact ⟨rfl, rfl⟩
    · refine ⟨1, cmp_short ha hb _ (fun h => by first | rfl | (rw [size_bl, size_bl] at h; omega)) (fun h => by first | rfl | (rw [size_bl, size_bl] at h; omega)) (fun _ => ⟨by omega, by omega⟩), ?_⟩
      have e1 : Op.bytesLess a.toList b.toList = false := by rw [ea, eb]; exact i1.trans (decide_eq_false (by omega))
      have e2 : (a.toList == b.toList) = false := by rw [ea, eb]; exact i2.trans (decide_eq_false (by omega))
      clear ha hb i1 i2 c ea eb
      go_enter Tryd.func15, Tryd.ntmps15
      go_wp2
      go_ret
      exact ⟨rfl, rfl⟩
  · refine ⟨1, cmp_short ha hb _ (fun h => by first | rfl | (rw [size_bl, size_bl] at h; omega)) (fun _ => rfl) (fun h => by first | rfl | (rw [size_bl, size_bl] at h; omega)), ?_⟩
    have k' : decide ((a.size : Int) < b.size) = false := by simp; omega
    have k2 : ((a.size : Int) != b.size) = true := by simp; omega
    clear ha hb
    go_enter Tryd.func15, Tryd.ntmps15
    go_wp2
    go_ret
    exact ⟨rfl, rfl⟩

/-! How many bytes a text begins with, of which it holds. -/
def runP (p : Nat → Bool) (s : ByteArray) : Nat := ((bl s).takeWhile (fun c => p c.toNat)).length
theorem runP_le (p : Nat → Bool) (s : ByteArray) : runP p s ≤ s.size := by
  rw [← size_bl]
  exact (List.takeWhile_sublist _).length_le
theorem runP_at (p : Nat → Bool) (s : ByteArray) (i : Nat) (h : i < runP p s) : ∃ hs : i < s.size, p s[i].toNat = true := by
  have hl := runP_le p s
  have hs : i < s.size := by omega
  exact ⟨hs, tw_at (fun c => p c.toNat) (bl s) i _ h (bl_get s i hs)⟩
theorem runP_end (p : Nat → Bool) (s : ByteArray) (hs : runP p s < s.size) : p s[runP p s].toNat = false := tw_end (fun c => p c.toNat) (bl s) _ (bl_get s _ hs)
theorem runP_eq {p : Nat → Bool} {s : ByteArray} {k : Nat} (hk : k ≤ s.size) (h1 : AllP p s 0 k) (h2 : ∀ h : k < s.size, p s[k].toNat = false) : runP p s = k := by
  have hl := runP_le p s
  rcases Nat.lt_trichotomy (runP p s) k with c | c | c
  · have := runP_end p s (by omega)
    rw [h1 _ (by omega) (Nat.zero_le _) c] at this
    cases this
  · exact c
  · obtain ⟨hs, h⟩ := runP_at p s k c
    rw [h2 hs] at h
    cases h
theorem lab_dig {s : ByteArray} {k : Nat} (h : Lab s k false) : runP dgN s = k := by
  refine runP_eq h.ks ?_ (fun hk => ?_)
  · rcases h.stem with ⟨_, a, _⟩ | ⟨e, _⟩
    · exact a
    · cases e
  · cases hc : dgN s[k].toNat
    · rfl
    · have := dgN_iff.1 hc
      have := cpN_iff.1 (h.cap k hk (Nat.le_refl _) hk)
      omega
theorem lab_sm {s : ByteArray} {k : Nat} (h : Lab s k true) : runP dgN s = 0 ∧ runP smN s = k := by
  have ha : AllP smN s 0 k := by
    rcases h.stem with ⟨e, _⟩ | ⟨_, a⟩
    · cases e
    · exact a
  constructor
  · refine runP_eq (Nat.zero_le _) (fun i hi a b => by omega) (fun hk => ?_)
    cases hc : dgN s[0].toNat
    · rfl
    · have := dgN_iff.1 hc
      have := smN_iff.1 (ha 0 hk (Nat.zero_le _) h.k1)
      omega
  · refine runP_eq h.ks ha (fun hk => ?_)
    cases hc : smN s[k].toNat
    · rfl
    · have := smN_iff.1 hc
      have := cpN_iff.1 (h.cap k hk (Nat.le_refl _) hk)
      omega
theorem vd_snoc : ∀ (l : List UInt8) (c : UInt8), vd (l ++ [c]) = vd l * 10 + (c.toNat - 48)
  | [], c => by simp [vd]
  | d :: t, c => by
    show (d.toNat - 48) * 10 ^ (t ++ [c]).length + vd (t ++ [c]) = ((d.toNat - 48) * 10 ^ t.length + vd t) * 10 + (c.toNat - 48)
    rw [vd_snoc t c, List.length_append, show [c].length = 1 from rfl, Nat.pow_succ, Nat.add_mul, ← Nat.mul_assoc]
    omega
theorem vd_take (s : ByteArray) (i : Nat) (h : i < s.size) : vd ((bl s).take (i + 1)) = vd ((bl s).take i) * 10 + (s[i].toNat - 48) := by
  have e : (bl s).take (i + 1) = (bl s).take i ++ [s[i]] := by
    rw [List.take_add_one, bl_get s i h]
    rfl
  rw [e, vd_snoc]
end Go.Proofs.YtllegjaeejodgaaDoor

/-
  The reference's ReadTerm: its parts, and what the text says, plain.
-/
import Derived.Test.YtplhamloddighaaDoorTermOut
namespace Go.Proofs.YtplhamloddighaaDoor
open Go.RowKit Go.Extern.Stop Go.Stop Go.Extern

theorem rIsDigit_t (c : UInt8) (w : World) : Calls Tryd.prog 45 #[.int .u8 c.toNat] w fun e w' => e = .returned (.bool (isDg c)) ∧ w' = w := by
  have hd := dg_raw c
  by_cases h0 : (48 : Int) ≤ c.toNat
  · have HE : Hid (isDg c = decide ((c.toNat : Int) ≤ 57)) := by show _ = _; rw [← hd]; simp [h0]
    have h1 : decide ((48 : Int) ≤ c.toNat) = true := by simpa using h0
    clear hd
    go_enter Tryd.func45, Tryd.ntmps45
    go_wp2
    go_ret
    exact ⟨ret_bool HE.out.symm, rfl⟩
  · have HE : Hid (isDg c = false) := by show _ = _; rw [← hd]; simp [h0]
    have h1 : decide ((48 : Int) ≤ c.toNat) = false := by simpa using h0
    clear hd
    go_enter Tryd.func45, Tryd.ntmps45
    go_wp2
    go_ret
    exact ⟨ret_bool HE.out.symm, rfl⟩

theorem bl_ext (s : ByteArray) (a b : Nat) : bl (s.extract a b) = ((bl s).take b).drop a := by
  show (s.extract a b).data.toList = _
  rw [ByteArray.data_extract, List.drop_take]
  simp [bl]
theorem pre_ext (s x : ByteArray) (a : Nat) : Lib.hasPrefix (bl (s.extract a s.size)) (bl x) = decide (s.extract a (a + x.size) = x) := by
  rw [Bool.eq_iff_iff]
  unfold Lib.hasPrefix
  rw [List.isPrefixOf_iff_prefix, decide_eq_true_eq, List.prefix_iff_eq_take, bl_ext, size_bl, ← size_bl s, List.take_length]
  constructor
  · intro e
    apply ByteArray.ext
    apply Array.toList_inj.1
    show bl (s.extract a (a + x.size)) = bl x
    rw [bl_ext, e]
    have : ((bl s).take (a + x.size)).drop a = ((bl s).drop a).take x.size := by
      rw [List.drop_take]; congr 1; omega
    rw [this]
  · intro e
    have h2 : bl (s.extract a (a + x.size)) = bl x := by rw [e]
    rw [bl_ext, List.drop_take] at h2
    rw [← h2]
    congr 1
    omega
theorem pre_ext2 (s x : ByteArray) (a : Nat) : Lib.hasPrefix (bl (s.extract a s.size)) (bl x) = ((s.extract a (a + x.size)).toList == x.toList) := by
  rw [pre_ext, Bool.eq_iff_iff, decide_eq_true_eq, beq_iff_eq]
  constructor
  · intro e; rw [e]
  · intro e
    rw [Lib.toList_data, Lib.toList_data] at e
    exact ByteArray.ext (Array.toList_inj.1 e)
theorem pre_ext_no (s x : ByteArray) (a : Nat) (h : ¬ a + x.size ≤ s.size) (ha : a ≤ s.size) : Lib.hasPrefix (bl (s.extract a s.size)) (bl x) = false := by
  cases hp : Lib.hasPrefix (bl (s.extract a s.size)) (bl x)
  · rfl
  · have := pre_le hp
    rw [ext_len, size_bl] at this
    omega
set_option maxRecDepth 10000 in
set_option maxHeartbeats 1000000 in
theorem starts_any (s x : ByteArray) (a : Nat) (w : World) (hs : s.size ≤ 3000) (hx : x.size ≤ 100) (ha : a ≤ s.size) :
    Calls Tryd.prog 46 #[.string s, .int .i64 a, .string x] w fun e w' => e = .returned (.bool (Lib.hasPrefix (bl (s.extract a s.size)) (bl x))) ∧ w' = w := by
  by_cases h : a + x.size ≤ s.size
  · have HE := hidIt (pre_ext2 s x a)
    have hz : (a : Int) + x.size ≤ s.size := by omega
    have hz1 : (a : Int) ≤ a + x.size := by omega
    have hz2 : (0 : Int) ≤ a + x.size := by omega
    have hz3 : ((a : Int) + x.size).toNat = a + x.size := by omega
    go_enter Tryd.func46, Tryd.ntmps46
    go_wp2
    go_ret
    exact ⟨ret_bool HE.out.symm, rfl⟩
  · have HE := hidIt (pre_ext_no s x a h ha)
    have d0 : decide ((a : Int) + x.size ≤ s.size) = false := by simp; omega
    go_enter Tryd.func46, Tryd.ntmps46
    go_wp2
    go_ret
    exact ⟨ret_bool (by rw [HE.out]), rfl⟩

/-! What the digits ahead say. -/
theorem run_of_zero {s : ByteArray} (h : atIs s 0 48 = true) : 1 ≤ runDg s := by
  have hl := atIs_lt h
  rcases Nat.eq_zero_or_pos (runDg s) with e | e
  · have := runDg_end s (by omega)
    rw [atIs_in hl] at h
    have h0 : s[0] = 48 := by simpa using h
    have e2 : s[runDg s]'(by omega) = 48 := by
      have : ∀ (i : Nat) (hi : i < s.size), i = 0 → s[i] = 48 := fun i hi h => by subst h; exact h0
      exact this _ _ e
    rw [e2] at this
    exact absurd this (by decide)
  · exact e
theorem len0_none {s : ByteArray} (h : runDg s = 0) : len0 s = 0 := by
  unfold len0
  split
  · rename_i hz
    have := run_of_zero hz
    omega
  · exact h
theorem tout_zero {s : ByteArray} (h : 1 < runDg s) (hz : atIs s 0 48 = true) : tout s = ⟨0, 0, 0, 1, 1⟩ := by
  have hl : len0 s = 1 := by unfold len0; rw [if_pos hz]
  have := tout_1 (s := s) (.inr (by
    rw [hl]
    obtain ⟨h1, h2⟩ := runDg_at s 1 h
    rw [atIs_in h1]
    cases hc : (s[1] == 32)
    · rfl
    · have : s[1] = 32 := by simpa using hc
      rw [this] at h2
      exact absurd h2 (by decide)))
  rw [hl] at this
  exact this
theorem len0_run {s : ByteArray} (h0 : 1 ≤ runDg s) (h : ¬ (1 < runDg s ∧ atIs s 0 48 = true)) : len0 s = runDg s := by
  unfold len0
  split
  · rename_i hz
    rcases Nat.lt_or_ge 1 (runDg s) with c | c
    · exact absurd ⟨c, hz⟩ h
    · omega
  · rfl
theorem num_rs {s : ByteArray} (h0 : 1 ≤ runDg s) (h : ¬ (1 < runDg s ∧ atIs s 0 48 = true)) : (num s ≤ 100000 ∧ rs s (runDg s) = num s) ∨ (100000 < num s ∧ 100000 < rs s (runDg s)) := by
  unfold num
  split
  · rename_i hz
    have e : runDg s = 1 := by
      rcases Nat.lt_or_ge 1 (runDg s) with c | c
      · exact absurd ⟨c, hz⟩ h
      · omega
    have hl := atIs_lt hz
    rw [atIs_in hl] at hz
    have hd := ps_zero hl (by simpa using hz)
    left
    refine ⟨by omega, ?_⟩
    rw [e]
    show (if (0 : Int) < 1099511627776 then (0 : Int) * 10 + dig s 0 else 0) = 0
    rw [if_pos (by decide), hd]
    rfl
  · exact ps_rs s _ (Nat.le_refl _)
end Go.Proofs.YtplhamloddighaaDoor

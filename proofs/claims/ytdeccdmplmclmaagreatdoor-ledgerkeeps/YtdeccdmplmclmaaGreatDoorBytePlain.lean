/-
  Bytes of a text, plain: digits, what may stand where in a day's text, the digits' worth. No program.
-/
import Derived.KernelRfl
namespace Go.Proofs.YtdeccdmplmclmaaGreatDoor

abbrev bl (s : ByteArray) : List UInt8 := s.data.toList
theorem size_bl (s : ByteArray) : (bl s).length = s.size := by simp [bl]
theorem bl_get (s : ByteArray) (k : Nat) (h : k < s.size) : (bl s)[k]? = some s[k] := by
  rw [List.getElem?_eq_getElem (by rw [size_bl]; exact h)]; rfl
def isDg (c : UInt8) : Bool := 48 ≤ c && c ≤ 57
theorem dg_raw (c : UInt8) : (decide ((48 : Int) ≤ c.toNat) && decide ((c.toNat : Int) ≤ 57)) = isDg c := by
  unfold isDg
  rw [Bool.eq_iff_iff]; simp [UInt8.le_iff_toNat_le]; omega
theorem dg_bd {c : UInt8} (h : isDg c = true) : 48 ≤ c.toNat ∧ c.toNat ≤ 57 := by
  simp only [isDg, Bool.and_eq_true, decide_eq_true_eq, UInt8.le_iff_toNat_le] at h
  exact ⟨h.1, h.2⟩
theorem byte_is (c : UInt8) (n : Nat) (hn : n < 256) : (((c.toNat : Nat) : Int) == (n : Int)) = (c == UInt8.ofNat n) := by
  rw [Bool.eq_iff_iff]
  simp only [beq_iff_eq]
  constructor
  · intro h
    have h1 : c.toNat = n := by omega
    rw [← h1]; simp
  · intro h; rw [h]; simp [Nat.mod_eq_of_lt hn]

/-- May a byte stand at a place of a day's text? -/
def fitB (j : Nat) (c : UInt8) : Bool := if j = 4 ∨ j = 7 then c == 45 else isDg c
def Fit (s : ByteArray) (i : Nat) : Prop := ∀ j, j < i → ∃ h : j < s.size, fitB j s[j] = true
theorem Fit.succ {s : ByteArray} {i : Nat} (h : Fit s i) (hi : i < s.size) (hf : fitB i s[i] = true) : Fit s (i + 1) := fun j hj => by
  rcases Nat.lt_or_ge j i with k | k
  · exact h j k
  · obtain rfl : j = i := by omega
    exact ⟨hi, hf⟩
theorem fit_or (s : ByteArray) : ∀ k, (∃ i, i < k ∧ Fit s i ∧ (i = s.size ∨ ∃ h : i < s.size, fitB i s[i] = false)) ∨ Fit s k
  | 0 => .inr (fun j hj => by omega)
  | k + 1 => by
    rcases fit_or s k with ⟨i, h1, h2⟩ | h
    · exact .inl ⟨i, by omega, h2⟩
    · by_cases hk : k < s.size
      · cases hf : fitB k s[k]
        · exact .inl ⟨k, by omega, h, .inr ⟨hk, hf⟩⟩
        · exact .inr (h.succ hk hf)
      · refine .inl ⟨k, by omega, h, .inl ?_⟩
        rcases Nat.lt_or_ge s.size k with c | c
        · obtain ⟨h', _⟩ := h s.size c; omega
        · omega
def dig (s : ByteArray) (j : Nat) : Int := if h : j < s.size then ((s[j]'h).toNat : Int) - 48 else 0
/-- What k digits from a place on are worth. -/
def dv (s : ByteArray) (a : Nat) : Nat → Int
  | 0 => 0
  | k + 1 => dv s a k * 10 + dig s (a + k)
theorem dig_at (s : ByteArray) (j : Nat) (h : j < s.size) : dig s j = (s[j].toNat : Int) - 48 := by unfold dig; rw [dif_pos h]
theorem Fit.dig {s : ByteArray} {i : Nat} (h : Fit s i) (j : Nat) (hj : j < i) (h4 : j ≠ 4) (h7 : j ≠ 7) : 0 ≤ dig s j ∧ dig s j ≤ 9 := by
  obtain ⟨hs, hf⟩ := h j hj
  rw [fitB, if_neg (by omega)] at hf
  have := dg_bd hf
  rw [dig_at s j hs]
  omega
theorem dv4 (s : ByteArray) (i : Nat) (h : Fit s i) (k : Nat) (hk : k ≤ 4) (hi : k ≤ i) : 0 ≤ dv s 0 k ∧ dv s 0 k < 10 ^ k := by
  induction k with
  | zero => simp [dv]
  | succ k ih =>
    have := ih (by omega) (by omega)
    have hd := h.dig (0 + k) (by omega) (by omega) (by omega)
    simp only [dv]
    have e : (10 : Int) ^ (k + 1) = 10 ^ k * 10 := by rw [Int.pow_succ]
    omega
theorem dv5 (s : ByteArray) (i : Nat) (h : Fit s i) (k : Nat) (hk : k ≤ 2) (hi : 5 + k ≤ i) : 0 ≤ dv s 5 k ∧ dv s 5 k < 10 ^ k := by
  induction k with
  | zero => simp [dv]
  | succ k ih =>
    have := ih (by omega) (by omega)
    have hd := h.dig (5 + k) (by omega) (by omega) (by omega)
    simp only [dv]
    have e : (10 : Int) ^ (k + 1) = 10 ^ k * 10 := by rw [Int.pow_succ]
    omega
theorem dv8 (s : ByteArray) (i : Nat) (h : Fit s i) (k : Nat) (hk : k ≤ 2) (hi : 8 + k ≤ i) : 0 ≤ dv s 8 k ∧ dv s 8 k < 10 ^ k := by
  induction k with
  | zero => simp [dv]
  | succ k ih =>
    have := ih (by omega) (by omega)
    have hd := h.dig (8 + k) (by omega) (by omega) (by omega)
    simp only [dv]
    have e : (10 : Int) ^ (k + 1) = 10 ^ k * 10 := by rw [Int.pow_succ]
    omega
end Go.Proofs.YtdeccdmplmclmaaGreatDoor

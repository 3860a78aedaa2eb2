/-
  Terms, plain: the number ahead, the unit's and the roll's word. No program.
-/
import Derived.Test.YtplhamloddighaaDoorBytePlain
import Derived.Lib.Strings
namespace Go.Proofs.YtplhamloddighaaDoor

/-- How many digits a text begins with. -/
def runDg (s : ByteArray) : Nat := ((bl s).takeWhile isDg).length
theorem runDg_le (s : ByteArray) : runDg s ≤ s.size := by
  rw [← size_bl]
  exact (List.takeWhile_sublist _).length_le
theorem tw_at (f : UInt8 → Bool) : ∀ (l : List UInt8) (i : Nat) (c : UInt8), i < (l.takeWhile f).length → l[i]? = some c → f c = true
  | [], i, c, h, _ => by simp at h
  | x :: l, i, c, h, hc => by
    by_cases hx : f x = true
    · rw [List.takeWhile_cons_of_pos hx] at h
      cases i with
      | zero => simp at hc; rw [← hc]; exact hx
      | succ i => exact tw_at f l i c (by simpa using h) (by simpa using hc)
    · rw [List.takeWhile_cons_of_neg hx] at h
      simp at h
theorem tw_end (f : UInt8 → Bool) : ∀ (l : List UInt8) (c : UInt8), l[(l.takeWhile f).length]? = some c → f c = false
  | [], c, h => by simp at h
  | x :: l, c, h => by
    by_cases hx : f x = true
    · rw [List.takeWhile_cons_of_pos hx] at h
      exact tw_end f l c (by simpa using h)
    · rw [List.takeWhile_cons_of_neg hx] at h
      simp at h
      rw [← h]; simpa using hx
theorem runDg_at (s : ByteArray) (i : Nat) (h : i < runDg s) : ∃ hs : i < s.size, isDg s[i] = true := by
  have hl := runDg_le s
  have hs : i < s.size := by omega
  exact ⟨hs, tw_at isDg (bl s) i _ h (bl_get s i hs)⟩
theorem runDg_end (s : ByteArray) (hs : runDg s < s.size) : isDg s[runDg s] = false := tw_end isDg (bl s) _ (bl_get s _ hs)
/-- What the first k digits are worth: to the program, to the reference. -/
def ps (s : ByteArray) : Nat → Int
  | 0 => 0
  | k + 1 => min (ps s k * 10 + dig s k) 100001
def rs (s : ByteArray) : Nat → Int
  | 0 => 0
  | k + 1 => if rs s k < 1099511627776 then rs s k * 10 + dig s k else rs s k
theorem dig_run {s : ByteArray} {k : Nat} (h : k < runDg s) : 0 ≤ dig s k ∧ dig s k ≤ 9 := by
  obtain ⟨hs, hd⟩ := runDg_at s k h
  have := dg_bd hd
  rw [dig_at s k hs]
  omega
theorem ps_bd (s : ByteArray) : ∀ k, k ≤ runDg s → 0 ≤ ps s k ∧ ps s k ≤ 100001
  | 0, _ => by simp [ps]
  | k + 1, h => by
    have := ps_bd s k (by omega)
    have := dig_run (s := s) (k := k) (by omega)
    simp only [ps]; omega
theorem rs_bd (s : ByteArray) : ∀ k, k ≤ runDg s → 0 ≤ rs s k ∧ rs s k ≤ 10995116277769
  | 0, _ => by simp [rs]
  | k + 1, h => by
    have := rs_bd s k (by omega)
    have := dig_run (s := s) (k := k) (by omega)
    simp only [rs]; split <;> omega
theorem ps_rs (s : ByteArray) : ∀ k, k ≤ runDg s → (ps s k ≤ 100000 ∧ rs s k = ps s k) ∨ (100000 < ps s k ∧ 100000 < rs s k)
  | 0, _ => by simp [ps, rs]
  | k + 1, h => by
    have := ps_rs s k (by omega)
    have := ps_bd s k (by omega)
    have := dig_run (s := s) (k := k) (by omega)
    simp only [ps, rs]; split <;> omega
theorem ps_zero {s : ByteArray} (h : 0 < s.size) (h0 : s[0] = 48) : dig s 0 = 0 := by rw [dig_at s 0 h, h0]; rfl

/-! Words. -/
def wdL : Nat → List UInt8
  | 0 => [100, 97, 121, 115]
  | 1 => [119, 111, 114, 107, 105, 110, 103, 32, 100, 97, 121, 115]
  | 2 => [119, 101, 101, 107, 115]
  | 3 => [109, 111, 110, 116, 104, 115]
  | _ => [121, 101, 97, 114, 115]
def rwL : Nat → List UInt8
  | 1 => [110, 101, 120, 116]
  | _ => [98, 101, 102, 111, 114, 101]
theorem pre2 {l : List UInt8} {a b : UInt8} {r : List UInt8} (h : Lib.hasPrefix l (a :: b :: r) = true) : l[0]? = some a ∧ l[1]? = some b := by
  unfold Lib.hasPrefix at h
  match l, h with
  | [], h => simp [List.isPrefixOf] at h
  | [x], h => simp [List.isPrefixOf] at h
  | x :: y :: l, h =>
    simp [List.isPrefixOf] at h
    simp [h.1, h.2.1]
/-- Which unit's word stands ahead; -1: none. -/
def IsUnit (l : List UInt8) (u : Int) : Prop := ∀ i : Nat, i < 5 → Lib.hasPrefix l (wdL i) = decide ((i : Int) = u)
theorem unit_ex (l : List UInt8) : ∃ u : Int, -1 ≤ u ∧ u ≤ 4 ∧ IsUnit l u := by
  have ne : ∀ i j : Nat, i < 5 → j < 5 → Lib.hasPrefix l (wdL i) = true → Lib.hasPrefix l (wdL j) = true → i = j := by
    intro i j hi hj h1 h2
    have e : i = 0 ∨ i = 1 ∨ i = 2 ∨ i = 3 ∨ i = 4 := by omega
    have f : j = 0 ∨ j = 1 ∨ j = 2 ∨ j = 3 ∨ j = 4 := by omega
    rcases e with rfl | rfl | rfl | rfl | rfl <;> rcases f with rfl | rfl | rfl | rfl | rfl <;> first | rfl | (
      have a := pre2 h1
      have b := pre2 h2
      have c := a.1.symm.trans b.1
      have d := a.2.symm.trans b.2
      revert c d
      decide)
  by_cases h : ∃ i : Nat, i < 5 ∧ Lib.hasPrefix l (wdL i) = true
  · obtain ⟨i, hi, h⟩ := h
    refine ⟨i, by omega, by omega, fun j hj => ?_⟩
    cases hb : Lib.hasPrefix l (wdL j)
    · symm
      simp only [decide_eq_false_iff_not]
      intro e
      obtain rfl : j = i := by omega
      rw [h] at hb; cases hb
    · obtain rfl := ne i j hi hj h hb
      simp
  · refine ⟨-1, by omega, by omega, fun j hj => ?_⟩
    have : Lib.hasPrefix l (wdL j) = false := by
      cases hb : Lib.hasPrefix l (wdL j)
      · rfl
      · exact absurd ⟨j, hj, hb⟩ h
    rw [this]
    symm
    simp only [decide_eq_false_iff_not]
    omega
def IsRoll (l : List UInt8) (r : Int) : Prop := Lib.hasPrefix l (rwL 1) = decide (r = 1) ∧ Lib.hasPrefix l (rwL 2) = decide (r = 2)
theorem roll_ex (l : List UInt8) : ∃ r : Int, (r = -1 ∨ r = 1 ∨ r = 2) ∧ IsRoll l r := by
  cases h1 : Lib.hasPrefix l (rwL 1) <;> cases h2 : Lib.hasPrefix l (rwL 2)
  · exact ⟨-1, .inl rfl, h1.trans (by decide), h2.trans (by decide)⟩
  · exact ⟨2, .inr (.inr rfl), h1.trans (by decide), h2.trans (by decide)⟩
  · exact ⟨1, .inr (.inl rfl), h1.trans (by decide), h2.trans (by decide)⟩
  · exfalso
    have a := (pre2 h1).1.symm.trans (pre2 h2).1
    revert a
    decide
end Go.Proofs.YtplhamloddighaaDoor

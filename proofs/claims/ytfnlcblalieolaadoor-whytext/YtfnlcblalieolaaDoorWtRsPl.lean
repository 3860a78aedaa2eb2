/-
  The reference's ReadSteps: plain: what a row says, the words of a step, the names' numbers.
-/
import Derived.Test.YtfnlcblalieolaaDoorWtRows
namespace Go.Proofs.YtfnlcblalieolaaDoor

/-- The k-th words. -/
def wd (k : Nat) : ByteArray := wordB (kindA k) (kindB k)
theorem pre_iff (s p : List UInt8) : Lib.hasPrefix s p = true ↔ p <+: s := by
  show p.isPrefixOf s = true ↔ _
  rw [List.isPrefixOf_iff_prefix]
/-- Of two of the words a text begins with one at most. -/
theorem wd_one {r : List UInt8} {j k : Nat} (hj : j < 4) (hk : k < 4) (h1 : Lib.hasPrefix r (bl (wd j)) = true) (h2 : Lib.hasPrefix r (bl (wd k)) = true) : j = k := by
  rw [pre_iff] at h1 h2
  obtain ⟨t1, e1⟩ := h1
  obtain ⟨t2, e2⟩ := h2
  have e : bl (wd j) ++ t1 = bl (wd k) ++ t2 := e1.trans e2.symm
  have hj4 : j = 0 ∨ j = 1 ∨ j = 2 ∨ j = 3 := by omega
  have hk4 : k = 0 ∨ k = 1 ∨ k = 2 ∨ k = 3 := by omega
  rcases hj4 with rfl | rfl | rfl | rfl <;> rcases hk4 with rfl | rfl | rfl | rfl <;> first | rfl | (exfalso; simp [wd, wordB, kindA, kindB, bl] at e)
theorem rowR_none (nm : List ByteArray) (r : List UInt8) (h : ∀ j, j < 4 → Lib.hasPrefix r (bl (wd j)) = false) : rowR nm r 4 0 = .inl 0 := by
  have h0 := h 0 (by decide)
  have h1 := h 1 (by decide)
  have h2 := h 2 (by decide)
  have h3 := h 3 (by decide)
  unfold wd at h0 h1 h2 h3
  simp only [rowR, h0, h1, h2, h3, Bool.false_eq_true, if_false]
theorem rowR_some (nm : List ByteArray) (r : List UInt8) {j : Nat} (hj : j < 4) (h : Lib.hasPrefix r (bl (wd j)) = true) : rowR nm r 4 0 = nameR nm (kindA j) (kindB j) (r.drop (wd j).size) := by
  have ho : ∀ k, k < 4 → k ≠ j → Lib.hasPrefix r (bl (wd k)) = false := fun k hk hne => by
    cases e : Lib.hasPrefix r (bl (wd k))
    · rfl
    · exact absurd (wd_one hk hj e h) hne
  have ht : Lib.trimPrefix r (bl (wd j)) = r.drop (wd j).size := by
    unfold Lib.trimPrefix
    rw [if_pos h, size_bl]
  have hj4 : j = 0 ∨ j = 1 ∨ j = 2 ∨ j = 3 := by omega
  rcases hj4 with rfl | rfl | rfl | rfl
  · rw [← ht]
    unfold wd at h ⊢
    simp only [rowR, h, if_true]
  · have h0 := ho 0 (by decide) (by decide)
    rw [← ht]
    unfold wd at h h0 ⊢
    simp only [rowR, h, h0, Bool.false_eq_true, if_false, if_true]
  · have h0 := ho 0 (by decide) (by decide)
    have h1 := ho 1 (by decide) (by decide)
    rw [← ht]
    unfold wd at h h0 h1 ⊢
    simp only [rowR, h, h0, h1, Bool.false_eq_true, if_false, if_true]
  · have h0 := ho 0 (by decide) (by decide)
    have h1 := ho 1 (by decide) (by decide)
    have h2 := ho 2 (by decide) (by decide)
    rw [← ht]
    unfold wd at h h0 h1 h2 ⊢
    simp only [rowR, h, h0, h1, h2, Bool.false_eq_true, if_false, if_true]
/-! Names, each once. -/
theorem numOf_none : ∀ (l : List ByteArray) (s : ByteArray), s ∉ l → numOf l s = 0
  | [], _, _ => rfl
  | x :: l, s, h => by
    unfold numOf
    rw [numOf_none l s (fun e => h (List.mem_cons_of_mem _ e)), if_pos rfl, if_neg (fun e => h (by rw [e]; exact List.mem_cons_self ..))]
theorem numOf_get : ∀ (l : List ByteArray) (s : ByteArray) (k : Nat), numOf l s = k + 1 → l[k]? = some s
  | [], _, _, h => by cases h
  | x :: l, s, k, h => by
    unfold numOf at h
    by_cases h0 : numOf l s = 0
    · rw [if_pos h0] at h
      by_cases hx : x = s
      · rw [if_pos hx] at h
        obtain rfl : k = 0 := by omega
        rw [hx]
        rfl
      · rw [if_neg hx] at h
        omega
    · rw [if_neg h0] at h
      obtain ⟨k', rfl⟩ : ∃ k', k = k' + 1 := ⟨k - 1, by omega⟩
      rw [List.getElem?_cons_succ]
      exact numOf_get l s k' (by omega)
theorem numOf_at : ∀ (l : List ByteArray) (s : ByteArray) (k : Nat), l.Nodup → l[k]? = some s → numOf l s = k + 1
  | x :: l, s, 0, hn, h => by
    obtain rfl : x = s := by simpa using h
    unfold numOf
    rw [numOf_none l x (List.nodup_cons.1 hn).1, if_pos rfl, if_pos rfl]
  | x :: l, s, k + 1, hn, h => by
    rw [List.getElem?_cons_succ] at h
    have := numOf_at l s k (List.nodup_cons.1 hn).2 h
    unfold numOf
    rw [this, if_neg (by omega)]
/-- The steps of rows; or which row is wrong, and how. -/
def stepsO (nm : List ByteArray) : List (List UInt8) → List Clm ⊕ (Nat × Nat)
  | [] => .inl []
  | x :: r => match rowR nm x 4 0 with
    | .inl k => .inr (0, k)
    | .inr c => match stepsO nm r with
      | .inl l => .inl (c :: l)
      | .inr q => .inr (q.1 + 1, q.2)
theorem stepsO_lines (nm : List ByteArray) : ∀ l : List ByteArray, stepsO nm (l.map lineB) = stepsR nm l
  | [] => rfl
  | x :: l => by
    rw [List.map_cons, stepsO, stepsR, stepsO_lines nm l]
    cases rowR nm (lineB x) 4 0 with
    | inl k => rfl
    | inr c => cases stepsR nm l <;> rfl
theorem stepsO_ok (nm : List ByteArray) {x : List UInt8} {c : Clm} (hx : rowR nm x 4 0 = .inr c) : ∀ (pre : List (List UInt8)) (l : List Clm), stepsO nm pre = .inl l → stepsO nm (pre ++ [x]) = .inl (l ++ [c])
  | [], l, h => by
    injection h with h
    subst h
    simp only [List.nil_append, stepsO, hx]
  | y :: pre, l, h => by
    simp only [List.cons_append, stepsO] at h ⊢
    split at h
    · cases h
    · rename_i d hd
      split at h
      · rename_i l' hl
        injection h with h
        subst h
        rw [stepsO_ok nm hx pre l' hl]
        rfl
      · cases h
theorem stepsO_bad (nm : List ByteArray) {x : List UInt8} {k : Nat} (hx : rowR nm x 4 0 = .inl k) (r : List (List UInt8)) : ∀ (pre : List (List UInt8)) (l : List Clm), stepsO nm pre = .inl l → stepsO nm (pre ++ x :: r) = .inr (pre.length, k)
  | [], l, h => by simp only [List.nil_append, stepsO, hx]; rfl
  | y :: pre, l, h => by
    simp only [List.cons_append, stepsO] at h ⊢
    split at h
    · cases h
    · rename_i d hd
      split at h
      · rename_i l' hl
        rw [stepsO_bad nm hx r pre l' hl]
        rfl
      · cases h
theorem stepsO_len (nm : List ByteArray) : ∀ (pre : List (List UInt8)) (l : List Clm), stepsO nm pre = .inl l → l.length = pre.length
  | [], l, h => by
    injection h with h
    subst h
    rfl
  | y :: pre, l, h => by
    simp only [stepsO] at h
    split at h
    · cases h
    · split at h
      · rename_i l' hl
        injection h with h
        subst h
        rw [List.length_cons, List.length_cons, stepsO_len nm pre l' hl]
      · cases h
end Go.Proofs.YtfnlcblalieolaaDoor

/-
  What strings.TrimFunc, TrimRightFunc leave, for what holds of bytes below 128 alone. No program.
-/
import Derived.Test.YtdeccdmplmclmaaGreatDoorBytePlain
import Derived.Shelf.GgClosure.StringsTrimFunc
import Derived.Laws.RangeAny
import Derived.Laws.RangeString
import Derived.Lib.TrimUEq
import Derived.Lib.TrimAscii
namespace Go.Proofs.YtdeccdmplmclmaaGreatDoor
open Go.Lib

/-- It holds of all bytes from a place on, ahead of another. -/
def AllP (p : Nat → Bool) (s : ByteArray) (a b : Nat) : Prop := ∀ (i : Nat) (h : i < s.size), a ≤ i → i < b → p s[i].toNat = true
theorem AllP.cons {p : Nat → Bool} {s : ByteArray} {a b : Nat} (h : a < s.size) (h0 : p s[a].toNat = true) (h1 : AllP p s (a + 1) b) : AllP p s a b := fun i hi ha hb => by
  rcases Nat.lt_or_ge a i with k | k
  · exact h1 i hi k hb
  · obtain rfl : i = a := by omega
    exact h0
theorem AllP.snoc {p : Nat → Bool} {s : ByteArray} {a b : Nat} (h : b < s.size) (h0 : p s[b].toNat = true) (h1 : AllP p s a b) : AllP p s a (b + 1) := fun i hi ha hb => by
  rcases Nat.lt_or_ge i b with k | k
  · exact h1 i hi ha k
  · obtain rfl : i = b := by omega
    exact h0
section
variable {p : Nat → Bool}
theorem idx_none (hp : ∀ x, 128 ≤ x → p x = false) (s : ByteArray) : ∀ (f pos : Nat), s.size - pos ≤ f → idxFuncFrom p false s f pos = -1 → AllP p s pos s.size
  | 0, pos, hf, _ => fun i hi ha hb => by omega
  | f + 1, pos, hf, h => by
    unfold idxFuncFrom at h
    by_cases hs : pos < s.size
    · rw [if_pos hs] at h
      by_cases hd : p (Utf8.decode s pos).1 = false
      · rw [if_pos hd] at h; omega
      · rw [if_neg hd] at h
        rcases Nat.lt_or_ge s[pos].toNat 128 with c | c
        · have e := decode_ascii s pos hs c
          rw [e] at h hd
          exact .cons hs (by simpa using hd) (idx_none hp s f (pos + 1) (by omega) h)
        · exact absurd (hp _ (decode_high s pos hs c).1) hd
    · exact fun i hi ha hb => by omega
theorem idx_all (hp : ∀ x, 128 ≤ x → p x = false) (s : ByteArray) : ∀ (f pos : Nat), AllP p s pos s.size → idxFuncFrom p false s f pos = -1
  | 0, pos, _ => rfl
  | f + 1, pos, h => by
    unfold idxFuncFrom
    by_cases hs : pos < s.size
    · have h0 := h pos hs (Nat.le_refl _) hs
      rcases Nat.lt_or_ge s[pos].toNat 128 with c | c
      · have e := decode_ascii s pos hs c
        rw [if_pos hs, e, if_neg (by simp [h0])]
        exact idx_all hp s f (pos + 1) (fun i hi ha hb => h i hi (by omega) hb)
      · rw [hp _ c] at h0; cases h0
    · rw [if_neg hs]
theorem idx_some (hp : ∀ x, 128 ≤ x → p x = false) (s : ByteArray) : ∀ (f pos : Nat) (k : Int), idxFuncFrom p false s f pos = k → k ≠ -1 → ∃ (j : Nat) (h : j < s.size), k = j ∧ p s[j].toNat = false
  | 0, pos, k, h, hk => by simp [idxFuncFrom] at h; omega
  | f + 1, pos, k, h, hk => by
    unfold idxFuncFrom at h
    by_cases hs : pos < s.size
    · rw [if_pos hs] at h
      by_cases hd : p (Utf8.decode s pos).1 = false
      · rw [if_pos hd] at h
        refine ⟨pos, hs, h.symm, ?_⟩
        rcases Nat.lt_or_ge s[pos].toNat 128 with c | c
        · rw [decode_ascii s pos hs c] at hd; exact hd
        · exact hp _ c
      · rw [if_neg hd] at h
        exact idx_some hp s f _ k h hk
    · rw [if_neg hs] at h; omega

theorem take_getD (s : ByteArray) (i j : Nat) (hi : i ≤ s.size) (hj : j < i) : (s.data.toList.take i).getD j 0 = s[j] := by
  have : (s.data.toList.take i)[j]? = some s[j] := by
    rw [List.getElem?_take, if_pos hj]; exact bl_get s j (by omega)
  simp [List.getD, this]
theorem take_len (s : ByteArray) (i : Nat) (hi : i ≤ s.size) : (s.data.toList.take i).length = i := by
  rw [List.length_take]; have := size_bl s; unfold bl at this; omega
theorem last_ascii (s : ByteArray) (i : Nat) (h0 : 0 < i) (hi : i ≤ s.size) (ha : s[i - 1].toNat < 128) : decodeLastL (s.data.toList.take i) = (s[i - 1].toNat, 1) := by
  have hl := take_len s i hi
  have hne : s.data.toList.take i ≠ [] := fun h => by rw [h] at hl; simp at hl; omega
  unfold decodeLastL
  rw [if_neg hne, hl, take_getD s i (i - 1) hi (by omega), if_pos ha]
theorem last_high (s : ByteArray) (i : Nat) (h0 : 0 < i) (hi : i ≤ s.size) (ha : 128 ≤ s[i - 1].toNat) :
    ∃ d : Nat × Nat, decodeLastL (s.data.toList.take i) = d ∧ 128 ≤ d.1 ∧ 1 ≤ d.2 ∧ ∃ (j : Nat) (h : j < s.size), j = i - d.2 ∧ j < i ∧ 128 ≤ s[j].toNat := by
  have hl := take_len s i hi
  have hne : s.data.toList.take i ≠ [] := fun h => by rw [h] at hl; simp at hl; omega
  have e : decodeLastL (s.data.toList.take i) = if lastStart (s.data.toList.take i) + (decodeL ((s.data.toList.take i).drop (lastStart (s.data.toList.take i)))).2 = i then decodeL ((s.data.toList.take i).drop (lastStart (s.data.toList.take i))) else (Utf8.runeError, 1) := by
    unfold decodeLastL
    rw [if_neg hne, hl, take_getD s i (i - 1) hi (by omega), if_neg (by omega)]
  by_cases hc : lastStart (s.data.toList.take i) + (decodeL ((s.data.toList.take i).drop (lastStart (s.data.toList.take i)))).2 = i
  · rw [if_pos hc] at e
    refine ⟨_, e, ?_⟩
    generalize lastStart (s.data.toList.take i) = st at *
    have hw := decodeL_width ((s.data.toList.take i).drop st)
    have hst : st < i := by omega
    have hst' : st < s.size := by omega
    obtain ⟨c, t, hct⟩ : ∃ c t, (s.data.toList.take i).drop st = c :: t := by
      cases h : (s.data.toList.take i).drop st with
      | nil => have := congrArg List.length h; rw [List.length_drop, hl] at this; simp at this; omega
      | cons c t => exact ⟨c, t, rfl⟩
    have hcs : c = s[st] := by
      have h1 : ((s.data.toList.take i).drop st)[0]? = some c := by rw [hct]; rfl
      rw [List.getElem?_drop, List.getElem?_take, if_pos (by omega)] at h1
      have h2 := bl_get s st hst'
      unfold bl at h2
      rw [Nat.add_zero, h2] at h1
      exact (Option.some.inj h1).symm
    have hc128 : 128 ≤ c.toNat := by
      rcases Nat.lt_or_ge c.toNat 128 with k | k
      · rw [hct, decodeL_ascii c t k] at hc
        have hc' : st + 1 = i := hc
        have e : ∀ (k : Nat) (hk : k < s.size), k = st → s[k] = c := fun k hk h => by subst h; exact hcs.symm
        rw [e (i - 1) (by omega) (by omega)] at ha
        omega
      · exact k
    have hh : 128 ≤ (decodeL ((s.data.toList.take i).drop st)).1 := by
      rw [hct]
      exact (decode_high ⟨(c :: t).toArray⟩ 0 (by simp [ByteArray.size]) hc128).1
    exact ⟨hh, hw, st, hst', by omega, hst, by rw [← hcs]; exact hc128⟩
  · rw [if_neg hc] at e
    exact ⟨_, e, by decide, Nat.le_refl _, i - 1, by omega, rfl, by omega, ha⟩

theorem last_none (hp : ∀ x, 128 ≤ x → p x = false) (s : ByteArray) : ∀ (f i : Nat), i ≤ f → i ≤ s.size → lastIdxFuncFrom p false s f i = -1 → AllP p s 0 i
  | 0, i, hf, _, _ => fun j hj ha hb => by omega
  | f + 1, 0, _, _, _ => fun j hj ha hb => by omega
  | f + 1, i + 1, hf, hi, h => by
    unfold lastIdxFuncFrom at h
    rw [if_pos (by omega)] at h
    have hs : i < s.size := by omega
    rcases Nat.lt_or_ge s[i].toNat 128 with c | c
    · rw [last_ascii s (i + 1) (by omega) hi c] at h
      by_cases hd : p s[i].toNat = false
      · rw [if_pos (by exact hd)] at h; omega
      · rw [if_neg (by exact hd)] at h
        exact .snoc hs (by simpa using hd) (last_none hp s f i (by omega) (by omega) h)
    · obtain ⟨d, e, h1, _⟩ := last_high s (i + 1) (by omega) hi c
      rw [e, if_pos (hp _ h1)] at h
      omega
theorem last_some (hp : ∀ x, 128 ≤ x → p x = false) (s : ByteArray) : ∀ (f i : Nat) (k : Int), i ≤ f → i ≤ s.size → lastIdxFuncFrom p false s f i = k → k ≠ -1 →
    ∃ j : Nat, k = j ∧ ∃ h : j < s.size, ((s[j].toNat < 128 ∧ p s[j].toNat = false ∧ AllP p s (j + 1) i ∧ j < i) ∨ 128 ≤ s[j].toNat)
  | 0, i, k, hf, _, h, hk => by simp [lastIdxFuncFrom] at h; omega
  | f + 1, 0, k, _, _, h, hk => by simp [lastIdxFuncFrom] at h; omega
  | f + 1, i + 1, k, hf, hi, h, hk => by
    unfold lastIdxFuncFrom at h
    rw [if_pos (by omega)] at h
    have hs : i < s.size := by omega
    rcases Nat.lt_or_ge s[i].toNat 128 with c | c
    · rw [last_ascii s (i + 1) (by omega) hi c] at h
      by_cases hd : p s[i].toNat = false
      · rw [if_pos (by exact hd)] at h
        exact ⟨i, by rw [← h]; rfl, hs, .inl ⟨c, hd, fun j hj ha hb => by omega, by omega⟩⟩
      · rw [if_neg (by exact hd)] at h
        obtain ⟨j, hj, hjs, hc⟩ := last_some hp s f i k (by omega) (by omega) h hk
        refine ⟨j, hj, hjs, ?_⟩
        rcases hc with ⟨c1, c2, c3, c4⟩ | c1
        · exact .inl ⟨c1, c2, .snoc hs (by simpa using hd) c3, by omega⟩
        · exact .inr c1
    · obtain ⟨d, e, h1, h2, j, hj, ej, _, h4⟩ := last_high s (i + 1) (by omega) hi c
      rw [e, if_pos (hp _ h1), ← ej] at h
      exact ⟨j, h.symm, hj, .inr h4⟩

/-- What is left of a text when what holds at its right is cut off. -/
theorem right_cases (hp : ∀ x, 128 ≤ x → p x = false) (s : ByteArray) :
    (AllP p s 0 s.size ∧ trimRightF p s = s.extract 0 0) ∨
    (∃ (e : Nat) (h : e < s.size), trimRightF p s = s.extract 0 (e + 1) ∧ s[e].toNat < 128 ∧ p s[e].toNat = false ∧ AllP p s (e + 1) s.size) ∨
    (∃ (j E : Nat) (h : j < s.size), trimRightF p s = s.extract 0 E ∧ j < E ∧ 128 ≤ s[j].toNat) := by
  by_cases hl : lastIdxFunc p false s = -1
  · refine .inl ⟨last_none hp s s.size s.size (Nat.le_refl _) (Nat.le_refl _) hl, ?_⟩
    unfold trimRightF rightEndF
    rw [hl, if_neg (by omega)]
  · obtain ⟨j, hj, hjs, hc⟩ := last_some hp s s.size s.size _ (Nat.le_refl _) (Nat.le_refl _) rfl hl
    have hj' : lastIdxFunc p false s = j := hj
    have hsz : (s.extract j s.size).size = s.size - j := by simp [ByteArray.size_extract]
    have hdec : decodeGoB (s.extract j s.size) = Utf8.decode (s.extract j s.size) 0 := by unfold decodeGoB; rw [if_neg (by omega)]
    have h0 : (s.extract j s.size)[0]'(by omega) = s[j] := by simp [ByteArray.getElem_extract]
    have hE : trimRightF p s = s.extract 0 (j + (decodeGoB (s.extract j s.size)).2) := by
      unfold trimRightF rightEndF
      rw [hj', if_pos (by omega)]
      rfl
    rcases hc with ⟨c1, c2, c3, _⟩ | c1
    · refine .inr (.inl ⟨j, hjs, ?_, c1, c2, c3⟩)
      rw [hE, hdec, decode_ascii _ 0 (by omega) (by rw [h0]; exact c1)]
    · refine .inr (.inr ⟨j, _, hjs, hE, ?_, c1⟩)
      have := (decode_high (s.extract j s.size) 0 (by omega) (by rw [h0]; exact c1)).2
      rw [hdec]
      omega
theorem trim_all (hp : ∀ x, 128 ≤ x → p x = false) (s : ByteArray) (h : AllP p s 0 s.size) : trimF p s = ⟨#[]⟩ := by
  unfold trimF trimLeftF idxFunc
  rw [if_pos (idx_all hp s s.size 0 h)]
  rfl
theorem trim_not (hp : ∀ x, 128 ≤ x → p x = false) (s : ByteArray) (h : ¬ AllP p s 0 s.size) : (trimF p s).size ≠ 0 := by
  have hi : idxFunc p false s ≠ -1 := fun e => h (idx_none hp s s.size 0 (by omega) e)
  obtain ⟨j, hjs, hj, hpj⟩ := idx_some hp s s.size 0 _ rfl hi
  have ht : trimLeftF p s = s.extract j s.size := by
    unfold trimLeftF
    have hj' : idxFunc p false s = j := hj
    rw [if_neg hi, hj']
    rfl
  have hsz : (s.extract j s.size).size = s.size - j := by simp [ByteArray.size_extract]
  have h0 : (s.extract j s.size)[0]'(by omega) = s[j] := by simp [ByteArray.getElem_extract]
  unfold trimF
  rw [ht]
  rcases right_cases hp (s.extract j s.size) with ⟨ha, _⟩ | ⟨e, he, hr, _⟩ | ⟨k, E, hk, hr, hkE, _⟩
  · have := ha 0 (by omega) (Nat.le_refl _) (by omega)
    rw [h0, hpj] at this
    cases this
  · rw [hr]; simp only [ByteArray.size_extract]; omega
  · rw [hr]; simp only [ByteArray.size_extract]; omega
end
end Go.Proofs.YtdeccdmplmclmaaGreatDoor

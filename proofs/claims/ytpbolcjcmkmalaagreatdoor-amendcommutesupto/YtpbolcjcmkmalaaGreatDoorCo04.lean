/-
  Bytes of a text, plain: digits, what may stand where in a day's text, the digits' worth. No program.
-/
import Derived.KernelRfl
import Derived.Shelf.GgClosure.StringsTrimFunc
import Derived.Laws.RangeAny
import Derived.Laws.RangeString
import Derived.Lib.TrimUEq
import Derived.Lib.TrimAscii
import Derived.Lib.Bytealg
import Derived.Lib.Small
import Derived.Test.YtpbolcjcmkmalaaGreatDoorShelfL
import Derived.OwnWalk
import Derived.Below
import Derived.Deep.QuietTactic
import Derived.BigQuiet
import Derived.BigRegion
import Derived.Deep.RegionWith
namespace Go.Proofs.YtpbolcjcmkmalaaGreatDoor

abbrev bl (s : ByteArray) : List UInt8 := s.data.toList
theorem size_bl (s : ByteArray) : (bl s).length = s.size := by simp [bl]
theorem bl_get (s : ByteArray) (k : Nat) (h : k < s.size) : (bl s)[k]? = some s[k] := by
  rw [List.getElem?_eq_getElem (by rw [size_bl]; exact h)]; rfl
def isDg (c : UInt8) : Bool := 48 ≤ c && c ≤ 57
theorem dg_raw (c : UInt8) : (decide ((48 : Int) ≤ c.toNat) && decide ((c.toNat : Int) ≤ 57)) = isDg c := by
  unfold isDg
  rw [Bool.eq_iff_iff]; simp [UInt8.le_iff_toNat_le]; omega
theorem dg_bd {c : UInt8} (h : isDg c = true) : 48 ≤ c.toNat ∧ c.toNat ≤ 57 := by
  simp only [isDg, Bool.and_eq_true, decide_eq_true_eq, UInt8.le_iff_toNat_le] at h
  exact ⟨h.1, h.2⟩
theorem byte_is (c : UInt8) (n : Nat) (hn : n < 256) : (((c.toNat : Nat) : Int) == (n : Int)) = (c == UInt8.ofNat n) := by
  rw [Bool.eq_iff_iff]
  simp only [beq_iff_eq]
  constructor
  · intro h
    have h1 : c.toNat = n := by omega
    rw [← h1]; simp
  · intro h; rw [h]; simp [Nat.mod_eq_of_lt hn]

/-- May a byte stand at a place of a day's text? -/
def fitB (j : Nat) (c : UInt8) : Bool := if j = 4 ∨ j = 7 then c == 45 else isDg c
def Fit (s : ByteArray) (i : Nat) : Prop := ∀ j, j < i → ∃ h : j < s.size, fitB j s[j] = true
theorem Fit.succ {s : ByteArray} {i : Nat} (h : Fit s i) (hi : i < s.size) (hf : fitB i s[i] = true) : Fit s (i + 1) := fun j hj => by
  rcases Nat.lt_or_ge j i with k | k
  · exact h j k
  · obtain rfl : j = i := by omega
    exact ⟨hi, hf⟩
theorem fit_or (s : ByteArray) : ∀ k, (∃ i, i < k ∧ Fit s i ∧ (i = s.size ∨ ∃ h : i < s.size, fitB i s[i] = false)) ∨ Fit s k
  | 0 => .inr (fun j hj => by omega)
  | k + 1 => by
    rcases fit_or s k with ⟨i, h1, h2⟩ | h
    · exact .inl ⟨i, by omega, h2⟩
    · by_cases hk : k < s.size
      · cases hf : fitB k s[k]
        · exact .inl ⟨k, by omega, h, .inr ⟨hk, hf⟩⟩
        · exact .inr (h.succ hk hf)
      · refine .inl ⟨k, by omega, h, .inl ?_⟩
        rcases Nat.lt_or_ge s.size k with c | c
        · obtain ⟨h', _⟩ := h s.size c; omega
        · omega
def dig (s : ByteArray) (j : Nat) : Int := if h : j < s.size then ((s[j]'h).toNat : Int) - 48 else 0
/-- What k digits from a place on are worth. -/
def dv (s : ByteArray) (a : Nat) : Nat → Int
  | 0 => 0
  | k + 1 => dv s a k * 10 + dig s (a + k)
theorem dig_at (s : ByteArray) (j : Nat) (h : j < s.size) : dig s j = (s[j].toNat : Int) - 48 := by unfold dig; rw [dif_pos h]
theorem Fit.dig {s : ByteArray} {i : Nat} (h : Fit s i) (j : Nat) (hj : j < i) (h4 : j ≠ 4) (h7 : j ≠ 7) : 0 ≤ dig s j ∧ dig s j ≤ 9 := by
  obtain ⟨hs, hf⟩ := h j hj
  rw [fitB, if_neg (by omega)] at hf
  have := dg_bd hf
  rw [dig_at s j hs]
  omega
theorem dv4 (s : ByteArray) (i : Nat) (h : Fit s i) (k : Nat) (hk : k ≤ 4) (hi : k ≤ i) : 0 ≤ dv s 0 k ∧ dv s 0 k < 10 ^ k := by
  induction k with
  | zero => simp [dv]
  | succ k ih =>
    have := ih (by omega) (by omega)
    have hd := h.dig (0 + k) (by omega) (by omega) (by omega)
    simp only [dv]
    have e : (10 : Int) ^ (k + 1) = 10 ^ k * 10 := by rw [Int.pow_succ]
    omega
theorem dv5 (s : ByteArray) (i : Nat) (h : Fit s i) (k : Nat) (hk : k ≤ 2) (hi : 5 + k ≤ i) : 0 ≤ dv s 5 k ∧ dv s 5 k < 10 ^ k := by
  induction k with
  | zero => simp [dv]
  | succ k ih =>
    have := ih (by omega) (by omega)
    have hd := h.dig (5 + k) (by omega) (by omega) (by omega)
    simp only [dv]
    have e : (10 : Int) ^ (k + 1) = 10 ^ k * 10 := by rw [Int.pow_succ]
    omega
theorem dv8 (s : ByteArray) (i : Nat) (h : Fit s i) (k : Nat) (hk : k ≤ 2) (hi : 8 + k ≤ i) : 0 ≤ dv s 8 k ∧ dv s 8 k < 10 ^ k := by
  induction k with
  | zero => simp [dv]
  | succ k ih =>
    have := ih (by omega) (by omega)
    have hd := h.dig (8 + k) (by omega) (by omega) (by omega)
    simp only [dv]
    have e : (10 : Int) ^ (k + 1) = 10 ^ k * 10 := by rw [Int.pow_succ]
    omega
end Go.Proofs.YtpbolcjcmkmalaaGreatDoor
namespace Go.Proofs.YtpbolcjcmkmalaaGreatDoor
open Go.Lib

/-- It holds of all bytes from a place on, ahead of another. -/
def AllP (p : Nat → Bool) (s : ByteArray) (a b : Nat) : Prop := ∀ (i : Nat) (h : i < s.size), a ≤ i → i < b → p s[i].toNat = true
theorem AllP.cons {p : Nat → Bool} {s : ByteArray} {a b : Nat} (h : a < s.size) (h0 : p s[a].toNat = true) (h1 : AllP p s (a + 1) b) : AllP p s a b := fun i hi ha hb => by
  rcases Nat.lt_or_ge a i with k | k
  · exact h1 i hi k hb
  · obtain rfl : i = a := by omega
    exact h0
theorem AllP.snoc {p : Nat → Bool} {s : ByteArray} {a b : Nat} (h : b < s.size) (h0 : p s[b].toNat = true) (h1 : AllP p s a b) : AllP p s a (b + 1) := fun i hi ha hb => by
  rcases Nat.lt_or_ge i b with k | k
  · exact h1 i hi ha k
  · obtain rfl : i = b := by omega
    exact h0
section
variable {p : Nat → Bool}
theorem idx_none (hp : ∀ x, 128 ≤ x → p x = false) (s : ByteArray) : ∀ (f pos : Nat), s.size - pos ≤ f → idxFuncFrom p false s f pos = -1 → AllP p s pos s.size
  | 0, pos, hf, _ => fun i hi ha hb => by omega
  | f + 1, pos, hf, h => by
    unfold idxFuncFrom at h
    by_cases hs : pos < s.size
    · rw [if_pos hs] at h
      by_cases hd : p (Utf8.decode s pos).1 = false
      · rw [if_pos hd] at h; omega
      · rw [if_neg hd] at h
        rcases Nat.lt_or_ge s[pos].toNat 128 with c | c
        · have e := decode_ascii s pos hs c
          rw [e] at h hd
          exact .cons hs (by simpa using hd) (idx_none hp s f (pos + 1) (by omega) h)
        · exact absurd (hp _ (decode_high s pos hs c).1) hd
    · exact fun i hi ha hb => by omega
theorem idx_all (hp : ∀ x, 128 ≤ x → p x = false) (s : ByteArray) : ∀ (f pos : Nat), AllP p s pos s.size → idxFuncFrom p false s f pos = -1
  | 0, pos, _ => rfl
  | f + 1, pos, h => by
    unfold idxFuncFrom
    by_cases hs : pos < s.size
    · have h0 := h pos hs (Nat.le_refl _) hs
      rcases Nat.lt_or_ge s[pos].toNat 128 with c | c
      · have e := decode_ascii s pos hs c
        rw [if_pos hs, e, if_neg (by simp [h0])]
        exact idx_all hp s f (pos + 1) (fun i hi ha hb => h i hi (by omega) hb)
      · rw [hp _ c] at h0; cases h0
    · rw [if_neg hs]
theorem idx_some (hp : ∀ x, 128 ≤ x → p x = false) (s : ByteArray) : ∀ (f pos : Nat) (k : Int), idxFuncFrom p false s f pos = k → k ≠ -1 → ∃ (j : Nat) (h : j < s.size), k = j ∧ p s[j].toNat = false
  | 0, pos, k, h, hk => by simp [idxFuncFrom] at h; omega
  | f + 1, pos, k, h, hk => by
    unfold idxFuncFrom at h
    by_cases hs : pos < s.size
    · rw [if_pos hs] at h
      by_cases hd : p (Utf8.decode s pos).1 = false
      · rw [if_pos hd] at h
        refine ⟨pos, hs, h.symm, ?_⟩
        rcases Nat.lt_or_ge s[pos].toNat 128 with c | c
        · rw [decode_ascii s pos hs c] at hd; exact hd
        · exact hp _ c
      · rw [if_neg hd] at h
        exact idx_some hp s f _ k h hk
    · rw [if_neg hs] at h; omega

theorem take_getD (s : ByteArray) (i j : Nat) (hi : i ≤ s.size) (hj : j < i) : (s.data.toList.take i).getD j 0 = s[j] := by
  have : (s.data.toList.take i)[j]? = some s[j] := by
    rw [List.getElem?_take, if_pos hj]; exact bl_get s j (by omega)
  simp [List.getD, this]
theorem take_len (s : ByteArray) (i : Nat) (hi : i ≤ s.size) : (s.data.toList.take i).length = i := by
  rw [List.length_take]; have := size_bl s; unfold bl at this; omega
theorem last_ascii (s : ByteArray) (i : Nat) (h0 : 0 < i) (hi : i ≤ s.size) (ha : s[i - 1].toNat < 128) : decodeLastL (s.data.toList.take i) = (s[i - 1].toNat, 1) := by
  have hl := take_len s i hi
  have hne : s.data.toList.take i ≠ [] := fun h => by rw [h] at hl; simp at hl; omega
  unfold decodeLastL
  rw [if_neg hne, hl, take_getD s i (i - 1) hi (by omega), if_pos ha]
theorem last_high (s : ByteArray) (i : Nat) (h0 : 0 < i) (hi : i ≤ s.size) (ha : 128 ≤ s[i - 1].toNat) :
    ∃ d : Nat × Nat, decodeLastL (s.data.toList.take i) = d ∧ 128 ≤ d.1 ∧ 1 ≤ d.2 ∧ ∃ (j : Nat) (h : j < s.size), j = i - d.2 ∧ j < i ∧ 128 ≤ s[j].toNat := by
  have hl := take_len s i hi
  have hne : s.data.toList.take i ≠ [] := fun h => by rw [h] at hl; simp at hl; omega
  have e : decodeLastL (s.data.toList.take i) = if lastStart (s.data.toList.take i) + (decodeL ((s.data.toList.take i).drop (lastStart (s.data.toList.take i)))).2 = i then decodeL ((s.data.toList.take i).drop (lastStart (s.data.toList.take i))) else (Utf8.runeError, 1) := by
    unfold decodeLastL
    rw [if_neg hne, hl, take_getD s i (i - 1) hi (by omega), if_neg (by omega)]
  by_cases hc : lastStart (s.data.toList.take i) + (decodeL ((s.data.toList.take i).drop (lastStart (s.data.toList.take i)))).2 = i
  · rw [if_pos hc] at e
    refine ⟨_, e, ?_⟩
    generalize lastStart (s.data.toList.take i) = st at *
    have hw := decodeL_width ((s.data.toList.take i).drop st)
    have hst : st < i := by omega
    have hst' : st < s.size := by omega
    obtain ⟨c, t, hct⟩ : ∃ c t, (s.data.toList.take i).drop st = c :: t := by
      cases h : (s.data.toList.take i).drop st with
      | nil => have := congrArg List.length h; rw [List.length_drop, hl] at this; simp at this; omega
      | cons c t => exact ⟨c, t, rfl⟩
    have hcs : c = s[st] := by
      have h1 : ((s.data.toList.take i).drop st)[0]? = some c := by rw [hct]; rfl
      rw [List.getElem?_drop, List.getElem?_take, if_pos (by omega)] at h1
      have h2 := bl_get s st hst'
      unfold bl at h2
      rw [Nat.add_zero, h2] at h1
      exact (Option.some.inj h1).symm
    have hc128 : 128 ≤ c.toNat := by
      rcases Nat.lt_or_ge c.toNat 128 with k | k
      · rw [hct, decodeL_ascii c t k] at hc
        have hc' : st + 1 = i := hc
        have e : ∀ (k : Nat) (hk : k < s.size), k = st → s[k] = c := fun k hk h => by subst h; exact hcs.symm
        rw [e (i - 1) (by omega) (by omega)] at ha
        omega
      · exact k
    have hh : 128 ≤ (decodeL ((s.data.toList.take i).drop st)).1 := by
      rw [hct]
      exact (decode_high ⟨(c :: t).toArray⟩ 0 (by simp [ByteArray.size]) hc128).1
    exact ⟨hh, hw, st, hst', by omega, hst, by rw [← hcs]; exact hc128⟩
  · rw [if_neg hc] at e
    exact ⟨_, e, by decide, Nat.le_refl _, i - 1, by omega, rfl, by omega, ha⟩

theorem last_none (hp : ∀ x, 128 ≤ x → p x = false) (s : ByteArray) : ∀ (f i : Nat), i ≤ f → i ≤ s.size → lastIdxFuncFrom p false s f i = -1 → AllP p s 0 i
  | 0, i, hf, _, _ => fun j hj ha hb => by omega
  | f + 1, 0, _, _, _ => fun j hj ha hb => by omega
  | f + 1, i + 1, hf, hi, h => by
    unfold lastIdxFuncFrom at h
    rw [if_pos (by omega)] at h
    have hs : i < s.size := by omega
    rcases Nat.lt_or_ge s[i].toNat 128 with c | c
    · rw [last_ascii s (i + 1) (by omega) hi c] at h
      by_cases hd : p s[i].toNat = false
      · rw [if_pos (by exact hd)] at h; omega
      · rw [if_neg (by exact hd)] at h
        exact .snoc hs (by simpa using hd) (last_none hp s f i (by omega) (by omega) h)
    · obtain ⟨d, e, h1, _⟩ := last_high s (i + 1) (by omega) hi c
      rw [e, if_pos (hp _ h1)] at h
      omega
theorem last_some (hp : ∀ x, 128 ≤ x → p x = false) (s : ByteArray) : ∀ (f i : Nat) (k : Int), i ≤ f → i ≤ s.size → lastIdxFuncFrom p false s f i = k → k ≠ -1 →
    ∃ j : Nat, k = j ∧ ∃ h : j < s.size, ((s[j].toNat < 128 ∧ p s[j].toNat = false ∧ AllP p s (j + 1) i ∧ j < i) ∨ 128 ≤ s[j].toNat)
  | 0, i, k, hf, _, h, hk => by simp [lastIdxFuncFrom] at h; omega
  | f + 1, 0, k, _, _, h, hk => by simp [lastIdxFuncFrom] at h; omega
  | f + 1, i + 1, k, hf, hi, h, hk => by
    unfold lastIdxFuncFrom at h
    rw [if_pos (by omega)] at h
    have hs : i < s.size := by omega
    rcases Nat.lt_or_ge s[i].toNat 128 with c | c
    · rw [last_ascii s (i + 1) (by omega) hi c] at h
      by_cases hd : p s[i].toNat = false
      · rw [if_pos (by exact hd)] at h
        exact ⟨i, by rw [← h]; rfl, hs, .inl ⟨c, hd, fun j hj ha hb => by omega, by omega⟩⟩
      · rw [if_neg (by exact hd)] at h
        obtain ⟨j, hj, hjs, hc⟩ := last_some hp s f i k (by omega) (by omega) h hk
        refine ⟨j, hj, hjs, ?_⟩
        rcases hc with ⟨c1, c2, c3, c4⟩ | c1
        · exact .inl ⟨c1, c2, .snoc hs (by simpa using hd) c3, by omega⟩
        · exact .inr c1
    · obtain ⟨d, e, h1, h2, j, hj, ej, _, h4⟩ := last_high s (i + 1) (by omega) hi c
      rw [e, if_pos (hp _ h1), ← ej] at h
      exact ⟨j, h.symm, hj, .inr h4⟩

/-- What is left of a text when what holds at its right is cut off. -/
theorem right_cases (hp : ∀ x, 128 ≤ x → p x = false) (s : ByteArray) :
    (AllP p s 0 s.size ∧ trimRightF p s = s.extract 0 0) ∨
    (∃ (e : Nat) (h : e < s.size), trimRightF p s = s.extract 0 (e + 1) ∧ s[e].toNat < 128 ∧ p s[e].toNat = false ∧ AllP p s (e + 1) s.size) ∨
    (∃ (j E : Nat) (h : j < s.size), trimRightF p s = s.extract 0 E ∧ j < E ∧ 128 ≤ s[j].toNat) := by
  by_cases hl : lastIdxFunc p false s = -1
  · refine .inl ⟨last_none hp s s.size s.size (Nat.le_refl _) (Nat.le_refl _) hl, ?_⟩
    unfold trimRightF rightEndF
    rw [hl, if_neg (by omega)]
  · obtain ⟨j, hj, hjs, hc⟩ := last_some hp s s.size s.size _ (Nat.le_refl _) (Nat.le_refl _) rfl hl
    have hj' : lastIdxFunc p false s = j := hj
    have hsz : (s.extract j s.size).size = s.size - j := by simp [ByteArray.size_extract]
    have hdec : decodeGoB (s.extract j s.size) = Utf8.decode (s.extract j s.size) 0 := by unfold decodeGoB; rw [if_neg (by omega)]
    have h0 : (s.extract j s.size)[0]'(by omega) = s[j] := by simp [ByteArray.getElem_extract]
    have hE : trimRightF p s = s.extract 0 (j + (decodeGoB (s.extract j s.size)).2) := by
      unfold trimRightF rightEndF
      rw [hj', if_pos (by omega)]
      rfl
    rcases hc with ⟨c1, c2, c3, _⟩ | c1
    · refine .inr (.inl ⟨j, hjs, ?_, c1, c2, c3⟩)
      rw [hE, hdec, decode_ascii _ 0 (by omega) (by rw [h0]; exact c1)]
    · refine .inr (.inr ⟨j, _, hjs, hE, ?_, c1⟩)
      have := (decode_high (s.extract j s.size) 0 (by omega) (by rw [h0]; exact c1)).2
      rw [hdec]
      omega
theorem trim_all (hp : ∀ x, 128 ≤ x → p x = false) (s : ByteArray) (h : AllP p s 0 s.size) : trimF p s = ⟨#[]⟩ := by
  unfold trimF trimLeftF idxFunc
  rw [if_pos (idx_all hp s s.size 0 h)]
  rfl
theorem trim_not (hp : ∀ x, 128 ≤ x → p x = false) (s : ByteArray) (h : ¬ AllP p s 0 s.size) : (trimF p s).size ≠ 0 := by
  have hi : idxFunc p false s ≠ -1 := fun e => h (idx_none hp s s.size 0 (by omega) e)
  obtain ⟨j, hjs, hj, hpj⟩ := idx_some hp s s.size 0 _ rfl hi
  have ht : trimLeftF p s = s.extract j s.size := by
    unfold trimLeftF
    have hj' : idxFunc p false s = j := hj
    rw [if_neg hi, hj']
    rfl
  have hsz : (s.extract j s.size).size = s.size - j := by simp [ByteArray.size_extract]
  have h0 : (s.extract j s.size)[0]'(by omega) = s[j] := by simp [ByteArray.getElem_extract]
  unfold trimF
  rw [ht]
  rcases right_cases hp (s.extract j s.size) with ⟨ha, _⟩ | ⟨e, he, hr, _⟩ | ⟨k, E, hk, hr, hkE, _⟩
  · have := ha 0 (by omega) (Nat.le_refl _) (by omega)
    rw [h0, hpj] at this
    cases this
  · rw [hr]; simp only [ByteArray.size_extract]; omega
  · rw [hr]; simp only [ByteArray.size_extract]; omega
end
end Go.Proofs.YtpbolcjcmkmalaaGreatDoor
namespace Go.Proofs.YtpbolcjcmkmalaaGreatDoor
open Go.Lib

def dgN (x : Nat) : Bool := decide (48 ≤ x) && decide (x ≤ 57)
def smN (x : Nat) : Bool := decide (97 ≤ x) && decide (x ≤ 122)
def cpN (x : Nat) : Bool := decide (65 ≤ x) && decide (x ≤ 90)
theorem dgN_iff {x : Nat} : dgN x = true ↔ 48 ≤ x ∧ x ≤ 57 := by unfold dgN; simp
theorem smN_iff {x : Nat} : smN x = true ↔ 97 ≤ x ∧ x ≤ 122 := by unfold smN; simp
theorem cpN_iff {x : Nat} : cpN x = true ↔ 65 ≤ x ∧ x ≤ 90 := by unfold cpN; simp
theorem dgN_hi : ∀ x, 128 ≤ x → dgN x = false := fun x h => by
  cases e : dgN x
  · rfl
  · have := dgN_iff.1 e
    omega
theorem smN_hi : ∀ x, 128 ≤ x → smN x = false := fun x h => by
  cases e : smN x
  · rfl
  · have := smN_iff.1 e
    omega
theorem cpN_hi : ∀ x, 128 ≤ x → cpN x = false := fun x h => by
  cases e : cpN x
  · rfl
  · have := cpN_iff.1 e
    omega

/-- A label: its stem has k bytes, of letters or not. -/
structure Lab (s : ByteArray) (k : Nat) (l : Bool) : Prop where
  k1 : 1 ≤ k
  k4 : k ≤ 4
  ks : k ≤ s.size
  kc : s.size ≤ k + 2
  cap : AllP cpN s k s.size
  stem : (l = false ∧ AllP dgN s 0 k ∧ ∀ h : 0 < s.size, s[0].toNat ≠ 48) ∨ (l = true ∧ AllP smN s 0 k)
theorem Lab.byte {s : ByteArray} {k : Nat} {l : Bool} (h : Lab s k l) (i : Nat) (hi : i < s.size) : (i < k ∧ l = false ∧ 48 ≤ s[i].toNat ∧ s[i].toNat ≤ 57) ∨ (i < k ∧ l = true ∧ 97 ≤ s[i].toNat ∧ s[i].toNat ≤ 122) ∨ (k ≤ i ∧ 65 ≤ s[i].toNat ∧ s[i].toNat ≤ 90) := by
  rcases Nat.lt_or_ge i k with c | c
  · rcases h.stem with ⟨e, a, _⟩ | ⟨e, a⟩
    · exact .inl ⟨c, e, dgN_iff.1 (a i hi (Nat.zero_le _) c)⟩
    · exact .inr (.inl ⟨c, e, smN_iff.1 (a i hi (Nat.zero_le _) c)⟩)
  · exact .inr (.inr ⟨c, cpN_iff.1 (h.cap i hi c hi)⟩)
theorem Lab.uniq {s : ByteArray} {k k' : Nat} {l l' : Bool} (h : Lab s k l) (h' : Lab s k' l') : k = k' ∧ l = l' := by
  have h1 := h.k1
  have h2 := h.ks
  have h3 := h'.k1
  have h4 := h'.ks
  have hl : l = l' := by
    have a := h.byte 0 (by omega)
    have b := h'.byte 0 (by omega)
    rcases a with ⟨_, e, _⟩ | ⟨_, e, _⟩ | ⟨c, _⟩
    · rcases b with ⟨_, e', _⟩ | ⟨_, e', _⟩ | ⟨c, _⟩
      · rw [e, e']
      · omega
      · omega
    · rcases b with ⟨_, e', _⟩ | ⟨_, e', _⟩ | ⟨c, _⟩
      · omega
      · rw [e, e']
      · omega
    · omega
  refine ⟨?_, hl⟩
  rcases Nat.lt_trichotomy k k' with c | c | c
  · have a := h.byte k (by omega)
    have b := h'.byte k (by omega)
    omega
  · exact c
  · have a := h.byte k' (by omega)
    have b := h'.byte k' (by omega)
    omega

/-! What bytes are worth. -/
def vb : List UInt8 → Nat
  | [] => 0
  | c :: t => c.toNat * 256 ^ t.length + vb t
def vd : List UInt8 → Nat
  | [] => 0
  | c :: t => (c.toNat - 48) * 10 ^ t.length + vd t
theorem vb_lt : ∀ l, vb l < 256 ^ l.length
  | [] => by simp [vb]
  | c :: t => by
    have h := vb_lt t
    have hc : c.toNat < 256 := c.toNat_lt
    have e : 256 ^ (c :: t).length = 256 * 256 ^ t.length := by rw [List.length_cons, Nat.pow_succ, Nat.mul_comm]
    rw [e]
    show c.toNat * 256 ^ t.length + vb t < _
    have := Nat.mul_le_mul_right (256 ^ t.length) (show c.toNat ≤ 255 by omega)
    omega
theorem vd_lt : ∀ l : List UInt8, (∀ c ∈ l, dgN c.toNat = true) → vd l < 10 ^ l.length
  | [], _ => by simp [vd]
  | c :: t, hd => by
    have h := vd_lt t (fun x hx => hd x (List.mem_cons_of_mem _ hx))
    have hc := dgN_iff.1 (hd c (List.mem_cons_self ..))
    have e : 10 ^ (c :: t).length = 10 * 10 ^ t.length := by rw [List.length_cons, Nat.pow_succ, Nat.mul_comm]
    rw [e]
    show (c.toNat - 48) * 10 ^ t.length + vd t < _
    have := Nat.mul_le_mul_right (10 ^ t.length) (show c.toNat - 48 ≤ 9 by omega)
    omega
theorem vb_len {a b : List UInt8} (h : a.length < b.length) (h0 : ∀ c t, b = c :: t → c.toNat ≠ 0) : vb a < vb b := by
  match b, h with
  | c :: t, h =>
    have h1 := vb_lt a
    have h2 : 256 ^ a.length ≤ 256 ^ t.length := Nat.pow_le_pow_right (by decide) (by simp at h; omega)
    have h3 := Nat.mul_le_mul_right (256 ^ t.length) (show 1 ≤ c.toNat from Nat.pos_of_ne_zero (h0 c t rfl))
    show vb a < c.toNat * 256 ^ t.length + vb t
    omega
theorem vd_len {a b : List UInt8} (h : a.length < b.length) (ha : ∀ c ∈ a, dgN c.toNat = true) (h0 : ∀ c t, b = c :: t → 49 ≤ c.toNat) : vd a < vd b := by
  match b, h with
  | c :: t, h =>
    have h1 := vd_lt a ha
    have h2 : 10 ^ a.length ≤ 10 ^ t.length := Nat.pow_le_pow_right (by decide) (by simp at h; omega)
    have h3 := Nat.mul_le_mul_right (10 ^ t.length) (show 1 ≤ c.toNat - 48 by have := h0 c t rfl; omega)
    show vd a < (c.toNat - 48) * 10 ^ t.length + vd t
    omega
theorem mul_lt_of {m n P x y : Nat} (h : m < n) (hx : x < P) : m * P + x < n * P + y := by
  have := Nat.mul_le_mul_right P (show m + 1 ≤ n by omega)
  rw [Nat.succ_mul] at this
  omega
/-- Equal lengths: the comparison of texts is that of what they are worth. -/
theorem cmp_same : ∀ a b : List UInt8, a.length = b.length → (compareBytes a b < 0 ↔ vb a < vb b) ∧ (compareBytes a b = 0 ↔ vb a = vb b) ∧ (vb a = vb b → a = b)
  | [], [], _ => by simp [compareBytes, vb]
  | [], _ :: _, h => by simp at h
  | _ :: _, [], h => by simp at h
  | a :: xs, b :: ys, h => by
    have hl : xs.length = ys.length := by simpa using h
    have e1 : vb (a :: xs) = a.toNat * 256 ^ ys.length + vb xs := by show _ * 256 ^ xs.length + _ = _; rw [hl]
    have e2 : vb (b :: ys) = b.toNat * 256 ^ ys.length + vb ys := rfl
    have l1 := vb_lt xs
    have l2 := vb_lt ys
    rw [hl] at l1
    unfold compareBytes
    by_cases h1 : a < b
    · have := mul_lt_of (UInt8.lt_iff_toNat_lt.1 h1) l1 (y := vb ys)
      rw [if_pos h1, e1, e2]
      refine ⟨by omega, by omega, fun h => by omega⟩
    · rw [if_neg h1]
      by_cases h2 : b < a
      · have := mul_lt_of (UInt8.lt_iff_toNat_lt.1 h2) l2 (y := vb xs)
        rw [if_pos h2, e1, e2]
        refine ⟨by omega, by omega, fun h => by omega⟩
      · rw [if_neg h2]
        have hab : a = b := UInt8.toNat_inj.1 (by have := mt UInt8.lt_iff_toNat_lt.2 h1; have := mt UInt8.lt_iff_toNat_lt.2 h2; omega)
        obtain ⟨i1, i2, i3⟩ := cmp_same xs ys hl
        rw [e1, e2, hab]
        refine ⟨by rw [i1]; omega, by rw [i2]; omega, fun h => by rw [i3 (by omega)]⟩
/-- Equal lengths of digits: the same order. -/
theorem dec_same : ∀ a b : List UInt8, a.length = b.length → (∀ c ∈ a, dgN c.toNat = true) → (∀ c ∈ b, dgN c.toNat = true) → (vd a < vd b ↔ vb a < vb b) ∧ (vd a = vd b ↔ vb a = vb b)
  | [], [], _, _, _ => by simp [vb, vd]
  | [], _ :: _, h, _, _ => by simp at h
  | _ :: _, [], h, _, _ => by simp at h
  | a :: xs, b :: ys, h, ha, hb => by
    have hl : xs.length = ys.length := by simpa using h
    have e1 : vb (a :: xs) = a.toNat * 256 ^ ys.length + vb xs := by show _ * 256 ^ xs.length + _ = _; rw [hl]
    have e2 : vb (b :: ys) = b.toNat * 256 ^ ys.length + vb ys := rfl
    have e3 : vd (a :: xs) = (a.toNat - 48) * 10 ^ ys.length + vd xs := by show _ * 10 ^ xs.length + _ = _; rw [hl]
    have e4 : vd (b :: ys) = (b.toNat - 48) * 10 ^ ys.length + vd ys := rfl
    have l1 := vb_lt xs
    have l2 := vb_lt ys
    have l3 := vd_lt xs (fun x hx => ha x (List.mem_cons_of_mem _ hx))
    have l4 := vd_lt ys (fun x hx => hb x (List.mem_cons_of_mem _ hx))
    rw [hl] at l1 l3
    have da := dgN_iff.1 (ha a (List.mem_cons_self ..))
    have db := dgN_iff.1 (hb b (List.mem_cons_self ..))
    rw [e1, e2, e3, e4]
    rcases Nat.lt_trichotomy a.toNat b.toNat with c | c | c
    · have := mul_lt_of c l1 (y := vb ys)
      have := mul_lt_of (show a.toNat - 48 < b.toNat - 48 by omega) l3 (y := vd ys)
      exact ⟨by omega, by omega⟩
    · obtain ⟨i1, i2⟩ := dec_same xs ys hl (fun x hx => ha x (List.mem_cons_of_mem _ hx)) (fun x hx => hb x (List.mem_cons_of_mem _ hx))
      rw [c]
      exact ⟨by omega, by omega⟩
    · have := mul_lt_of c l2 (y := vb xs)
      have := mul_lt_of (show b.toNat - 48 < a.toNat - 48 by omega) l4 (y := vd xs)
      exact ⟨by omega, by omega⟩
/-- A number tells how two texts stand. -/
def IsCmp (c : Int) (a b : List UInt8) : Prop := (c < 0 ↔ vb a < vb b) ∧ (c = 0 ↔ vb a = vb b)
def Nz (a : List UInt8) : Prop := ∀ c ∈ a, c.toNat ≠ 0
theorem Nz.head {a : List UInt8} (h : Nz a) : ∀ c t, a = c :: t → c.toNat ≠ 0 := fun c t e => h c (by rw [e]; exact List.mem_cons_self ..)
theorem cmp_short {a b : List UInt8} (ha : Nz a) (hb : Nz b) (c : Int) (h1 : a.length < b.length → c = -1) (h2 : b.length < a.length → c = 1) (h3 : a.length = b.length → (c < 0 ↔ compareBytes a b < 0) ∧ (c = 0 ↔ compareBytes a b = 0)) : IsCmp c a b := by
  rcases Nat.lt_trichotomy a.length b.length with k | k | k
  · have := vb_len k hb.head
    rw [h1 k]
    exact ⟨by omega, by omega⟩
  · obtain ⟨i1, i2, _⟩ := cmp_same a b k
    obtain ⟨j1, j2⟩ := h3 k
    exact ⟨j1.trans i1, j2.trans i2⟩
  · have := vb_len k ha.head
    rw [h2 k]
    exact ⟨by omega, by omega⟩
theorem vb_inj {a b : List UInt8} (ha : Nz a) (hb : Nz b) (h : vb a = vb b) : a = b := by
  rcases Nat.lt_trichotomy a.length b.length with k | k | k
  · have := vb_len k hb.head; omega
  · exact (cmp_same a b k).2.2 h
  · have := vb_len k ha.head; omega
theorem dec_cmp {a b : List UInt8} (ha : ∀ c ∈ a, dgN c.toNat = true) (hb : ∀ c ∈ b, dgN c.toNat = true) (ha0 : ∀ c t, a = c :: t → 49 ≤ c.toNat) (hb0 : ∀ c t, b = c :: t → 49 ≤ c.toNat) : (vd a < vd b ↔ vb a < vb b) ∧ (vd a = vd b ↔ vb a = vb b) := by
  rcases Nat.lt_trichotomy a.length b.length with k | k | k
  · have := vb_len k (fun c t e => by have := hb0 c t e; omega)
    have := vd_len k ha hb0
    exact ⟨by omega, by omega⟩
  · exact dec_same a b k ha hb
  · have := vb_len k (fun c t e => by have := ha0 c t e; omega)
    have := vd_len k hb ha0
    exact ⟨by omega, by omega⟩
end Go.Proofs.YtpbolcjcmkmalaaGreatDoor
namespace Go.Proofs.YtpbolcjcmkmalaaGreatDoor
open Go.Lib

theorem bl_extract (s : ByteArray) (a b : Nat) : bl (s.extract a b) = ((bl s).take b).drop a := by
  show (s.extract a b).data.toList = _
  rw [ByteArray.data_extract, List.drop_take]
  simp [bl]
theorem bl_stem (s : ByteArray) (k : Nat) : bl (s.extract 0 k) = (bl s).take k := by rw [bl_extract]; rfl
theorem bl_caps (s : ByteArray) (k : Nat) : bl (s.extract k s.size) = (bl s).drop k := by
  rw [bl_extract, ← size_bl s, List.take_length]
theorem mem_take {s : ByteArray} {k : Nat} {c : UInt8} (h : c ∈ (bl s).take k) : ∃ (i : Nat) (hi : i < s.size), i < k ∧ c = s[i] := by
  obtain ⟨i, hi⟩ := List.mem_iff_getElem?.1 h
  rw [List.getElem?_take] at hi
  by_cases hk : i < k
  · rw [if_pos hk] at hi
    have hl := (List.getElem?_eq_some_iff.1 hi).1
    rw [size_bl] at hl
    rw [bl_get s i hl] at hi
    exact ⟨i, hl, hk, (Option.some.inj hi).symm⟩
  · rw [if_neg hk] at hi; cases hi
theorem mem_drop {s : ByteArray} {k : Nat} {c : UInt8} (h : c ∈ (bl s).drop k) : ∃ (i : Nat) (hi : i < s.size), k ≤ i ∧ c = s[i] := by
  obtain ⟨i, hi⟩ := List.mem_iff_getElem?.1 h
  rw [List.getElem?_drop] at hi
  have hl := (List.getElem?_eq_some_iff.1 hi).1
  rw [size_bl] at hl
  rw [bl_get s (k + i) hl] at hi
  exact ⟨k + i, hl, by omega, (Option.some.inj hi).symm⟩
theorem Lab.nz1 {s : ByteArray} {k : Nat} {l : Bool} (h : Lab s k l) : Nz ((bl s).take k) := fun c hc => by
  obtain ⟨i, hi, hk, rfl⟩ := mem_take hc
  have := h.byte i hi
  omega
theorem Lab.nz2 {s : ByteArray} {k : Nat} {l : Bool} (h : Lab s k l) : Nz ((bl s).drop k) := fun c hc => by
  obtain ⟨i, hi, hk, rfl⟩ := mem_drop hc
  have := h.byte i hi
  omega
theorem Lab.dig {s : ByteArray} {k : Nat} (h : Lab s k false) : ∀ c ∈ (bl s).take k, dgN c.toNat = true := fun c hc => by
  obtain ⟨i, hi, hk, rfl⟩ := mem_take hc
  have := h.byte i hi
  refine dgN_iff.2 ?_
  simp at this
  omega
theorem Lab.first {s : ByteArray} {k : Nat} (h : Lab s k false) : ∀ c t, (bl s).take k = c :: t → 49 ≤ c.toNat := fun c t e => by
  have hc : c ∈ (bl s).take k := by rw [e]; exact List.mem_cons_self ..
  have h0 : 0 < s.size := by have := h.k1; have := h.ks; omega
  have h1 : ((bl s).take k)[0]? = some c := by rw [e]; rfl
  rw [List.getElem?_take, if_pos (by have := h.k1; omega), bl_get s 0 h0] at h1
  have hcs := Option.some.inj h1
  have hd := dgN_iff.1 (h.dig c hc)
  rcases h.stem with ⟨_, _, hz⟩ | ⟨hl, _⟩
  · have := hz h0
    rw [hcs] at this
    omega
  · cases hl
def keyOf (s : ByteArray) (k : Nat) (l : Bool) : Nat := (if l then 281474976710656 else 0) + vb ((bl s).take k) * 65536 + vb ((bl s).drop k) + 1
noncomputable def labK (s : ByteArray) : Nat := open Classical in if h : ∃ k l, Lab s k l then keyOf s h.choose h.choose_spec.choose else 0
theorem labK_eq {s : ByteArray} {k : Nat} {l : Bool} (h : Lab s k l) : labK s = keyOf s k l := by
  have hx : ∃ k l, Lab s k l := ⟨k, l, h⟩
  unfold labK
  rw [dif_pos hx]
  obtain ⟨e1, e2⟩ := (hx.choose_spec.choose_spec).uniq h
  rw [e2, e1]
theorem labK_no {s : ByteArray} (h : ¬ ∃ k l, Lab s k l) : labK s = 0 := by unfold labK; rw [dif_neg h]
theorem Lab.bd {s : ByteArray} {k : Nat} {l : Bool} (h : Lab s k l) : vb ((bl s).take k) < 4294967296 ∧ vb ((bl s).drop k) < 65536 := by
  constructor
  · have h1 := vb_lt ((bl s).take k)
    have h2 : 256 ^ ((bl s).take k).length ≤ 256 ^ 4 := Nat.pow_le_pow_right (by decide) (by rw [List.length_take]; have := h.k4; omega)
    have : 256 ^ 4 = 4294967296 := by decide
    omega
  · have h1 := vb_lt ((bl s).drop k)
    have h2 : 256 ^ ((bl s).drop k).length ≤ 256 ^ 2 := Nat.pow_le_pow_right (by decide) (by rw [List.length_drop, size_bl]; have := h.kc; omega)
    have : 256 ^ 2 = 65536 := by decide
    omega
noncomputable def lessB (a b : ByteArray) : Bool := decide (0 < labK a ∧ 0 < labK b ∧ labK a < labK b)
theorem key_diff {a b : ByteArray} {k k' : Nat} {l l' : Bool} (ha : Lab a k l) (hb : Lab b k' l') (h : l ≠ l') : lessB a b = l' := by
  obtain ⟨a1, a2⟩ := ha.bd
  obtain ⟨b1, b2⟩ := hb.bd
  unfold lessB
  rw [labK_eq ha, labK_eq hb]
  unfold keyOf
  cases l <;> cases l' <;> simp at h ⊢ <;> omega
theorem key_same {a b : ByteArray} {k k' : Nat} {l : Bool} (ha : Lab a k l) (hb : Lab b k' l) (c1 c2 c : Int) (h1 : IsCmp c1 ((bl a).take k) ((bl b).take k')) (h2 : IsCmp c2 ((bl a).drop k) ((bl b).drop k')) (hc : (c1 ≠ 0 ∧ c = c1) ∨ (c1 = 0 ∧ c = c2)) : lessB a b = decide (c < 0) := by
  obtain ⟨a1, a2⟩ := ha.bd
  obtain ⟨b1, b2⟩ := hb.bd
  obtain ⟨i1, i2⟩ := h1
  obtain ⟨j1, j2⟩ := h2
  unfold lessB
  rw [labK_eq ha, labK_eq hb]
  unfold keyOf
  rw [decide_eq_decide]
  rcases hc with ⟨n0, rfl⟩ | ⟨n0, rfl⟩
  · have : vb ((bl a).take k) ≠ vb ((bl b).take k') := fun e => n0 (i2.2 e)
    constructor
    · rintro ⟨_, _, h⟩; exact i1.2 (by omega)
    · intro h; have := i1.1 h; omega
  · have := i2.1 n0
    constructor
    · rintro ⟨_, _, h⟩; exact j1.2 (by omega)
    · intro h; have := j1.1 h; omega
theorem key_dec {a b : ByteArray} {k k' : Nat} (ha : Lab a k false) (hb : Lab b k' false) : (vd ((bl a).take k) ≠ vd ((bl b).take k') → lessB a b = decide (vd ((bl a).take k) < vd ((bl b).take k'))) ∧ (vd ((bl a).take k) = vd ((bl b).take k') → IsCmp 0 ((bl a).take k) ((bl b).take k')) := by
  obtain ⟨i1, i2⟩ := dec_cmp ha.dig hb.dig ha.first hb.first
  refine ⟨fun hn => ?_, fun he => ?_⟩
  · have hne : vb ((bl a).take k) ≠ vb ((bl b).take k') := fun e => hn (i2.2 e)
    obtain ⟨a1, a2⟩ := ha.bd
    obtain ⟨b1, b2⟩ := hb.bd
    unfold lessB
    rw [labK_eq ha, labK_eq hb]
    unfold keyOf
    rw [decide_eq_decide]
    constructor
    · rintro ⟨_, _, h⟩; exact i1.2 (by omega)
    · intro h; have := i1.1 h; omega
  · have := i2.1 he
    exact ⟨by omega, by omega⟩
theorem labK_inj {a b : ByteArray} (ha : 0 < labK a) (hb : 0 < labK b) (h : labK a = labK b) : a = b := by
  have hx : ∃ k l, Lab a k l := Classical.byContradiction fun n => by rw [labK_no n] at ha; omega
  have hy : ∃ k l, Lab b k l := Classical.byContradiction fun n => by rw [labK_no n] at hb; omega
  obtain ⟨k, l, hx⟩ := hx
  obtain ⟨k', l', hy⟩ := hy
  rw [labK_eq hx, labK_eq hy] at h
  unfold keyOf at h
  obtain ⟨a1, a2⟩ := hx.bd
  obtain ⟨b1, b2⟩ := hy.bd
  have e1 : vb ((bl a).take k) = vb ((bl b).take k') := by cases l <;> cases l' <;> simp at h <;> omega
  have e2 : vb ((bl a).drop k) = vb ((bl b).drop k') := by cases l <;> cases l' <;> simp at h <;> omega
  have f1 := vb_inj hx.nz1 hy.nz1 e1
  have f2 := vb_inj hx.nz2 hy.nz2 e2
  have : bl a = bl b := by rw [← List.take_append_drop k (bl a), ← List.take_append_drop k' (bl b), f1, f2]
  exact ByteArray.ext (Array.toList_inj.1 this)
end Go.Proofs.YtpbolcjcmkmalaaGreatDoor
namespace Go.Proofs.YtpbolcjcmkmalaaGreatDoor
open Go.RowKit Go.Extern.Stop Go.Stop Go.Extern

theorem hidL {p : Prop} (h : p) : Hid p := h
theorem ret_i {a b : Int} (h : a = b) : Ending.returned (.int .i64 a) = .returned (.int .i64 b) := by rw [h]
theorem ret_b {a b : Bool} (h : a = b) : Ending.returned (.bool a) = .returned (.bool b) := by rw [h]
theorem belA (w : World) (o : Obj) : Below w.heap.size w (w.alloc o) := (Below.refl _ _).alloc (Nat.le_refl _) _

end Go.Proofs.YtpbolcjcmkmalaaGreatDoor

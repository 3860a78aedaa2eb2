/-
  Labels, plain: what a label is, its key, the order of keys. No program.
-/
import Derived.Test.YtdeccdmplmclmaaGreatDoorTrimPlain
import Derived.Lib.Bytealg
import Derived.Lib.Small
namespace Go.Proofs.YtdeccdmplmclmaaGreatDoor
open Go.Lib

def dgN (x : Nat) : Bool := decide (48 ≤ x) && decide (x ≤ 57)
def smN (x : Nat) : Bool := decide (97 ≤ x) && decide (x ≤ 122)
def cpN (x : Nat) : Bool := decide (65 ≤ x) && decide (x ≤ 90)
theorem dgN_iff {x : Nat} : dgN x = true ↔ 48 ≤ x ∧ x ≤ 57 := by unfold dgN; simp
theorem smN_iff {x : Nat} : smN x = true ↔ 97 ≤ x ∧ x ≤ 122 := by unfold smN; simp
theorem cpN_iff {x : Nat} : cpN x = true ↔ 65 ≤ x ∧ x ≤ 90 := by unfold cpN; simp
theorem dgN_hi : ∀ x, 128 ≤ x → dgN x = false := fun x h => by
  cases e : dgN x
  · rfl
  · have := dgN_iff.1 e
    omega
theorem smN_hi : ∀ x, 128 ≤ x → smN x = false := fun x h => by
  cases e : smN x
  · rfl
  · have := smN_iff.1 e
    omega
theorem cpN_hi : ∀ x, 128 ≤ x → cpN x = false := fun x h => by
  cases e : cpN x
  · rfl
  · have := cpN_iff.1 e
    omega

/-- A label: its stem has k bytes, of letters or not. -/
structure Lab (s : ByteArray) (k : Nat) (l : Bool) : Prop where
  k1 : 1 ≤ k
  k4 : k ≤ 4
  ks : k ≤ s.size
  kc : s.size ≤ k + 2
  cap : AllP cpN s k s.size
  stem : (l = false ∧ AllP dgN s 0 k ∧ ∀ h : 0 < s.size, s[0].toNat ≠ 48) ∨ (l = true ∧ AllP smN s 0 k)
theorem Lab.byte {s : ByteArray} {k : Nat} {l : Bool} (h : Lab s k l) (i : Nat) (hi : i < s.size) : (i < k ∧ l = false ∧ 48 ≤ s[i].toNat ∧ s[i].toNat ≤ 57) ∨ (i < k ∧ l = true ∧ 97 ≤ s[i].toNat ∧ s[i].toNat ≤ 122) ∨ (k ≤ i ∧ 65 ≤ s[i].toNat ∧ s[i].toNat ≤ 90) := by
  rcases Nat.lt_or_ge i k with c | c
  · rcases h.stem with ⟨e, a, _⟩ | ⟨e, a⟩
    · exact .inl ⟨c, e, dgN_iff.1 (a i hi (Nat.zero_le _) c)⟩
    · exact .inr (.inl ⟨c, e, smN_iff.1 (a i hi (Nat.zero_le _) c)⟩)
  · exact .inr (.inr ⟨c, cpN_iff.1 (h.cap i hi c hi)⟩)
theorem Lab.uniq {s : ByteArray} {k k' : Nat} {l l' : Bool} (h : Lab s k l) (h' : Lab s k' l') : k = k' ∧ l = l' := by
  have h1 := h.k1
  have h2 := h.ks
  have h3 := h'.k1
  have h4 := h'.ks
  have hl : l = l' := by
    have a := h.byte 0 (by omega)
    have b := h'.byte 0 (by omega)
    rcases a with ⟨_, e, _⟩ | ⟨_, e, _⟩ | ⟨c, _⟩
    · rcases b with ⟨_, e', _⟩ | ⟨_, e', _⟩ | ⟨c, _⟩
      · rw [e, e']
      · omega
      · omega
    · rcases b with ⟨_, e', _⟩ | ⟨_, e', _⟩ | ⟨c, _⟩
      · omega
      · rw [e, e']
      · omega
    · omega
  refine ⟨?_, hl⟩
  rcases Nat.lt_trichotomy k k' with c | c | c
  · have a := h.byte k (by omega)
    have b := h'.byte k (by omega)
    omega
  · exact c
  · have a := h.byte k' (by omega)
    have b := h'.byte k' (by omega)
    omega

/-! What bytes are worth. -/
def vb : List UInt8 → Nat
  | [] => 0
  | c :: t => c.toNat * 256 ^ t.length + vb t
def vd : List UInt8 → Nat
  | [] => 0
  | c :: t => (c.toNat - 48) * 10 ^ t.length + vd t
theorem vb_lt : ∀ l, vb l < 256 ^ l.length
  | [] => by simp [vb]
  | c :: t => by
    have h := vb_lt t
    have hc : c.toNat < 256 := c.toNat_lt
    have e : 256 ^ (c :: t).length = 256 * 256 ^ t.length := by rw [List.length_cons, Nat.pow_succ, Nat.mul_comm]
    rw [e]
    show c.toNat * 256 ^ t.length + vb t < _
    have := Nat.mul_le_mul_right (256 ^ t.length) (show c.toNat ≤ 255 by omega)
    omega
theorem vd_lt : ∀ l : List UInt8, (∀ c ∈ l, dgN c.toNat = true) → vd l < 10 ^ l.length
  | [], _ => by simp [vd]
  | c :: t, hd => by
    have h := vd_lt t (fun x hx => hd x (List.mem_cons_of_mem _ hx))
    have hc := dgN_iff.1 (hd c (List.mem_cons_self ..))
    have e : 10 ^ (c :: t).length = 10 * 10 ^ t.length := by rw [List.length_cons, Nat.pow_succ, Nat.mul_comm]
    rw [e]
    show (c.toNat - 48) * 10 ^ t.length + vd t < _
    have := Nat.mul_le_mul_right (10 ^ t.length) (show c.toNat - 48 ≤ 9 by omega)
    omega
theorem vb_len {a b : List UInt8} (h : a.length < b.length) (h0 : ∀ c t, b = c :: t → c.toNat ≠ 0) : vb a < vb b := by
  match b, h with
  | c :: t, h =>
    have h1 := vb_lt a
    have h2 : 256 ^ a.length ≤ 256 ^ t.length := Nat.pow_le_pow_right (by decide) (by simp at h; omega)
    have h3 := Nat.mul_le_mul_right (256 ^ t.length) (show 1 ≤ c.toNat from Nat.pos_of_ne_zero (h0 c t rfl))
    show vb a < c.toNat * 256 ^ t.length + vb t
    omega
theorem vd_len {a b : List UInt8} (h : a.length < b.length) (ha : ∀ c ∈ a, dgN c.toNat = true) (h0 : ∀ c t, b = c :: t → 49 ≤ c.toNat) : vd a < vd b := by
  match b, h with
  | c :: t, h =>
    have h1 := vd_lt a ha
    have h2 : 10 ^ a.length ≤ 10 ^ t.length := Nat.pow_le_pow_right (by decide) (by simp at h; omega)
    have h3 := Nat.mul_le_mul_right (10 ^ t.length) (show 1 ≤ c.toNat - 48 by have := h0 c t rfl; omega)
    show vd a < (c.toNat - 48) * 10 ^ t.length + vd t
    omega
theorem mul_lt_of {m n P x y : Nat} (h : m < n) (hx : x < P) : m * P + x < n * P + y := by
  have := Nat.mul_le_mul_right P (show m + 1 ≤ n by omega)
  rw [Nat.succ_mul] at this
  omega
/-- Equal lengths: the comparison of texts is that of what they are worth. -/
theorem cmp_same : ∀ a b : List UInt8, a.length = b.length → (compareBytes a b < 0 ↔ vb a < vb b) ∧ (compareBytes a b = 0 ↔ vb a = vb b) ∧ (vb a = vb b → a = b)
  | [], [], _ => by simp [compareBytes, vb]
  | [], _ :: _, h => by simp at h
  | _ :: _, [], h => by simp at h
  | a :: xs, b :: ys, h => by
    have hl : xs.length = ys.length := by simpa using h
    have e1 : vb (a :: xs) = a.toNat * 256 ^ ys.length + vb xs := by show _ * 256 ^ xs.length + _ = _; rw [hl]
    have e2 : vb (b :: ys) = b.toNat * 256 ^ ys.length + vb ys := rfl
    have l1 := vb_lt xs
    have l2 := vb_lt ys
    rw [hl] at l1
    unfold compareBytes
    by_cases h1 : a < b
    · have := mul_lt_of (UInt8.lt_iff_toNat_lt.1 h1) l1 (y := vb ys)
      rw [if_pos h1, e1, e2]
      refine ⟨by omega, by omega, fun h => by omega⟩
    · rw [if_neg h1]
      by_cases h2 : b < a
      · have := mul_lt_of (UInt8.lt_iff_toNat_lt.1 h2) l2 (y := vb xs)
        rw [if_pos h2, e1, e2]
        refine ⟨by omega, by omega, fun h => by omega⟩
      · rw [if_neg h2]
        have hab : a = b := UInt8.toNat_inj.1 (by have := mt UInt8.lt_iff_toNat_lt.2 h1; have := mt UInt8.lt_iff_toNat_lt.2 h2; omega)
        obtain ⟨i1, i2, i3⟩ := cmp_same xs ys hl
        rw [e1, e2, hab]
        refine ⟨by rw [i1]; omega, by rw [i2]; omega, fun h => by rw [i3 (by omega)]⟩
/-- Equal lengths of digits: the same order. -/
theorem dec_same : ∀ a b : List UInt8, a.length = b.length → (∀ c ∈ a, dgN c.toNat = true) → (∀ c ∈ b, dgN c.toNat = true) → (vd a < vd b ↔ vb a < vb b) ∧ (vd a = vd b ↔ vb a = vb b)
  | [], [], _, _, _ => by simp [vb, vd]
  | [], _ :: _, h, _, _ => by simp at h
  | _ :: _, [], h, _, _ => by simp at h
  | a :: xs, b :: ys, h, ha, hb => by
    have hl : xs.length = ys.length := by simpa using h
    have e1 : vb (a :: xs) = a.toNat * 256 ^ ys.length + vb xs := by show _ * 256 ^ xs.length + _ = _; rw [hl]
    have e2 : vb (b :: ys) = b.toNat * 256 ^ ys.length + vb ys := rfl
    have e3 : vd (a :: xs) = (a.toNat - 48) * 10 ^ ys.length + vd xs := by show _ * 10 ^ xs.length + _ = _; rw [hl]
    have e4 : vd (b :: ys) = (b.toNat - 48) * 10 ^ ys.length + vd ys := rfl
    have l1 := vb_lt xs
    have l2 := vb_lt ys
    have l3 := vd_lt xs (fun x hx => ha x (List.mem_cons_of_mem _ hx))
    have l4 := vd_lt ys (fun x hx => hb x (List.mem_cons_of_mem _ hx))
    rw [hl] at l1 l3
    have da := dgN_iff.1 (ha a (List.mem_cons_self ..))
    have db := dgN_iff.1 (hb b (List.mem_cons_self ..))
    rw [e1, e2, e3, e4]
    rcases Nat.lt_trichotomy a.toNat b.toNat with c | c | c
    · have := mul_lt_of c l1 (y := vb ys)
      have := mul_lt_of (show a.toNat - 48 < b.toNat - 48 by omega) l3 (y := vd ys)
      exact ⟨by omega, by omega⟩
    · obtain ⟨i1, i2⟩ := dec_same xs ys hl (fun x hx => ha x (List.mem_cons_of_mem _ hx)) (fun x hx => hb x (List.mem_cons_of_mem _ hx))
      rw [c]
      exact ⟨by omega, by omega⟩
    · have := mul_lt_of c l2 (y := vb xs)
      have := mul_lt_of (show b.toNat - 48 < a.toNat - 48 by omega) l4 (y := vd xs)
      exact ⟨by omega, by omega⟩
/-- A number tells how two texts stand. -/
def IsCmp (c : Int) (a b : List UInt8) : Prop := (c < 0 ↔ vb a < vb b) ∧ (c = 0 ↔ vb a = vb b)
def Nz (a : List UInt8) : Prop := ∀ c ∈ a, c.toNat ≠ 0
theorem Nz.head {a : List UInt8} (h : Nz a) : ∀ c t, a = c :: t → c.toNat ≠ 0 := fun c t e => h c (by rw [e]; exact List.mem_cons_self ..)
theorem cmp_short {a b : List UInt8} (ha : Nz a) (hb : Nz b) (c : Int) (h1 : a.length < b.length → c = -1) (h2 : b.length < a.length → c = 1) (h3 : a.length = b.length → (c < 0 ↔ compareBytes a b < 0) ∧ (c = 0 ↔ compareBytes a b = 0)) : IsCmp c a b := by
  rcases Nat.lt_trichotomy a.length b.length with k | k | k
  · have := vb_len k hb.head
    rw [h1 k]
    exact ⟨by omega, by omega⟩
  · obtain ⟨i1, i2, _⟩ := cmp_same a b k
    obtain ⟨j1, j2⟩ := h3 k
    exact ⟨j1.trans i1, j2.trans i2⟩
  · have := vb_len k ha.head
    rw [h2 k]
    exact ⟨by omega, by omega⟩
theorem vb_inj {a b : List UInt8} (ha : Nz a) (hb : Nz b) (h : vb a = vb b) : a = b := by
  rcases Nat.lt_trichotomy a.length b.length with k | k | k
  · have := vb_len k hb.head; omega
  · exact (cmp_same a b k).2.2 h
  · have := vb_len k ha.head; omega
theorem dec_cmp {a b : List UInt8} (ha : ∀ c ∈ a, dgN c.toNat = true) (hb : ∀ c ∈ b, dgN c.toNat = true) (ha0 : ∀ c t, a = c :: t → 49 ≤ c.toNat) (hb0 : ∀ c t, b = c :: t → 49 ≤ c.toNat) : (vd a < vd b ↔ vb a < vb b) ∧ (vd a = vd b ↔ vb a = vb b) := by
  rcases Nat.lt_trichotomy a.length b.length with k | k | k
  · have := vb_len k (fun c t e => by have := hb0 c t e; omega)
    have := vd_len k ha hb0
    exact ⟨by omega, by omega⟩
  · exact dec_same a b k ha hb
  · have := vb_len k (fun c t e => by have := ha0 c t e; omega)
    have := vd_len k hb ha0
    exact ⟨by omega, by omega⟩
end Go.Proofs.YtdeccdmplmclmaaGreatDoor

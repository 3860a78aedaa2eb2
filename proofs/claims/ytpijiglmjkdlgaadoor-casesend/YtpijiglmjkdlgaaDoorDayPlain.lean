/-
  The calendar, plain: leap years, months, the days ahead of a year and of a month; a day has one date.
-/
import Derived.KernelRfl
namespace Go.Proofs.YtpijiglmjkdlgaaDoor

/-- Is a year a leap year? -/
def leapB (y : Int) : Bool := decide (y % 4 = 0) && (!decide (y % 100 = 0) || decide (y % 400 = 0))
/-- How many days a month has. -/
def mlen (y m : Int) : Int := if m = 2 then (if leapB y then 29 else 28) else if m = 4 ∨ m = 6 ∨ m = 9 ∨ m = 11 then 30 else 31
/-- How many days a year has. -/
def ylen (y : Int) : Int := if leapB y then 366 else 365
/-- The days ahead of a year. -/
def yst (y : Int) : Int := (y - 1) * 365 + (y - 1) / 4 - (y - 1) / 100 + (y - 1) / 400
/-- The days of a year ahead of its month k + 1. -/
def mst (y : Int) : Nat → Int
  | 0 => 0
  | k + 1 => mst y k + mlen y (k + 1)

theorem ltge (a b : Int) : a < b ∨ b ≤ a := by omega
theorem leapB_t {y : Int} (h : leapB y = true) : y % 4 = 0 ∧ (¬ y % 100 = 0 ∨ y % 400 = 0) := by simpa [leapB] using h
theorem leapB_f {y : Int} (h : leapB y = false) : ¬ (y % 4 = 0 ∧ (¬ y % 100 = 0 ∨ y % 400 = 0)) := by
  intro k
  have : leapB y = true := by simpa [leapB] using k
  rw [this] at h; cases h
theorem yst_succ (y : Int) : yst (y + 1) = yst y + ylen y := by
  unfold yst ylen
  cases h : leapB y
  · have := leapB_f h
    simp only [Bool.false_eq_true, if_false]
    omega
  · have := leapB_t h
    simp only [if_true]
    omega
theorem mlen_bd (y m : Int) : 28 ≤ mlen y m ∧ mlen y m ≤ 31 := by
  unfold mlen
  split
  · split <;> omega
  · split <;> omega
theorem ylen_bd (y : Int) : 365 ≤ ylen y ∧ ylen y ≤ 366 := by unfold ylen; split <;> omega
theorem mst_12 (y : Int) : mst y 12 = ylen y := by
  simp only [mst, mlen, ylen]
  cases leapB y <;> decide
theorem mst_mono (y : Int) : ∀ a b : Nat, a ≤ b → mst y a + 28 * (b - a : Nat) ≤ mst y b
  | a, b, h => by
    induction b with
    | zero => obtain rfl : a = 0 := by omega
              simp
    | succ b ih =>
      rcases Nat.lt_or_ge b a with k | k
      · obtain rfl : a = b + 1 := by omega
        simp
      · have := ih k
        have := mlen_bd y (b + 1)
        simp only [mst]
        omega
theorem mst_nn (y : Int) (a : Nat) : 0 ≤ mst y a := by
  have := mst_mono y 0 a (by omega)
  simp only [mst] at this
  omega
theorem mst_le (y : Int) (a : Nat) (h : a ≤ 12) : mst y a ≤ 366 := by
  have := mst_mono y a 12 h
  rw [mst_12] at this
  have := ylen_bd y
  omega
theorem yst_mono (a : Int) : ∀ k : Nat, yst a + 365 * k ≤ yst (a + k)
  | 0 => by simp
  | k + 1 => by
    have h1 := yst_mono a k
    have h2 := yst_succ (a + k)
    have h3 := ylen_bd (a + k)
    rw [show a + ((k + 1 : Nat) : Int) = a + k + 1 by omega]
    omega
theorem yst_lt {a b : Int} (h : a < b) : yst a + 365 ≤ yst b := by
  have h1 := yst_mono a (b - a).toNat
  rw [show a + ((b - a).toNat : Int) = b by omega] at h1
  omega
theorem yst_le {a b : Int} (h : a ≤ b) : yst a ≤ yst b := by
  rcases Int.lt_or_eq_of_le h with k | k
  · have := yst_lt k; omega
  · rw [k]; exact Int.le_refl _
theorem yst_1 : yst 1 = 0 := by decide
theorem yst_10000 : yst 10000 = 3652059 := by decide

/-- Is there such a date? -/
structure Date (y m d : Int) : Prop where
  y1 : 1 ≤ y
  y2 : y ≤ 9999
  m1 : 1 ≤ m
  m2 : m ≤ 12
  d1 : 1 ≤ d
  d2 : d ≤ mlen y m
/-- A date's day. -/
def dof (y m d : Int) : Int := yst y + mst y (m - 1).toNat + d
theorem mst_step (y m : Int) (h : 1 ≤ m) : mst y m.toNat = mst y (m - 1).toNat + mlen y m := by
  rw [show m.toNat = (m - 1).toNat + 1 by omega]
  simp only [mst]
  rw [show (((m - 1).toNat : Nat) : Int) + 1 = m by omega]
theorem Date.inYear {y m d : Int} (h : Date y m d) : yst y < dof y m d ∧ dof y m d ≤ yst (y + 1) := by
  have h1 := mst_nn y (m - 1).toNat
  have h2 := mst_step y m h.m1
  have h3 := mst_mono y m.toNat 12 (by have := h.m2; omega)
  rw [mst_12] at h3
  have h4 := yst_succ y
  have := h.d1
  have := h.d2
  unfold dof
  omega
theorem Date.isDay {y m d : Int} (h : Date y m d) : 1 ≤ dof y m d ∧ dof y m d ≤ 3652059 := by
  have h1 := h.inYear
  have h2 := yst_le (a := 1) (b := y) h.y1
  have h3 := yst_le (a := y + 1) (b := 10000) (by have := h.y2; omega)
  rw [yst_1] at h2
  rw [yst_10000] at h3
  omega
theorem year_uniq {n a b : Int} (h1 : yst a < n) (h2 : n ≤ yst (a + 1)) (h3 : yst b < n) (h4 : n ≤ yst (b + 1)) : a = b := by
  rcases Int.lt_trichotomy a b with h | h | h
  · have := yst_le (a := a + 1) (b := b) (by omega); omega
  · exact h
  · have := yst_le (a := b + 1) (b := a) (by omega); omega
theorem month_uniq {y r : Int} {a b : Nat} (h1 : mst y a < r) (h2 : r ≤ mst y (a + 1)) (h3 : mst y b < r) (h4 : r ≤ mst y (b + 1)) : a = b := by
  rcases Nat.lt_trichotomy a b with h | h | h
  · have := mst_mono y (a + 1) b (by omega); omega
  · exact h
  · have := mst_mono y (b + 1) a (by omega); omega
theorem Date.uniq {y m d y' m' d' : Int} (h : Date y m d) (h' : Date y' m' d') (e : dof y m d = dof y' m' d') : y = y' ∧ m = m' ∧ d = d' := by
  have a := h.inYear
  have b := h'.inYear
  rw [e] at a
  obtain rfl := year_uniq a.1 a.2 b.1 b.2
  have s1 := mst_step y m h.m1
  have s2 := mst_step y m' h'.m1
  have e' := e
  unfold dof at e'
  have x1 := h.d1
  have x2 := h.d2
  have x3 := h'.d1
  have x4 := h'.d2
  have y1 := h.m1
  have y2 := h'.m1
  have z : (m - 1).toNat = (m' - 1).toNat := by
    refine month_uniq (y := y) (r := mst y (m - 1).toNat + d) (by omega) ?_ (by omega) ?_
    · rw [show (m - 1).toNat + 1 = m.toNat by omega]; omega
    · rw [show (m' - 1).toNat + 1 = m'.toNat by omega]; omega
  obtain rfl : m = m' := by omega
  exact ⟨rfl, rfl, by omega⟩

/-- The year of a day, as counted. -/
def yrOf (n : Int) : Int :=
  let a := (n - 1) / 146097
  let r := (n - 1) % 146097
  let b := if 3 < r / 36524 then 3 else r / 36524
  let r2 := r - b * 36524
  let c := r2 / 1461
  let r3 := r2 % 1461
  let e := if 3 < r3 / 365 then 3 else r3 / 365
  a * 400 + b * 100 + c * 4 + e + 1
theorem leap_at (a b c : Int) (h1 : 0 ≤ b) (h2 : b ≤ 3) (h3 : 0 ≤ c) (h4 : c ≤ 24) (h5 : c < 24 ∨ b = 3) : leapB (a * 400 + b * 100 + c * 4 + 3 + 1) = true := by
  simp only [leapB, Bool.and_eq_true, Bool.or_eq_true, Bool.not_eq_true', decide_eq_true_eq, decide_eq_false_iff_not]
  refine ⟨by omega, ?_⟩
  rcases h5 with h | h
  · exact .inl (by omega)
  · subst h
    rcases Int.lt_or_eq_of_le h4 with k | k
    · exact .inl (by omega)
    · exact .inr (by omega)
theorem yst_at (a b c e : Int) (h1 : 0 ≤ b) (h2 : b ≤ 3) (h3 : 0 ≤ c) (h4 : c ≤ 24) (h5 : 0 ≤ e) (h6 : e ≤ 3) : yst (a * 400 + b * 100 + c * 4 + e + 1) = a * 146097 + b * 36524 + c * 1461 + e * 365 := by
  generalize hy : a * 400 + b * 100 + c * 4 + e = y
  have y4 : y / 4 = a * 100 + b * 25 + c := by omega
  have y100 : y / 100 = a * 4 + b := by omega
  have y400 : y / 400 = a := by omega
  unfold yst
  rw [show y + 1 - 1 = y by omega, y4, y100, y400]
  omega
theorem yrOf_in (n : Int) : yst (yrOf n) < n ∧ n ≤ yst (yrOf n + 1) := by
  have h0 : (n - 1) / 146097 * 146097 + (n - 1) % 146097 = n - 1 := by omega
  have h0a : 0 ≤ (n - 1) % 146097 := by omega
  have h0b : (n - 1) % 146097 < 146097 := by omega
  have key : ∀ a r b r2 c r3 e y : Int, a * 146097 + r = n - 1 → 0 ≤ r → r < 146097 → 0 ≤ b → b ≤ 3 → r2 = r - b * 36524 → 0 ≤ r2 → (r2 < 36524 ∨ b = 3) → r2 ≤ 36524 → c * 1461 + r3 = r2 → 0 ≤ r3 → r3 < 1461 → 0 ≤ e → e ≤ 3 → e * 365 ≤ r3 → (r3 < (e + 1) * 365 ∨ e = 3) → y = a * 400 + b * 100 + c * 4 + e → yst (y + 1) < n ∧ n ≤ yst (y + 1 + 1) := by
    intro a r b r2 c r3 e y h1 h2 h3 h4 h5 h6 h7 h8 h9 h10 h11 h12 h13 h14 h15 h16 h17
    have c0 : 0 ≤ c := by omega
    have c24 : c ≤ 24 := by omega
    subst h17
    have e1 := yst_at a b c e h4 h5 c0 c24 h13 h14
    have e2 := yst_succ (a * 400 + b * 100 + c * 4 + e + 1)
    have hy := ylen_bd (a * 400 + b * 100 + c * 4 + e + 1)
    rw [e2, e1]
    clear e2 e1
    refine ⟨by omega, ?_⟩
    by_cases k1 : e = 3
    · by_cases k2 : c < 24 ∨ b = 3
      · subst k1
        have := leap_at a b c h4 h5 c0 c24 k2
        simp only [ylen, this, if_true]
        clear this hy h0 h0a h0b
        omega
      · have hc : c = 24 := by omega
        clear h0 h0a h0b
        omega
    · clear h0 h0a h0b
      omega
  unfold yrOf
  simp only
  generalize ha : (n - 1) / 146097 = a at *
  generalize hr : (n - 1) % 146097 = r at *
  generalize hb : (if 3 < r / 36524 then 3 else r / 36524) = b
  have hb' : 0 ≤ b ∧ b ≤ 3 ∧ b * 36524 ≤ r ∧ (r - b * 36524 < 36524 ∨ b = 3) ∧ r - b * 36524 ≤ 36524 := by
    rw [← hb]; split <;> omega
  generalize hr2 : r - b * 36524 = r2 at *
  have h2 : r2 / 1461 * 1461 + r2 % 1461 = r2 := by omega
  have h2a : 0 ≤ r2 % 1461 := by omega
  have h2b : r2 % 1461 < 1461 := by omega
  generalize hc : r2 / 1461 = c at *
  generalize hr3 : r2 % 1461 = r3 at *
  generalize he : (if 3 < r3 / 365 then 3 else r3 / 365) = e
  have he' : 0 ≤ e ∧ e ≤ 3 ∧ e * 365 ≤ r3 ∧ (r3 < (e + 1) * 365 ∨ e = 3) := by
    rw [← he]; split <;> omega
  exact key a r b r2 c r3 e _ h0 h0a h0b hb'.1 hb'.2.1 hr2.symm (by omega) hb'.2.2.2.1 hb'.2.2.2.2 h2 h2a h2b he'.1 he'.2.1 he'.2.2.1 he'.2.2.2 rfl
theorem yrOf_bd {n : Int} (h1 : 1 ≤ n) (h2 : n ≤ 3652059) : 1 ≤ yrOf n ∧ yrOf n ≤ 9999 := by
  have h := yrOf_in n
  constructor
  · rcases ltge (yrOf n) 1 with k | k
    · have := yst_le (a := yrOf n + 1) (b := 1) (by omega)
      rw [yst_1] at this; omega
    · exact k
  · rcases ltge 9999 (yrOf n) with k | k
    · have := yst_le (a := 10000) (b := yrOf n) (by omega)
      rw [yst_10000] at this; omega
    · exact k
theorem year_is {n y : Int} (h1 : yst y < n) (h2 : n ≤ yst (y + 1)) : yrOf n = y := year_uniq (yrOf_in n).1 (yrOf_in n).2 h1 h2

theorem month_ex (y r : Int) (h1 : 0 < r) : ∀ k : Nat, r ≤ mst y k → ∃ a : Nat, a < k ∧ mst y a < r ∧ r ≤ mst y (a + 1)
  | 0, h => by simp only [mst] at h; omega
  | k + 1, h => by
    rcases ltge (mst y k) r with c | c
    · exact ⟨k, by omega, c, h⟩
    · obtain ⟨a, ha, hb⟩ := month_ex y r h1 k c
      exact ⟨a, by omega, hb⟩
/-- Each day has its date. -/
theorem date_ex {n : Int} (h1 : 1 ≤ n) (h2 : n ≤ 3652059) : ∃ y m d, Date y m d ∧ dof y m d = n := by
  have hy := yrOf_in n
  have hb := yrOf_bd h1 h2
  have hs := yst_succ (yrOf n)
  obtain ⟨a, ha, hl, hg⟩ := month_ex (yrOf n) (n - yst (yrOf n)) (by omega) 12 (by rw [mst_12]; omega)
  simp only [mst] at hg
  refine ⟨yrOf n, a + 1, n - yst (yrOf n) - mst (yrOf n) a, ⟨hb.1, hb.2, by omega, by omega, by omega, by omega⟩, ?_⟩
  unfold dof
  rw [show ((a : Int) + 1 - 1).toNat = a by omega]
  omega
end Go.Proofs.YtpijiglmjkdlgaaDoor

/-
  Working days, plain: counting by places, by weeks, by sorted holidays; the n-th working day. No program.
-/
import Derived.Lib.SlicesCompact
namespace Go.Proofs.YtpijiglmjkdlgaaDoor

/-- How many of the first k places are so. -/
def cn (g : Nat → Bool) : Nat → Int
  | 0 => 0
  | k + 1 => cn g k + (bif g k then 1 else 0)
theorem cn_nn (g : Nat → Bool) : ∀ k, 0 ≤ cn g k
  | 0 => by simp [cn]
  | k + 1 => by have := cn_nn g k; simp only [cn]; cases g k <;> simp only [cond_true, cond_false] <;> omega
theorem cn_le (g : Nat → Bool) : ∀ k, cn g k ≤ k
  | 0 => by simp [cn]
  | k + 1 => by have := cn_le g k; simp only [cn]; cases g k <;> simp only [cond_true, cond_false] <;> omega
theorem cn_step (g : Nat → Bool) (k : Nat) : cn g k ≤ cn g (k + 1) ∧ cn g (k + 1) ≤ cn g k + 1 := by simp only [cn]; cases g k <;> simp only [cond_true, cond_false] <;> omega
theorem cn_mono (g : Nat → Bool) (a : Nat) : ∀ b, a ≤ b → cn g a ≤ cn g b
  | 0, h => by obtain rfl : a = 0 := by omega
               exact Int.le_refl _
  | b + 1, h => by
    rcases Nat.lt_or_ge b a with k | k
    · obtain rfl : a = b + 1 := by omega
      exact Int.le_refl _
    · have := cn_mono g a b k
      have := cn_step g b
      omega
theorem cn_congr {g h : Nat → Bool} : ∀ k, (∀ i, i < k → g i = h i) → cn g k = cn h k
  | 0, _ => rfl
  | k + 1, e => by simp only [cn]; rw [cn_congr k (fun i hi => e i (by omega)), e k (by omega)]
theorem cn_add (g : Nat → Bool) (a : Nat) : ∀ b, cn g (a + b) = cn g a + cn (fun i => g (a + i)) b
  | 0 => by simp [cn]
  | b + 1 => by
    rw [← Nat.add_assoc]
    simp only [cn]
    rw [cn_add g a b]
    omega
theorem cn_zero (g : Nat → Bool) : ∀ k, (∀ i, i < k → g i = false) → cn g k = 0
  | 0, _ => rfl
  | k + 1, e => by simp only [cn]; rw [cn_zero g k (fun i hi => e i (by omega)), e k (by omega)]; simp

/-! The n-th place that is so. -/
def Hit (g : Nat → Bool) (K : Nat) (n : Int) (s : Nat) : Prop := s < K ∧ cn g s < n ∧ n ≤ cn g (s + 1)
theorem hit_or (g : Nat → Bool) (n : Int) (hn : 1 ≤ n) : ∀ K, cn g K < n ∨ ∃ s, Hit g K n s
  | 0 => .inl (by simp only [cn]; omega)
  | K + 1 => by
    rcases hit_or g n hn K with h | ⟨s, h1, h2⟩
    · rcases (show cn g (K + 1) < n ∨ n ≤ cn g (K + 1) by omega) with k | k
      · exact .inl k
      · exact .inr ⟨K, by omega, h, k⟩
    · exact .inr ⟨s, by omega, h2⟩
theorem countP_upto (f : Nat → Bool) (s : Nat) : ∀ K, s ≤ K → (∀ i, i < s → f i = true) → (∀ i, s ≤ i → i < K → f i = false) → (List.range K).countP f = s
  | 0, h, _, _ => by obtain rfl : s = 0 := by omega
                     rfl
  | K + 1, h, h1, h2 => by
    rw [List.range_succ, List.countP_append]
    rcases Nat.lt_or_ge K s with k | k
    · obtain rfl : s = K + 1 := by omega
      rw [countP_upto f K K (Nat.le_refl _) (fun i hi => h1 i (by omega)) (fun i a b => by omega)]
      simp [h1 K (by omega)]
    · rw [countP_upto f s K k h1 (fun i a b => h2 i a (by omega))]
      simp [h2 K k (by omega)]
theorem search_hit {g : Nat → Bool} {K : Nat} {n : Int} {s : Nat} (h : Hit g K n s) : (List.range K).countP (fun i => !decide (n ≤ cn g (i + 1))) = s := by
  obtain ⟨h1, h2, h3⟩ := h
  refine countP_upto _ s K (by omega) (fun i hi => ?_) (fun i a b => ?_)
  · have := cn_mono g (i + 1) s (by omega)
    simp; omega
  · have := cn_mono g (s + 1) (i + 1) (by omega)
    simp; omega
theorem search_miss {g : Nat → Bool} {K : Nat} {n : Int} (h : cn g K < n) : (List.range K).countP (fun i => !decide (n ≤ cn g (i + 1))) = K := by
  refine countP_upto _ K K (Nat.le_refl _) (fun i hi => ?_) (fun i a b => by omega)
  have := cn_mono g (i + 1) K (by omega)
  simp; omega
theorem Hit.eq {g : Nat → Bool} {K : Nat} {n : Int} {s : Nat} (h : Hit g K n s) : cn g (s + 1) = n ∧ g s = true := by
  obtain ⟨h1, h2, h3⟩ := h
  simp only [cn] at *
  cases hg : g s
  · rw [hg] at h3; simp only [cond_false] at h3; omega
  · rw [hg] at h3; simp only [cond_true] at *; exact ⟨by omega, trivial⟩
theorem Hit.uniq {g : Nat → Bool} {K : Nat} {n : Int} {s t : Nat} (h : Hit g K n s) (h' : Hit g K n t) : s = t := by
  rcases Nat.lt_trichotomy s t with k | k | k
  · have := cn_mono g (s + 1) t (by omega); have := h.2.2; have := h'.2.1; omega
  · exact k
  · have := cn_mono g (t + 1) s (by omega); have := h'.2.2; have := h.2.1; omega
/-- One place more at the front that is not so. -/
theorem cn_shift {g h : Nat → Bool} (e : ∀ i, h (i + 1) = g i) (h0 : h 0 = false) : ∀ k, cn h (k + 1) = cn g k
  | 0 => by simp [cn, h0]
  | k + 1 => by
    have := cn_shift e h0 k
    rw [show cn h (k + 1 + 1) = cn h (k + 1) + (bif h (k + 1) then 1 else 0) from rfl, this, e k]
    rfl
theorem Hit.shift {g h : Nat → Bool} (e : ∀ i, h (i + 1) = g i) (h0 : h 0 = false) {K : Nat} {n : Int} {s : Nat} (H : Hit g K n s) : Hit h (K + 1) n (s + 1) :=
  ⟨by have := H.1; omega, by rw [cn_shift e h0]; exact H.2.1, by rw [cn_shift e h0]; exact H.2.2⟩
/-- Backwards. -/
theorem cn_rev (f : Int → Bool) (u : Int) : ∀ k : Nat, cn (fun i => f (u - k + i + 1)) k = cn (fun i => f (u - i)) k
  | 0 => rfl
  | k + 1 => by
    have h := cn_add (fun i => f (u - (k + 1 : Nat) + i + 1)) 1 k
    rw [Nat.add_comm 1 k] at h
    rw [h]
    have e : (fun i : Nat => f (u - ((k + 1 : Nat) : Int) + ((1 + i : Nat) : Int) + 1)) = fun i : Nat => f (u - k + i + 1) := by
      funext i; congr 1; omega
    rw [e, cn_rev f u k]
    simp only [cn]
    rw [show u - ((k + 1 : Nat) : Int) + ((0 : Nat) : Int) + 1 = u - k by omega]
    omega

/-! Weeks. -/
def wk (n : Int) : Int := (n - 1) % 7
theorem wk_bd (n : Int) : 0 ≤ wk n ∧ wk n < 7 := by unfold wk; omega
def weekOf (off : Int → Bool) : Int := cn (fun i => !off i) 7
theorem week_any (off : Int → Bool) (a : Int) : cn (fun i => !off (wk (a + i))) 7 = weekOf off := by
  have h : ∀ i : Nat, wk (a + i) = (wk a + i) % 7 := fun i => by unfold wk; omega
  have hb := wk_bd a
  simp only [h]
  generalize wk a = r at *
  have hr : r = 0 ∨ r = 1 ∨ r = 2 ∨ r = 3 ∨ r = 4 ∨ r = 5 ∨ r = 6 := by omega
  rcases hr with rfl | rfl | rfl | rfl | rfl | rfl | rfl <;> simp only [weekOf, cn] <;> simp <;> omega
theorem weeks_any (off : Int → Bool) (a : Int) : ∀ k : Nat, cn (fun i => !off (wk (a + i))) (k * 7) = k * weekOf off
  | 0 => by simp [cn]
  | k + 1 => by
    rw [show (k + 1) * 7 = k * 7 + 7 by omega, cn_add, weeks_any off a k]
    have e : (fun i : Nat => !off (wk (a + ((k * 7 + i : Nat) : Int)))) = fun i : Nat => !off (wk (a + ((k * 7 : Nat) : Int) + i)) := by
      funext i; congr 3; omega
    rw [e, week_any]
    rw [Int.natCast_add, Int.add_mul]
    simp
theorem weekOf_bd (off : Int → Bool) : 0 ≤ weekOf off ∧ weekOf off ≤ 7 := ⟨cn_nn _ _, cn_le _ _⟩

/-! Holidays, sorted and each once. -/
def lt (H : List Int) (x : Int) : Int := (H.countP (· < x) : Nat)
theorem countP_lt_succ : ∀ (H : List Int) (x : Int), H.Nodup → H.countP (· < x + 1) = H.countP (· < x) + (if H.contains x then 1 else 0)
  | [], x, _ => by simp
  | h :: t, x, hn => by
    obtain ⟨hnot, hn'⟩ := List.nodup_cons.1 hn
    rw [List.countP_cons, List.countP_cons, countP_lt_succ t x hn', List.contains_cons]
    by_cases e : x = h
    · subst e
      have hc : t.contains x = false := by simpa using hnot
      have d1 : decide (x < x + 1) = true := by simp; omega
      have d2 : decide (x < x) = false := by simp
      have d3 : (x == x) = true := by simp
      rw [hc, d1, d2, d3]
      simp
    · have : (x == h) = false := by simpa using e
      rw [this, Bool.false_or]
      have e2 : decide (h < x + 1) = decide (h < x) := by simp; omega
      rw [e2]; omega
theorem cn_hol (H : List Int) (hn : H.Nodup) (a : Int) : ∀ k : Nat, cn (fun i => H.contains (a + i)) k = lt H (a + k) - lt H a
  | 0 => by simp [cn]
  | k + 1 => by
    have h := countP_lt_succ H (a + k) hn
    simp only [cn]
    rw [cn_hol H hn a k]
    unfold lt
    rw [show a + ((k + 1 : Nat) : Int) = a + k + 1 by omega, h]
    cases H.contains (a + k) <;> simp <;> omega
theorem cn_minus (g h : Nat → Bool) : ∀ k, (∀ i, i < k → h i = true → g i = true) → cn (fun i => g i && !h i) k = cn g k - cn h k
  | 0, _ => by simp [cn]
  | k + 1, e => by
    have := e k (by omega)
    simp only [cn]
    rw [cn_minus g h k (fun i hi => e i (by omega))]
    generalize h k = p at *
    generalize g k = q at *
    cases p <;> cases q <;> simp_all <;> omega

/-- What is kept of a sorted row: the same numbers, each once. -/
theorem compact_mem (zs : List Int) (x : Int) : x ∈ Lib.compact zs ↔ x ∈ zs := by
  unfold Lib.compact Lib.compactUpTo
  simp only [List.mem_map, List.mem_filter, List.mem_range]
  constructor
  · rintro ⟨i, ⟨hi, _⟩, rfl⟩
    rw [getElem!_pos zs.toArray i (by simpa using hi)]
    simp
  · intro hx
    obtain ⟨i, hi, he⟩ := List.getElem_of_mem hx
    -- the first place that holds it
    have : ∀ (n i : Nat), i ≤ n → ∀ (hi : i < zs.length), zs[i] = x → ∃ j, (j < zs.length ∧ Lib.keeps zs.toArray j = true) ∧ zs.toArray[j]! = x := by
      intro n
      induction n with
      | zero =>
        intro i h0 hi he
        obtain rfl : i = 0 := by omega
        refine ⟨0, ⟨hi, by simp [Lib.keeps]⟩, ?_⟩
        rw [getElem!_pos zs.toArray 0 (by simpa using hi)]; simpa using he
      | succ n ih =>
        intro i h0 hi he
        cases hk : Lib.keeps zs.toArray i
        · cases i with
          | zero => simp [Lib.keeps] at hk
          | succ i =>
            have e2 : zs[i] = zs[i + 1] := by
              simp only [Lib.keeps, Nat.add_sub_cancel] at hk
              rw [getElem!_pos zs.toArray i (by simp; omega), getElem!_pos zs.toArray (i + 1) (by simp; omega)] at hk
              simp at hk
              exact hk.symm
            exact ih i (by omega) (by omega) (by rw [e2]; exact he)
        · refine ⟨i, ⟨hi, hk⟩, ?_⟩
          rw [getElem!_pos zs.toArray i (by simpa using hi)]; simpa using he
    exact this i i (Nat.le_refl _) hi he
theorem compact_sorted (zs : List Int) (hs : zs.Pairwise (· ≤ ·)) : (Lib.compact zs).Pairwise (· < ·) := by
  unfold Lib.compact Lib.compactUpTo
  rw [List.pairwise_map]
  have h : ((List.range zs.length).filter (Lib.keeps zs.toArray)).Pairwise (· < ·) := List.pairwise_lt_range.filter _
  refine List.Pairwise.imp_of_mem ?_ h
  intro i j hi hj hij
  obtain ⟨h1, h2⟩ := List.mem_filter.1 hi
  obtain ⟨h3, h4⟩ := List.mem_filter.1 hj
  rw [List.mem_range] at h1 h3
  rw [getElem!_pos zs.toArray i (by simpa using h1), getElem!_pos zs.toArray j (by simpa using h3)]
  simp only [List.getElem_toArray]
  simp only [Lib.keeps, decide_eq_true_eq] at h4
  have h5 := h4.resolve_left (by omega)
  rw [getElem!_pos zs.toArray j (by simpa using h3), getElem!_pos zs.toArray (j - 1) (by simp; omega)] at h5
  simp only [List.getElem_toArray] at h5
  have h6 : zs[j - 1] ≤ zs[j] := List.pairwise_iff_getElem.1 hs (j - 1) j (by omega) h3 (by omega)
  have h7 : zs[i] ≤ zs[j - 1] := by
    rcases Nat.lt_or_ge i (j - 1) with k | k
    · exact List.pairwise_iff_getElem.1 hs i (j - 1) h1 (by omega) k
    · obtain rfl : i = j - 1 := by omega
      exact Int.le_refl _
  omega
/-- The holidays made ready. -/
def ready (zs : List Int) : List Int := Lib.compact (zs.mergeSort fun x y => decide (x ≤ y))
theorem sort_sorted (zs : List Int) : (zs.mergeSort fun x y => decide (x ≤ y)).Pairwise (· ≤ ·) := by
  have := List.pairwise_mergeSort (le := fun x y : Int => decide (x ≤ y)) (fun a b c h1 h2 => by simp at *; omega) (fun a b => by simp; omega) zs
  exact this.imp (fun h => by simpa using h)
theorem ready_lt (zs : List Int) : (ready zs).Pairwise (· < ·) := compact_sorted _ (sort_sorted zs)
theorem ready_le (zs : List Int) : (ready zs).Pairwise (· ≤ ·) := (ready_lt zs).imp (fun h => Int.le_of_lt h)
theorem ready_nodup (zs : List Int) : (ready zs).Nodup := (ready_lt zs).imp (fun h e => by omega)
theorem ready_mem (zs : List Int) (x : Int) : x ∈ ready zs ↔ x ∈ zs := by
  unfold ready
  rw [compact_mem, (List.mergeSort_perm zs _).mem_iff]
theorem ready_contains (zs : List Int) (x : Int) : (ready zs).contains x = zs.contains x := by
  rw [Bool.eq_iff_iff]; simp [ready_mem]

/-- A working day, by the days of the week that are off and the holidays. -/
def isDayB (n : Int) : Bool := decide (1 ≤ n) && decide (n ≤ 3652059)
def works (off : Int → Bool) (hs : List Int) (n : Int) : Bool := isDayB n && (!off (wk n) && !hs.contains n)
/-- The holidays that count. -/
def hol (off : Int → Bool) (hs : List Int) : List Int := hs.filter fun n => isDayB n && !off (wk n)
theorem hol_contains (off : Int → Bool) (hs : List Int) (n : Int) : (hol off hs).contains n = (isDayB n && !off (wk n) && hs.contains n) := by
  rw [Bool.eq_iff_iff]
  simp [hol, List.mem_filter]
  constructor
  · rintro ⟨a, b, c⟩; exact ⟨⟨b, c⟩, a⟩
  · rintro ⟨⟨b, c⟩, a⟩; exact ⟨a, b, c⟩
/-- What is counted by weeks, the rest one by one, and the holidays between. -/
theorem count_is (off : Int → Bool) (hs : List Int) (a : Int) (k : Nat) (h1 : 1 ≤ a) (h2 : a + k ≤ 3652060) :
    cn (fun i => works off hs (a + i)) k = ((k / 7 : Nat) : Int) * weekOf off + cn (fun i => !off (wk (a + (k / 7 * 7 : Nat) + i))) (k % 7) - lt (ready (hol off hs)) (a + k) + lt (ready (hol off hs)) a := by
  have e1 : cn (fun i => works off hs (a + i)) k = cn (fun i => !off (wk (a + i)) && !(ready (hol off hs)).contains (a + i)) k := by
    refine cn_congr k fun i hi => ?_
    have hd : isDayB (a + i) = true := by simp [isDayB]; omega
    show works off hs (a + i) = (!off (wk (a + i)) && !(ready (hol off hs)).contains (a + i))
    rw [ready_contains, hol_contains, works, hd]
    cases off (wk (a + i)) <;> cases hs.contains (a + i) <;> rfl
  rw [e1, cn_minus (fun i => !off (wk (a + i))) (fun i => (ready (hol off hs)).contains (a + i)) k ?_, cn_hol _ (ready_nodup _)]
  · have e2 : cn (fun i => !off (wk (a + i))) k = cn (fun i => !off (wk (a + i))) (k / 7 * 7 + k % 7) := by rw [show k / 7 * 7 + k % 7 = k by omega]
    rw [e2, cn_add, weeks_any]
    have e3 : (fun i : Nat => !off (wk (a + ((k / 7 * 7 + i : Nat) : Int)))) = fun i : Nat => !off (wk (a + ((k / 7 * 7 : Nat) : Int) + i)) := by
      funext i; congr 3; omega
    rw [e3]
    omega
  · intro i _ h
    rw [ready_contains, hol_contains] at h
    simp at h ⊢
    exact h.1.2
end Go.Proofs.YtpijiglmjkdlgaaDoor

/-
  What days come to, month by month: plain.
-/
import Derived.Test.YtgfkaheoahkbcaaDoorRdPl
namespace Go.Proofs.YtgfkaheoahkbcaaDoor

/-- A pay: from, up to, cents. -/
abbrev Py := Int × Int × Int
/-- What the days from f on come to, month by month. -/
inductive MoR (way : Int) : Int → List Int → List Py → Prop
  | nil (f : Int) : MoR way f [] []
  | cons {f y m d : Int} {l : List Int} {c : Nat} {ps : List Py} (hl : l ≠ []) (hd : Date y m d) (hf : dof y m d = f) (hc : (c : Int) = min (mlen y m - d + 1) l.length)
      (h : MoR way (f + c) (l.drop c) ps) : MoR way f l ((f, f + c, rnd (l.take c).sum (mlen y m) way) :: ps)
theorem MoR.inv {way f : Int} {l : List Int} {ps : List Py} (h : MoR way f l ps) (hl : l ≠ []) :
    ∃ y m d, ∃ c : Nat, ∃ qs, Date y m d ∧ dof y m d = f ∧ (c : Int) = min (mlen y m - d + 1) l.length ∧ 1 ≤ c ∧ c ≤ l.length ∧ ps = (f, f + c, rnd (l.take c).sum (mlen y m) way) :: qs ∧ MoR way (f + c) (l.drop c) qs := by
  cases h with
  | nil => exact absurd rfl hl
  | cons hl hd hf hc h =>
    have h1 : 1 ≤ l.length := by
      cases l with
      | nil => exact absurd rfl hl
      | cons => simp
    have := hd.d2
    exact ⟨_, _, _, _, _, hd, hf, hc, by omega, by omega, rfl, h⟩
theorem MoR.inv_nil {way f : Int} {ps : List Py} (h : MoR way f [] ps) : ps = [] := by
  cases h with
  | nil => rfl
  | cons hl => exact absurd rfl hl
theorem MoR.ex (way : Int) : ∀ (n : Nat) (f : Int) (l : List Int), l.length ≤ n → (l = [] ∨ 1 ≤ f ∧ f + l.length - 1 ≤ 3652059) → ∃ ps, MoR way f l ps
  | _, f, [], _, _ => ⟨[], .nil f⟩
  | 0, f, x :: l, h, _ => by simp at h
  | n + 1, f, x :: l, h, hd => by
    rcases hd with hd | ⟨h1, h2⟩
    · cases hd
    · have hlen : ((x :: l).length : Int) = l.length + 1 := by simp
      obtain ⟨y, m, d, hD, hf⟩ := date_ex h1 (show f ≤ 3652059 by omega)
      have hd2 := hD.d2
      generalize hc : (min (mlen y m - d + 1) ((x :: l).length : Int)).toNat = c
      have hc' : (c : Int) = min (mlen y m - d + 1) ((x :: l).length : Int) := by omega
      obtain ⟨ps, hp⟩ := MoR.ex way n (f + c) ((x :: l).drop c) (by rw [List.length_drop]; omega) (by
        by_cases he : (x :: l).drop c = []
        · exact .inl he
        · refine .inr ⟨by omega, ?_⟩
          rw [List.length_drop]
          omega)
      exact ⟨_, .cons (by simp) hD hf hc' hp⟩
/-- The days of the law's list come to as many months at most. -/
theorem MoR.len {way f : Int} {l : List Int} {ps : List Py} (h : MoR way f l ps) : ps.length ≤ l.length := by
  induction h with
  | nil => simp
  | @cons f y m d l c ps hl hd hf hc h ih =>
    have h1 : 1 ≤ l.length := by
      cases l with
      | nil => exact absurd rfl hl
      | cons => simp
    have := hd.d2
    rw [List.length_drop] at ih
    simp only [List.length_cons]
    omega
theorem MoR.uniq {way f : Int} {l : List Int} {ps qs : List Py} (h : MoR way f l ps) : MoR way f l qs → ps = qs := by
  induction h generalizing qs with
  | nil => exact fun k => k.inv_nil.symm
  | @cons f y m d l c ps hl hd hf hc h ih =>
    intro k
    obtain ⟨y', m', d', c', qs', hd', hf', hc', _, _, rfl, k'⟩ := k.inv hl
    obtain ⟨rfl, rfl, rfl⟩ := hd.uniq hd' (hf.trans hf'.symm)
    obtain rfl : c = c' := by omega
    rw [ih k']
/-- A day later in the same month. -/
theorem Date.later {y m d : Int} (h : Date y m d) {k : Int} (h0 : 0 ≤ k) (hk : d + k ≤ mlen y m) : Date y m (d + k) ∧ dof y m (d + k) = dof y m d + k :=
  ⟨⟨h.y1, h.y2, h.m1, h.m2, by have := h.d1; omega, hk⟩, by unfold dof; omega⟩
theorem sum_abs (M : Int) (hM : 0 ≤ M) : ∀ (xs : List Int), (∀ x, x ∈ xs → -M ≤ x ∧ x ≤ M) → -(xs.length * M) ≤ xs.sum ∧ xs.sum ≤ xs.length * M
  | [], _ => by simp
  | x :: xs, h => by
    have ih := sum_abs M hM xs (fun y hy => h y (List.mem_cons_of_mem _ hy))
    have := h x (List.mem_cons_self ..)
    rw [List.sum_cons, List.length_cons, Int.natCast_add, Int.add_mul]
    simp only [Int.natCast_one, Int.one_mul]
    omega
theorem sum_snoc (xs : List Int) (i : Nat) (x : Int) (h : xs[i]? = some x) : (xs.take (i + 1)).sum = (xs.take i).sum + x := by
  obtain ⟨hi, e⟩ := List.getElem?_eq_some_iff.1 h
  rw [List.take_succ_eq_append_getElem hi, List.sum_append, e]; simp
theorem mlen_cases (y m : Int) : mlen y m = 28 ∨ mlen y m = 29 ∨ mlen y m = 30 ∨ mlen y m = 31 := by have := mlen_bd y m; omega
/-- What a month comes to is an amount again. -/
theorem rnd_bd (n P way M : Int) (hP : 0 < P) (h1 : -(P * M) ≤ n) (h2 : n ≤ P * M) : -M ≤ rnd n P way ∧ rnd n P way ≤ M := by
  have a1 : -M ≤ n / P := (Int.le_ediv_iff_mul_le hP).2 (by rw [Int.neg_mul, Int.mul_comm]; exact h1)
  have a2 : n / P ≤ M := by
    have : n / P ≤ P * M / P := Int.ediv_le_ediv hP h2
    rwa [Int.mul_ediv_cancel_left _ (by omega)] at this
  by_cases hz : n % P = 0
  · rw [rnd_zero n P way hz]; exact ⟨a1, a2⟩
  · have a3 : n / P < M := by
      rcases Int.lt_or_eq_of_le a2 with h | h
      · exact h
      · exfalso
        have e := Int.mul_ediv_add_emod n P
        rw [h] at e
        have := Int.emod_nonneg n (show P ≠ 0 by omega)
        omega
    unfold rnd
    (repeat' split) <;> omega
end Go.Proofs.YtgfkaheoahkbcaaDoor

/-
  The text of an amount, plain: digits from the right, a point behind two, commas by three; what it is read back as. No program.
-/
import Derived.Test.YtagkplcomhomcaaDoorRead2
import Derived.Lib.ItoaNum
import Derived.Lib.Itoa
namespace Go.Proofs.YtagkplcomhomcaaDoor
open Go.Lib (dg decDigits nDigits)

/-- The last k digits, with their point and commas. -/
def S (u : Nat) : Nat → List UInt8
  | 0 => []
  | k + 1 => dg u k :: (if k = 2 then 46 :: S u k else if 2 < k ∧ (k - 2) % 3 = 0 then 44 :: S u k else S u k)
/-- The last t digits ahead of the point. -/
def W (u : Nat) : Nat → List UInt8
  | 0 => []
  | t + 1 => dg u (t + 2) :: (if 0 < t ∧ t % 3 = 0 then 44 :: W u t else W u t)
def pre (l : List UInt8) : Nat → List UInt8
  | 0 => []
  | i + 1 => pre l i ++ ((if 0 < i ∧ (l.length - i) % 3 = 0 then [44] else []) ++ [l.getD i 0])
def txt (u : Nat) : List UInt8 := S u (nDigits (u / 100) + 2)

theorem S_two (u : Nat) : S u 2 = [dg u 1, dg u 0] := by
  simp [S]

theorem S_W (u : Nat) : ∀ t, S u (t + 3) = W u (t + 1) ++ 46 :: S u 2
  | 0 => by rw [S]; simp [W]
  | t + 1 => by
    rw [S, W, S_W u t, if_neg (by omega)]
    have e : t + 3 - 2 = t + 1 := by omega
    rw [e]
    by_cases h : (t + 1) % 3 = 0
    · rw [if_pos ⟨by omega, h⟩, if_pos ⟨by omega, h⟩]; rfl
    · rw [if_neg (fun k => h k.2), if_neg (fun k => h k.2)]; rfl

theorem dg_two (u m : Nat) : dg (u / 100) m = dg u (m + 2) := by
  rw [Lib.dg_succ, Lib.dg_succ, Nat.div_div_eq_div_mul]

theorem dec_at (q i : Nat) (h : i < nDigits q) : (decDigits q).getD i 0 = dg q (nDigits q - 1 - i) := by
  rw [Lib.decDigits_eq, List.getD_eq_getElem?_getD, List.getElem?_map, List.getElem?_range h]; rfl

/-- From the left it is the same text. -/
theorem pre_S (u : Nat) : ∀ i, i ≤ nDigits (u / 100) →
    pre (decDigits (u / 100)) i ++ (if i = nDigits (u / 100) then 46 :: S u 2 else (if 0 < i ∧ (nDigits (u / 100) - i) % 3 = 0 then [44] else []) ++ S u (nDigits (u / 100) - i + 2)) = txt u
  | 0, _ => by
    have := Lib.nDigits_pos (u / 100)
    rw [if_neg (by omega), if_neg (by omega)]; rfl
  | i + 1, h => by
    have ih := pre_S u i (by omega)
    have hd : (decDigits (u / 100)).getD i 0 = dg u (nDigits (u / 100) - 1 - i + 2) := by rw [dec_at _ _ (by omega), dg_two]
    have hl : (decDigits (u / 100)).length = nDigits (u / 100) := Lib.decDigits_length _
    rw [← ih, pre, hd, hl]
    clear ih hd hl
    generalize nDigits (u / 100) = n at *
    obtain ⟨j, rfl⟩ : ∃ j, n = i + 1 + j := ⟨n - (i + 1), by omega⟩
    have e1 : i + 1 + j - i + 2 = j + 2 + 1 := by omega
    have e2 : i + 1 + j - 1 - i + 2 = j + 2 := by omega
    have e3 : i + 1 + j - (i + 1) = j := by omega
    have n1 : ¬ i = i + 1 + j := by omega
    rw [if_neg n1, e1, e2, e3, List.append_assoc, List.append_assoc]
    have key : (if i + 1 = i + 1 + j then 46 :: S u 2 else (if 0 < i + 1 ∧ j % 3 = 0 then [44] else []) ++ S u (j + 2)) = (if j + 2 = 2 then 46 :: S u (j + 2) else if 2 < j + 2 ∧ (j + 2 - 2) % 3 = 0 then 44 :: S u (j + 2) else S u (j + 2)) := by
      by_cases hj : j = 0
      · subst hj; simp
      · have e4 : j + 2 - 2 = j := by omega
        rw [if_neg (by omega : ¬ i + 1 = i + 1 + j), if_neg (by omega : ¬ j + 2 = 2), e4]
        by_cases hm : j % 3 = 0
        · rw [if_pos ⟨by omega, hm⟩, if_pos ⟨by omega, hm⟩]; rfl
        · rw [if_neg (fun k => hm k.2), if_neg (fun k => hm k.2)]; rfl
    rw [key, S]
    rfl

theorem pre_txt (u : Nat) : pre (decDigits (u / 100)) (nDigits (u / 100)) ++ [46, dg u 1, dg u 0] = txt u := by
  have := pre_S u _ (Nat.le_refl _)
  rwa [if_pos rfl, S_two] at this

theorem txt_W (u : Nat) : txt u = W u (nDigits (u / 100)) ++ [46, dg u 1, dg u 0] := by
  obtain ⟨t, ht⟩ : ∃ t, nDigits (u / 100) = t + 1 := ⟨nDigits (u / 100) - 1, by have := Lib.nDigits_pos (u / 100); omega⟩
  rw [txt, ht, show t + 1 + 2 = t + 3 by omega, S_W, S_two]

theorem dg_nat (u k : Nat) : (dg u k).toNat = 48 + u / 10 ^ k % 10 := by
  have : u / 10 ^ k % 10 < 10 := Nat.mod_lt _ (by decide)
  unfold dg
  rw [UInt8.toNat_ofNat']
  omega
theorem dg_isDg (u k : Nat) : isDg (dg u k) = true := by
  have h := dg_nat u k
  have : u / 10 ^ k % 10 < 10 := Nat.mod_lt _ (by decide)
  simp [isDg, UInt8.le_iff_toNat_le]
  omega
theorem dg_isW (u k : Nat) : isW (dg u k) = true := by simp [isW, dg_isDg]

theorem W_isW (u : Nat) : ∀ t c, c ∈ W u t → isW c = true
  | 0, c, h => by cases h
  | t + 1, c, h => by
    rw [W] at h
    rcases List.mem_cons.1 h with rfl | h
    · exact dg_isW u _
    · split at h
      · rcases List.mem_cons.1 h with rfl | h
        · decide
        · exact W_isW u t c h
      · exact W_isW u t c h

theorem gl_W (u : Nat) : ∀ t, ∃ g r, gl (W u (t + 1)) = g :: r ∧ g = t % 3 + 1 ∧ r.all (· == 3) = true
  | 0 => ⟨1, [], by simp [W]; exact gl_digit _ _ (dg_ne (dg_isDg u 2)) rfl, rfl, rfl⟩
  | t + 1 => by
    obtain ⟨g, r, e, hg, hr⟩ := gl_W u t
    rw [W]
    by_cases h : (t + 1) % 3 = 0
    · rw [if_pos ⟨by omega, h⟩]
      refine ⟨1, g :: r, ?_, by omega, ?_⟩
      · exact gl_digit _ _ (dg_ne (dg_isDg u _)) (by rw [gl_comma, e])
      · have : g = 3 := by omega
        simp [this, hr]
    · rw [if_neg (fun k => h k.2)]
      exact ⟨g + 1, r, gl_digit _ _ (dg_ne (dg_isDg u _)) e, by omega, hr⟩

theorem wf_W (u t : Nat) : wf (W u (t + 1)) < 0 := by
  obtain ⟨g, r, e, hg, hr⟩ := gl_W u t
  rw [wf_cons (by rw [W]; rfl) e]
  rw [if_pos hr]
  by_cases h0 : r = []
  · rw [if_pos h0]; omega
  · rw [if_neg h0, if_neg (by omega)]; omega

theorem pstep_dg (a u k : Nat) : pstep (a : Int) (dg u k) = ((min (a * 10 + u / 10 ^ k % 10) 1000000000001 : Nat) : Int) := by
  unfold pstep
  rw [if_pos (dg_isDg u k), dg_nat]
  omega
theorem pstep_comma (a : Int) : pstep a 44 = a := by unfold pstep; rw [if_neg (by decide)]
theorem pstep_point (a : Int) : pstep a 46 = a := by unfold pstep; rw [if_neg (by decide)]

theorem min_step (a d p r : Nat) (hp : 1 ≤ p) : min (min (a * 10 + d) 1000000000001 * p + r) 1000000000001 = min ((a * 10 + d) * p + r) 1000000000001 := by
  rcases Nat.lt_or_ge (a * 10 + d) 1000000000001 with h | h
  · rw [Nat.min_eq_left (Nat.le_of_lt h)]
  · rw [Nat.min_eq_right h, Nat.min_eq_right, Nat.min_eq_right]
    · calc 1000000000001 ≤ a * 10 + d := h
        _ = (a * 10 + d) * 1 := (Nat.mul_one _).symm
        _ ≤ (a * 10 + d) * p := Nat.mul_le_mul_left _ hp
        _ ≤ _ := Nat.le_add_right _ _
    · calc 1000000000001 = 1000000000001 * 1 := rfl
        _ ≤ 1000000000001 * p := Nat.mul_le_mul_left _ hp
        _ ≤ _ := Nat.le_add_right _ _

theorem pv_W (u : Nat) : ∀ (t a : Nat), a ≤ 1000000000001 → (W u t).foldl pstep (a : Int) = ((min (a * 10 ^ t + u / 100 % 10 ^ t) 1000000000001 : Nat) : Int)
  | 0, a, h => by
    simp only [W, List.foldl_nil, Nat.pow_zero, Nat.mul_one, Nat.mod_one, Nat.add_zero]
    rw [Nat.min_eq_left h]
  | t + 1, a, h => by
    have key : (W u (t + 1)).foldl pstep (a : Int) = (W u t).foldl pstep ((min (a * 10 + u / 10 ^ (t + 2) % 10) 1000000000001 : Nat) : Int) := by
      rw [W, List.foldl_cons, pstep_dg]
      split
      · rw [List.foldl_cons, pstep_comma]
      · rfl
    rw [key, pv_W u t _ (Nat.min_le_right _ _), min_step _ _ _ _ (Nat.pow_pos (by decide))]
    congr 2
    have e1 : u / 10 ^ (t + 2) = u / 100 / 10 ^ t := by
      rw [Nat.div_div_eq_div_mul, Nat.pow_add, Nat.mul_comm]
    rw [e1, Nat.mod_pow_succ, Nat.add_mul, Nat.pow_succ, Nat.mul_assoc, Nat.mul_comm 10 (10 ^ t), Nat.mul_comm (u / 100 / 10 ^ t % 10)]
    omega

theorem pv_whole (u : Nat) : pv (W u (nDigits (u / 100))) = ((min (u / 100) 1000000000001 : Nat) : Int) := by
  have h := pv_W u (nDigits (u / 100)) 0 (by decide)
  rw [Nat.zero_mul, Nat.zero_add, Nat.mod_eq_of_lt (Lib.lt_pow_nDigits _)] at h
  exact h
theorem pv_cents (u : Nat) : pv [46, dg u 1, dg u 0] = ((u % 100 : Nat) : Int) := by
  show pstep (pstep (pstep 0 46) (dg u 1)) (dg u 0) = _
  rw [pstep_point, show (0 : Int) = ((0 : Nat) : Int) from rfl, pstep_dg, pstep_dg]
  congr 1
  simp only [Nat.pow_one, Nat.pow_zero, Nat.div_one]
  omega
theorem cf_cents (u : Nat) : cf [46, dg u 1, dg u 0] < 0 := by
  have h : runLen isDg [dg u 1, dg u 0] = 2 := by simp [runLen, List.takeWhile, dg_isDg]
  simp [cf, h]

theorem take_W (u t : Nat) (r : List UInt8) : (W u t ++ 46 :: r).takeWhile isW = W u t ∧ runLen isW (W u t ++ 46 :: r) = (W u t).length := by
  have h : (W u t ++ 46 :: r).takeWhile isW = W u t := by
    rw [List.takeWhile_append_of_pos (W_isW u t)]
    have : isW 46 = false := by decide
    simp [List.takeWhile, this]
  exact ⟨h, by rw [runLen, h]⟩

theorem S_len (u : Nat) : ∀ k, (S u k).length ≤ 2 * k
  | 0 => by simp [S]
  | k + 1 => by
    have := S_len u k
    rw [S]
    split
    · simp; omega
    · split <;> (simp; omega)
theorem txt_len (u : Nat) (h : u < 18446744073709551616) : (txt u).length ≤ 60 := by
  have h1 := S_len u (nDigits (u / 100) + 2)
  have h2 : nDigits (u / 100) ≤ 20 := by
    rcases Nat.eq_zero_or_pos (u / 100) with e | e
    · rw [e, Lib.nDigits_small (by decide)]; decide
    · have := Lib.numDigits_eq (u / 100) e (by omega)
      split at this <;> omega
  unfold txt
  omega
end Go.Proofs.YtagkplcomhomcaaDoor

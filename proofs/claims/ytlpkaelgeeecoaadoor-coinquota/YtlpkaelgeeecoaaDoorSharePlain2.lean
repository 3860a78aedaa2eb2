/-
  The shares, plain: the places that get a cent are picked one by one; how many there are; who gets none.
-/
import Derived.Test.YtlpkaelgeeecoaaDoorShared2
namespace Go.Proofs.YtlpkaelgeeecoaaDoor
open Go.Sort

theorem lst_congr {f g : Nat → Int} : ∀ n, (∀ i, i < n → f i = g i) → lst f n = lst g n := fun n h => by
  unfold lst
  exact List.map_congr_left (fun i hi => h i (List.mem_range.1 hi))
theorem lst_add (f g : Nat → Int) : ∀ n, (lst (fun i => f i + g i) n).sum = (lst f n).sum + (lst g n).sum
  | 0 => by simp [lst]
  | n + 1 => by rw [lst_succ, lst_succ, lst_succ, lst_add f g n]; omega
theorem lst_le {f g : Nat → Int} : ∀ n, (∀ i, i < n → f i ≤ g i) → (lst f n).sum ≤ (lst g n).sum
  | 0, _ => by simp [lst]
  | n + 1, h => by
    have := lst_le n (fun i hi => h i (by omega))
    have := h n (by omega)
    rw [lst_succ, lst_succ]; omega
theorem lst_mul (c : Int) (f : Nat → Int) : ∀ n, (lst (fun i => c * f i) n).sum = c * (lst f n).sum
  | 0 => by simp [lst]
  | n + 1 => by rw [lst_succ, lst_succ, lst_mul c f n, Int.mul_add]
theorem lst_one (x : Nat) : ∀ n, (lst (fun i => if i = x then 1 else 0) n).sum = if x < n then 1 else 0
  | 0 => by simp [lst]
  | n + 1 => by
    rw [lst_succ, lst_one x n]
    by_cases h : n = x
    · subst h; simp
    · rw [if_neg h]
      by_cases h2 : x < n
      · rw [if_pos h2, if_pos (by omega)]; rfl
      · rw [if_neg h2, if_neg (by omega)]; rfl

section
variable {N : Nat}
def hit1 (d : Array (Fin (N + 1))) (k i : Nat) : Int := if hits d k i then 1 else 0
theorem hit1_succ {d : Array (Fin (N + 1))} (ho : Once d) (k : Nat) (hk : k < N + 1) (i : Nat) : hit1 d (k + 1) i = hit1 d k i + if i = d[k]!.val then 1 else 0 := by
  unfold hit1
  rw [hits_succ]
  by_cases e : i = d[k]!.val
  · have hnot : hits d k i = false := by
      rw [← Bool.not_eq_true, hits_iff]
      rintro ⟨j, hj, e'⟩
      have := ho j k (by omega) hk (by rw [e', e])
      omega
    rw [hnot, if_pos e, e]; simp
  · have : (d[k]!.val == i) = false := by simpa using fun h => e h.symm
    rw [if_neg e, this, Bool.or_false]; simp
theorem hit1_sum {d : Array (Fin (N + 1))} (ho : Once d) : ∀ k, k ≤ N + 1 → (lst (hit1 d k) (N + 1)).sum = k
  | 0, _ => by
    have : (lst (hit1 d 0) (N + 1)) = lst (fun i => 0 * (0 : Int)) (N + 1) := lst_congr _ (fun i _ => by simp [hit1, hits])
    rw [this, lst_mul 0 (fun _ => 0)]; simp
  | k + 1, h => by
    have : (lst (hit1 d (k + 1)) (N + 1)) = lst (fun i => hit1 d k i + if i = d[k]!.val then 1 else 0) (N + 1) := lst_congr _ (fun i _ => hit1_succ ho k (by omega) i)
    rw [this, lst_add, hit1_sum ho k (by omega), lst_one, if_pos d[k]!.isLt]
    omega

/-- What has not been picked comes behind. -/
theorem behind {d : Array (Fin (N + 1))} {g : Nat → Int} (hs : SortedIn (ltT fun i => g i.val) 0 (N + 1) d) (hall : ∀ i, i < N + 1 → ∃ j, j < N + 1 ∧ d[j]!.val = i) (k i : Nat) (hi : i < N + 1) (hk : k < N + 1) (hn : hits d k i = false) (hne : i ≠ d[k]!.val) :
    g i < g d[k]!.val ∨ (g i = g d[k]!.val ∧ d[k]!.val < i) := by
  obtain ⟨j, hj, e⟩ := hall i hi
  have hjk : k < j := by
    rcases Nat.lt_trichotomy j k with h | h | h
    · have : hits d k i = true := (hits_iff _ _ _).2 ⟨j, h, e⟩
      rw [this] at hn; cases hn
    · subst h; exact absurd e.symm hne
    · exact h
  have := (ltT_not _ _ _).1 (hs k j (Nat.zero_le _) hjk hj)
  simp only [e] at this
  omega
/-- The first one of the greatest is the next one. -/
theorem picked {d : Array (Fin (N + 1))} {g : Nat → Int} (hg : ∀ i, i < N + 1 → 0 ≤ g i) (ho : Once d) (hs : SortedIn (ltT fun i => g i.val) 0 (N + 1) d) (hall : ∀ i, i < N + 1 → ∃ j, j < N + 1 ∧ d[j]!.val = i) (k x : Nat) (hk : k < N + 1) (hx : x < N + 1)
    (h1 : ∀ j, j < N + 1 → (if hits d k j then -1 else g j) ≤ (if hits d k x then -1 else g x)) (h2 : ∀ j, j < x → (if hits d k j then -1 else g j) < (if hits d k x then -1 else g x)) : x = d[k]!.val := by
  have hd := d[k]!.isLt
  have hnk : hits d k d[k]!.val = false := by
    rw [← Bool.not_eq_true, hits_iff]
    rintro ⟨j, hj, e⟩
    have := ho j k (by omega) hk e
    omega
  have a1 := h1 d[k]!.val hd
  rw [hnk] at a1
  have g0 := hg d[k]!.val hd
  cases hx2 : hits d k x
  · rw [hx2] at a1
    simp only [Bool.false_eq_true, if_false] at a1
    by_cases e : x = d[k]!.val
    · exact e
    · rcases behind hs hall k x hx hk hx2 e with h | ⟨h, h'⟩
      · omega
      · have := h2 d[k]!.val h'
        rw [hnk, hx2] at this
        simp only [Bool.false_eq_true, if_false] at this
        omega
  · rw [hx2] at a1
    simp only [Bool.false_eq_true, if_false, if_true] at a1
    omega
end

/-- Who has no weight gets none. -/
theorem none_hit {N : Nat} {d : Array (Fin (N + 1))} (T all : Int) (wv : Nat → Int) (ha : 0 < all) (hsum : (lst wv (N + 1)).sum = all) (ho : Once d) (hs : SortedIn (ltT fun i => rf T all wv i.val) 0 (N + 1) d) (hall : ∀ i, i < N + 1 → ∃ j, j < N + 1 ∧ d[j]!.val = i)
    (x : Nat) (hx : rf T all wv x = 0) (lf : Nat) (hlf : T - (lst (qf T all wv) (N + 1)).sum = lf) (hln : lf ≤ N + 1) : hits d lf x = false := by
  rw [← Bool.not_eq_true, hits_iff]
  rintro ⟨j, hj, rfl⟩
  have r0 : ∀ i, 0 ≤ rf T all wv i := fun i => Int.emod_nonneg _ (by omega)
  have r1 : ∀ i, rf T all wv i < all := fun i => Int.emod_lt_of_pos _ ha
  have hle : (lst (rf T all wv) (N + 1)).sum ≤ (lst (fun i => (all - 1) * hit1 d j i) (N + 1)).sum := by
    refine lst_le _ (fun i hi => ?_)
    unfold hit1
    cases hh : hits d j i
    · have : rf T all wv i = 0 := by
        by_cases e : i = d[j]!.val
        · rw [e]; exact hx
        · have h3 := behind hs hall j i hi (by omega) hh e
          have := r0 i
          omega
      rw [this]; simp
    · have := r1 i
      simp only [if_true, Int.mul_one]; omega
  rw [lst_mul, hit1_sum ho j (by omega)] at hle
  have h1 := sum_qr T all wv (N + 1)
  rw [hsum] at h1
  have h4 : (lst (rf T all wv) (N + 1)).sum = (lf : Int) * all := by rw [← hlf, Int.sub_mul]; omega
  rw [h4, Int.sub_mul, Int.one_mul, Int.mul_comm] at hle
  have h5 : all * ((j : Int) + 1) ≤ all * lf := Int.mul_le_mul_of_nonneg_left (by omega) (by omega)
  rw [Int.mul_add, Int.mul_one] at h5
  omega
theorem parts_sum {N : Nat} {d : Array (Fin (N + 1))} (T all : Int) (wv : Nat → Int) (ho : Once d) (lf : Nat) (hlf : T - (lst (qf T all wv) (N + 1)).sum = lf) (hln : lf ≤ N + 1) : (lst (fun i => qf T all wv i + hit1 d lf i) (N + 1)).sum = T := by
  rw [lst_add, hit1_sum ho lf hln]; omega

end Go.Proofs.YtlpkaelgeeecoaaDoor

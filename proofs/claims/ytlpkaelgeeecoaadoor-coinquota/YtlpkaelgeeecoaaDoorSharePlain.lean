/-
  The shares, plain: what the roundings leave, and who gets it.
-/
import Derived.Test.YtlpkaelgeeecoaaDoorShared
namespace Go.Proofs.YtlpkaelgeeecoaaDoor
open Go.Sort

/-! What is left, and how much that is. -/
theorem lst_succ (f : Nat → Int) (n : Nat) : (lst f (n + 1)).sum = (lst f n).sum + f n := by
  simp [lst, List.range_succ]
theorem sum_qr (T all : Int) (wv : Nat → Int) : ∀ n, (lst (qf T all wv) n).sum * all + (lst (rf T all wv) n).sum = T * (lst wv n).sum
  | 0 => by simp [lst]
  | n + 1 => by
    have ih := sum_qr T all wv n
    rw [lst_succ, lst_succ, lst_succ, Int.add_mul, Int.mul_add]
    have h : qf T all wv n * all + rf T all wv n = T * wv n := by
      unfold qf rf
      rw [Int.mul_comm]; exact Int.mul_ediv_add_emod _ _
    omega
theorem sum_r (T all : Int) (wv : Nat → Int) (ha : 0 < all) : ∀ n, 0 ≤ (lst (rf T all wv) n).sum ∧ (lst (rf T all wv) n).sum ≤ n * all - n
  | 0 => by simp [lst]
  | n + 1 => by
    have ih := sum_r T all wv ha n
    have h1 : 0 ≤ rf T all wv n := Int.emod_nonneg _ (by omega)
    have h2 : rf T all wv n < all := Int.emod_lt_of_pos _ ha
    rw [lst_succ, Int.natCast_add, Int.add_mul]
    simp only [Int.natCast_one, Int.one_mul]
    omega
theorem left_bd (T all : Int) (wv : Nat → Int) (n : Nat) (ha : 0 < all) (hn : 0 < n) (hall : (lst wv n).sum = all) : 0 ≤ T - (lst (qf T all wv) n).sum ∧ T - (lst (qf T all wv) n).sum < n := by
  have h1 := sum_qr T all wv n
  obtain ⟨h2, h3⟩ := sum_r T all wv ha n
  rw [hall] at h1
  have h4 : (T - (lst (qf T all wv) n).sum) * all = (lst (rf T all wv) n).sum := by rw [Int.sub_mul]; omega
  constructor
  · by_cases h : T - (lst (qf T all wv) n).sum < 0
    · have := Int.mul_neg_of_neg_of_pos h ha
      omega
    · omega
  · by_cases h : T - (lst (qf T all wv) n).sum < n
    · exact h
    · have := Int.mul_le_mul_of_nonneg_right (show (n : Int) ≤ T - (lst (qf T all wv) n).sum by omega) (Int.le_of_lt ha)
      omega
theorem part_le (wv : Nat → Int) : ∀ n, (∀ i, i < n → 0 ≤ wv i) → 0 ≤ (lst wv n).sum ∧ ∀ i, i < n → wv i ≤ (lst wv n).sum
  | 0, _ => by simp [lst]
  | n + 1, h => by
    obtain ⟨h1, h2⟩ := part_le wv n (fun i hi => h i (by omega))
    have h3 := h n (by omega)
    rw [lst_succ]
    refine ⟨by omega, fun i hi => ?_⟩
    rcases Nat.lt_or_ge i n with k | k
    · have := h2 i k; omega
    · obtain rfl : i = n := by omega
      omega
theorem q_bd (T all : Int) (wv : Nat → Int) (n : Nat) (hT : 0 ≤ T) (ha : 0 < all) (hv : ∀ i, i < n → 0 ≤ wv i) (hall : (lst wv n).sum = all) (i : Nat) (hi : i < n) : 0 ≤ qf T all wv i ∧ qf T all wv i ≤ T := by
  have h1 := hv i hi
  have h2 := (part_le wv n hv).2 i hi
  rw [hall] at h2
  have h3 : 0 ≤ T * wv i := Int.mul_nonneg hT h1
  have h4 : T * wv i ≤ T * all := Int.mul_le_mul_of_nonneg_left h2 hT
  unfold qf
  exact ⟨Int.ediv_nonneg h3 (by omega), Int.ediv_le_of_le_mul ha h4⟩

/-! Who gets a cent. -/
section
variable {N : Nat}
def hits (d : Array (Fin (N + 1))) (k i : Nat) : Bool := (List.range k).any fun j => d[j]!.val == i
theorem hits_iff (d : Array (Fin (N + 1))) (k i : Nat) : hits d k i = true ↔ ∃ j, j < k ∧ d[j]!.val = i := by simp [hits]
theorem hits_succ (d : Array (Fin (N + 1))) (k i : Nat) : hits d (k + 1) i = (hits d k i || (d[k]!.val == i)) := by simp [hits, List.range_succ]
/-- Each place once. -/
def Once (d : Array (Fin (N + 1))) : Prop := ∀ i j, i < N + 1 → j < N + 1 → d[i]!.val = d[j]!.val → i = j
theorem once_of {d0 d : Array (Fin (N + 1))} (h0 : d0.size = N + 1) (hid : ∀ i, i < N + 1 → d0[i]!.val = i) (p : PermIn 0 (N + 1) d0 d) : Once d ∧ ∀ i, i < N + 1 → ∃ j, j < N + 1 ∧ d[j]!.val = i := by
  have hz : d.size = N + 1 := p.1.trans h0
  have ext : ∀ (a : Array (Fin (N + 1))) (m : Nat), a.size = m → a.extract 0 m = a := fun a m h => by subst h; exact Array.extract_size
  have e0 := ext d0 _ h0
  have e1 := ext d _ hz
  have hp := p.2.2
  rw [e0, e1] at hp
  have hnd0 : d0.toList.Nodup := by
    refine List.pairwise_iff_getElem.2 fun i j hi hj hij e => ?_
    have hi' : i < d0.size := by simpa using hi
    have hj' : j < d0.size := by simpa using hj
    have a1 := hid i (by omega)
    have a2 := hid j (by omega)
    rw [getElem!_pos d0 i hi'] at a1
    rw [getElem!_pos d0 j hj'] at a2
    have e' : d0[i] = d0[j] := by simpa using e
    rw [e'] at a1
    omega
  have hnd : d.toList.Nodup := hp.nodup_iff.2 hnd0
  refine ⟨fun i j hi hj e => ?_, fun i hi => ?_⟩
  · rw [getElem!_pos d i (by omega), getElem!_pos d j (by omega)] at e
    have e' : d.toList[i]'(by simp; omega) = d.toList[j]'(by simp; omega) := by simpa using Fin.ext e
    exact (List.getElem_inj hnd).1 e'
  · have hm : d0[i]! ∈ d0.toList := by rw [getElem!_pos d0 i (by omega)]; simp
    have := hp.symm.mem_iff.1 hm
    obtain ⟨j, hj, e⟩ := List.getElem_of_mem this
    refine ⟨j, by simpa [hz] using hj, ?_⟩
    rw [getElem!_pos d j (by simpa using hj)]
    have : d[j]'(by simpa using hj) = d0[i]! := by simpa using e
    rw [this]; exact hid i hi
end

end Go.Proofs.YtlpkaelgeeecoaaDoor

/-
  Merging in place, plain: places of an array. No program.
-/
import Derived.Sort.Lot0
import Derived.Sort.LotA
namespace Go.Proofs.YtlpkaelgeeecoaaDoor
open Go.Sort

/-- 'Not less' over two. -/
theorem nle {α : Type} {lt : α → α → Bool} (S : SWO lt) {x y z : α} (h1 : lt y x = false) (h2 : lt z y = false) : lt z x = false := S.ntrans _ _ _ h2 h1
theorem asym {α : Type} {lt : α → α → Bool} (S : SWO lt) {x y : α} (h : lt x y = true) : lt y x = false := by
  cases k : lt y x
  · rfl
  · have := S.trans _ _ _ h k
    rw [S.irrefl] at this
    cases this

variable {α : Type} [Inhabited α]

/-- The parts from s to m and from m to e have changed places. -/
structure Rot (s m e : Nat) (d d1 : Array α) : Prop where
  lo : ∀ k, s ≤ k → k < s + (e - m) → d1[k]! = d[k + (m - s)]!
  hi : ∀ k, s + (e - m) ≤ k → k < e → d1[k]! = d[k - (e - m)]!
  perm : PermIn s e d d1

theorem Rot.none {s m e : Nat} {d : Array α} (h1 : s ≤ m) (h2 : m ≤ e) (h : s = m ∨ m = e) : Rot s m e d d := by
  refine ⟨fun k a b => ?_, fun k a b => ?_, permIn_refl _ _ _⟩
  · rcases h with rfl | rfl
    · simp
    · omega
  · rcases h with rfl | rfl
    · omega
    · simp

section
variable {lt : α → α → Bool} {bf : α → α → Prop}

theorem sorted_mono {a b a' b' : Nat} {d : Array α} (h : SortedIn lt a b d) (h1 : a ≤ a') (h2 : b' ≤ b) : SortedIn lt a' b' d := fun i j x y z => h i j (by omega) y (by omega)

theorem sorted_le (S : SWO lt) {a b : Nat} {d : Array α} (h : SortedIn lt a b d) {i j : Nat} (hi : a ≤ i) (hij : i ≤ j) (hj : j < b) : lt d[j]! d[i]! = false := by
  rcases Nat.lt_or_ge i j with k | k
  · exact h i j hi k hj
  · obtain rfl : i = j := by omega
    exact S.irrefl _

/-- What the search for the place hands over: all of the first half ahead of all of the second. -/
theorem halves (S : SWO lt) {d d1 : Array α} {a start m e mid b : Nat} (has : a ≤ start) (hsm : start ≤ m) (hme : m ≤ e) (heb : e ≤ b) (hmid : start + (e - m) = mid)
    (hX : SortedIn lt a m d) (hY : SortedIn lt m b d) (hR : Rot start m e d d1)
    (h1 : a < start → e < b → lt d[e]! d[start - 1]! = false) (h2 : start < m → m < e → lt d[start]! d[e - 1]! = false) :
    ∀ i, a ≤ i → i < mid → ∀ j, mid ≤ j → j < b → lt d1[j]! d1[i]! = false := by
  have out : ∀ k, k < start ∨ e ≤ k → d1[k]! = d[k]! := hR.perm.2.1
  intro i hi1 hi2 j hj1 hj2
  rcases Nat.lt_or_ge i start with hi | hi
  · rw [out i (.inl hi)]
    rcases Nat.lt_or_ge j e with hj | hj
    · rw [hR.hi j (by omega) hj]
      exact sorted_le S hX hi1 (by omega) (by omega)
    · rw [out j (.inr hj)]
      have t1 := sorted_le S hX (i := i) (j := start - 1) hi1 (by omega) (by omega)
      have t2 := h1 (by omega) (by omega)
      have t3 := sorted_le S hY (i := e) (j := j) (by omega) hj hj2
      exact nle S t1 (nle S t2 t3)
  · rw [hR.lo i hi (by omega)]
    rcases Nat.lt_or_ge j e with hj | hj
    · rw [hR.hi j (by omega) hj]
      have t1 := sorted_le S hY (i := i + (m - start)) (j := e - 1) (by omega) (by omega) (by omega)
      have t2 := h2 (by omega) (by omega)
      have t3 := sorted_le S hX (i := start) (j := j - (e - m)) (by omega) (by omega) (by omega)
      exact nle S t1 (nle S t2 t3)
    · rw [out j (.inr hj)]
      exact sorted_le S hY (by omega) (by omega) hj2

theorem sorted_parts {d d1 : Array α} {a start m e mid b : Nat} (has : a ≤ start) (hsm : start ≤ m) (hme : m ≤ e) (heb : e ≤ b) (hmid : start + (e - m) = mid)
    (hX : SortedIn lt a m d) (hY : SortedIn lt m b d) (hR : Rot start m e d d1) :
    SortedIn lt a start d1 ∧ SortedIn lt start mid d1 ∧ SortedIn lt mid e d1 ∧ SortedIn lt e b d1 := by
  have out : ∀ k, k < start ∨ e ≤ k → d1[k]! = d[k]! := hR.perm.2.1
  refine ⟨fun i j x y z => ?_, fun i j x y z => ?_, fun i j x y z => ?_, fun i j x y z => ?_⟩
  · rw [out i (.inl (by omega)), out j (.inl z)]; exact hX i j x y (by omega)
  · rw [hR.lo i x (by omega), hR.lo j (by omega) (by omega)]; exact hY _ _ (by omega) (by omega) (by omega)
  · rw [hR.hi i (by omega) (by omega), hR.hi j (by omega) z]; exact hX _ _ (by omega) (by omega) (by omega)
  · rw [out i (.inr x), out j (.inr (by omega))]; exact hY i j (by omega) y z

/-- In each half the left row's numbers stay below the right row's. -/
theorem ahead_parts {d d1 : Array α} {a start m e mid b : Nat} (has : a ≤ start) (hsm : start ≤ m) (hme : m ≤ e) (heb : e ≤ b) (hmid : start + (e - m) = mid)
    (hI : ∀ i, a ≤ i → i < m → ∀ j, m ≤ j → j < b → bf d[i]! d[j]!) (hR : Rot start m e d d1) :
    (∀ i, a ≤ i → i < start → ∀ j, start ≤ j → j < mid → bf d1[i]! d1[j]!) ∧ (∀ i, mid ≤ i → i < e → ∀ j, e ≤ j → j < b → bf d1[i]! d1[j]!) := by
  have out : ∀ k, k < start ∨ e ≤ k → d1[k]! = d[k]! := hR.perm.2.1
  refine ⟨fun i x y j z u => ?_, fun i x y j z u => ?_⟩
  · rw [out i (.inl y), hR.lo j z (by omega)]; exact hI _ x (by omega) _ (by omega) (by omega)
  · rw [hR.hi i (by omega) y, out j (.inr z)]; exact hI _ (by omega) (by omega) _ (by omega) u

/-- Both halves put in order. -/
theorem join_halves {d1 d2 d3 : Array α} {a mid b : Nat} (ham : a ≤ mid) (hmb : mid ≤ b) (hb : b ≤ d1.size)
    (hc : ∀ i, a ≤ i → i < mid → ∀ j, mid ≤ j → j < b → lt d1[j]! d1[i]! = false)
    (p2 : PermIn a mid d1 d2) (s2 : SortedIn lt a mid d2) (p3 : PermIn mid b d2 d3) (s3 : SortedIn lt mid b d3) : SortedIn lt a b d3 ∧ PermIn a b d1 d3 := by
  have hz : d2.size = d1.size := p2.1
  have c2 : ∀ j, mid ≤ j → j < b → ∀ i, a ≤ i → i < mid → lt d1[j]! d2[i]! = false := fun j u v =>
    permIn_all d1 d2 a mid (fun x => lt d1[j]! x = false) (by omega) p2 (fun i x y => hc i x y j u v)
  have c3 : ∀ i, a ≤ i → i < mid → ∀ j, mid ≤ j → j < b → lt d3[j]! d2[i]! = false := fun i x y =>
    permIn_all d2 d3 mid b (fun z => lt z d2[i]! = false) (by omega) p3 (fun j u v => by
      rw [p2.2.1 j (.inr u)]; exact c2 j u v i x y)
  refine ⟨fun i j x y z => ?_, permIn_trans _ _ _ _ _ (permIn_mono _ _ _ _ _ _ (Nat.le_refl _) hmb hb p2) (permIn_mono _ _ _ _ _ _ ham (Nat.le_refl _) (by omega) p3)⟩
  rcases Nat.lt_or_ge i mid with hi | hi
  · rcases Nat.lt_or_ge j mid with hj | hj
    · rw [p3.2.1 i (.inl hi), p3.2.1 j (.inl hj)]; exact s2 i j x y hj
    · rw [p3.2.1 i (.inl hi)]; exact c3 i x hi j hj z
  · exact s3 i j hi y z

theorem combine (S : SWO lt) {d : Array α} {a s b : Nat} (h1 : SortedIn lt a s d) (h2 : SortedIn lt s b d) (h : a < s → s < b → lt d[s]! d[s - 1]! = false) : SortedIn lt a b d := by
  intro i j x y z
  rcases Nat.lt_or_ge j s with hj | hj
  · exact h1 i j x y hj
  · rcases Nat.lt_or_ge i s with hi | hi
    · have t1 := sorted_le S h1 (i := i) (j := s - 1) x (by omega) (by omega)
      have t2 := sorted_le S h2 (i := s) (j := j) (Nat.le_refl _) hj z
      exact nle S t1 (nle S (h (by omega) (by omega)) t2)
    · exact h2 i j hi y z
/-- Where the row is turned and nothing is left to do in the halves: one element alone to the left .. -/
theorem one_left (S : SWO lt) {d d1 : Array α} {a i b : Nat} (h1 : a + 1 ≤ i) (h2 : i ≤ b) (hY : SortedIn lt (a + 1) b d) (hR : Rot a (a + 1) i d d1)
    (p1 : i = a + 1 ∨ lt d[i - 1]! d[a]! = true) (p2 : i = b ∨ lt d[i]! d[a]! = false) (hb : b ≤ d.size) : SortedIn lt a b d1 ∧ PermIn a b d d1 := by
  have hX : SortedIn lt a (a + 1) d := fun i j x y z => by omega
  obtain ⟨_, s2, s3, s4⟩ := sorted_parts (mid := a + (i - (a + 1))) (Nat.le_refl a) (by omega) h1 h2 rfl hX hY hR
  have hh := halves S (Nat.le_refl a) (by omega) h1 h2 rfl hX hY hR (by omega) (fun _ k => asym S (p1.resolve_left (by omega)))
  have out : ∀ k, k < a ∨ i ≤ k → d1[k]! = d[k]! := hR.perm.2.1
  have hm : SortedIn lt (a + (i - (a + 1))) b d1 := combine S s3 s4 (fun _ k => by
    rw [out i (.inr (Nat.le_refl _)), hR.hi (i - 1) (by omega) (by omega), show i - 1 - (i - (a + 1)) = a by omega]
    exact p2.resolve_left (by omega))
  refine ⟨fun x y u v z => ?_, permIn_mono _ _ _ _ _ _ (Nat.le_refl _) h2 hb hR.perm⟩
  rcases Nat.lt_or_ge y (a + (i - (a + 1))) with k | k
  · exact s2 x y u v k
  · rcases Nat.lt_or_ge x (a + (i - (a + 1))) with k2 | k2
    · exact hh x u k2 y k z
    · exact hm x y k2 v z
/-- .. to the right. -/
theorem one_right (S : SWO lt) {d d1 : Array α} {a i m : Nat} (h1 : a ≤ i) (h2 : i ≤ m) (hX : SortedIn lt a m d) (hR : Rot i m (m + 1) d d1)
    (p1 : i = a ∨ lt d[m]! d[i - 1]! = false) (p2 : i = m ∨ lt d[m]! d[i]! = true) (hb : m + 1 ≤ d.size) : SortedIn lt a (m + 1) d1 ∧ PermIn a (m + 1) d d1 := by
  have hY : SortedIn lt m (m + 1) d := fun i j x y z => by omega
  obtain ⟨s1, s2, s3, _⟩ := sorted_parts (mid := i + (m + 1 - m)) h1 h2 (by omega) (Nat.le_refl _) rfl hX hY hR
  have hh := halves S h1 h2 (by omega) (Nat.le_refl _) rfl hX hY hR (by omega) (fun k _ => by
    rw [show m + 1 - 1 = m by omega]; exact asym S (p2.resolve_left (by omega)))
  have out : ∀ k, k < i ∨ m + 1 ≤ k → d1[k]! = d[k]! := hR.perm.2.1
  have hm : SortedIn lt a (i + (m + 1 - m)) d1 := combine S s1 s2 (fun k _ => by
    rw [out (i - 1) (.inl (by omega)), hR.lo i (Nat.le_refl _) (by omega), show i + (m - i) = m by omega]
    exact p1.resolve_left (by omega))
  refine ⟨fun x y u v z => ?_, permIn_mono _ _ _ _ _ _ h1 (Nat.le_refl _) hb hR.perm⟩
  rcases Nat.lt_or_ge y (i + (m + 1 - m)) with k | k
  · exact hm x y u v k
  · rcases Nat.lt_or_ge x (i + (m + 1 - m)) with k2 | k2
    · exact hh x u k2 y k z
    · exact s3 x y k2 v z

/-- One exchange more. -/
theorem shl_step {d dk : Array α} {a k : Nat} (hak : a ≤ k) (hk : k + 1 < d.size) (h : Rot a (a + 1) (k + 1) d dk) : Rot a (a + 1) (k + 1 + 1) d (swp dk k (k + 1)) := by
  have hz : dk.size = d.size := h.perm.1
  have out : ∀ k', k' < a ∨ k + 1 ≤ k' → dk[k']! = d[k']! := h.perm.2.1
  refine ⟨fun j x y => ?_, fun j x y => ?_, ?_⟩
  · rcases Nat.lt_or_ge j k with hj | hj
    · rw [swp_other _ _ _ _ (by omega) (by omega)]; exact h.lo j x (by omega)
    · obtain rfl : j = k := by omega
      rw [swp_left _ _ _ (by omega) (by omega), out _ (.inr (Nat.le_refl _))]
      congr 1; omega
  · obtain rfl : j = k + 1 := by omega
    rw [swp_right _ _ _ (by omega), h.hi k (by omega) (by omega)]
    congr 1; omega
  · exact permIn_trans _ _ _ _ _ (permIn_mono _ _ _ _ _ _ (Nat.le_refl _) (by omega) (by omega) h.perm) (swp_permIn _ _ _ _ _ hak (by omega) (by omega) (by omega) (by omega))
theorem shr_step {d dk : Array α} {k m : Nat} (hkm : k + 1 ≤ m) (hm : m < d.size) (h : Rot (k + 1) m (m + 1) d dk) : Rot k m (m + 1) d (swp dk (k + 1) k) := by
  have hz : dk.size = d.size := h.perm.1
  have out : ∀ k', k' < k + 1 ∨ m + 1 ≤ k' → dk[k']! = d[k']! := h.perm.2.1
  refine ⟨fun j x y => ?_, fun j x y => ?_, ?_⟩
  · obtain rfl : j = k := by omega
    rw [swp_right _ _ _ (by omega), h.lo (j + 1) (Nat.le_refl _) (by omega)]
    congr 1; omega
  · rcases Nat.lt_or_ge (k + 1) j with hj | hj
    · rw [swp_other _ _ _ _ (by omega) (by omega)]; exact h.hi j (by omega) y
    · obtain rfl : j = k + 1 := by omega
      rw [swp_left _ _ _ (by omega) (by omega), out k (.inl (by omega))]
      congr 1; omega
  · exact permIn_trans _ _ _ _ _ (permIn_mono _ _ _ _ _ _ (by omega) (Nat.le_refl _) (by omega) h.perm) (swp_permIn _ _ _ _ _ (by omega) (by omega) (Nat.le_refl _) (by omega) (by omega))

/-- n places from a and from b have changed places, one by one. -/
structure Swd (a b n : Nat) (d d1 : Array α) : Prop where
  left : ∀ k, k < n → d1[a + k]! = d[b + k]!
  right : ∀ k, k < n → d1[b + k]! = d[a + k]!
  out : ∀ k, (k < a ∨ a + n ≤ k) → (k < b ∨ b + n ≤ k) → d1[k]! = d[k]!
  perm : PermIn a (b + n) d d1
theorem Swd.zero (a b : Nat) (d : Array α) : Swd a b 0 d d := ⟨fun _ h => by omega, fun _ h => by omega, fun _ _ _ => rfl, permIn_refl _ _ _⟩
theorem Swd.step {a b n : Nat} {d d1 : Array α} (h : Swd a b n d d1) (hab : a + (n + 1) ≤ b) (hb : b + n < d.size) : Swd a b (n + 1) d (swp d1 (a + n) (b + n)) := by
  have hz : d1.size = d.size := h.perm.1
  refine ⟨fun k hk => ?_, fun k hk => ?_, fun k h1 h2 => ?_, ?_⟩
  · rcases Nat.lt_or_ge k n with hj | hj
    · rw [swp_other _ _ _ _ (by omega) (by omega)]; exact h.left k hj
    · obtain rfl : k = n := by omega
      rw [swp_left _ _ _ (by omega) (by omega)]; exact h.out _ (by omega) (by omega)
  · rcases Nat.lt_or_ge k n with hj | hj
    · rw [swp_other _ _ _ _ (by omega) (by omega)]; exact h.right k hj
    · obtain rfl : k = n := by omega
      rw [swp_right _ _ _ (by omega)]; exact h.out _ (by omega) (by omega)
  · rw [swp_other _ _ _ _ (by omega) (by omega)]; exact h.out k (by omega) (by omega)
  · exact permIn_trans _ _ _ _ _ (permIn_mono _ _ _ _ _ _ (Nat.le_refl _) (by omega) (by omega) h.perm) (swp_permIn _ _ _ _ _ (by omega) (by omega) (by omega) (by omega) (by omega))

/-- The turn, under way: i to the left of m and j to the right are still to change places; dk is that far, T what it comes to. -/
structure Turn (a m b i j : Nat) (T : Nat → α) (d dk : Array α) : Prop where
  lo : ∀ k, m - i ≤ k → k < m - i + j → T k = dk[k + i]!
  hi : ∀ k, m - i + j ≤ k → k < m + j → T k = dk[k - j]!
  done : ∀ k, a ≤ k → k < b → (k < m - i ∨ m + j ≤ k) → T k = dk[k]!
  perm : PermIn a b d dk
theorem Turn.more {a m b i j : Nat} {T : Nat → α} {d dk d1 : Array α} (h : Turn a m b i j T d dk) (hi : a + i ≤ m) (hj : m + j ≤ b) (hb : b ≤ d.size) (hij : j < i) (s : Swd (m - i) m j dk d1) : Turn a m b (i - j) j T d d1 := by
  have hz : dk.size = d.size := h.perm.1
  refine ⟨fun k x y => ?_, fun k x y => ?_, fun k x y z => ?_, ?_⟩
  · have e := s.right (k + (i - j) - m) (by omega)
    rw [show m + (k + (i - j) - m) = k + (i - j) by omega] at e
    rw [e, h.hi k (by omega) (by omega)]
    congr 1; omega
  · rw [s.out (k - j) (by omega) (by omega), h.hi k (by omega) (by omega)]
  · rcases Nat.lt_or_ge k (m - i) with c | c
    · rw [s.out k (by omega) (by omega)]; exact h.done k x y (by omega)
    · rcases Nat.lt_or_ge k (m - (i - j)) with c2 | c2
      · have e := s.left (k - (m - i)) (by omega)
        rw [show m - i + (k - (m - i)) = k by omega] at e
        rw [e, h.lo k (by omega) (by omega)]
        congr 1; omega
      · rw [s.out k (by omega) (by omega)]; exact h.done k x y (by omega)
  · exact permIn_trans _ _ _ _ _ h.perm (permIn_mono _ _ _ _ _ _ (by omega) (by omega) (by omega) s.perm)
theorem Turn.less {a m b i j : Nat} {T : Nat → α} {d dk d1 : Array α} (h : Turn a m b i j T d dk) (hi : a + i ≤ m) (hj : m + j ≤ b) (hb : b ≤ d.size) (hij : i < j) (s : Swd (m - i) (m + j - i) i dk d1) : Turn a m b i (j - i) T d d1 := by
  have hz : dk.size = d.size := h.perm.1
  refine ⟨fun k x y => ?_, fun k x y => ?_, fun k x y z => ?_, ?_⟩
  · rw [s.out (k + i) (by omega) (by omega), h.lo k (by omega) (by omega)]
  · have e := s.left (k - (j - i) - (m - i)) (by omega)
    rw [show m - i + (k - (j - i) - (m - i)) = k - (j - i) by omega] at e
    rw [e, h.lo k (by omega) (by omega)]
    congr 1; omega
  · rcases Nat.lt_or_ge k (m + (j - i)) with c | c
    · rw [s.out k (by omega) (by omega)]; exact h.done k x y (by omega)
    · rcases Nat.lt_or_ge k (m + j) with c2 | c2
      · have e := s.right (k - (m + j - i)) (by omega)
        rw [show m + j - i + (k - (m + j - i)) = k by omega] at e
        rw [e, h.hi k (by omega) (by omega)]
        congr 1; omega
      · rw [s.out k (by omega) (by omega)]; exact h.done k x y (by omega)
  · exact permIn_trans _ _ _ _ _ h.perm (permIn_mono _ _ _ _ _ _ (by omega) (by omega) (by omega) s.perm)
theorem Turn.last {a m b i : Nat} {T : Nat → α} {d dk d1 : Array α} (h : Turn a m b i i T d dk) (hi : a + i ≤ m) (hj : m + i ≤ b) (hb : b ≤ d.size) (s : Swd (m - i) m i dk d1) : (∀ k, a ≤ k → k < b → T k = d1[k]!) ∧ PermIn a b d d1 := by
  have hz : dk.size = d.size := h.perm.1
  refine ⟨fun k x y => ?_, permIn_trans _ _ _ _ _ h.perm (permIn_mono _ _ _ _ _ _ (by omega) (by omega) (by omega) s.perm)⟩
  rcases Nat.lt_or_ge k (m - i) with c | c
  · rw [s.out k (by omega) (by omega)]; exact h.done k x y (by omega)
  · rcases Nat.lt_or_ge k m with c2 | c2
    · have e := s.left (k - (m - i)) (by omega)
      rw [show m - i + (k - (m - i)) = k by omega] at e
      rw [e, h.lo k (by omega) (by omega)]
      congr 1; omega
    · rcases Nat.lt_or_ge k (m + i) with c3 | c3
      · have e := s.right (k - m) (by omega)
        rw [show m + (k - m) = k by omega] at e
        rw [e, h.hi k (by omega) (by omega)]
        congr 1; omega
      · rw [s.out k (by omega) (by omega)]; exact h.done k x y (by omega)
def turned (d : Array α) (a m b k : Nat) : α := if k < a + (b - m) then d[k + (m - a)]! else d[k - (b - m)]!
theorem Turn.first (d : Array α) {a m b : Nat} (h1 : a ≤ m) (h2 : m ≤ b) : Turn a m b (m - a) (b - m) (turned d a m b) d d := by
  refine ⟨fun k x y => ?_, fun k x y => ?_, fun k x y z => by omega, permIn_refl _ _ _⟩
  · rw [turned, if_pos (by omega)]
  · rw [turned, if_neg (by omega)]
theorem rot_of {d d1 : Array α} {a m b : Nat} (h1 : a ≤ m) (h2 : m ≤ b) (h : ∀ k, a ≤ k → k < b → turned d a m b k = d1[k]!) (p : PermIn a b d d1) : Rot a m b d d1 := by
  refine ⟨fun k x y => ?_, fun k x y => ?_, p⟩
  · rw [← h k x (by omega), turned, if_pos y]
  · rw [← h k (by omega) y, turned, if_neg (by omega)]
end
end Go.Proofs.YtlpkaelgeeecoaaDoor

/-
  Bands, plainly: what they take, that it grows, and how fast. No program in this text.
-/
import Derived.KernelRfl
namespace Go.Proofs.YtlpkaelgeeecoaaDoor

/-- What one band takes of x: up to the next one's From, if there is one. -/
def term (x : Int) (f r : Int) : List (Int × Int) → Int
  | [] => max (x - f) 0 * r
  | (f2, _) :: _ => max (min x f2 - f) 0 * r
def tk (x : Int) : List (Int × Int) → Int
  | [] => 0
  | (f, r) :: t => term x f r t + tk x t
def bigT : Int := 10000000000010000
/-- .. with a sum that stops growing. -/
def tkS (x : Int) : Int → List (Int × Int) → Int
  | acc, [] => acc
  | acc, (f, r) :: t => tkS x (min (acc + term x f r t) bigT) t

def okB (p : Int × Int) : Bool := decide (0 ≤ p.1 ∧ p.1 ≤ 1000000000000 ∧ 0 ≤ p.2 ∧ p.2 ≤ 1000000)
def rise : List (Int × Int) → Bool
  | [] => true
  | [_] => true
  | (f, _) :: (f2, r2) :: t => decide (f < f2) && rise ((f2, r2) :: t)

theorem ok_iff {p : Int × Int} (h : okB p = true) : 0 ≤ p.1 ∧ p.1 ≤ 1000000000000 ∧ 0 ≤ p.2 ∧ p.2 ≤ 1000000 := by simpa [okB] using h

theorem term_nn (x f r : Int) (t : List (Int × Int)) (hr : 0 ≤ r) : 0 ≤ term x f r t := by
  unfold term
  split
  · exact Int.mul_nonneg (by omega) hr
  · exact Int.mul_nonneg (by omega) hr
theorem mul_bd2 (a r : Int) (h2 : a ≤ 1000000000000) (h3 : 0 ≤ r) (h4 : r ≤ 1000000) : a * r ≤ 1000000000000000000 := by
  have h5 : a * r ≤ 1000000000000 * r := Int.mul_le_mul_of_nonneg_right h2 h3
  have h6 : (1000000000000 : Int) * r ≤ 1000000000000 * 1000000 := Int.mul_le_mul_of_nonneg_left h4 (by decide)
  omega
theorem term_le (x f r : Int) (t : List (Int × Int)) (hx : x ≤ 1000000000000) (hf : 0 ≤ f) (h3 : 0 ≤ r) (h4 : r ≤ 1000000) : term x f r t ≤ 1000000000000000000 := by
  unfold term
  split
  · exact mul_bd2 _ r (by omega) h3 h4
  · exact mul_bd2 _ r (by omega) h3 h4
theorem tk_nn (x : Int) : ∀ l : List (Int × Int), (∀ p, p ∈ l → okB p = true) → 0 ≤ tk x l
  | [], _ => by simp [tk]
  | (f, r) :: t, h => by
    have h1 := ok_iff (h (f, r) (List.mem_cons_self ..))
    have h2 := tk_nn x t (fun p hp => h p (List.mem_cons_of_mem _ hp))
    have h3 := term_nn x f r t h1.2.2.1
    unfold tk
    omega
theorem tkS_eq (x : Int) : ∀ (l : List (Int × Int)) (acc : Int), (∀ p, p ∈ l → okB p = true) → 0 ≤ acc → acc ≤ bigT → tkS x acc l = min (acc + tk x l) bigT
  | [], acc, _, h0, h1 => by simp [tkS, tk]; omega
  | (f, r) :: t, acc, h, h0, h1 => by
    have k1 := ok_iff (h (f, r) (List.mem_cons_self ..))
    have k2 := tk_nn x t (fun p hp => h p (List.mem_cons_of_mem _ hp))
    have k3 := term_nn x f r t k1.2.2.1
    have hT : 0 ≤ bigT := by decide
    unfold tkS tk
    rw [tkS_eq x t _ (fun p hp => h p (List.mem_cons_of_mem _ hp)) (by omega) (by omega)]
    omega
theorem tkS_bd (x : Int) : ∀ (l : List (Int × Int)) (acc : Int), (∀ p, p ∈ l → okB p = true) → 0 ≤ acc → acc ≤ bigT → 0 ≤ tkS x acc l ∧ tkS x acc l ≤ bigT := fun l acc h h0 h1 => by
  have := tk_nn x l h
  have hT : 0 ≤ bigT := by decide
  rw [tkS_eq x l acc h h0 h1]
  omega

theorem term_mono {x y : Int} (h : x ≤ y) (f r : Int) (t : List (Int × Int)) (hr : 0 ≤ r) : term x f r t ≤ term y f r t := by
  unfold term
  split
  · exact Int.mul_le_mul_of_nonneg_right (by omega) hr
  · exact Int.mul_le_mul_of_nonneg_right (by omega) hr
theorem tk_mono {x y : Int} (h : x ≤ y) : ∀ l : List (Int × Int), (∀ p, p ∈ l → okB p = true) → tk x l ≤ tk y l
  | [], _ => by simp [tk]
  | (f, r) :: t, hl => by
    have h1 := ok_iff (hl (f, r) (List.mem_cons_self ..))
    have h2 := tk_mono h t (fun p hp => hl p (List.mem_cons_of_mem _ hp))
    have h3 := term_mono h f r t h1.2.2.1
    unfold tk
    omega
theorem lip1 (A B r : Int) (h : A ≤ B) (h1 : r ≤ 10000) : B * r - A * r ≤ 10000 * (B - A) := by
  have h2 : (B - A) * r ≤ (B - A) * 10000 := Int.mul_le_mul_of_nonneg_left h1 (by omega)
  rw [Int.sub_mul] at h2
  omega
theorem tk_lip {x y : Int} (h : x ≤ y) : ∀ (f r : Int) (t : List (Int × Int)), (∀ p, p ∈ (f, r) :: t → okB p = true ∧ p.2 ≤ 10000) → rise ((f, r) :: t) = true →
    tk y ((f, r) :: t) - tk x ((f, r) :: t) ≤ 10000 * (max (y - f) 0 - max (x - f) 0)
  | f, r, [], hl, _ => by
    have h2 := (hl (f, r) (List.mem_cons_self ..)).2
    have := lip1 (max (x - f) 0) (max (y - f) 0) r (by omega) h2
    simp only [tk, term]
    omega
  | f, r, (f2, r2) :: t, hl, hr => by
    have h2 := (hl (f, r) (List.mem_cons_self ..)).2
    have hr' : f < f2 ∧ rise ((f2, r2) :: t) = true := by simpa [rise] using hr
    have ih := tk_lip h f2 r2 t (fun p hp => hl p (List.mem_cons_of_mem _ hp)) hr'.2
    have := lip1 (max (min x f2 - f) 0) (max (min y f2 - f) 0) r (by omega) h2
    show (max (min y f2 - f) 0 * r + tk y ((f2, r2) :: t)) - (max (min x f2 - f) 0 * r + tk x ((f2, r2) :: t)) ≤ _
    omega
theorem tk_grows {x m : Int} (hm : 0 ≤ m) (l : List (Int × Int)) (hl : ∀ p, p ∈ l → okB p = true ∧ p.2 ≤ 10000) (hr : rise l = true) : tk (x + m) l - tk x l ≤ 10000 * m := by
  cases l with
  | nil => simp [tk]; omega
  | cons p t =>
    obtain ⟨f, r⟩ := p
    have := tk_lip (x := x) (y := x + m) (by omega) f r t hl hr
    omega
end Go.Proofs.YtlpkaelgeeecoaaDoor

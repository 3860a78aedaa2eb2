/-
  Rounding, plain: n over P by a way.
-/
import Derived.Test.YtgfkaheoahkbcaaDoorDay
namespace Go.Proofs.YtgfkaheoahkbcaaDoor
open Go.RowKit Go.Extern.Stop Go.Stop Go.Extern

/-- n over P by a way. -/
def rnd (n P way : Int) : Int :=
  if n % P = 0 then n / P
  else if way = 0 then (if 0 < n then n / P else n / P + 1)
  else if way = 1 then (if 0 < n then n / P + 1 else n / P)
  else if way = 2 then n / P
  else if way = 3 then n / P + 1
  else if 2 * (n % P) < P then n / P
  else if P < 2 * (n % P) then n / P + 1
  else if way = 5 then (if n / P % 2 = 0 then n / P else n / P + 1)
  else if 0 < n then n / P + 1 else n / P

/-- Does the way leave 0? -/
def lzB (near rest P step way : Int) : Bool :=
  if way = 1 then true else if way = 2 then decide (step < 0) else if way = 3 then decide (0 < step) else if way = 4 then decide (P ≤ 2 * rest)
  else if way = 5 then decide (P < 2 * rest ∨ 2 * rest = P ∧ near % 2 ≠ 0) else false

theorem lz_way {way : Int} (h0 : 0 ≤ way) (h5 : way ≤ 5) : way = 0 ∨ way = 1 ∨ way = 2 ∨ way = 3 ∨ way = 4 ∨ way = 5 := by omega
theorem rnd_zero (n P way : Int) (h : n % P = 0) : rnd n P way = n / P := by unfold rnd; rw [if_pos h]
theorem tm2 (a : Int) (h : a < 0) : a.tmod 2 = -((-a) % 2) := by
  have h2 : (-(-a)).tmod 2 = -((-a).tmod 2) := Int.neg_tmod _ _
  rw [Int.neg_neg, Int.tmod_eq_emod_of_nonneg (a := -a) (by omega)] at h2
  exact h2
end Go.Proofs.YtgfkaheoahkbcaaDoor

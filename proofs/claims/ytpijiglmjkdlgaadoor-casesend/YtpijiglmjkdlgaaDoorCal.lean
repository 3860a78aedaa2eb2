/-
  Calendars in memory; which days work, to the program and to the reference.
-/
import Derived.Test.YtpijiglmjkdlgaaDoorMonths
import Derived.Test.YtpijiglmjkdlgaaDoorShelf
import Derived.Sort.Row
import Derived.Deep.RegionWith
namespace Go.Proofs.YtpijiglmjkdlgaaDoor
open Go.RowKit Go.Extern.Stop Go.Stop Go.Extern

/-- A row of numbers in memory, by its slice. -/
def Row (w : World) (v : Value) (xs : List Int) : Prop :=
  (v = .slice none 0 0 ∧ xs = []) ∨ ∃ g cap, v = .slice (some ⟨g, 0, none⟩) xs.length cap ∧ g < w.heap.size ∧ xs.length ≤ cap ∧ ∀ (j : Nat) (x : Int), xs[j]? = some x → w.cell? ⟨g, j, none⟩ = some (.int .i64 x)
theorem Row.below {w w' : World} {v : Value} {xs : List Int} (h : Row w v xs) (hb : Below w.heap.size w w') : Row w' v xs := by
  rcases h with h | ⟨g, cap, rfl, hg, hc, hx⟩
  · exact .inl h
  · exact .inr ⟨g, cap, rfl, Nat.lt_of_lt_of_le hg hb.size, hc, fun j x hj => (hb.cell (p := ⟨g, j, none⟩) hg).trans (hx j x hj)⟩
structure Cal (w : World) (b : Nat) (off : Int → Bool) (xs : List Int) (v : Value) : Prop where
  lt : b < w.heap.size
  day : ∀ i : Nat, i < 7 → w.cell? ⟨b, i, none⟩ = some (.bool (off i))
  sl : w.cell? ⟨b, 7, none⟩ = some v
  row : Row w v xs
  few : xs.length ≤ 100
theorem Cal.below {w w' : World} {b : Nat} {off : Int → Bool} {xs : List Int} {v : Value} (h : Cal w b off xs v) (hb : Below w.heap.size w w') : Cal w' b off xs v :=
  ⟨Nat.lt_of_lt_of_le h.lt hb.size, fun i hi => (hb.cell (p := ⟨b, i, none⟩) h.lt).trans (h.day i hi), (hb.cell (p := ⟨b, 7, none⟩) h.lt).trans h.sl, h.row.below hb, h.few⟩
theorem Cal.drewN {w : World} {b : Nat} {off : Int → Bool} {xs : List Int} {v : Value} (h : Cal w b off xs v) (n : Nat) : Cal (w.drewN n) b off xs v := h.below (bdrewN (Below.refl _ _) n)
theorem getD_of {xs : List Int} {j : Nat} (h : j < xs.length) : xs[j]? = some (xs.getD j 0) := by
  rw [List.getD_eq_getElem?_getD, List.getElem?_eq_getElem h]; rfl
theorem wk_nat (n : Int) : ∃ k : Nat, wk n = k ∧ k < 7 := ⟨(wk n).toNat, by have := wk_bd n; omega, by have := wk_bd n; omega⟩
end Go.Proofs.YtpijiglmjkdlgaaDoor

/-
  The calendar that a law is handed, and both calendars made of it.
-/
import Derived.Test.YtlebpojohaplnaaDoorBothNone
namespace Go.Proofs.YtlebpojohaplnaaDoor
open Go.RowKit Go.Sort Go.Lib

/-- The calendar that the law is handed, in memory. -/
structure CalArg (w : World) (B : Nat → Bool) (n : Nat) (oa ha : Option Addr) (m c2 : Nat) (xs : List Int) : Prop where
  n1 : n ≤ 9223372036854775807
  m1 : m ≤ 9223372036854775807
  hm : m = xs.length
  off : ∀ i : Nat, i < n → ∃ ob oo, oa = some ⟨ob, oo, none⟩ ∧ ob < w.heap.size ∧ w.cell? ⟨ob, oo + i, none⟩ = some (.bool (B i))
  hol : (ha = none ∧ m = 0 ∧ c2 = 0) ∨ ∃ ad : Addr, ha = some ad ∧ ∀ (j : Nat) (x : Int), xs[j]? = some x → (ad.add j).block < w.heap.size ∧ w.cell? (ad.add j) = some (.int .i64 x)
theorem CalArg.below {w w' : World} {B : Nat → Bool} {n : Nat} {oa ha : Option Addr} {m c2 : Nat} {xs : List Int} (h : CalArg w B n oa ha m c2 xs) (hb : Below w.heap.size w w') : CalArg w' B n oa ha m c2 xs := by
  refine ⟨h.n1, h.m1, h.hm, fun i hi => ?_, ?_⟩
  · obtain ⟨ob, oo, e, h1, h2⟩ := h.off i hi
    exact ⟨ob, oo, e, Nat.lt_of_lt_of_le h1 hb.size, (hb.cell (p := ⟨ob, oo + i, none⟩) h1).trans h2⟩
  · rcases h.hol with k | ⟨ad, e, h2⟩
    · exact .inl k
    · exact .inr ⟨ad, e, fun j x hx => ⟨Nat.lt_of_lt_of_le (h2 j x hx).1 hb.size, (hb.cell (p := ad.add j) (h2 j x hx).1).trans (h2 j x hx).2⟩⟩
def offB (B : Nat → Bool) (n : Nat) (j : Int) : Bool := upTo B n j.toNat
theorem both_any (B : Nat → Bool) (n cap : Nat) (oa ha : Option Addr) (m c2 : Nat) (xs : List Int) (w : World) (h : CalArg w B n oa ha m c2 xs) (hl : m ≤ 100) :
    Calls Tryd.prog 7 #[.agg #[.slice oa n cap, .slice ha m c2]] w fun e w' => ∃ v1 v2, e = .returned (.tuple #[.pointer (some ⟨w.heap.size + 1, 0, none⟩), .pointer (some ⟨w.heap.size + 2, 0, none⟩)]) ∧ Cal w' (w.heap.size + 1) (offB B n) xs v1 ∧ Cal w' (w.heap.size + 2) (offB B n) xs v2 ∧ Below w.heap.size w w' := by
  obtain ⟨n1, _, hm, ho, hh⟩ := h
  rcases hh with ⟨rfl, rfl, rfl⟩ | ⟨ad, rfl, h2⟩
  · obtain rfl := List.eq_nil_of_length_eq_zero hm.symm
    exact both_none n cap oa B w ho n1 (offB B n) (fun j _ => by unfold offB; simp)
  · subst hm
    exact both_some ad c2 n cap oa xs B w h2 hl ho n1 (offB B n) (fun j _ => by unfold offB; simp)

theorem cal_first (w : World) (t : TypeId) : Cal (w.alloc (.cells #[.bool false, .bool false, .bool false, .bool false, .bool false, .bool false, .bool false, .slice none 0 0] t)) w.heap.size (fun _ => false) [] (.slice none 0 0) := by
  have a1 : ∀ j : Nat, (w.alloc (.cells #[.bool false, .bool false, .bool false, .bool false, .bool false, .bool false, .bool false, .slice none 0 0] t)).cell? ⟨w.heap.size, j, none⟩ = #[Value.bool false, .bool false, .bool false, .bool false, .bool false, .bool false, .bool false, .slice none 0 0][j]? := fun j => by
    rw [World.cell?_alloc_at _ _ _ _ (by simp)]
  refine ⟨by simp, fun j hj => ?_, a1 7, .inl ⟨rfl, rfl⟩, by simp⟩
  rw [a1 j]
  have h : j = 0 ∨ j = 1 ∨ j = 2 ∨ j = 3 ∨ j = 4 ∨ j = 5 ∨ j = 6 := by omega
  rcases h with rfl | rfl | rfl | rfl | rfl | rfl | rfl <;> rfl
/-- The law's first calendar, behind the boxed argument. -/
theorem cal_first2 (w : World) (o : Obj) (t : TypeId) : Cal ((w.alloc o).alloc (.cells #[.bool false, .bool false, .bool false, .bool false, .bool false, .bool false, .bool false, .slice none 0 0] t)) (w.heap.size + 1) (fun _ => false) [] (.slice none 0 0) := by
  have h := cal_first (w.alloc o) t
  simpa using h
theorem works_5 : works (fun _ => false) [] 5 = true := by decide
/-- The boxed argument, and what lies below. -/
structure HandBox (w W : World) (offv holv : Value) : Prop where
  c0 : W.cell? ⟨w.heap.size, 0, none⟩ = some offv
  c1 : W.cell? ⟨w.heap.size, 1, none⟩ = some holv
  bel : Below w.heap.size w W
  lt : w.heap.size + 1 ≤ W.heap.size
theorem boxed_first {w W : World} {offv holv : Value} {t1 t2 : TypeId} {q : Nat} {os : Array Value} (hq : W = ((w.alloc (.cells #[offv, holv] t1)).alloc (.cells os t2)).drewN q) : HandBox w W offv holv := by
  subst hq
  have a0 : ∀ j : Nat, (((w.alloc (.cells #[offv, holv] t1)).alloc (.cells os t2)).drewN q).cell? ⟨w.heap.size, j, none⟩ = #[offv, holv][j]? := fun j => by
    show ((w.alloc (.cells #[offv, holv] t1)).alloc (.cells os t2)).cell? ⟨w.heap.size, j, none⟩ = _
    rw [World.cell?_alloc_lt _ _ ⟨w.heap.size, j, none⟩ (by simp), World.cell?_alloc_at _ _ _ _ rfl]
  refine ⟨a0 0, a0 1, bdrewN (((Below.refl _ _).alloc (Nat.le_refl _) _).alloc (by simp) _) q, ?_⟩
  show _ ≤ ((w.alloc (.cells #[offv, holv] t1)).alloc (.cells os t2)).heap.size
  simp
end Go.Proofs.YtlebpojohaplnaaDoor

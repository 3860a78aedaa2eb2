/-
  The n-th working day: plan.later, plan.earlier (written by tools/gensearch.py).
-/
import Derived.Test.YtpijiglmjkdlgaaDoorCount
namespace Go.Proofs.YtpijiglmjkdlgaaDoor
open Go.RowKit Go.Sort Go.Lib

/-- A plan and two numbers in their boxes, as long as only blocks are laid behind. -/
def Boxed (W : World) (bp bf bn : Nat) (a : Nat → Bool) (k : Int) (sv : Value) (f n : Int) : Prop :=
  ∀ w', Grn W w' → w'.cell? ⟨bp, 0, none⟩ = some (.bool (a 0)) ∧ w'.cell? ⟨bp, 1, none⟩ = some (.bool (a 1)) ∧ w'.cell? ⟨bp, 2, none⟩ = some (.bool (a 2)) ∧ w'.cell? ⟨bp, 3, none⟩ = some (.bool (a 3)) ∧ w'.cell? ⟨bp, 4, none⟩ = some (.bool (a 4)) ∧ w'.cell? ⟨bp, 5, none⟩ = some (.bool (a 5)) ∧ w'.cell? ⟨bp, 6, none⟩ = some (.bool (a 6)) ∧ w'.cell? ⟨bp, 7, none⟩ = some (.int .i64 k) ∧ w'.cell? ⟨bp, 8, none⟩ = some sv ∧ w'.cell? ⟨bf, 0, none⟩ = some (.int .i64 f) ∧ w'.cell? ⟨bn, 0, none⟩ = some (.int .i64 n)
theorem boxed_mk (w : World) (a : Nat → Bool) (k : Int) (sv : Value) (f n : Int) (t1 t2 t3 : TypeId) :
    Boxed (((w.alloc (.cells #[.bool (a 0), .bool (a 1), .bool (a 2), .bool (a 3), .bool (a 4), .bool (a 5), .bool (a 6), .int .i64 k, sv] t1)).alloc (.cells #[.int .i64 f] t2)).alloc (.cells #[.int .i64 n] t3)) w.heap.size (w.heap.size + 1) (w.heap.size + 2) a k sv f n := by
  intro w' hg
  have hb := hg.below
  have hs : (((w.alloc (.cells #[.bool (a 0), .bool (a 1), .bool (a 2), .bool (a 3), .bool (a 4), .bool (a 5), .bool (a 6), .int .i64 k, sv] t1)).alloc (.cells #[.int .i64 f] t2)).alloc (.cells #[.int .i64 n] t3)).heap.size = w.heap.size + 3 := by simp
  have c0 : ∀ (i : Nat) (u : Value), (#[Value.bool (a 0), .bool (a 1), .bool (a 2), .bool (a 3), .bool (a 4), .bool (a 5), .bool (a 6), .int .i64 k, sv])[i]? = some u → w'.cell? ⟨w.heap.size, i, none⟩ = some u := fun i u hu => by
    rw [hb.cell (p := ⟨w.heap.size, i, none⟩) (by rw [hs]; show w.heap.size < _; omega)]
    rw [World.cell?_alloc_lt _ _ ⟨w.heap.size, i, none⟩ (by simp; omega), World.cell?_alloc_lt _ _ ⟨w.heap.size, i, none⟩ (by simp), World.cell?_alloc_at _ _ _ _ rfl]
    exact hu
  refine ⟨c0 0 _ rfl, c0 1 _ rfl, c0 2 _ rfl, c0 3 _ rfl, c0 4 _ rfl, c0 5 _ rfl, c0 6 _ rfl, c0 7 _ rfl, c0 8 _ rfl, ?_, ?_⟩
  · rw [hb.cell (p := ⟨w.heap.size + 1, 0, none⟩) (by rw [hs]; show w.heap.size + 1 < _; omega)]
    rw [World.cell?_alloc_lt _ _ ⟨w.heap.size + 1, 0, none⟩ (by simp), World.cell?_alloc_at _ _ _ _ (by simp)]
    rfl
  · rw [hb.cell (p := ⟨w.heap.size + 2, 0, none⟩) (by rw [hs]; show w.heap.size + 2 < _; omega)]
    rw [World.cell?_alloc_at _ _ _ _ (by simp)]
    rfl
theorem Boxed.grn {W W' : World} {bp bf bn : Nat} {a : Nat → Bool} {k : Int} {sv : Value} {f n : Int} (h : Boxed W bp bf bn a k sv f n) (hg : Grn W W') : Boxed W' bp bf bn a k sv f n := fun w' hg' => h w' (hg.trans hg')

/-- What is counted from a day on, up to it. -/
def upG (off : Int → Bool) (xs : List Int) (f : Int) (i : Nat) : Bool := works off xs (f + i)
def dnG (off : Int → Bool) (xs : List Int) (f : Int) (i : Nat) : Bool := works off xs (f - i)
theorem dn_count (off : Int → Bool) (xs : List Int) (f : Int) (i : Nat) : cn (fun j => works off xs (f - i + j)) (i + 1) = cn (dnG off xs f) (i + 1) := by
  have h := cn_rev (fun x => works off xs x) f (i + 1)
  have e : (fun j : Nat => works off xs (f - ((i + 1 : Nat) : Int) + j + 1)) = fun j : Nat => works off xs (f - i + j) := by
    funext j; congr 1; omega
  rw [e] at h
  exact h
theorem agg_slice {w : World} {sv : Value} {ys : List Int} (h : Row w sv ys) : ∃ c : Option Addr × Nat × Nat, sv = Value.slice c.1 c.2.1 c.2.2 := by
  rcases h with ⟨h, _⟩ | ⟨g, cap, h, _⟩
  · exact ⟨(none, 0, 0), h⟩
  · exact ⟨(some _, _, _), h⟩

set_option maxHeartbeats 2000000 in
theorem clos_up (off : Int → Bool) (xs : List Int) (f n : Int) (bp bf bn : Nat) (a : Nat → Bool) (sa : Option Addr) (sn sc i : Nat) (W : World) (hp : IsPlan W (planV a (weekOf off) (.slice sa sn sc)) off xs) (hbx : Boxed W bp bf bn a (weekOf off) (.slice sa sn sc) f n)
    (h1 : 1 ≤ f) (h2 : f + i < 3652060) :
    Calls Tryd.prog 88 (#[.int .i64 i] ++ #[.pointer (some ⟨bp, 0, none⟩), .pointer (some ⟨bf, 0, none⟩), .pointer (some ⟨bn, 0, none⟩)]) W fun e w' => e = .returned (.bool (decide (n ≤ cn (upG off xs f) (i + 1)))) ∧ Grn W w' := by
  have HC : Hid (∀ w', Grn W w' → Calls Tryd.prog 89 #[.agg #[.bool (a 0), .bool (a 1), .bool (a 2), .bool (a 3), .bool (a 4), .bool (a 5), .bool (a 6), .int .i64 (weekOf off), .slice sa sn sc], .int .i64 (f), .int .i64 (f + i + 1)] w' fun e w'' => e = .returned (.int .i64 (cn (upG off xs f) (i + 1))) ∧ Grn W w'') := fun w' hg => by
    have h := count_any _ off xs (f) (f + i + 1) w' (hp.below hg.below) (by omega) (by omega) (by omega)
    rw [show (f + i + 1 - f).toNat = i + 1 by omega] at h
    refine h.mono ?_
    rintro e w2 ⟨rfl, hg2⟩
    exact ⟨rfl, hg.trans hg2⟩
  have HB := hidIt hbx
  obtain ⟨q0, q1, q2, q3, q4, q5, q6, q7, q8, q9, q10⟩ := hbx W (Grn.refl W)
  have hgw := Grn.refl W
  have c1 := cn_nn (upG off xs f) (i + 1)
  clear hp hbx
  generalize cn (upG off xs f) (i + 1) = c at *
  have y1 : IntKind.i64.wrap (f + (i : Int)) = f + i := by rw [IntKind.wrap_i64]; omega
  have y2 : IntKind.i64.wrap (f + (i : Int) + 1) = f + i + 1 := by rw [IntKind.wrap_i64]; omega
  show Calls Tryd.prog 88 #[.int .i64 i, .pointer (some ⟨bp, 0, none⟩), .pointer (some ⟨bf, 0, none⟩), .pointer (some ⟨bn, 0, none⟩)] W _
  go_enter Tryd.func88, Tryd.ntmps88
  go_wp2_with fail
  go_region_with (go_at_call 89; refine (HC.out _ ?_).mono ?_; (· first | assumption | exact Grn.drew (by assumption) | exact Grn.drewN (by assumption) _); rintro e w2 ⟨rfl, hg2⟩; obtain ⟨r0, r1, r2, r3, r4, r5, r6, r7, r8, r9, r10⟩ := HB.out _ hg2)
  all_goals
    go_wp2
    go_ret
    exact ⟨rfl, by assumption⟩

set_option maxHeartbeats 2000000 in
theorem clos_dn (off : Int → Bool) (xs : List Int) (f n : Int) (bp bf bn : Nat) (a : Nat → Bool) (sa : Option Addr) (sn sc i : Nat) (W : World) (hp : IsPlan W (planV a (weekOf off) (.slice sa sn sc)) off xs) (hbx : Boxed W bp bf bn a (weekOf off) (.slice sa sn sc) f n)
    (h1 : f ≤ 3652059) (h2 : i < f) :
    Calls Tryd.prog 90 (#[.int .i64 i] ++ #[.pointer (some ⟨bp, 0, none⟩), .pointer (some ⟨bf, 0, none⟩), .pointer (some ⟨bn, 0, none⟩)]) W fun e w' => e = .returned (.bool (decide (n ≤ cn (dnG off xs f) (i + 1)))) ∧ Grn W w' := by
  have HC : Hid (∀ w', Grn W w' → Calls Tryd.prog 89 #[.agg #[.bool (a 0), .bool (a 1), .bool (a 2), .bool (a 3), .bool (a 4), .bool (a 5), .bool (a 6), .int .i64 (weekOf off), .slice sa sn sc], .int .i64 (f - i), .int .i64 (f + 1)] w' fun e w'' => e = .returned (.int .i64 (cn (dnG off xs f) (i + 1))) ∧ Grn W w'') := fun w' hg => by
    have h := count_any _ off xs (f - i) (f + 1) w' (hp.below hg.below) (by omega) (by omega) (by omega)
    rw [show (f + 1 - (f - i)).toNat = i + 1 by omega, dn_count] at h
    refine h.mono ?_
    rintro e w2 ⟨rfl, hg2⟩
    exact ⟨rfl, hg.trans hg2⟩
  have HB := hidIt hbx
  obtain ⟨q0, q1, q2, q3, q4, q5, q6, q7, q8, q9, q10⟩ := hbx W (Grn.refl W)
  have hgw := Grn.refl W
  have c1 := cn_nn (dnG off xs f) (i + 1)
  clear hp hbx
  generalize cn (dnG off xs f) (i + 1) = c at *
  have y1 : IntKind.i64.wrap (f - (i : Int)) = f - i := by rw [IntKind.wrap_i64]; omega
  have y2 : IntKind.i64.wrap (f + 1) = f + 1 := by rw [IntKind.wrap_i64]; omega
  show Calls Tryd.prog 90 #[.int .i64 i, .pointer (some ⟨bp, 0, none⟩), .pointer (some ⟨bf, 0, none⟩), .pointer (some ⟨bn, 0, none⟩)] W _
  go_enter Tryd.func90, Tryd.ntmps90
  go_wp2_with fail
  go_region_with (go_at_call 89; refine (HC.out _ ?_).mono ?_; (· first | assumption | exact Grn.drew (by assumption) | exact Grn.drewN (by assumption) _); rintro e w2 ⟨rfl, hg2⟩; obtain ⟨r0, r1, r2, r3, r4, r5, r6, r7, r8, r9, r10⟩ := HB.out _ hg2)
  all_goals
    go_wp2
    go_ret
    exact ⟨rfl, by assumption⟩
end Go.Proofs.YtpijiglmjkdlgaaDoor

/-
  Calendars in memory; which days work, to the program and to the reference.
-/
import Derived.Test.YtlebpojohaplnaaDoorMonths
import Derived.Test.YtlebpojohaplnaaDoorShelf
import Derived.Sort.Row
import Derived.Deep.RegionWith
namespace Go.Proofs.YtlebpojohaplnaaDoor
open Go.RowKit Go.Extern.Stop Go.Stop Go.Extern

/-- A row of numbers in memory, by its slice. -/
def Row (w : World) (v : Value) (xs : List Int) : Prop :=
  (v = .slice none 0 0 ∧ xs = []) ∨ ∃ g cap, v = .slice (some ⟨g, 0, none⟩) xs.length cap ∧ g < w.heap.size ∧ xs.length ≤ cap ∧ ∀ (j : Nat) (x : Int), xs[j]? = some x → w.cell? ⟨g, j, none⟩ = some (.int .i64 x)
theorem Row.below {w w' : World} {v : Value} {xs : List Int} (h : Row w v xs) (hb : Below w.heap.size w w') : Row w' v xs := by
  rcases h with h | ⟨g, cap, rfl, hg, hc, hx⟩
  · exact .inl h
  · exact .inr ⟨g, cap, rfl, Nat.lt_of_lt_of_le hg hb.size, hc, fun j x hj => (hb.cell (p := ⟨g, j, none⟩) hg).trans (hx j x hj)⟩
structure Cal (w : World) (b : Nat) (off : Int → Bool) (xs : List Int) (v : Value) : Prop where
  lt : b < w.heap.size
  day : ∀ i : Nat, i < 7 → w.cell? ⟨b, i, none⟩ = some (.bool (off i))
  sl : w.cell? ⟨b, 7, none⟩ = some v
  row : Row w v xs
  few : xs.length ≤ 100
theorem Cal.below {w w' : World} {b : Nat} {off : Int → Bool} {xs : List Int} {v : Value} (h : Cal w b off xs v) (hb : Below w.heap.size w w') : Cal w' b off xs v :=
  ⟨Nat.lt_of_lt_of_le h.lt hb.size, fun i hi => (hb.cell (p := ⟨b, i, none⟩) h.lt).trans (h.day i hi), (hb.cell (p := ⟨b, 7, none⟩) h.lt).trans h.sl, h.row.below hb, h.few⟩
theorem Cal.drewN {w : World} {b : Nat} {off : Int → Bool} {xs : List Int} {v : Value} (h : Cal w b off xs v) (n : Nat) : Cal (w.drewN n) b off xs v := h.below (bdrewN (Below.refl _ _) n)
theorem getD_of {xs : List Int} {j : Nat} (h : j < xs.length) : xs[j]? = some (xs.getD j 0) := by
  rw [List.getD_eq_getElem?_getD, List.getElem?_eq_getElem h]; rfl
theorem contains_row (v : Value) (xs : List Int) (n : Int) (w : World) (h : Row w v xs) (hl : xs.length ≤ 100) :
    Calls Tryd.prog 20 #[v, .int .i64 n] w fun e w' => e = .returned (.bool (xs.contains n)) ∧ w' = w := by
  rcases h with ⟨rfl, rfl⟩ | ⟨g, cap, rfl, hg, hc, hx⟩
  · exact Go.Proofs.Tryd.slices_Contains_int_empty none 0 n w
  · have := Go.Proofs.Tryd.slices_Contains_int g 0 xs.length cap xs n w (Nat.le_refl _) (by omega) (fun j hj => by rw [Nat.zero_add]; exact hx j _ (getD_of hj))
    rwa [List.take_length] at this

theorem wk_nat (n : Int) : ∃ k : Nat, wk n = k ∧ k < 7 := ⟨(wk n).toNat, by have := wk_bd n; omega, by have := wk_bd n; omega⟩

set_option maxHeartbeats 1000000 in
theorem works_any (b : Nat) (off : Int → Bool) (xs : List Int) (v : Value) (n : Int) (w : World) (h : Cal w b off xs v) :
    Calls Tryd.prog 6 #[.pointer (some ⟨b, 0, none⟩), .int .i64 n] w fun e w' => e = .returned (.bool (works off xs n)) ∧ ∃ q, w' = w.drewN q := by
  have HD := hidIt (fun w => isDay_any n w)
  cases hd : isDayB n
  · have HE : Hid (works off xs n = false) := by show _ = _; rw [works, hd]; rfl
    rw [hd] at HD
    clear hd h
    go_enter Tryd.func6, Tryd.ntmps6
    go_wp2_with (go_at_call 18; refine (HD.out _).mono ?_; rintro e w' ⟨rfl, rfl⟩)
    go_ret
    exact ⟨ret_bool HE.out.symm, 0, rfl⟩
  · obtain ⟨d1, d2⟩ := isDayB_iff.1 hd
    obtain ⟨k, hk, hk7⟩ := wk_nat n
    have HW := hidIt (fun w => week_ok n w d1 d2)
    rw [hk] at HW
    have hc := h.day k hk7
    have hs := h.sl
    have HC := hidIt (fun (q : Nat) => contains_row v xs n (w.drewN q) (h.row.below (bdrewN (Below.refl _ _) q)) h.few)
    have HE : Hid (works off xs n = (!off k && !xs.contains n)) := by show _ = _; rw [works, hd, hk]; rfl
    rw [hd] at HD
    have hkz : (k : Int) < 7 := by omega
    clear hd h hk
    generalize off k = o at *
    generalize xs.contains n = c at *
    cases o
    · go_enter Tryd.func6, Tryd.ntmps6
      go_wp2_with (go_at_call 18; refine (HD.out _).mono ?_; rintro e w' ⟨rfl, rfl⟩)
      go_quiet ((first | (go_at_call 19; exact Calls.quiet_of_same (HW.out _)) | (go_at_call 20; exact Calls.quiet_of_same (HC.out _))))
      go_wp2
      go_ret
      exact ⟨ret_bool HE.out.symm, _, rfl⟩
    · go_enter Tryd.func6, Tryd.ntmps6
      go_wp2_with (go_at_call 18; refine (HD.out _).mono ?_; rintro e w' ⟨rfl, rfl⟩)
      go_quiet ((first | (go_at_call 19; exact Calls.quiet_of_same (HW.out _)) | (go_at_call 20; exact Calls.quiet_of_same (HC.out _))))
      go_wp2
      go_ret
      exact ⟨ret_bool HE.out.symm, _, rfl⟩
end Go.Proofs.YtlebpojohaplnaaDoor

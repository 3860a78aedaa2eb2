/-
  A term's text: day.TermText and the reference's (written by tools/gentermtext.py).
-/
import Derived.Test.YtplhamloddighaaDoorTermOut
import Derived.Test.YtplhamloddighaaDoorDecimal
import Derived.Test.YtplhamloddighaaDoorShelfI
namespace Go.Proofs.YtplhamloddighaaDoor
open Go.RowKit Go.Sort Go.Lib

def unitT (h : Int) : Bool := decide (0 ≤ h) && decide (h ≤ 4)
def rollT (h : Int) : Bool := decide (0 ≤ h) && decide (h ≤ 2)
theorem isUnit_t (n : Int) (w : World) : Calls Tryd.prog 36 #[.int .i64 n] w fun e w' => e = .returned (.bool (unitT n)) ∧ w' = w := by
  unfold unitT
  cases h1 : decide (0 ≤ n)
  all_goals
    go_enter Tryd.func36, Tryd.ntmps36
    go_wp2
    go_ret
    exact ⟨rfl, rfl⟩
theorem isRoll_t (n : Int) (w : World) : Calls Tryd.prog 27 #[.int .i64 n] w fun e w' => e = .returned (.bool (rollT n)) ∧ w' = w := by
  unfold rollT
  cases h1 : decide (0 ≤ n)
  all_goals
    go_enter Tryd.func27, Tryd.ntmps27
    go_wp2
    go_ret
    exact ⟨rfl, rfl⟩
theorem belT (w : World) (o : Obj) : Below w.heap.size w (w.alloc o) := (Below.refl _ _).alloc (Nat.le_refl _) _
/-- A boxed term, and what lies below. -/
structure TB (w W : World) (N U R : Int) : Prop where
  c0 : W.cell? ⟨w.heap.size, 0, none⟩ = some (.int .i64 N)
  c1 : W.cell? ⟨w.heap.size, 0 + 1, none⟩ = some (.int .i64 U)
  c2 : W.cell? ⟨w.heap.size, 0 + 2, none⟩ = some (.int .i64 R)
  bel : Below w.heap.size w W
  lt : w.heap.size < W.heap.size
theorem TB.start (w : World) (N U R : Int) (t : TypeId) : TB w (w.alloc (.cells #[.int .i64 N, .int .i64 U, .int .i64 R] t)) N U R :=
  ⟨by simp, by simp, by simp, belT _ _, by simp⟩
theorem TB.on {w W W' : World} {N U R : Int} (h : TB w W N U R) (hb : Below W.heap.size W W') : TB w W' N U R :=
  ⟨(hb.cell (p := ⟨w.heap.size, 0, none⟩) h.lt).trans h.c0, (hb.cell (p := ⟨w.heap.size, 0 + 1, none⟩) h.lt).trans h.c1, (hb.cell (p := ⟨w.heap.size, 0 + 2, none⟩) h.lt).trans h.c2, h.bel.trans (hb.mono h.bel.size), Nat.lt_of_lt_of_le h.lt hb.size⟩
structure TW (w W : World) (N U R : Int) : Prop where
  t : TB w W N U R
  ks : ∀ j : Nat, j < 5 → W.cell? ⟨w.heap.size + 1, j, none⟩ = some (.string (wdS j))
  lt : w.heap.size + 1 < W.heap.size
theorem TW.start (w : World) (N U R : Int) (t u : TypeId) : TW w ((w.alloc (.cells #[.int .i64 N, .int .i64 U, .int .i64 R] t)).alloc (.cells #[.string ⟨#[100, 97, 121, 115]⟩, .string ⟨#[119, 111, 114, 107, 105, 110, 103, 32, 100, 97, 121, 115]⟩, .string ⟨#[119, 101, 101, 107, 115]⟩, .string ⟨#[109, 111, 110, 116, 104, 115]⟩, .string ⟨#[121, 101, 97, 114, 115]⟩] u)) N U R := by
  refine ⟨(TB.start w N U R t).on ((Below.refl _ _).alloc (Nat.le_refl _) _), fun j hj => ?_, by simp⟩
  rw [World.cell?_alloc_at _ _ _ _ (by simp)]
  have : j = 0 ∨ j = 1 ∨ j = 2 ∨ j = 3 ∨ j = 4 := by omega
  rcases this with rfl | rfl | rfl | rfl | rfl <;> rfl
theorem TW.on {w W W' : World} {N U R : Int} (h : TW w W N U R) (hb : Below W.heap.size W W') : TW w W' N U R :=
  ⟨h.t.on hb, fun j hj => (hb.cell (p := ⟨w.heap.size + 1, j, none⟩) h.lt).trans (h.ks j hj), Nat.lt_of_lt_of_le h.lt hb.size⟩
theorem itoa_in (w : World) (htab : TabIs Tryd.prog w "internal/strconv.uint64pow10" .u64 pow10Tab) (n : Nat) (h2 : n ≤ 100000) (w' : World) (hb : Below w.heap.size w w') :
    Calls Tryd.prog 47 #[.int .i64 n] w' fun e w'' => e = .returned (.string (dgs n)) ∧ Below w.heap.size w w'' := by
  have hI := Go.Proofs.Tryd.strconv_Itoa (n : Int) (by omega) (by omega) w' (tab_below htab hb (Nat.le_refl _))
  have e0 : (⟨(Lib.itoa (n : Int)).toArray⟩ : ByteArray) = dgs n := by rw [itoa_nonneg]; rfl
  rw [e0] at hI
  refine hI.mono ?_
  rintro e w2 ⟨rfl, k, os, rfl⟩
  exact ⟨rfl, hb.trans ((below_grow w' k os).mono hb.size)⟩
theorem dec_t (w : World) (n : Nat) (h2 : n ≤ 100000) (w' : World) (hb : Below w.heap.size w w') : Calls Tryd.prog 49 #[.int .i64 n] w' fun e w'' => e = .returned (.string (dgs n)) ∧ Below w.heap.size w w'' := by
  refine (decimal_any 5 n (by decide) (by simp; omega) w').mono ?_
  rintro e w2 ⟨rfl, hb2⟩
  exact ⟨rfl, hb.trans (hb2.mono hb.size)⟩
theorem dgs_le (n : Nat) (h : n ≤ 100000) : (dgs n).size ≤ 10 := by rw [dgs_size]; have := (nDigits_bd 5 n (by simp; omega)).2; omega
/-- A term's text. -/
def ttx (n k : Nat) : Nat → ByteArray
  | 0 => dgs n ++ ⟨#[32]⟩ ++ wdS k
  | 1 => dgs n ++ ⟨#[32]⟩ ++ wdS k ++ ⟨#[44, 32, 110, 101, 120, 116]⟩
  | _ => dgs n ++ ⟨#[32]⟩ ++ wdS k ++ ⟨#[44, 32, 98, 101, 102, 111, 114, 101]⟩

set_option maxHeartbeats 2000000 in
theorem termText_no (N U R : Int) (w : World) (h : (N < 0 ∨ 100000 < N ∨ U < 0 ∨ 4 < U ∨ R < 0 ∨ 2 < R)) :
    Calls Tryd.prog 22 #[.agg #[.int .i64 N, .int .i64 U, .int .i64 R]] w fun e w' => e = .returned (.string ⟨#[]⟩) ∧ Below w.heap.size w w' := by
  have HU := hidIt (fun w => isUnit_t U w)
  have HR := hidIt (fun w => isRoll_t R w)
  by_cases h0 : N < 0
  · clear h
    go_enter Tryd.func22, Tryd.ntmps22
    go_wp2
    go_ret
    exact ⟨rfl, belT _ _⟩
  by_cases h1 : 100000 < N
  · clear h
    go_enter Tryd.func22, Tryd.ntmps22
    go_wp2
    go_ret
    exact ⟨rfl, belT _ _⟩
  cases hu : unitT U
  · rw [hu] at HU
    clear h hu
    go_enter Tryd.func22, Tryd.ntmps22
    go_wp2_with fail
    refine (HU.out _).mono ?_
    rintro e w1 ⟨rfl, ew⟩
    subst w1
    go_wp2
    go_ret
    exact ⟨rfl, belT _ _⟩
  · have hr : rollT R = false := by
      unfold unitT at hu
      unfold rollT
      rw [Bool.and_eq_false_iff]
      simp only [decide_eq_false_iff_not, Bool.and_eq_true, decide_eq_true_eq] at *
      omega
    rw [hu] at HU
    rw [hr] at HR
    clear h hu hr
    go_enter Tryd.func22, Tryd.ntmps22
    go_wp2_with fail
    refine (HU.out _).mono ?_
    rintro e w1 ⟨rfl, ew⟩
    subst w1
    go_wp2_with fail
    refine (HR.out _).mono ?_
    rintro e w1 ⟨rfl, ew⟩
    subst w1
    go_wp2
    go_ret
    exact ⟨rfl, belT _ _⟩

set_option maxHeartbeats 2000000 in
theorem rTermText_no (N U R : Int) (w : World) (h : (N < 0 ∨ 100000 < N ∨ U < 0 ∨ 4 < U ∨ R < 0 ∨ 2 < R)) :
    Calls Tryd.prog 23 #[.agg #[.int .i64 N, .int .i64 U, .int .i64 R]] w fun e w' => e = .returned (.string ⟨#[]⟩) ∧ Below w.heap.size w w' := by
  by_cases k0 : N < 0
  · skip
    clear h
    go_enter Tryd.func23, Tryd.ntmps23
    go_wp2
    go_ret
    exact ⟨rfl, belT _ _⟩
  have k0' : 0 ≤ N := by omega
  clear k0
  by_cases k1 : 100000 < N
  · skip
    clear h
    go_enter Tryd.func23, Tryd.ntmps23
    go_wp2
    go_ret
    exact ⟨rfl, belT _ _⟩
  have k1' : N ≤ 100000 := by omega
  clear k1
  by_cases k2 : U < 0
  · skip
    clear h
    go_enter Tryd.func23, Tryd.ntmps23
    go_wp2
    go_ret
    exact ⟨rfl, belT _ _⟩
  have k2' : 0 ≤ U := by omega
  clear k2
  by_cases k3 : 4 < U
  · skip
    clear h
    go_enter Tryd.func23, Tryd.ntmps23
    go_wp2
    go_ret
    exact ⟨rfl, belT _ _⟩
  have k3' : U ≤ 4 := by omega
  clear k3
  by_cases k4 : R < 0
  · skip
    clear h
    go_enter Tryd.func23, Tryd.ntmps23
    go_wp2
    go_ret
    exact ⟨rfl, belT _ _⟩
  have k4' : 2 < R := by omega
  clear h
  go_enter Tryd.func23, Tryd.ntmps23
  go_wp2
  go_ret
  exact ⟨rfl, belT _ _⟩

set_option maxHeartbeats 8000000 in
set_option maxRecDepth 10000 in
theorem termText_0 (n k : Nat) (h1 : n ≤ 100000) (h2 : k < 5) (w : World) (htab : TabIs Tryd.prog w "internal/strconv.uint64pow10" .u64 pow10Tab) :
    Calls Tryd.prog 22 #[.agg #[.int .i64 n, .int .i64 k, .int .i64 0]] w fun e w' => e = .returned (.string (ttx n k 0)) ∧ Below w.heap.size w w' := by
  have HU := hidIt (fun w => isUnit_t k w)
  have HR := hidIt (fun w => isRoll_t 0 w)
  rw [show unitT k = true by unfold unitT; simp only [Bool.and_eq_true, decide_eq_true_eq]; omega] at HU
  rw [show rollT 0 = true by decide] at HR
  have HW := hidIt (fun w => unitWord_any k h2 w)
  have HX : Hid (ttx n k 0 = dgs n ++ ⟨#[32]⟩ ++ wdS k) := rfl
  have z1 := dgs_le n h1
  have z2 := wdS_size k
  have n1 : (0 : Int) ≤ n := by omega
  have n2 : (n : Int) ≤ 100000 := by omega
  have HTa := hidIt htab
  have HTB := hidIt (TB.start w n k 0 47)
  clear htab
  go_enter Tryd.func22, Tryd.ntmps22
  go_wp2_with fail
  refine (HU.out _).mono ?_
  rintro e w1 ⟨rfl, ew⟩
  subst w1
  go_wp2_with fail
  refine (HR.out _).mono ?_
  rintro e w0 ⟨rfl, ew⟩
  have HB0 : Hid (TB w w0 n k 0) := by show TB _ _ _ _ _; rw [ew]; exact HTB.out
  clear ew HTB
  have HC := hidIt (itoa_in w0 (tab_below HTa.out HB0.out.bel (Nat.le_refl _)) n h1)
  have c0 := HB0.out.c0
  have c1 := HB0.out.c1
  have c2 := HB0.out.c2
  have hB := Below.refl w0.heap.size w0
  generalize dgs n = dg at *
  generalize wdS k = wd at *
  go_wp2_with fail
  go_region_with (first | (go_at_call 47; refine (HC.out _ ?_).mono ?_; (· first | assumption | exact Below.drew (by assumption) | exact bdrewN (by assumption) _); rintro e w2 ⟨rfl, hb2⟩; have c0' := (HB0.out.on hb2).c0; have c1' := (HB0.out.on hb2).c1; have c2' := (HB0.out.on hb2).c2) | (go_at_call 43; refine (HW.out _).mono ?_; rintro e w2 ⟨rfl, ew⟩; subst ew))
  all_goals
    have HBw := hidIt (HB0.out.on (by assumption)).bel
    go_wp2
    go_ret
    exact ⟨by rw [HX.out]; rfl, by first | exact HBw.out | exact Below.drew HBw.out⟩

set_option maxHeartbeats 8000000 in
set_option maxRecDepth 10000 in
theorem termText_1 (n k : Nat) (h1 : n ≤ 100000) (h2 : k < 5) (w : World) (htab : TabIs Tryd.prog w "internal/strconv.uint64pow10" .u64 pow10Tab) :
    Calls Tryd.prog 22 #[.agg #[.int .i64 n, .int .i64 k, .int .i64 1]] w fun e w' => e = .returned (.string (ttx n k 1)) ∧ Below w.heap.size w w' := by
  have HU := hidIt (fun w => isUnit_t k w)
  have HR := hidIt (fun w => isRoll_t 1 w)
  rw [show unitT k = true by unfold unitT; simp only [Bool.and_eq_true, decide_eq_true_eq]; omega] at HU
  rw [show rollT 1 = true by decide] at HR
  have HW := hidIt (fun w => unitWord_any k h2 w)
  have HRW : Hid (∀ w, Calls Tryd.prog 48 #[.int .i64 1] w fun e w' => e = .returned (.string ⟨#[110, 101, 120, 116]⟩) ∧ w' = w) := fun w => rollWord_any 1 (by omega) w
  have HX : Hid (ttx n k 1 = dgs n ++ ⟨#[32]⟩ ++ wdS k ++ ⟨#[44, 32, 110, 101, 120, 116]⟩) := rfl
  have z1 := dgs_le n h1
  have z2 := wdS_size k
  have n1 : (0 : Int) ≤ n := by omega
  have n2 : (n : Int) ≤ 100000 := by omega
  have HTa := hidIt htab
  have HTB := hidIt (TB.start w n k 1 47)
  clear htab
  go_enter Tryd.func22, Tryd.ntmps22
  go_wp2_with fail
  refine (HU.out _).mono ?_
  rintro e w1 ⟨rfl, ew⟩
  subst w1
  go_wp2_with fail
  refine (HR.out _).mono ?_
  rintro e w0 ⟨rfl, ew⟩
  have HB0 : Hid (TB w w0 n k 1) := by show TB _ _ _ _ _; rw [ew]; exact HTB.out
  clear ew HTB
  have HC := hidIt (itoa_in w0 (tab_below HTa.out HB0.out.bel (Nat.le_refl _)) n h1)
  have c0 := HB0.out.c0
  have c1 := HB0.out.c1
  have c2 := HB0.out.c2
  have hB := Below.refl w0.heap.size w0
  generalize dgs n = dg at *
  generalize wdS k = wd at *
  go_wp2_with fail
  go_region_with (first | (go_at_call 47; refine (HC.out _ ?_).mono ?_; (· first | assumption | exact Below.drew (by assumption) | exact bdrewN (by assumption) _); rintro e w2 ⟨rfl, hb2⟩; have c0' := (HB0.out.on hb2).c0; have c1' := (HB0.out.on hb2).c1; have c2' := (HB0.out.on hb2).c2) | (go_at_call 43; refine (HW.out _).mono ?_; rintro e w2 ⟨rfl, ew⟩; subst ew))
  all_goals
    have HBw := hidIt (HB0.out.on (by assumption)).bel
    go_wp2_with fail
    refine (HRW.out _).mono ?_
    rintro e w9 ⟨rfl, ew⟩
    subst w9
    go_wp2
    go_ret
    exact ⟨by rw [HX.out]; rfl, by first | exact HBw.out | exact Below.drew HBw.out⟩

set_option maxHeartbeats 8000000 in
set_option maxRecDepth 10000 in
theorem termText_2 (n k : Nat) (h1 : n ≤ 100000) (h2 : k < 5) (w : World) (htab : TabIs Tryd.prog w "internal/strconv.uint64pow10" .u64 pow10Tab) :
    Calls Tryd.prog 22 #[.agg #[.int .i64 n, .int .i64 k, .int .i64 2]] w fun e w' => e = .returned (.string (ttx n k 2)) ∧ Below w.heap.size w w' := by
  have HU := hidIt (fun w => isUnit_t k w)
  have HR := hidIt (fun w => isRoll_t 2 w)
  rw [show unitT k = true by unfold unitT; simp only [Bool.and_eq_true, decide_eq_true_eq]; omega] at HU
  rw [show rollT 2 = true by decide] at HR
  have HW := hidIt (fun w => unitWord_any k h2 w)
  have HRW : Hid (∀ w, Calls Tryd.prog 48 #[.int .i64 2] w fun e w' => e = .returned (.string ⟨#[98, 101, 102, 111, 114, 101]⟩) ∧ w' = w) := fun w => rollWord_any 2 (by omega) w
  have HX : Hid (ttx n k 2 = dgs n ++ ⟨#[32]⟩ ++ wdS k ++ ⟨#[44, 32, 98, 101, 102, 111, 114, 101]⟩) := rfl
  have z1 := dgs_le n h1
  have z2 := wdS_size k
  have n1 : (0 : Int) ≤ n := by omega
  have n2 : (n : Int) ≤ 100000 := by omega
  have HTa := hidIt htab
  have HTB := hidIt (TB.start w n k 2 47)
  clear htab
  go_enter Tryd.func22, Tryd.ntmps22
  go_wp2_with fail
  refine (HU.out _).mono ?_
  rintro e w1 ⟨rfl, ew⟩
  subst w1
  go_wp2_with fail
  refine (HR.out _).mono ?_
  rintro e w0 ⟨rfl, ew⟩
  have HB0 : Hid (TB w w0 n k 2) := by show TB _ _ _ _ _; rw [ew]; exact HTB.out
  clear ew HTB
  have HC := hidIt (itoa_in w0 (tab_below HTa.out HB0.out.bel (Nat.le_refl _)) n h1)
  have c0 := HB0.out.c0
  have c1 := HB0.out.c1
  have c2 := HB0.out.c2
  have hB := Below.refl w0.heap.size w0
  generalize dgs n = dg at *
  generalize wdS k = wd at *
  go_wp2_with fail
  go_region_with (first | (go_at_call 47; refine (HC.out _ ?_).mono ?_; (· first | assumption | exact Below.drew (by assumption) | exact bdrewN (by assumption) _); rintro e w2 ⟨rfl, hb2⟩; have c0' := (HB0.out.on hb2).c0; have c1' := (HB0.out.on hb2).c1; have c2' := (HB0.out.on hb2).c2) | (go_at_call 43; refine (HW.out _).mono ?_; rintro e w2 ⟨rfl, ew⟩; subst ew))
  all_goals
    have HBw := hidIt (HB0.out.on (by assumption)).bel
    go_wp2_with fail
    refine (HRW.out _).mono ?_
    rintro e w9 ⟨rfl, ew⟩
    subst w9
    go_wp2
    go_ret
    exact ⟨by rw [HX.out]; rfl, by first | exact HBw.out | exact Below.drew HBw.out⟩

set_option maxHeartbeats 8000000 in
set_option maxRecDepth 10000 in
theorem rTermText_0 (n k : Nat) (h1 : n ≤ 100000) (h2 : k < 5) (w : World) :
    Calls Tryd.prog 23 #[.agg #[.int .i64 n, .int .i64 k, .int .i64 0]] w fun e w' => e = .returned (.string (ttx n k 0)) ∧ Below w.heap.size w w' := by
  have HX : Hid (ttx n k 0 = dgs n ++ ⟨#[32]⟩ ++ wdS k) := rfl
  have z1 := dgs_le n h1
  have n1 : (0 : Int) ≤ n := by omega
  have n2 : (n : Int) ≤ 100000 := by omega
  have k1 : (0 : Int) ≤ k := by omega
  have k2 : (k : Int) ≤ 4 := by omega
  have k3 : (k : Int) < 5 := by omega
  have z2 := wdS_size k
  go_enter Tryd.func23, Tryd.ntmps23
  go_wp2_with fail
  obtain ⟨w0, hw0⟩ : ∃ w0, w0 = (w.alloc (.cells #[.int .i64 n, .int .i64 k, .int .i64 0] 45)).alloc (.cells #[.string ⟨#[100, 97, 121, 115]⟩, .string ⟨#[119, 111, 114, 107, 105, 110, 103, 32, 100, 97, 121, 115]⟩, .string ⟨#[119, 101, 101, 107, 115]⟩, .string ⟨#[109, 111, 110, 116, 104, 115]⟩, .string ⟨#[121, 101, 97, 114, 115]⟩] 9) := ⟨_, rfl⟩
  rw [← hw0]
  have HB0 : Hid (TW w w0 n k 0) := by show TW _ _ _ _ _; rw [hw0]; exact TW.start w n k 0 _ _
  clear hw0
  have HC := hidIt (dec_t w0 n h1)
  have c0 := HB0.out.t.c0
  have c1 := HB0.out.t.c1
  have c2 := HB0.out.t.c2
  have kk := HB0.out.ks k h2
  have kk' : w0.cell? ⟨w.heap.size + 1, 0 + k, none⟩ = some (.string (wdS k)) := by rw [Nat.zero_add]; exact kk
  have HK := hidIt (fun W' hb => (HB0.out.on (W' := W') hb).ks k h2)
  have hB := Below.refl w0.heap.size w0
  generalize dgs n = dg at *
  generalize wdS k = wd at *
  go_region_with (go_at_call 49; refine (HC.out _ ?_).mono ?_; (· first | assumption | exact Below.drew (by assumption) | exact bdrewN (by assumption) _); rintro e w2 ⟨rfl, hb2⟩; have c0' := (HB0.out.on hb2).t.c0; have c1' := (HB0.out.on hb2).t.c1; have c2' := (HB0.out.on hb2).t.c2; have kk2 := HK.out _ hb2)
  all_goals
    have HBw := hidIt (HB0.out.on (by assumption)).t.bel
    go_wp2
    go_ret
    exact ⟨by rw [HX.out]; rfl, by first | exact HBw.out | exact Below.drew HBw.out⟩

set_option maxHeartbeats 8000000 in
set_option maxRecDepth 10000 in
theorem rTermText_1 (n k : Nat) (h1 : n ≤ 100000) (h2 : k < 5) (w : World) :
    Calls Tryd.prog 23 #[.agg #[.int .i64 n, .int .i64 k, .int .i64 1]] w fun e w' => e = .returned (.string (ttx n k 1)) ∧ Below w.heap.size w w' := by
  have HX : Hid (ttx n k 1 = dgs n ++ ⟨#[32]⟩ ++ wdS k ++ ⟨#[44, 32, 110, 101, 120, 116]⟩) := rfl
  have z1 := dgs_le n h1
  have n1 : (0 : Int) ≤ n := by omega
  have n2 : (n : Int) ≤ 100000 := by omega
  have k1 : (0 : Int) ≤ k := by omega
  have k2 : (k : Int) ≤ 4 := by omega
  have k3 : (k : Int) < 5 := by omega
  have z2 := wdS_size k
  go_enter Tryd.func23, Tryd.ntmps23
  go_wp2_with fail
  obtain ⟨w0, hw0⟩ : ∃ w0, w0 = (w.alloc (.cells #[.int .i64 n, .int .i64 k, .int .i64 1] 45)).alloc (.cells #[.string ⟨#[100, 97, 121, 115]⟩, .string ⟨#[119, 111, 114, 107, 105, 110, 103, 32, 100, 97, 121, 115]⟩, .string ⟨#[119, 101, 101, 107, 115]⟩, .string ⟨#[109, 111, 110, 116, 104, 115]⟩, .string ⟨#[121, 101, 97, 114, 115]⟩] 9) := ⟨_, rfl⟩
  rw [← hw0]
  have HB0 : Hid (TW w w0 n k 1) := by show TW _ _ _ _ _; rw [hw0]; exact TW.start w n k 1 _ _
  clear hw0
  have HC := hidIt (dec_t w0 n h1)
  have c0 := HB0.out.t.c0
  have c1 := HB0.out.t.c1
  have c2 := HB0.out.t.c2
  have kk := HB0.out.ks k h2
  have kk' : w0.cell? ⟨w.heap.size + 1, 0 + k, none⟩ = some (.string (wdS k)) := by rw [Nat.zero_add]; exact kk
  have HK := hidIt (fun W' hb => (HB0.out.on (W' := W') hb).ks k h2)
  have hB := Below.refl w0.heap.size w0
  generalize dgs n = dg at *
  generalize wdS k = wd at *
  go_region_with (go_at_call 49; refine (HC.out _ ?_).mono ?_; (· first | assumption | exact Below.drew (by assumption) | exact bdrewN (by assumption) _); rintro e w2 ⟨rfl, hb2⟩; have c0' := (HB0.out.on hb2).t.c0; have c1' := (HB0.out.on hb2).t.c1; have c2' := (HB0.out.on hb2).t.c2; have kk2 := HK.out _ hb2)
  all_goals
    have HBw := hidIt (HB0.out.on (by assumption)).t.bel
    go_wp2
    go_ret
    exact ⟨by rw [HX.out]; rfl, by first | exact HBw.out | exact Below.drew HBw.out⟩

set_option maxHeartbeats 8000000 in
set_option maxRecDepth 10000 in
theorem rTermText_2 (n k : Nat) (h1 : n ≤ 100000) (h2 : k < 5) (w : World) :
    Calls Tryd.prog 23 #[.agg #[.int .i64 n, .int .i64 k, .int .i64 2]] w fun e w' => e = .returned (.string (ttx n k 2)) ∧ Below w.heap.size w w' := by
  have HX : Hid (ttx n k 2 = dgs n ++ ⟨#[32]⟩ ++ wdS k ++ ⟨#[44, 32, 98, 101, 102, 111, 114, 101]⟩) := rfl
  have z1 := dgs_le n h1
  have n1 : (0 : Int) ≤ n := by omega
  have n2 : (n : Int) ≤ 100000 := by omega
  have k1 : (0 : Int) ≤ k := by omega
  have k2 : (k : Int) ≤ 4 := by omega
  have k3 : (k : Int) < 5 := by omega
  have z2 := wdS_size k
  go_enter Tryd.func23, Tryd.ntmps23
  go_wp2_with fail
  obtain ⟨w0, hw0⟩ : ∃ w0, w0 = (w.alloc (.cells #[.int .i64 n, .int .i64 k, .int .i64 2] 45)).alloc (.cells #[.string ⟨#[100, 97, 121, 115]⟩, .string ⟨#[119, 111, 114, 107, 105, 110, 103, 32, 100, 97, 121, 115]⟩, .string ⟨#[119, 101, 101, 107, 115]⟩, .string ⟨#[109, 111, 110, 116, 104, 115]⟩, .string ⟨#[121, 101, 97, 114, 115]⟩] 9) := ⟨_, rfl⟩
  rw [← hw0]
  have HB0 : Hid (TW w w0 n k 2) := by show TW _ _ _ _ _; rw [hw0]; exact TW.start w n k 2 _ _
  clear hw0
  have HC := hidIt (dec_t w0 n h1)
  have c0 := HB0.out.t.c0
  have c1 := HB0.out.t.c1
  have c2 := HB0.out.t.c2
  have kk := HB0.out.ks k h2
  have kk' : w0.cell? ⟨w.heap.size + 1, 0 + k, none⟩ = some (.string (wdS k)) := by rw [Nat.zero_add]; exact kk
  have HK := hidIt (fun W' hb => (HB0.out.on (W' := W') hb).ks k h2)
  have hB := Below.refl w0.heap.size w0
  generalize dgs n = dg at *
  generalize wdS k = wd at *
  go_region_with (go_at_call 49; refine (HC.out _ ?_).mono ?_; (· first | assumption | exact Below.drew (by assumption) | exact bdrewN (by assumption) _); rintro e w2 ⟨rfl, hb2⟩; have c0' := (HB0.out.on hb2).t.c0; have c1' := (HB0.out.on hb2).t.c1; have c2' := (HB0.out.on hb2).t.c2; have kk2 := HK.out _ hb2)
  all_goals
    have HBw := hidIt (HB0.out.on (by assumption)).t.bel
    go_wp2
    go_ret
    exact ⟨by rw [HX.out]; rfl, by first | exact HBw.out | exact Below.drew HBw.out⟩

end Go.Proofs.YtplhamloddighaaDoor

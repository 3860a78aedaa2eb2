/-
  The reference's Due by contracts (written by tools/gendue.py); both tell the same.
-/
import Derived.Test.YtlebpojohaplnaaDoorDueP
namespace Go.Proofs.YtlebpojohaplnaaDoor
open Go.RowKit Go.Extern.Stop Go.Stop Go.Extern

set_option maxHeartbeats 1000000 in
theorem rDue_bound (b : Nat) (d N U R : Int) (w : World) (h : N < 0 ∨ 100000 < N) :
    Calls Tryd.prog 17 #[.pointer (some ⟨b, 0, none⟩), .int .i64 d, .agg #[.int .i64 N, .int .i64 U, .int .i64 R]] w fun e w' => e = .returned (.tuple #[.int .i64 0, .int .i64 2]) ∧ Below w.heap.size w w' := by
  by_cases h0 : N < 0
  · clear h
    go_enter Tryd.func17, Tryd.ntmps17
    go_wp2
    go_ret2
    exact ⟨rfl, bel1 _ _⟩
  · have h1 : 100000 < N := by omega
    clear h
    go_enter Tryd.func17, Tryd.ntmps17
    go_wp2
    go_ret2
    exact ⟨rfl, bel1 _ _⟩
set_option maxHeartbeats 1000000 in
theorem rDue_kind (b : Nat) (d N U R : Int) (w : World) (n1 : 0 ≤ N) (n2 : N ≤ 100000) (h : U < 0 ∨ 4 < U ∨ R < 0 ∨ 2 < R) :
    Calls Tryd.prog 17 #[.pointer (some ⟨b, 0, none⟩), .int .i64 d, .agg #[.int .i64 N, .int .i64 U, .int .i64 R]] w fun e w' => e = .returned (.tuple #[.int .i64 0, .int .i64 9]) ∧ Below w.heap.size w w' := by
  by_cases h0 : U < 0
  · clear h
    go_enter Tryd.func17, Tryd.ntmps17
    go_wp2
    go_ret2
    exact ⟨rfl, bel1 _ _⟩
  have h0' : 0 ≤ U := by omega
  clear h0
  by_cases h1 : 4 < U
  · have k1 : 4 < U := h1
    clear h h1
    go_enter Tryd.func17, Tryd.ntmps17
    go_wp2
    go_ret2
    exact ⟨rfl, bel1 _ _⟩
  by_cases h2 : R < 0
  · have k1 : U ≤ 4 := by omega
    have k2 : R < 0 := h2
    clear h h1 h2
    go_enter Tryd.func17, Tryd.ntmps17
    go_wp2
    go_ret2
    exact ⟨rfl, bel1 _ _⟩
  · have k1 : U ≤ 4 := by omega
    have k2 : 2 < R := by omega
    clear h h1
    go_enter Tryd.func17, Tryd.ntmps17
    go_wp2
    go_ret2
    exact ⟨rfl, bel1 _ _⟩
set_option maxHeartbeats 1000000 in
theorem rDue_noday (b : Nat) (d N U R : Int) (w : World) (n1 : 0 ≤ N) (n2 : N ≤ 100000) (u1 : 0 ≤ U) (u2 : U ≤ 4) (r1 : 0 ≤ R) (r2 : R ≤ 2) (hd : isDayB d = false) :
    Calls Tryd.prog 17 #[.pointer (some ⟨b, 0, none⟩), .int .i64 d, .agg #[.int .i64 N, .int .i64 U, .int .i64 R]] w fun e w' => e = .returned (.tuple #[.int .i64 0, .int .i64 4]) ∧ Below w.heap.size w w' := by
  have HD := hidIt (fun w => rIsDay_any d w)
  rw [hd] at HD
  clear hd
  go_enter Tryd.func17, Tryd.ntmps17
  go_wp2_with fail
  refine (HD.out _).mono ?_
  rintro e w1 ⟨rfl, ew⟩
  subst w1
  go_wp2
  go_ret2
  exact ⟨rfl, bel1 _ _⟩
set_option maxHeartbeats 1000000 in
theorem rDue_days (b : Nat) (off : Int → Bool) (xs : List Int) (v : Value) (d N R y z : Int) (w : World) (h : Cal w b off xs v) (n1 : 0 ≤ N) (n2 : N ≤ 100000) (r1 : 0 ≤ R) (r2 : R ≤ 2) (hd : isDayB d = true)
    (hR : ∀ w, Cal w b off xs v → Calls Tryd.prog 9 #[.pointer (some ⟨b, 0, none⟩), .int .i64 (d + N), .int .i64 R] w fun e w' => e = .returned (.tuple #[.int .i64 y, .int .i64 z]) ∧ ∃ q, w' = w.drewN q) :
    Calls Tryd.prog 17 #[.pointer (some ⟨b, 0, none⟩), .int .i64 d, .agg #[.int .i64 N, .int .i64 0, .int .i64 R]] w fun e w' => e = .returned (.tuple #[.int .i64 y, .int .i64 z]) ∧ Below w.heap.size w w' := by
  have HQ := hidIt hR
  clear hR
  have HH := hidIt (fun o => h.alloc o)
  have HD := hidIt (fun w => rIsDay_any d w)
  have HT := hidIt (TBox.mk' w N 0 R 45)
  obtain ⟨d1, d2⟩ := isDayB_iff.1 hd
  rw [hd] at HD
  clear hd h
  go_enter Tryd.func17, Tryd.ntmps17
  go_wp2_with fail
  refine (HD.out _).mono ?_
  rintro e w1 ⟨rfl, ew⟩
  subst w1
  go_wp2_with fail
  refine (HQ.out _ (HH.out _)).mono ?_
  rintro e w2 ⟨rfl, q, ew⟩
  have HB : Hid (Below w.heap.size w w2) := by show Below _ _ _; rw [ew]; exact bdrewN (bel1 _ _) _
  clear ew
  go_wp2
  go_ret2
  exact ⟨rfl, HB.out⟩
set_option maxHeartbeats 1000000 in
theorem rDue_weeks (b : Nat) (off : Int → Bool) (xs : List Int) (v : Value) (d N R y z : Int) (w : World) (h : Cal w b off xs v) (n1 : 0 ≤ N) (n2 : N ≤ 100000) (r1 : 0 ≤ R) (r2 : R ≤ 2) (hd : isDayB d = true)
    (hR : ∀ w, Cal w b off xs v → Calls Tryd.prog 9 #[.pointer (some ⟨b, 0, none⟩), .int .i64 (d + 7 * N), .int .i64 R] w fun e w' => e = .returned (.tuple #[.int .i64 y, .int .i64 z]) ∧ ∃ q, w' = w.drewN q) :
    Calls Tryd.prog 17 #[.pointer (some ⟨b, 0, none⟩), .int .i64 d, .agg #[.int .i64 N, .int .i64 2, .int .i64 R]] w fun e w' => e = .returned (.tuple #[.int .i64 y, .int .i64 z]) ∧ Below w.heap.size w w' := by
  have HQ := hidIt hR
  clear hR
  have HH := hidIt (fun o => h.alloc o)
  have HD := hidIt (fun w => rIsDay_any d w)
  have HT := hidIt (TBox.mk' w N 2 R 45)
  obtain ⟨d1, d2⟩ := isDayB_iff.1 hd
  rw [hd] at HD
  clear hd h
  go_enter Tryd.func17, Tryd.ntmps17
  go_wp2_with fail
  refine (HD.out _).mono ?_
  rintro e w1 ⟨rfl, ew⟩
  subst w1
  go_wp2_with fail
  refine (HQ.out _ (HH.out _)).mono ?_
  rintro e w2 ⟨rfl, q, ew⟩
  have HB : Hid (Below w.heap.size w w2) := by show Below _ _ _; rw [ew]; exact bdrewN (bel1 _ _) _
  clear ew
  go_wp2
  go_ret2
  exact ⟨rfl, HB.out⟩
set_option maxHeartbeats 1000000 in
theorem rDue_work_ok (b : Nat) (off : Int → Bool) (xs : List Int) (v : Value) (d N R x y z : Int) (w : World) (h : Cal w b off xs v) (n1 : 0 ≤ N) (n2 : N ≤ 100000) (r1 : 0 ≤ R) (r2 : R ≤ 2) (hd : isDayB d = true)
    (hA : ∀ w, Cal w b off xs v → Calls Tryd.prog 15 #[.pointer (some ⟨b, 0, none⟩), .int .i64 d, .int .i64 N] w fun e w' => e = .returned (.tuple #[.int .i64 x, .int .i64 0]) ∧ ∃ q, w' = w.drewN q)
    (hR : ∀ w, Cal w b off xs v → Calls Tryd.prog 9 #[.pointer (some ⟨b, 0, none⟩), .int .i64 x, .int .i64 R] w fun e w' => e = .returned (.tuple #[.int .i64 y, .int .i64 z]) ∧ ∃ q, w' = w.drewN q) :
    Calls Tryd.prog 17 #[.pointer (some ⟨b, 0, none⟩), .int .i64 d, .agg #[.int .i64 N, .int .i64 1, .int .i64 R]] w fun e w' => e = .returned (.tuple #[.int .i64 y, .int .i64 z]) ∧ Below w.heap.size w w' := by
  have HA := hidIt hA
  have HQ := hidIt hR
  clear hR
  clear hA
  have HH := hidIt (fun o => h.alloc o)
  have HD := hidIt (fun w => rIsDay_any d w)
  have HT := hidIt (TBox.mk' w N 1 R 45)
  obtain ⟨d1, d2⟩ := isDayB_iff.1 hd
  rw [hd] at HD
  clear hd h
  go_enter Tryd.func17, Tryd.ntmps17
  go_wp2_with fail
  refine (HD.out _).mono ?_
  rintro e w1 ⟨rfl, ew⟩
  subst w1
  go_wp2_with fail
  refine (HA.out _ (HH.out _)).mono ?_
  rintro e w1 ⟨rfl, q, ew⟩
  have hb : Below (w.alloc (.cells #[.int .i64 N, .int .i64 1, .int .i64 R] 45)).heap.size (w.alloc (.cells #[.int .i64 N, .int .i64 1, .int .i64 R] 45)) w1 := by rw [ew]; exact bdrewN (Below.refl _ _) _
  clear ew
  have HT1 := hidIt (HT.out.on hb)
  have HC1 := hidIt ((HH.out _).below hb)
  have c2 := HT1.out.c2
  clear hb
  go_wp2_with fail
  refine (HQ.out _ HC1.out).mono ?_
  rintro e w2 ⟨rfl, q2, ew⟩
  have HB : Hid (Below w.heap.size w w2) := by show Below _ _ _; rw [ew]; exact bdrewN HT1.out.bel _
  clear ew
  go_wp2
  go_ret2
  exact ⟨rfl, HB.out⟩
set_option maxHeartbeats 1000000 in
theorem rDue_work_bad (b : Nat) (off : Int → Bool) (xs : List Int) (v : Value) (d N R  : Int) (w : World) (h : Cal w b off xs v) (n1 : 0 ≤ N) (n2 : N ≤ 100000) (r1 : 0 ≤ R) (r2 : R ≤ 2) (hd : isDayB d = true)
    (hA : ∀ w, Cal w b off xs v → Calls Tryd.prog 15 #[.pointer (some ⟨b, 0, none⟩), .int .i64 d, .int .i64 N] w fun e w' => e = .returned (.tuple #[.int .i64 0, .int .i64 4]) ∧ ∃ q, w' = w.drewN q) :
    Calls Tryd.prog 17 #[.pointer (some ⟨b, 0, none⟩), .int .i64 d, .agg #[.int .i64 N, .int .i64 1, .int .i64 R]] w fun e w' => e = .returned (.tuple #[.int .i64 0, .int .i64 4]) ∧ Below w.heap.size w w' := by
  have HA := hidIt hA
  clear hA
  have HH := hidIt (fun o => h.alloc o)
  have HD := hidIt (fun w => rIsDay_any d w)
  have HT := hidIt (TBox.mk' w N 1 R 45)
  obtain ⟨d1, d2⟩ := isDayB_iff.1 hd
  rw [hd] at HD
  clear hd h
  go_enter Tryd.func17, Tryd.ntmps17
  go_wp2_with fail
  refine (HD.out _).mono ?_
  rintro e w1 ⟨rfl, ew⟩
  subst w1
  go_wp2_with fail
  refine (HA.out _ (HH.out _)).mono ?_
  rintro e w1 ⟨rfl, q, ew⟩
  have hb : Below (w.alloc (.cells #[.int .i64 N, .int .i64 1, .int .i64 R] 45)).heap.size (w.alloc (.cells #[.int .i64 N, .int .i64 1, .int .i64 R] 45)) w1 := by rw [ew]; exact bdrewN (Below.refl _ _) _
  clear ew
  have HT1 := hidIt (HT.out.on hb)
  have HC1 := hidIt ((HH.out _).below hb)
  have c2 := HT1.out.c2
  clear hb
  have HB := hidIt HT1.out.bel
  go_wp2
  go_ret2
  exact ⟨rfl, HB.out⟩
set_option maxHeartbeats 1000000 in
theorem rDue_months_ok (b : Nat) (off : Int → Bool) (xs : List Int) (v : Value) (d N R x y z : Int) (w : World) (h : Cal w b off xs v) (n1 : 0 ≤ N) (n2 : N ≤ 100000) (r1 : 0 ≤ R) (r2 : R ≤ 2) (hd : isDayB d = true)
    (hA : ∀ w, Calls Tryd.prog 30 #[.int .i64 d, .int .i64 N] w fun e w' => e = .returned (.tuple #[.int .i64 x, .int .i64 0]) ∧ Below w.heap.size w w')
    (hR : ∀ w, Cal w b off xs v → Calls Tryd.prog 9 #[.pointer (some ⟨b, 0, none⟩), .int .i64 x, .int .i64 R] w fun e w' => e = .returned (.tuple #[.int .i64 y, .int .i64 z]) ∧ ∃ q, w' = w.drewN q) :
    Calls Tryd.prog 17 #[.pointer (some ⟨b, 0, none⟩), .int .i64 d, .agg #[.int .i64 N, .int .i64 3, .int .i64 R]] w fun e w' => e = .returned (.tuple #[.int .i64 y, .int .i64 z]) ∧ Below w.heap.size w w' := by
  have HA := hidIt hA
  have HQ := hidIt hR
  clear hR
  clear hA
  have HH := hidIt (fun o => h.alloc o)
  have HD := hidIt (fun w => rIsDay_any d w)
  have HT := hidIt (TBox.mk' w N 3 R 45)
  obtain ⟨d1, d2⟩ := isDayB_iff.1 hd
  rw [hd] at HD
  clear hd h
  go_enter Tryd.func17, Tryd.ntmps17
  go_wp2_with fail
  refine (HD.out _).mono ?_
  rintro e w1 ⟨rfl, ew⟩
  subst w1
  go_wp2_with fail
  refine (HA.out _).mono ?_
  rintro e w1 ⟨rfl, hb⟩
  have HT1 := hidIt (HT.out.on hb)
  have HC1 := hidIt ((HH.out _).below hb)
  have c2 := HT1.out.c2
  clear hb
  go_wp2_with fail
  refine (HQ.out _ HC1.out).mono ?_
  rintro e w2 ⟨rfl, q2, ew⟩
  have HB : Hid (Below w.heap.size w w2) := by show Below _ _ _; rw [ew]; exact bdrewN HT1.out.bel _
  clear ew
  go_wp2
  go_ret2
  exact ⟨rfl, HB.out⟩
set_option maxHeartbeats 1000000 in
theorem rDue_months_bad (b : Nat) (off : Int → Bool) (xs : List Int) (v : Value) (d N R  : Int) (w : World) (h : Cal w b off xs v) (n1 : 0 ≤ N) (n2 : N ≤ 100000) (r1 : 0 ≤ R) (r2 : R ≤ 2) (hd : isDayB d = true)
    (hA : ∀ w, Calls Tryd.prog 30 #[.int .i64 d, .int .i64 N] w fun e w' => e = .returned (.tuple #[.int .i64 0, .int .i64 4]) ∧ Below w.heap.size w w') :
    Calls Tryd.prog 17 #[.pointer (some ⟨b, 0, none⟩), .int .i64 d, .agg #[.int .i64 N, .int .i64 3, .int .i64 R]] w fun e w' => e = .returned (.tuple #[.int .i64 0, .int .i64 4]) ∧ Below w.heap.size w w' := by
  have HA := hidIt hA
  clear hA
  have HH := hidIt (fun o => h.alloc o)
  have HD := hidIt (fun w => rIsDay_any d w)
  have HT := hidIt (TBox.mk' w N 3 R 45)
  obtain ⟨d1, d2⟩ := isDayB_iff.1 hd
  rw [hd] at HD
  clear hd h
  go_enter Tryd.func17, Tryd.ntmps17
  go_wp2_with fail
  refine (HD.out _).mono ?_
  rintro e w1 ⟨rfl, ew⟩
  subst w1
  go_wp2_with fail
  refine (HA.out _).mono ?_
  rintro e w1 ⟨rfl, hb⟩
  have HT1 := hidIt (HT.out.on hb)
  have HC1 := hidIt ((HH.out _).below hb)
  have c2 := HT1.out.c2
  clear hb
  have HB := hidIt HT1.out.bel
  go_wp2
  go_ret2
  exact ⟨rfl, HB.out⟩
set_option maxHeartbeats 1000000 in
theorem rDue_years_ok (b : Nat) (off : Int → Bool) (xs : List Int) (v : Value) (d N R x y z : Int) (w : World) (h : Cal w b off xs v) (n1 : 0 ≤ N) (n2 : N ≤ 100000) (r1 : 0 ≤ R) (r2 : R ≤ 2) (hd : isDayB d = true)
    (hA : ∀ w, Calls Tryd.prog 30 #[.int .i64 d, .int .i64 (N * 12)] w fun e w' => e = .returned (.tuple #[.int .i64 x, .int .i64 0]) ∧ Below w.heap.size w w')
    (hR : ∀ w, Cal w b off xs v → Calls Tryd.prog 9 #[.pointer (some ⟨b, 0, none⟩), .int .i64 x, .int .i64 R] w fun e w' => e = .returned (.tuple #[.int .i64 y, .int .i64 z]) ∧ ∃ q, w' = w.drewN q) :
    Calls Tryd.prog 17 #[.pointer (some ⟨b, 0, none⟩), .int .i64 d, .agg #[.int .i64 N, .int .i64 4, .int .i64 R]] w fun e w' => e = .returned (.tuple #[.int .i64 y, .int .i64 z]) ∧ Below w.heap.size w w' := by
  have HA := hidIt hA
  have HQ := hidIt hR
  clear hR
  clear hA
  have HH := hidIt (fun o => h.alloc o)
  have HD := hidIt (fun w => rIsDay_any d w)
  have HT := hidIt (TBox.mk' w N 4 R 45)
  obtain ⟨d1, d2⟩ := isDayB_iff.1 hd
  rw [hd] at HD
  clear hd h
  go_enter Tryd.func17, Tryd.ntmps17
  go_wp2_with fail
  refine (HD.out _).mono ?_
  rintro e w1 ⟨rfl, ew⟩
  subst w1
  go_wp2_with fail
  refine (HA.out _).mono ?_
  rintro e w1 ⟨rfl, hb⟩
  have HT1 := hidIt (HT.out.on hb)
  have HC1 := hidIt ((HH.out _).below hb)
  have c2 := HT1.out.c2
  clear hb
  go_wp2_with fail
  refine (HQ.out _ HC1.out).mono ?_
  rintro e w2 ⟨rfl, q2, ew⟩
  have HB : Hid (Below w.heap.size w w2) := by show Below _ _ _; rw [ew]; exact bdrewN HT1.out.bel _
  clear ew
  go_wp2
  go_ret2
  exact ⟨rfl, HB.out⟩
set_option maxHeartbeats 1000000 in
theorem rDue_years_bad (b : Nat) (off : Int → Bool) (xs : List Int) (v : Value) (d N R  : Int) (w : World) (h : Cal w b off xs v) (n1 : 0 ≤ N) (n2 : N ≤ 100000) (r1 : 0 ≤ R) (r2 : R ≤ 2) (hd : isDayB d = true)
    (hA : ∀ w, Calls Tryd.prog 30 #[.int .i64 d, .int .i64 (N * 12)] w fun e w' => e = .returned (.tuple #[.int .i64 0, .int .i64 4]) ∧ Below w.heap.size w w') :
    Calls Tryd.prog 17 #[.pointer (some ⟨b, 0, none⟩), .int .i64 d, .agg #[.int .i64 N, .int .i64 4, .int .i64 R]] w fun e w' => e = .returned (.tuple #[.int .i64 0, .int .i64 4]) ∧ Below w.heap.size w w' := by
  have HA := hidIt hA
  clear hA
  have HH := hidIt (fun o => h.alloc o)
  have HD := hidIt (fun w => rIsDay_any d w)
  have HT := hidIt (TBox.mk' w N 4 R 45)
  obtain ⟨d1, d2⟩ := isDayB_iff.1 hd
  rw [hd] at HD
  clear hd h
  go_enter Tryd.func17, Tryd.ntmps17
  go_wp2_with fail
  refine (HD.out _).mono ?_
  rintro e w1 ⟨rfl, ew⟩
  subst w1
  go_wp2_with fail
  refine (HA.out _).mono ?_
  rintro e w1 ⟨rfl, hb⟩
  have HT1 := hidIt (HT.out.on hb)
  have HC1 := hidIt ((HH.out _).below hb)
  have c2 := HT1.out.c2
  clear hb
  have HB := hidIt HT1.out.bel
  go_wp2
  go_ret2
  exact ⟨rfl, HB.out⟩

/-! Both tell the same. -/
theorem agree_due (off : Int → Bool) (xs : List Int) (v v' : Value) (b b' : Nat) (d N U R : Int) (p : Nat → Addr) :
    (∃ x, (∀ w, Laid w p → Cal w b off xs v → Calls Tryd.prog 16 #[.pointer (some ⟨b, 0, none⟩), .int .i64 d, .agg #[.int .i64 N, .int .i64 U, .int .i64 R]] w fun e w' => e = .returned (.tuple #[.int .i64 x, .nilIface]) ∧ Below w.heap.size w w') ∧
      (∀ w, Cal w b' off xs v' → Calls Tryd.prog 17 #[.pointer (some ⟨b', 0, none⟩), .int .i64 d, .agg #[.int .i64 N, .int .i64 U, .int .i64 R]] w fun e w' => e = .returned (.tuple #[.int .i64 x, .int .i64 0]) ∧ Below w.heap.size w w')) ∨
    (∃ k : Nat, k < 11 ∧ (∀ w, Laid w p → Cal w b off xs v → Calls Tryd.prog 16 #[.pointer (some ⟨b, 0, none⟩), .int .i64 d, .agg #[.int .i64 N, .int .i64 U, .int .i64 R]] w fun e w' => e = .returned (.tuple #[.int .i64 0, .iface 129 (.pointer (some (p k)))]) ∧ Below w.heap.size w w') ∧
      (∀ w, Cal w b' off xs v' → Calls Tryd.prog 17 #[.pointer (some ⟨b', 0, none⟩), .int .i64 d, .agg #[.int .i64 N, .int .i64 U, .int .i64 R]] w fun e w' => e = .returned (.tuple #[.int .i64 0, .int .i64 (k + 1)]) ∧ Below w.heap.size w w')) := by
  by_cases hn : N < 0 ∨ 100000 < N
  · exact .inr ⟨1, by omega, fun w L _ => due_bound b d N U R (p 1) w (L.cell 1 (by omega)) hn, fun w _ => rDue_bound b' d N U R w hn⟩
  have n1 : 0 ≤ N := by omega
  have n2 : N ≤ 100000 := by omega
  by_cases hk : U < 0 ∨ 4 < U ∨ R < 0 ∨ 2 < R
  · refine .inr ⟨8, by omega, fun w L _ => due_kind b d N U R (p 8) w (L.cell 8 (by omega)) n1 n2 ?_, fun w _ => rDue_kind b' d N U R w n1 n2 hk⟩
    by_cases hu : U < 0 ∨ 4 < U
    · left
      unfold unitB
      rw [Bool.and_eq_false_iff]
      simp only [decide_eq_false_iff_not]
      omega
    · right
      unfold unitB rollB
      rw [Bool.and_eq_false_iff]
      simp only [decide_eq_false_iff_not, Bool.and_eq_true, decide_eq_true_eq]
      omega
  have hu : unitB U = true := by unfold unitB; simp only [Bool.and_eq_true, decide_eq_true_eq]; omega
  have hr : rollB R = true := by unfold rollB; simp only [Bool.and_eq_true, decide_eq_true_eq]; omega
  cases hd : isDayB d
  · exact .inr ⟨3, by omega, fun w L _ => due_noday b d N U R (p 3) w (L.cell 3 (by omega)) n1 n2 hu hr hd, fun w _ => rDue_noday b' d N U R w n1 n2 (by omega) (by omega) (by omega) (by omega) hd⟩
  obtain ⟨d1, d2⟩ := isDayB_iff.1 hd
  have r1 : 0 ≤ R := by omega
  have r2 : R ≤ 2 := by omega
  have hc : U = 0 ∨ U = 1 ∨ U = 2 ∨ U = 3 ∨ U = 4 := by omega
  clear hk hn
  rcases hc with rfl | rfl | rfl | rfl | rfl
  · rcases agree_roll_g off xs v v' b b' (d + N) R p with ⟨x, hp, hq⟩ | ⟨k, hk, hp, hq⟩
    · exact .inl ⟨x, fun w L h => due_ok b off xs v d N 0 R (d + N) _ _ w h p L n1 n2 hu hr hd (fun w _ _ => end_days b d N R w d1 d2 n1 n2) (fun w _ h => hp w h), fun w h => rDue_days b' off xs v' d N R x 0 w h n1 n2 r1 r2 hd hq⟩
    · exact .inr ⟨k, hk, fun w L h => due_ok b off xs v d N 0 R (d + N) _ _ w h p L n1 n2 hu hr hd (fun w _ _ => end_days b d N R w d1 d2 n1 n2) (fun w L h => hp w L h), fun w h => rDue_days b' off xs v' d N R 0 (k + 1) w h n1 n2 r1 r2 hd hq⟩
  · rcases agree_add_g off xs v v' b b' d N p with ⟨m, ha, ha', _, _⟩ | ⟨k, _, ha, ha', hk3⟩
    · rcases agree_roll_g off xs v v' b b' m R p with ⟨x, hp, hq⟩ | ⟨k, hk, hp, hq⟩
      · exact .inl ⟨x, fun w L h => due_ok b off xs v d N 1 R m _ _ w h p L n1 n2 hu hr hd (fun w _ h => end_work b d N R _ _ w (fun o => ha _ (h.alloc o))) (fun w _ h => hp w h), fun w h => rDue_work_ok b' off xs v' d N R m x 0 w h n1 n2 r1 r2 hd ha' hq⟩
      · exact .inr ⟨k, hk, fun w L h => due_ok b off xs v d N 1 R m _ _ w h p L n1 n2 hu hr hd (fun w _ h => end_work b d N R _ _ w (fun o => ha _ (h.alloc o))) (fun w L h => hp w L h), fun w h => rDue_work_ok b' off xs v' d N R m 0 (k + 1) w h n1 n2 r1 r2 hd ha' hq⟩
    · obtain rfl := hk3 ⟨by omega, by omega⟩
      exact .inr ⟨3, by omega, fun w L h => due_err b off xs v d N 1 R _ _ w h p L n1 n2 hu hr hd (fun w L h => end_work b d N R _ _ w (fun o => ha _ (L.alloc o) (h.alloc o))), fun w h => rDue_work_bad b' off xs v' d N R w h n1 n2 r1 r2 hd ha'⟩
  · rcases agree_roll_g off xs v v' b b' (d + 7 * N) R p with ⟨x, hp, hq⟩ | ⟨k, hk, hp, hq⟩
    · exact .inl ⟨x, fun w L h => due_ok b off xs v d N 2 R (d + 7 * N) _ _ w h p L n1 n2 hu hr hd (fun w _ _ => end_weeks b d N R w d1 d2 n1 n2) (fun w _ h => hp w h), fun w h => rDue_weeks b' off xs v' d N R x 0 w h n1 n2 r1 r2 hd hq⟩
    · exact .inr ⟨k, hk, fun w L h => due_ok b off xs v d N 2 R (d + 7 * N) _ _ w h p L n1 n2 hu hr hd (fun w _ _ => end_weeks b d N R w d1 d2 n1 n2) (fun w L h => hp w L h), fun w h => rDue_weeks b' off xs v' d N R 0 (k + 1) w h n1 n2 r1 r2 hd hq⟩
  · rcases agree_months d N p with ⟨m, ha, _, ha'⟩ | ⟨ha, ha'⟩
    · rcases agree_roll_g off xs v v' b b' m R p with ⟨x, hp, hq⟩ | ⟨k, hk, hp, hq⟩
      · exact .inl ⟨x, fun w L h => due_ok b off xs v d N 3 R m _ _ w h p L n1 n2 hu hr hd (fun w _ h => end_months b d N R _ _ w (fun o => (ha _).mono (fun e w' h => ⟨h.1, 0, h.2⟩))) (fun w _ h => hp w h), fun w h => rDue_months_ok b' off xs v' d N R m x 0 w h n1 n2 r1 r2 hd ha' hq⟩
      · exact .inr ⟨k, hk, fun w L h => due_ok b off xs v d N 3 R m _ _ w h p L n1 n2 hu hr hd (fun w _ h => end_months b d N R _ _ w (fun o => (ha _).mono (fun e w' h => ⟨h.1, 0, h.2⟩))) (fun w L h => hp w L h), fun w h => rDue_months_ok b' off xs v' d N R m 0 (k + 1) w h n1 n2 r1 r2 hd ha' hq⟩
    · exact .inr ⟨3, by omega, fun w L h => due_err b off xs v d N 3 R _ _ w h p L n1 n2 hu hr hd (fun w L h => end_months b d N R _ _ w (fun o => ha _ (L.alloc o))), fun w h => rDue_months_bad b' off xs v' d N R w h n1 n2 r1 r2 hd ha'⟩
  · rcases agree_months d (12 * N) p with ⟨m, ha, _, ha'⟩ | ⟨ha, ha'⟩
    · rcases agree_roll_g off xs v v' b b' m R p with ⟨x, hp, hq⟩ | ⟨k, hk, hp, hq⟩
      · exact .inl ⟨x, fun w L h => due_ok b off xs v d N 4 R m _ _ w h p L n1 n2 hu hr hd (fun w _ h => end_years b d N R _ _ w n1 n2 (fun o => (ha _).mono (fun e w' h => ⟨h.1, 0, h.2⟩))) (fun w _ h => hp w h), fun w h => rDue_years_ok b' off xs v' d N R m x 0 w h n1 n2 r1 r2 hd (by rw [show N * 12 = 12 * N by omega]; exact ha') hq⟩
      · exact .inr ⟨k, hk, fun w L h => due_ok b off xs v d N 4 R m _ _ w h p L n1 n2 hu hr hd (fun w _ h => end_years b d N R _ _ w n1 n2 (fun o => (ha _).mono (fun e w' h => ⟨h.1, 0, h.2⟩))) (fun w L h => hp w L h), fun w h => rDue_years_ok b' off xs v' d N R m 0 (k + 1) w h n1 n2 r1 r2 hd (by rw [show N * 12 = 12 * N by omega]; exact ha') hq⟩
    · exact .inr ⟨3, by omega, fun w L h => due_err b off xs v d N 4 R _ _ w h p L n1 n2 hu hr hd (fun w L h => end_years b d N R _ _ w n1 n2 (fun o => ha _ (L.alloc o))), fun w h => rDue_years_bad b' off xs v' d N R w h n1 n2 r1 r2 hd (by rw [show N * 12 = 12 * N by omega]; exact ha')⟩
end Go.Proofs.YtlebpojohaplnaaDoor

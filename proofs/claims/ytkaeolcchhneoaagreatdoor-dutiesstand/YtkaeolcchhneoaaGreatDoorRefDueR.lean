/-
  The reference's Due by contracts (written by tools/gendue.py); both tell the same.
-/
import Derived.Test.YtkaeolcchhneoaaGreatDoorDueG
import Derived.Test.YtkaeolcchhneoaaGreatDoorRefRoll
namespace Go.Proofs.YtkaeolcchhneoaaGreatDoor
open Go.RowKit Go.Extern.Stop Go.Stop Go.Extern

set_option maxHeartbeats 1000000 in
theorem rDue_bound (b : Nat) (d N U R : Int) (w : World) (h : N < 0 ∨ 100000 < N) :
    Calls Tryz.prog 23 #[.pointer (some ⟨b, 0, none⟩), .int .i64 d, .agg #[.int .i64 N, .int .i64 U, .int .i64 R]] w fun e w' => e = .returned (.tuple #[.int .i64 0, .int .i64 2]) ∧ Below w.heap.size w w' := by
  by_cases h0 : N < 0
  · clear h
    go_enter Tryz.func23, Tryz.ntmps23
    go_wp2
    go_ret2
    exact ⟨rfl, bel1 _ _⟩
  · have h1 : 100000 < N := by omega
    clear h
    go_enter Tryz.func23, Tryz.ntmps23
    go_wp2
    go_ret2
    exact ⟨rfl, bel1 _ _⟩
set_option maxHeartbeats 1000000 in
theorem rDue_kind (b : Nat) (d N U R : Int) (w : World) (n1 : 0 ≤ N) (n2 : N ≤ 100000) (h : U < 0 ∨ 4 < U ∨ R < 0 ∨ 2 < R) :
    Calls Tryz.prog 23 #[.pointer (some ⟨b, 0, none⟩), .int .i64 d, .agg #[.int .i64 N, .int .i64 U, .int .i64 R]] w fun e w' => e = .returned (.tuple #[.int .i64 0, .int .i64 9]) ∧ Below w.heap.size w w' := by
  by_cases h0 : U < 0
  · clear h
    go_enter Tryz.func23, Tryz.ntmps23
    go_wp2
    go_ret2
    exact ⟨rfl, bel1 _ _⟩
  have h0' : 0 ≤ U := by omega
  clear h0
  by_cases h1 : 4 < U
  · have k1 : 4 < U := h1
    clear h h1
    go_enter Tryz.func23, Tryz.ntmps23
    go_wp2
    go_ret2
    exact ⟨rfl, bel1 _ _⟩
  by_cases h2 : R < 0
  · have k1 : U ≤ 4 := by omega
    have k2 : R < 0 := h2
    clear h h1 h2
    go_enter Tryz.func23, Tryz.ntmps23
    go_wp2
    go_ret2
    exact ⟨rfl, bel1 _ _⟩
  · have k1 : U ≤ 4 := by omega
    have k2 : 2 < R := by omega
    clear h h1
    go_enter Tryz.func23, Tryz.ntmps23
    go_wp2
    go_ret2
    exact ⟨rfl, bel1 _ _⟩
set_option maxHeartbeats 1000000 in
theorem rDue_noday (b : Nat) (d N U R : Int) (w : World) (n1 : 0 ≤ N) (n2 : N ≤ 100000) (u1 : 0 ≤ U) (u2 : U ≤ 4) (r1 : 0 ≤ R) (r2 : R ≤ 2) (hd : isDayB d = false) :
    Calls Tryz.prog 23 #[.pointer (some ⟨b, 0, none⟩), .int .i64 d, .agg #[.int .i64 N, .int .i64 U, .int .i64 R]] w fun e w' => e = .returned (.tuple #[.int .i64 0, .int .i64 4]) ∧ Below w.heap.size w w' := by
  have HD := hidIt (fun w => rIsDay_any d w)
  rw [hd] at HD
  clear hd
  go_enter Tryz.func23, Tryz.ntmps23
  go_wp2_with fail
  refine (HD.out _).mono ?_
  rintro e w1 ⟨rfl, ew⟩
  subst w1
  go_wp2
  go_ret2
  exact ⟨rfl, bel1 _ _⟩
set_option maxHeartbeats 1000000 in
theorem rDue_days (b : Nat) (off : Int → Bool) (xs : List Int) (v : Value) (d N R y z : Int) (w : World) (h : Cal w b off xs v) (n1 : 0 ≤ N) (n2 : N ≤ 100000) (r1 : 0 ≤ R) (r2 : R ≤ 2) (hd : isDayB d = true)
    (hR : ∀ w, Cal w b off xs v → Calls Tryz.prog 35 #[.pointer (some ⟨b, 0, none⟩), .int .i64 (d + N), .int .i64 R] w fun e w' => e = .returned (.tuple #[.int .i64 y, .int .i64 z]) ∧ ∃ q, w' = w.drewN q) :
    Calls Tryz.prog 23 #[.pointer (some ⟨b, 0, none⟩), .int .i64 d, .agg #[.int .i64 N, .int .i64 0, .int .i64 R]] w fun e w' => e = .returned (.tuple #[.int .i64 y, .int .i64 z]) ∧ Below w.heap.size w w' := by
  have HQ := hidIt hR
  clear hR
  have HH := hidIt (fun o => h.alloc o)
  have HD := hidIt (fun w => rIsDay_any d w)
  have HT := hidIt (TBox.mk' w N 0 R 60)
  obtain ⟨d1, d2⟩ := isDayB_iff.1 hd
  rw [hd] at HD
  clear hd h
  go_enter Tryz.func23, Tryz.ntmps23
  go_wp2_with fail
  refine (HD.out _).mono ?_
  rintro e w1 ⟨rfl, ew⟩
  subst w1
  go_wp2_with fail
  refine (HQ.out _ (HH.out _)).mono ?_
  rintro e w2 ⟨rfl, q, ew⟩
  have HB : Hid (Below w.heap.size w w2) := by show Below _ _ _; rw [ew]; exact bdrewN (bel1 _ _) _
  clear ew
  go_wp2
  go_ret2
  exact ⟨rfl, HB.out⟩
set_option maxHeartbeats 1000000 in
theorem rDue_weeks (b : Nat) (off : Int → Bool) (xs : List Int) (v : Value) (d N R y z : Int) (w : World) (h : Cal w b off xs v) (n1 : 0 ≤ N) (n2 : N ≤ 100000) (r1 : 0 ≤ R) (r2 : R ≤ 2) (hd : isDayB d = true)
    (hR : ∀ w, Cal w b off xs v → Calls Tryz.prog 35 #[.pointer (some ⟨b, 0, none⟩), .int .i64 (d + 7 * N), .int .i64 R] w fun e w' => e = .returned (.tuple #[.int .i64 y, .int .i64 z]) ∧ ∃ q, w' = w.drewN q) :
    Calls Tryz.prog 23 #[.pointer (some ⟨b, 0, none⟩), .int .i64 d, .agg #[.int .i64 N, .int .i64 2, .int .i64 R]] w fun e w' => e = .returned (.tuple #[.int .i64 y, .int .i64 z]) ∧ Below w.heap.size w w' := by
  have HQ := hidIt hR
  clear hR
  have HH := hidIt (fun o => h.alloc o)
  have HD := hidIt (fun w => rIsDay_any d w)
  have HT := hidIt (TBox.mk' w N 2 R 60)
  obtain ⟨d1, d2⟩ := isDayB_iff.1 hd
  rw [hd] at HD
  clear hd h
  go_enter Tryz.func23, Tryz.ntmps23
  go_wp2_with fail
  refine (HD.out _).mono ?_
  rintro e w1 ⟨rfl, ew⟩
  subst w1
  go_wp2_with fail
  refine (HQ.out _ (HH.out _)).mono ?_
  rintro e w2 ⟨rfl, q, ew⟩
  have HB : Hid (Below w.heap.size w w2) := by show Below _ _ _; rw [ew]; exact bdrewN (bel1 _ _) _
  clear ew
  go_wp2
  go_ret2
  exact ⟨rfl, HB.out⟩
set_option maxHeartbeats 1000000 in
theorem rDue_work_ok (b : Nat) (off : Int → Bool) (xs : List Int) (v : Value) (d N R x y z : Int) (w : World) (h : Cal w b off xs v) (n1 : 0 ≤ N) (n2 : N ≤ 100000) (r1 : 0 ≤ R) (r2 : R ≤ 2) (hd : isDayB d = true)
    (hA : ∀ w, Cal w b off xs v → Calls Tryz.prog 33 #[.pointer (some ⟨b, 0, none⟩), .int .i64 d, .int .i64 N] w fun e w' => e = .returned (.tuple #[.int .i64 x, .int .i64 0]) ∧ ∃ q, w' = w.drewN q)
    (hR : ∀ w, Cal w b off xs v → Calls Tryz.prog 35 #[.pointer (some ⟨b, 0, none⟩), .int .i64 x, .int .i64 R] w fun e w' => e = .returned (.tuple #[.int .i64 y, .int .i64 z]) ∧ ∃ q, w' = w.drewN q) :
    Calls Tryz.prog 23 #[.pointer (some ⟨b, 0, none⟩), .int .i64 d, .agg #[.int .i64 N, .int .i64 1, .int .i64 R]] w fun e w' => e = .returned (.tuple #[.int .i64 y, .int .i64 z]) ∧ Below w.heap.size w w' := by
  have HA := hidIt hA
  have HQ := hidIt hR
  clear hR
  clear hA
  have HH := hidIt (fun o => h.alloc o)
  have HD := hidIt (fun w => rIsDay_any d w)
  have HT := hidIt (TBox.mk' w N 1 R 60)
  obtain ⟨d1, d2⟩ := isDayB_iff.1 hd
  rw [hd] at HD
  clear hd h
  go_enter Tryz.func23, Tryz.ntmps23
  go_wp2_with fail
  refine (HD.out _).mono ?_
  rintro e w1 ⟨rfl, ew⟩
  subst w1
  go_wp2_with fail
  refine (HA.out _ (HH.out _)).mono ?_
  rintro e w1 ⟨rfl, q, ew⟩
  have hb : Below (w.alloc (.cells #[.int .i64 N, .int .i64 1, .int .i64 R] 60)).heap.size (w.alloc (.cells #[.int .i64 N, .int .i64 1, .int .i64 R] 60)) w1 := by rw [ew]; exact bdrewN (Below.refl _ _) _
  clear ew
  have HT1 := hidIt (HT.out.on hb)
  have HC1 := hidIt ((HH.out _).below hb)
  have c2 := HT1.out.c2
  clear hb
  go_wp2_with fail
  refine (HQ.out _ HC1.out).mono ?_
  rintro e w2 ⟨rfl, q2, ew⟩
  have HB : Hid (Below w.heap.size w w2) := by show Below _ _ _; rw [ew]; exact bdrewN HT1.out.bel _
  clear ew
  go_wp2
  go_ret2
  exact ⟨rfl, HB.out⟩
set_option maxHeartbeats 1000000 in
theorem rDue_work_bad (b : Nat) (off : Int → Bool) (xs : List Int) (v : Value) (d N R  : Int) (w : World) (h : Cal w b off xs v) (n1 : 0 ≤ N) (n2 : N ≤ 100000) (r1 : 0 ≤ R) (r2 : R ≤ 2) (hd : isDayB d = true)
    (hA : ∀ w, Cal w b off xs v → Calls Tryz.prog 33 #[.pointer (some ⟨b, 0, none⟩), .int .i64 d, .int .i64 N] w fun e w' => e = .returned (.tuple #[.int .i64 0, .int .i64 4]) ∧ ∃ q, w' = w.drewN q) :
    Calls Tryz.prog 23 #[.pointer (some ⟨b, 0, none⟩), .int .i64 d, .agg #[.int .i64 N, .int .i64 1, .int .i64 R]] w fun e w' => e = .returned (.tuple #[.int .i64 0, .int .i64 4]) ∧ Below w.heap.size w w' := by
  have HA := hidIt hA
  clear hA
  have HH := hidIt (fun o => h.alloc o)
  have HD := hidIt (fun w => rIsDay_any d w)
  have HT := hidIt (TBox.mk' w N 1 R 60)
  obtain ⟨d1, d2⟩ := isDayB_iff.1 hd
  rw [hd] at HD
  clear hd h
  go_enter Tryz.func23, Tryz.ntmps23
  go_wp2_with fail
  refine (HD.out _).mono ?_
  rintro e w1 ⟨rfl, ew⟩
  subst w1
  go_wp2_with fail
  refine (HA.out _ (HH.out _)).mono ?_
  rintro e w1 ⟨rfl, q, ew⟩
  have hb : Below (w.alloc (.cells #[.int .i64 N, .int .i64 1, .int .i64 R] 60)).heap.size (w.alloc (.cells #[.int .i64 N, .int .i64 1, .int .i64 R] 60)) w1 := by rw [ew]; exact bdrewN (Below.refl _ _) _
  clear ew
  have HT1 := hidIt (HT.out.on hb)
  have HC1 := hidIt ((HH.out _).below hb)
  have c2 := HT1.out.c2
  clear hb
  have HB := hidIt HT1.out.bel
  go_wp2
  go_ret2
  exact ⟨rfl, HB.out⟩
set_option maxHeartbeats 1000000 in
theorem rDue_months_ok (b : Nat) (off : Int → Bool) (xs : List Int) (v : Value) (d N R x y z : Int) (w : World) (h : Cal w b off xs v) (n1 : 0 ≤ N) (n2 : N ≤ 100000) (r1 : 0 ≤ R) (r2 : R ≤ 2) (hd : isDayB d = true)
    (hA : ∀ w, Calls Tryz.prog 34 #[.int .i64 d, .int .i64 N] w fun e w' => e = .returned (.tuple #[.int .i64 x, .int .i64 0]) ∧ Below w.heap.size w w')
    (hR : ∀ w, Cal w b off xs v → Calls Tryz.prog 35 #[.pointer (some ⟨b, 0, none⟩), .int .i64 x, .int .i64 R] w fun e w' => e = .returned (.tuple #[.int .i64 y, .int .i64 z]) ∧ ∃ q, w' = w.drewN q) :
    Calls Tryz.prog 23 #[.pointer (some ⟨b, 0, none⟩), .int .i64 d, .agg #[.int .i64 N, .int .i64 3, .int .i64 R]] w fun e w' => e = .returned (.tuple #[.int .i64 y, .int .i64 z]) ∧ Below w.heap.size w w' := by
  have HA := hidIt hA
  have HQ := hidIt hR
  clear hR
  clear hA
  have HH := hidIt (fun o => h.alloc o)
  have HD := hidIt (fun w => rIsDay_any d w)
  have HT := hidIt (TBox.mk' w N 3 R 60)
  obtain ⟨d1, d2⟩ := isDayB_iff.1 hd
  rw [hd] at HD
  clear hd h
  go_enter Tryz.func23, Tryz.ntmps23
  go_wp2_with fail
  refine (HD.out _).mono ?_
  rintro e w1 ⟨rfl, ew⟩
  subst w1
  go_wp2_with fail
  refine (HA.out _).mono ?_
  rintro e w1 ⟨rfl, hb⟩
  have HT1 := hidIt (HT.out.on hb)
  have HC1 := hidIt ((HH.out _).below hb)
  have c2 := HT1.out.c2
  clear hb
  go_wp2_with fail
  refine (HQ.out _ HC1.out).mono ?_
  rintro e w2 ⟨rfl, q2, ew⟩
  have HB : Hid (Below w.heap.size w w2) := by show Below _ _ _; rw [ew]; exact bdrewN HT1.out.bel _
  clear ew
  go_wp2
  go_ret2
  exact ⟨rfl, HB.out⟩
set_option maxHeartbeats 1000000 in
theorem rDue_months_bad (b : Nat) (off : Int → Bool) (xs : List Int) (v : Value) (d N R  : Int) (w : World) (h : Cal w b off xs v) (n1 : 0 ≤ N) (n2 : N ≤ 100000) (r1 : 0 ≤ R) (r2 : R ≤ 2) (hd : isDayB d = true)
    (hA : ∀ w, Calls Tryz.prog 34 #[.int .i64 d, .int .i64 N] w fun e w' => e = .returned (.tuple #[.int .i64 0, .int .i64 4]) ∧ Below w.heap.size w w') :
    Calls Tryz.prog 23 #[.pointer (some ⟨b, 0, none⟩), .int .i64 d, .agg #[.int .i64 N, .int .i64 3, .int .i64 R]] w fun e w' => e = .returned (.tuple #[.int .i64 0, .int .i64 4]) ∧ Below w.heap.size w w' := by
  have HA := hidIt hA
  clear hA
  have HH := hidIt (fun o => h.alloc o)
  have HD := hidIt (fun w => rIsDay_any d w)
  have HT := hidIt (TBox.mk' w N 3 R 60)
  obtain ⟨d1, d2⟩ := isDayB_iff.1 hd
  rw [hd] at HD
  clear hd h
  go_enter Tryz.func23, Tryz.ntmps23
  go_wp2_with fail
  refine (HD.out _).mono ?_
  rintro e w1 ⟨rfl, ew⟩
  subst w1
  go_wp2_with fail
  refine (HA.out _).mono ?_
  rintro e w1 ⟨rfl, hb⟩
  have HT1 := hidIt (HT.out.on hb)
  have HC1 := hidIt ((HH.out _).below hb)
  have c2 := HT1.out.c2
  clear hb
  have HB := hidIt HT1.out.bel
  go_wp2
  go_ret2
  exact ⟨rfl, HB.out⟩
set_option maxHeartbeats 1000000 in
theorem rDue_years_ok (b : Nat) (off : Int → Bool) (xs : List Int) (v : Value) (d N R x y z : Int) (w : World) (h : Cal w b off xs v) (n1 : 0 ≤ N) (n2 : N ≤ 100000) (r1 : 0 ≤ R) (r2 : R ≤ 2) (hd : isDayB d = true)
    (hA : ∀ w, Calls Tryz.prog 34 #[.int .i64 d, .int .i64 (N * 12)] w fun e w' => e = .returned (.tuple #[.int .i64 x, .int .i64 0]) ∧ Below w.heap.size w w')
    (hR : ∀ w, Cal w b off xs v → Calls Tryz.prog 35 #[.pointer (some ⟨b, 0, none⟩), .int .i64 x, .int .i64 R] w fun e w' => e = .returned (.tuple #[.int .i64 y, .int .i64 z]) ∧ ∃ q, w' = w.drewN q) :
    Calls Tryz.prog 23 #[.pointer (some ⟨b, 0, none⟩), .int .i64 d, .agg #[.int .i64 N, .int .i64 4, .int .i64 R]] w fun e w' => e = .returned (.tuple #[.int .i64 y, .int .i64 z]) ∧ Below w.heap.size w w' := by
  have HA := hidIt hA
  have HQ := hidIt hR
  clear hR
  clear hA
  have HH := hidIt (fun o => h.alloc o)
  have HD := hidIt (fun w => rIsDay_any d w)
  have HT := hidIt (TBox.mk' w N 4 R 60)
  obtain ⟨d1, d2⟩ := isDayB_iff.1 hd
  rw [hd] at HD
  clear hd h
  go_enter Tryz.func23, Tryz.ntmps23
  go_wp2_with fail
  refine (HD.out _).mono ?_
  rintro e w1 ⟨rfl, ew⟩
  subst w1
  go_wp2_with fail
  refine (HA.out _).mono ?_
  rintro e w1 ⟨rfl, hb⟩
  have HT1 := hidIt (HT.out.on hb)
  have HC1 := hidIt ((HH.out _).below hb)
  have c2 := HT1.out.c2
  clear hb
  go_wp2_with fail
  refine (HQ.out _ HC1.out).mono ?_
  rintro e w2 ⟨rfl, q2, ew⟩
  have HB : Hid (Below w.heap.size w w2) := by show Below _ _ _; rw [ew]; exact bdrewN HT1.out.bel _
  clear ew
  go_wp2
  go_ret2
  exact ⟨rfl, HB.out⟩
set_option maxHeartbeats 1000000 in
theorem rDue_years_bad (b : Nat) (off : Int → Bool) (xs : List Int) (v : Value) (d N R  : Int) (w : World) (h : Cal w b off xs v) (n1 : 0 ≤ N) (n2 : N ≤ 100000) (r1 : 0 ≤ R) (r2 : R ≤ 2) (hd : isDayB d = true)
    (hA : ∀ w, Calls Tryz.prog 34 #[.int .i64 d, .int .i64 (N * 12)] w fun e w' => e = .returned (.tuple #[.int .i64 0, .int .i64 4]) ∧ Below w.heap.size w w') :
    Calls Tryz.prog 23 #[.pointer (some ⟨b, 0, none⟩), .int .i64 d, .agg #[.int .i64 N, .int .i64 4, .int .i64 R]] w fun e w' => e = .returned (.tuple #[.int .i64 0, .int .i64 4]) ∧ Below w.heap.size w w' := by
  have HA := hidIt hA
  clear hA
  have HH := hidIt (fun o => h.alloc o)
  have HD := hidIt (fun w => rIsDay_any d w)
  have HT := hidIt (TBox.mk' w N 4 R 60)
  obtain ⟨d1, d2⟩ := isDayB_iff.1 hd
  rw [hd] at HD
  clear hd h
  go_enter Tryz.func23, Tryz.ntmps23
  go_wp2_with fail
  refine (HD.out _).mono ?_
  rintro e w1 ⟨rfl, ew⟩
  subst w1
  go_wp2_with fail
  refine (HA.out _).mono ?_
  rintro e w1 ⟨rfl, hb⟩
  have HT1 := hidIt (HT.out.on hb)
  have HC1 := hidIt ((HH.out _).below hb)
  have c2 := HT1.out.c2
  clear hb
  have HB := hidIt HT1.out.bel
  go_wp2
  go_ret2
  exact ⟨rfl, HB.out⟩
end Go.Proofs.YtkaeolcchhneoaaGreatDoor

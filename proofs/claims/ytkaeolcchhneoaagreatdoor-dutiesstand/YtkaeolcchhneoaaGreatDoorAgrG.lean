/-
  day.due and the reference's Due tell the same (written by tools/genagrg.py).
-/
import Derived.Test.YtkaeolcchhneoaaGreatDoorDuI
import Derived.Test.YtkaeolcchhneoaaGreatDoorRefDueR
namespace Go.Proofs.YtkaeolcchhneoaaGreatDoor
open Go.RowKit Go.Extern.Stop Go.Stop Go.Extern Go.Sort Go.Lib

theorem up_shift (off : Int → Bool) (xs : List Int) (d : Int) : ∀ i, upG off xs d (i + 1) = gU off xs d i := fun i => by unfold upG gU; congr 1
theorem dn_shift (off : Int → Bool) (xs : List Int) (d : Int) : ∀ i, dnG off xs d (i + 1) = gD off xs d i := fun i => by unfold dnG gD; congr 1
theorem up_zero (off : Int → Bool) (xs : List Int) (d : Int) : upG off xs d 0 = works off xs d := by unfold upG; congr 1; omega
theorem dn_zero (off : Int → Bool) (xs : List Int) (d : Int) : dnG off xs d 0 = works off xs d := by unfold dnG; congr 1; omega
theorem hit_zero {g : Nat → Bool} {K : Nat} (h : g 0 = true) (hK : 0 < K) : Hit g K 1 0 := ⟨hK, by simp [cn], by simp [cn, h]⟩

theorem rAdd_bound (b : Nat) (d n : Int) (w : World) (h : n < -100000 ∨ 100000 < n) :
    Calls Tryz.prog 33 #[.pointer (some ⟨b, 0, none⟩), .int .i64 d, .int .i64 n] w fun e w' => e = .returned (.tuple #[.int .i64 0, .int .i64 2]) ∧ ∃ q, w' = w.drewN q := by
  by_cases h0 : 100000 < n
  · clear h
    go_enter Tryz.func33, Tryz.ntmps33
    go_wp2
    go_ret2
    exact ⟨rfl, 0, rfl⟩
  · have h1 : n < -100000 := by omega
    clear h
    go_enter Tryz.func33, Tryz.ntmps33
    go_wp2
    go_ret2
    exact ⟨rfl, 0, rfl⟩
theorem rAdd_noday (b : Nat) (d n : Int) (w : World) (n1 : -100000 ≤ n) (n2 : n ≤ 100000) (hd : isDayB d = false) :
    Calls Tryz.prog 33 #[.pointer (some ⟨b, 0, none⟩), .int .i64 d, .int .i64 n] w fun e w' => e = .returned (.tuple #[.int .i64 0, .int .i64 4]) ∧ ∃ q, w' = w.drewN q := by
  have HD := hidIt (fun w => rIsDay_any d w)
  rw [hd] at HD
  clear hd
  go_enter Tryz.func33, Tryz.ntmps33
  go_wp2_with (go_at_call 22; refine (HD.out _).mono ?_; rintro e w' ⟨rfl, rfl⟩)
  go_ret2
  exact ⟨rfl, 0, rfl⟩
theorem rAdd_zero (b : Nat) (d : Int) (w : World) (hd : isDayB d = true) :
    Calls Tryz.prog 33 #[.pointer (some ⟨b, 0, none⟩), .int .i64 d, .int .i64 0] w fun e w' => e = .returned (.tuple #[.int .i64 d, .int .i64 0]) ∧ ∃ q, w' = w.drewN q := by
  have HD := hidIt (fun w => rIsDay_any d w)
  rw [hd] at HD
  clear hd
  go_enter Tryz.func33, Tryz.ntmps33
  go_wp2_with (go_at_call 22; refine (HD.out _).mono ?_; rintro e w' ⟨rfl, rfl⟩)
  go_ret2
  exact ⟨rfl, 0, rfl⟩

theorem up_next (off : Int → Bool) (xs : List Int) (d : Int) : upG off xs (d + 1) = gU off xs d := by
  funext i; unfold upG gU; congr 1; omega
theorem dn_next (off : Int → Bool) (xs : List Int) (d : Int) : dnG off xs (d - 1) = gD off xs d := by
  funext i; unfold dnG gD; congr 1; omega

/-- What roll, add answer. -/
def RollOK (off : Int → Bool) (xs : List Int) (p : Nat → Addr) (d how : Int) (r : DR) : Prop :=
  ∀ (w : World) (pb : Nat), Laid w p → Calls Tryz.prog 42 #[.pointer (some ⟨pb, 0, none⟩)] w (PlanR off xs w) →
    Calls Tryz.prog 61 #[.int .i64 d, .int .i64 how, .func (.func 42) #[] #[.pointer (some ⟨pb, 0, none⟩)]] w fun e w' => e = .returned (r.val p) ∧ Below w.heap.size w w'
def AddOK (off : Int → Bool) (xs : List Int) (p : Nat → Addr) (d n : Int) (r : DR) : Prop :=
  ∀ (w : World) (pb : Nat), Laid w p → Calls Tryz.prog 42 #[.pointer (some ⟨pb, 0, none⟩)] w (PlanR off xs w) →
    Calls Tryz.prog 70 #[.int .i64 d, .int .i64 n, .func (.func 42) #[] #[.pointer (some ⟨pb, 0, none⟩)]] w fun e w' => e = .returned (r.val p) ∧ Below w.heap.size w w'
/-- A term that comes to a day x ahead of being rolled. -/
theorem due_of {off : Int → Bool} {xs : List Int} {p : Nat → Addr} {d N U R x : Int} {r : DR} (n1 : 0 ≤ N) (n2 : N ≤ 100000) (hu : unitB U = true) (hr : rollB R = true) (hd : isDayB d = true) (hq : RollOK off xs p x R r)
    (hE : ∀ (w : World) (pb : Nat), Laid w p → (∀ W, Below w.heap.size w W → Calls Tryz.prog 42 #[.pointer (some ⟨pb, 0, none⟩)] W (PlanR off xs W)) → Calls Tryz.prog 60 #[.int .i64 d, .agg #[.int .i64 N, .int .i64 U, .int .i64 R], .func (.func 42) #[] #[.pointer (some ⟨pb, 0, none⟩)]] w fun e w' => e = .returned (.tuple #[.int .i64 x, .nilIface]) ∧ Below w.heap.size w w') : DueOK off xs p d N U R r := fun w pb L hW => by
  cases r with
  | ok y => exact due_ok pb d N U R x _ _ w n1 n2 hu hr hd (fun W h => hE W pb (L.below h) (fun W' h' => hW W' (h.trans (h'.mono h.size)))) (fun W h => hq W pb (L.below h) (hW W h))
  | er k => exact due_ok pb d N U R x _ _ w n1 n2 hu hr hd (fun W h => hE W pb (L.below h) (fun W' h' => hW W' (h.trans (h'.mono h.size)))) (fun W h => hq W pb (L.below h) (hW W h))
theorem due_no {off : Int → Bool} {xs : List Int} {p : Nat → Addr} {d N U R : Int} {k : Nat} (n1 : 0 ≤ N) (n2 : N ≤ 100000) (hu : unitB U = true) (hr : rollB R = true) (hd : isDayB d = true)
    (hE : ∀ (w : World) (pb : Nat), Laid w p → (∀ W, Below w.heap.size w W → Calls Tryz.prog 42 #[.pointer (some ⟨pb, 0, none⟩)] W (PlanR off xs W)) → Calls Tryz.prog 60 #[.int .i64 d, .agg #[.int .i64 N, .int .i64 U, .int .i64 R], .func (.func 42) #[] #[.pointer (some ⟨pb, 0, none⟩)]] w fun e w' => e = .returned ((DR.er k).val p) ∧ Below w.heap.size w w') : DueOK off xs p d N U R (.er k) := fun w pb L hW =>
  due_err pb d N U R _ _ w n1 n2 hu hr hd (fun W h => hE W pb (L.below h) (fun W' h' => hW W' (h.trans (h'.mono h.size))))

def DR.ref : DR → Value
  | .ok x => .tuple #[.int .i64 x, .int .i64 0]
  | .er k => .tuple #[.int .i64 0, .int .i64 ((k : Int) + 1)]
def RRoll (off : Int → Bool) (xs : List Int) (d how : Int) (r : DR) : Prop := ∀ b' v' w, Cal w b' off xs v' → Calls Tryz.prog 35 #[.pointer (some ⟨b', 0, none⟩), .int .i64 d, .int .i64 how] w fun e w' => e = .returned r.ref ∧ ∃ q, w' = w.drewN q
def RAdd (off : Int → Bool) (xs : List Int) (d n : Int) (r : DR) : Prop := ∀ b' v' w, Cal w b' off xs v' → Calls Tryz.prog 33 #[.pointer (some ⟨b', 0, none⟩), .int .i64 d, .int .i64 n] w fun e w' => e = .returned r.ref ∧ ∃ q, w' = w.drewN q
def RDue (off : Int → Bool) (xs : List Int) (d N U R : Int) (r : DR) : Prop := ∀ b' v' w, Cal w b' off xs v' → Calls Tryz.prog 23 #[.pointer (some ⟨b', 0, none⟩), .int .i64 d, .agg #[.int .i64 N, .int .i64 U, .int .i64 R]] w fun e w' => e = .returned r.ref ∧ Below w.heap.size w w'
/-- A day that is one, an error that is listed. -/
def DR.good (r : DR) : Prop := (∀ x, r = .ok x → 1 ≤ x ∧ x ≤ 3652059) ∧ ∀ k, r = .er k → k < 11
theorem good_ok {x : Int} (h : 1 ≤ x) (h2 : x ≤ 3652059) : (DR.ok x).good := ⟨fun y e => by injection e; omega, fun k e => (nomatch e)⟩
theorem good_er {k : Nat} (h : k < 11) : (DR.er k).good := ⟨fun y e => (nomatch e), fun j e => by injection e; omega⟩
theorem agree_roll (off : Int → Bool) (xs : List Int) (p : Nat → Addr) (d how : Int) : ∃ r, RollOK off xs p d how r ∧ RRoll off xs d how r ∧ r.good := by
  by_cases hk : how = 0 ∨ how = 1 ∨ how = 2
  · have hr : rollB how = true := by rcases hk with rfl | rfl | rfl <;> rfl
    cases hd : isDayB d
    · exact ⟨.er 3, fun w pb L _ => roll_noday pb d how (p 3) w (L.cell 3 (by omega)) hr hd, fun b' _ w _ => rRoll_noday b' d how w hk hd, good_er (by omega)⟩
    obtain ⟨d1, d2⟩ := isDayB_iff.1 hd
    rcases hk with rfl | rfl | rfl
    · exact ⟨.ok d, fun w pb _ _ => roll_stay pb d w hd, fun b' v' w h => rRoll_here b' off xs v' d 0 w h (.inl rfl) hd, good_ok d1 d2⟩
    · cases hw : works off xs d
      · rcases hit_or (gU off xs d) 1 (by omega) (3652059 - d).toNat with hm | ⟨s, hh⟩
        · refine ⟨.er 3, fun w pb L h => roll_up_miss pb off xs d (p 3) w (L.cell 3 (by omega)) h hd ?_, fun b' v' w h => rRoll_up b' off xs v' d 0 4 w h hd hw (fun w' h' => walkU_miss b' off xs v' d 1 w' h' d1 d2 (by omega) hm), good_er (by omega)⟩
          rw [show (3652060 - d).toNat = (3652059 - d).toNat + 1 by omega, cn_shift (up_shift off xs d) ((up_zero off xs d).trans hw)]
          exact hm
        · have hs := hh.1
          refine ⟨.ok (d + (s + 1)), fun w pb _ h => ?_, fun b' v' w h => rRoll_up b' off xs v' d (d + (s + 1)) 0 w h hd hw (fun w' h' => walkU_hit b' off xs v' d 1 s w' h' d1 d2 (by omega) hh), good_ok (by omega) (by omega)⟩
          have hh' := hh.shift (up_shift off xs d) ((up_zero off xs d).trans hw)
          rw [show (3652059 - d).toNat + 1 = (3652060 - d).toNat by omega] at hh'
          exact roll_up_hit pb off xs d (s + 1) w h hd hh'
      · refine ⟨.ok d, fun w pb _ h => ?_, fun b' v' w h => rRoll_here b' off xs v' d 1 w h (.inr ⟨.inl rfl, hw⟩) hd, good_ok d1 d2⟩
        have h0 := roll_up_hit pb off xs d 0 w h hd (hit_zero ((up_zero off xs d).trans hw) (by omega))
        rw [show d + ((0 : Nat) : Int) = d by omega] at h0
        exact h0
    · cases hw : works off xs d
      · rcases hit_or (gD off xs d) 1 (by omega) (d - 1).toNat with hm | ⟨s, hh⟩
        · refine ⟨.er 3, fun w pb L h => roll_dn_miss pb off xs d (p 3) w (L.cell 3 (by omega)) h hd ?_, fun b' v' w h => rRoll_dn b' off xs v' d 0 4 w h hd hw (fun w' h' => walkD_miss b' off xs v' d 1 w' h' d1 d2 (by omega) hm), good_er (by omega)⟩
          rw [show d.toNat = (d - 1).toNat + 1 by omega, cn_shift (dn_shift off xs d) ((dn_zero off xs d).trans hw)]
          exact hm
        · have hs := hh.1
          refine ⟨.ok (d - (s + 1)), fun w pb _ h => ?_, fun b' v' w h => rRoll_dn b' off xs v' d (d - (s + 1)) 0 w h hd hw (fun w' h' => walkD_hit b' off xs v' d 1 s w' h' d1 d2 (by omega) hh), good_ok (by omega) (by omega)⟩
          have hh' := hh.shift (dn_shift off xs d) ((dn_zero off xs d).trans hw)
          rw [show (d - 1).toNat + 1 = d.toNat by omega] at hh'
          exact roll_dn_hit pb off xs d (s + 1) w h hd hh'
      · refine ⟨.ok d, fun w pb _ h => ?_, fun b' v' w h => rRoll_here b' off xs v' d 2 w h (.inr ⟨.inr rfl, hw⟩) hd, good_ok d1 d2⟩
        have h0 := roll_dn_hit pb off xs d 0 w h hd (hit_zero ((dn_zero off xs d).trans hw) (by omega))
        rw [show d - ((0 : Nat) : Int) = d by omega] at h0
        exact h0
  · have hr : rollB how = false := by
      unfold rollB
      rw [Bool.and_eq_false_iff]
      simp only [decide_eq_false_iff_not]
      omega
    exact ⟨.er 8, fun w pb L _ => roll_kind pb d how (p 8) w (L.cell 8 (by omega)) hr, fun b' _ w _ => rRoll_kind b' d how w (fun h => hk (.inl h)) (fun h => hk (.inr (.inl h))) (fun h => hk (.inr (.inr h))), good_er (by omega)⟩
theorem agree_add (off : Int → Bool) (xs : List Int) (p : Nat → Addr) (d n : Int) : (∃ x, AddOK off xs p d n (.ok x) ∧ RAdd off xs d n (.ok x)) ∨ ∃ k, k < 11 ∧ AddOK off xs p d n (.er k) ∧ RAdd off xs d n (.er k) ∧ ((-100000 ≤ n ∧ n ≤ 100000) → k = 3) := by
  by_cases hb : n < -100000 ∨ 100000 < n
  · exact .inr ⟨1, by omega, fun w pb L _ => add_bound pb d n (p 1) w (L.cell 1 (by omega)) hb, fun b' _ w _ => rAdd_bound b' d n w hb, fun h => by omega⟩
  cases hd : isDayB d
  · exact .inr ⟨3, by omega, fun w pb L _ => add_noday pb d n (p 3) w (L.cell 3 (by omega)) (by omega) (by omega) hd, fun b' _ w _ => rAdd_noday b' d n w (by omega) (by omega) hd, fun _ => rfl⟩
  obtain ⟨d1, d2⟩ := isDayB_iff.1 hd
  rcases Int.lt_trichotomy n 0 with hn | rfl | hn
  · obtain ⟨m, rfl⟩ : ∃ m, n = -m := ⟨-n, by omega⟩
    rcases hit_or (gD off xs d) m (by omega) (d - 1).toNat with hm | ⟨s, hh⟩
    · exact .inr ⟨3, by omega, fun w pb L h => add_dn_miss pb off xs d m (p 3) w (L.cell 3 (by omega)) h hd (by omega) (by omega) (by rw [dn_next]; exact hm), fun b' v' w h => rAdd_dn b' off xs v' d m 0 4 w h hd (by omega) (by omega) (fun w' h' => walkD_miss b' off xs v' d m w' h' d1 d2 (by omega) hm), fun _ => rfl⟩
    · refine .inl ⟨d - (s + 1), fun w pb _ h => ?_, fun b' v' w h => rAdd_dn b' off xs v' d m (d - (s + 1)) 0 w h hd (by omega) (by omega) (fun w' h' => walkD_hit b' off xs v' d m s w' h' d1 d2 (by omega) hh)⟩
      have h0 := add_dn_hit pb off xs d m s w h hd (by omega) (by omega) (by rw [dn_next]; exact hh)
      rw [show d - 1 - (s : Int) = d - (s + 1) by omega] at h0
      exact h0
  · exact .inl ⟨d, fun w pb _ _ => add_zero' pb d w hd, fun b' _ w _ => rAdd_zero b' d w hd⟩
  · have ek : (3652060 - (d + 1)).toNat = (3652059 - d).toNat := by omega
    rcases hit_or (gU off xs d) n (by omega) (3652059 - d).toNat with hm | ⟨s, hh⟩
    · exact .inr ⟨3, by omega, fun w pb L h => add_up_miss pb off xs d n (p 3) w (L.cell 3 (by omega)) h hd (by omega) (by omega) (by rw [up_next, ek]; exact hm), fun b' v' w h => rAdd_up b' off xs v' d n 0 4 w h hd (by omega) (by omega) (fun w' h' => walkU_miss b' off xs v' d n w' h' d1 d2 (by omega) hm), fun _ => rfl⟩
    · have hh' : Hit (upG off xs (d + 1)) (3652060 - (d + 1)).toNat n s := by rw [up_next, ek]; exact hh
      refine .inl ⟨d + (s + 1), fun w pb _ h => ?_, fun b' v' w h => rAdd_up b' off xs v' d n (d + (s + 1)) 0 w h hd (by omega) (by omega) (fun w' h' => walkU_hit b' off xs v' d n s w' h' d1 d2 (by omega) hh)⟩
      have h0 := add_up_hit pb off xs d n s w h hd (by omega) (by omega) hh'
      rw [show d + 1 + (s : Int) = d + (s + 1) by omega] at h0
      exact h0
/-- The reference's Due, as its parts have it. -/
theorem rdue_days {off : Int → Bool} {xs : List Int} {d N R : Int} {r : DR} (n1 : 0 ≤ N) (n2 : N ≤ 100000) (r1 : 0 ≤ R) (r2 : R ≤ 2) (hd : isDayB d = true) (h : RRoll off xs (d + N) R r) : RDue off xs d N 0 R r := fun b' v' w hC => by
  cases r with
  | ok x => exact rDue_days b' off xs v' d N R x 0 w hC n1 n2 r1 r2 hd (fun w h' => h b' v' w h')
  | er k => exact rDue_days b' off xs v' d N R 0 (k + 1) w hC n1 n2 r1 r2 hd (fun w h' => h b' v' w h')
theorem rdue_weeks {off : Int → Bool} {xs : List Int} {d N R : Int} {r : DR} (n1 : 0 ≤ N) (n2 : N ≤ 100000) (r1 : 0 ≤ R) (r2 : R ≤ 2) (hd : isDayB d = true) (h : RRoll off xs (d + 7 * N) R r) : RDue off xs d N 2 R r := fun b' v' w hC => by
  cases r with
  | ok x => exact rDue_weeks b' off xs v' d N R x 0 w hC n1 n2 r1 r2 hd (fun w h' => h b' v' w h')
  | er k => exact rDue_weeks b' off xs v' d N R 0 (k + 1) w hC n1 n2 r1 r2 hd (fun w h' => h b' v' w h')
theorem rdue_work {off : Int → Bool} {xs : List Int} {d N R m : Int} {r : DR} (n1 : 0 ≤ N) (n2 : N ≤ 100000) (r1 : 0 ≤ R) (r2 : R ≤ 2) (hd : isDayB d = true) (ha : RAdd off xs d N (.ok m)) (h : RRoll off xs m R r) : RDue off xs d N 1 R r := fun b' v' w hC => by
  cases r with
  | ok x => exact rDue_work_ok b' off xs v' d N R m x 0 w hC n1 n2 r1 r2 hd (fun w h' => ha b' v' w h') (fun w h' => h b' v' w h')
  | er k => exact rDue_work_ok b' off xs v' d N R m 0 (k + 1) w hC n1 n2 r1 r2 hd (fun w h' => ha b' v' w h') (fun w h' => h b' v' w h')
theorem rdue_mo {off : Int → Bool} {xs : List Int} {d N R m : Int} {r : DR} (n1 : 0 ≤ N) (n2 : N ≤ 100000) (r1 : 0 ≤ R) (r2 : R ≤ 2) (hd : isDayB d = true) (ha : ∀ w, Calls Tryz.prog 34 #[.int .i64 d, .int .i64 N] w fun e w' => e = .returned (.tuple #[.int .i64 m, .int .i64 0]) ∧ Below w.heap.size w w') (h : RRoll off xs m R r) : RDue off xs d N 3 R r := fun b' v' w hC => by
  cases r with
  | ok x => exact rDue_months_ok b' off xs v' d N R m x 0 w hC n1 n2 r1 r2 hd ha (fun w h' => h b' v' w h')
  | er k => exact rDue_months_ok b' off xs v' d N R m 0 (k + 1) w hC n1 n2 r1 r2 hd ha (fun w h' => h b' v' w h')
theorem rdue_ye {off : Int → Bool} {xs : List Int} {d N R m : Int} {r : DR} (n1 : 0 ≤ N) (n2 : N ≤ 100000) (r1 : 0 ≤ R) (r2 : R ≤ 2) (hd : isDayB d = true) (ha : ∀ w, Calls Tryz.prog 34 #[.int .i64 d, .int .i64 (12 * N)] w fun e w' => e = .returned (.tuple #[.int .i64 m, .int .i64 0]) ∧ Below w.heap.size w w') (h : RRoll off xs m R r) : RDue off xs d N 4 R r := fun b' v' w hC => by
  cases r with
  | ok x => exact rDue_years_ok b' off xs v' d N R m x 0 w hC n1 n2 r1 r2 hd (by rw [show N * 12 = 12 * N by omega]; exact ha) (fun w h' => h b' v' w h')
  | er k => exact rDue_years_ok b' off xs v' d N R m 0 (k + 1) w hC n1 n2 r1 r2 hd (by rw [show N * 12 = 12 * N by omega]; exact ha) (fun w h' => h b' v' w h')
theorem agree_due (off : Int → Bool) (xs : List Int) (p : Nat → Addr) (d N U R : Int) : ∃ r, DueOK off xs p d N U R r ∧ RDue off xs d N U R r ∧ r.good := by
  by_cases hn : N < 0 ∨ 100000 < N
  · exact ⟨.er 1, fun w pb L _ => due_bound pb d N U R (p 1) w (L.cell 1 (by omega)) hn, fun b' _ w _ => rDue_bound b' d N U R w hn, good_er (by omega)⟩
  have n1 : 0 ≤ N := by omega
  have n2 : N ≤ 100000 := by omega
  by_cases hk : U < 0 ∨ 4 < U ∨ R < 0 ∨ 2 < R
  · refine ⟨.er 8, fun w pb L _ => due_kind pb d N U R (p 8) w (L.cell 8 (by omega)) n1 n2 ?_, fun b' _ w _ => rDue_kind b' d N U R w n1 n2 hk, good_er (by omega)⟩
    by_cases hu : U < 0 ∨ 4 < U
    · left
      unfold unitB
      rw [Bool.and_eq_false_iff]
      simp only [decide_eq_false_iff_not]
      omega
    · right
      unfold unitB rollB
      rw [Bool.and_eq_false_iff]
      simp only [decide_eq_false_iff_not, Bool.and_eq_true, decide_eq_true_eq]
      omega
  have hu : unitB U = true := by unfold unitB; simp only [Bool.and_eq_true, decide_eq_true_eq]; omega
  have hr : rollB R = true := by unfold rollB; simp only [Bool.and_eq_true, decide_eq_true_eq]; omega
  cases hd : isDayB d
  · exact ⟨.er 3, fun w pb L _ => due_noday pb d N U R (p 3) w (L.cell 3 (by omega)) n1 n2 hu hr hd, fun b' _ w _ => rDue_noday b' d N U R w n1 n2 (by omega) (by omega) (by omega) (by omega) hd, good_er (by omega)⟩
  obtain ⟨d1, d2⟩ := isDayB_iff.1 hd
  have r1 : 0 ≤ R := by omega
  have r2 : R ≤ 2 := by omega
  have hc : U = 0 ∨ U = 1 ∨ U = 2 ∨ U = 3 ∨ U = 4 := by omega
  clear hk hn
  rcases hc with rfl | rfl | rfl | rfl | rfl
  · obtain ⟨r, h1, h2, h3⟩ := agree_roll off xs p (d + N) R
    exact ⟨r, due_of n1 n2 hu hr hd h1 (fun w pb _ _ => end_days pb d N R w d1 d2 n1 n2), rdue_days n1 n2 r1 r2 hd h2, h3⟩
  · rcases agree_add off xs p d N with ⟨x, ha, hb⟩ | ⟨k, hk, ha, hb, hk3⟩
    · obtain ⟨r, h1, h2, h3⟩ := agree_roll off xs p x R
      exact ⟨r, due_of n1 n2 hu hr hd h1 (fun w pb L hW => end_work pb d N R _ _ w (fun o => ha _ pb (L.below (bel1 w o)) (hW _ (bel1 w o)))), rdue_work n1 n2 r1 r2 hd hb h2, h3⟩
    · obtain rfl := hk3 ⟨by omega, by omega⟩
      exact ⟨.er 3, due_no n1 n2 hu hr hd (fun w pb L hW => end_work pb d N R _ _ w (fun o => ha _ pb (L.below (bel1 w o)) (hW _ (bel1 w o)))), fun b' v' w hC => rDue_work_bad b' off xs v' d N R w hC n1 n2 r1 r2 hd (fun w h' => hb b' v' w h'), good_er (by omega)⟩
  · obtain ⟨r, h1, h2, h3⟩ := agree_roll off xs p (d + 7 * N) R
    exact ⟨r, due_of n1 n2 hu hr hd h1 (fun w pb _ _ => end_weeks pb d N R w d1 d2 n1 n2), rdue_weeks n1 n2 r1 r2 hd h2, h3⟩
  · rcases agree_months d N p with ⟨x, ha, _, hb⟩ | ⟨ha, hb⟩
    · obtain ⟨r, h1, h2, h3⟩ := agree_roll off xs p x R
      exact ⟨r, due_of n1 n2 hu hr hd h1 (fun w pb _ _ => end_months pb d N R _ _ w (fun o => (ha _).mono (fun e w' h => ⟨h.1, 0, h.2⟩))), rdue_mo n1 n2 r1 r2 hd hb h2, h3⟩
    · exact ⟨.er 3, due_no n1 n2 hu hr hd (fun w pb L _ => end_months pb d N R _ _ w (fun o => ha _ (L.below (bel1 w o)))), fun b' v' w hC => rDue_months_bad b' off xs v' d N R w hC n1 n2 r1 r2 hd hb, good_er (by omega)⟩
  · rcases agree_months d (12 * N) p with ⟨x, ha, _, hb⟩ | ⟨ha, hb⟩
    · obtain ⟨r, h1, h2, h3⟩ := agree_roll off xs p x R
      exact ⟨r, due_of n1 n2 hu hr hd h1 (fun w pb _ _ => end_years pb d N R _ _ w n1 n2 (fun o => (ha _).mono (fun e w' h => ⟨h.1, 0, h.2⟩))), rdue_ye n1 n2 r1 r2 hd hb h2, h3⟩
    · exact ⟨.er 3, due_no n1 n2 hu hr hd (fun w pb L _ => end_years pb d N R _ _ w n1 n2 (fun o => ha _ (L.below (bel1 w o)))), fun b' v' w hC => rDue_years_bad b' off xs v' d N R w hC n1 n2 r1 r2 hd (by rw [show N * 12 = 12 * N by omega]; exact hb), good_er (by omega)⟩
/-- One function tells all ends, to both. -/
theorem due_both (off : Int → Bool) (xs : List Int) (p : Nat → Addr) : ∃ F : Du → DR, (∀ d, DueOK off xs p (d.til + 1) d.n d.u d.r (F d)) ∧ (∀ d, RDue off xs (d.til + 1) d.n d.u d.r (F d)) ∧ (∀ d x, F d = .ok x → 1 ≤ x ∧ x ≤ 3652059) ∧ ∀ d k, F d = .er k → k < 11 :=
  ⟨fun d => (agree_due off xs p (d.til + 1) d.n d.u d.r).choose, fun d => (agree_due off xs p (d.til + 1) d.n d.u d.r).choose_spec.1, fun d => (agree_due off xs p (d.til + 1) d.n d.u d.r).choose_spec.2.1, fun d => (agree_due off xs p (d.til + 1) d.n d.u d.r).choose_spec.2.2.1, fun d => (agree_due off xs p (d.til + 1) d.n d.u d.r).choose_spec.2.2.2⟩
end Go.Proofs.YtkaeolcchhneoaaGreatDoor

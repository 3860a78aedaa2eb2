/-
  A calendar made ready for many terms: Plan, Plan.Due.
-/
import Derived.Test.YtpijiglmjkdlgaaDoorDueA
import Derived.Test.YtpijiglmjkdlgaaDoorEncMem
namespace Go.Proofs.YtpijiglmjkdlgaaDoor
open Go.RowKit Go.Sort Go.Lib

theorem range_bel {w w' : World} {b o : Nat} {cs : List Value} (h : w.rangeAt b o cs) (hb : Below w.heap.size w w') (hlt : b < w.heap.size) : w'.rangeAt b o cs := range_on h (hb.block b hlt)
/-- What a term's end is: a day, or an error. -/
inductive DR where
  | ok (x : Int)
  | er (k : Nat)
def DR.val (p : Nat → Addr) : DR → Value
  | .ok x => .tuple #[.int .i64 x, .nilIface]
  | .er k => .tuple #[.int .i64 0, .iface 134 (.pointer (some (p k)))]
/-- What day.due answers. -/
def DueOK (off : Int → Bool) (xs : List Int) (p : Nat → Addr) (d N U R : Int) (r : DR) : Prop :=
  ∀ (w : World) (pb : Nat), Laid w p → (∀ W, Below w.heap.size w W → Calls Tryd.prog 50 #[.pointer (some ⟨pb, 0, none⟩)] W (PlanR off xs W)) →
    Calls Tryd.prog 49 #[.int .i64 d, .agg #[.int .i64 N, .int .i64 U, .int .i64 R], .func (.func 50) #[] #[.pointer (some ⟨pb, 0, none⟩)]] w fun e w' => e = .returned (r.val p) ∧ Below w.heap.size w w'
/-- A plan that lies somewhere. -/
structure PlanAt (w : World) (g : Nat) (off : Int → Bool) (xs : List Int) (a : Nat → Bool) (k : Int) (sa : Option Addr) (sn sc : Nat) : Prop where
  cs : w.rangeAt g 0 [.bool (a 0), .bool (a 1), .bool (a 2), .bool (a 3), .bool (a 4), .bool (a 5), .bool (a 6), .int .i64 k, .slice sa sn sc]
  pl : IsPlan w (.agg #[.bool (a 0), .bool (a 1), .bool (a 2), .bool (a 3), .bool (a 4), .bool (a 5), .bool (a 6), .int .i64 k, .slice sa sn sc]) off xs
  lt : g < w.heap.size
theorem PlanAt.below {w w' : World} {g : Nat} {off : Int → Bool} {xs : List Int} {a : Nat → Bool} {k : Int} {sa : Option Addr} {sn sc : Nat} (h : PlanAt w g off xs a k sa sn sc) (hb : Below w.heap.size w w') : PlanAt w' g off xs a k sa sn sc :=
  ⟨range_bel h.cs hb h.lt, h.pl.below hb, Nat.lt_of_lt_of_le h.lt hb.size⟩
set_option maxHeartbeats 2000000 in
theorem clos_p {w : World} {g pb : Nat} {off : Int → Bool} {xs : List Int} {a : Nat → Bool} {k : Int} {sa : Option Addr} {sn sc : Nat} (h : PlanAt w g off xs a k sa sn sc) (hp : w.cell? ⟨pb, 0, none⟩ = some (.pointer (some ⟨g, 0, none⟩))) :
    Calls Tryd.prog 50 #[.pointer (some ⟨pb, 0, none⟩)] w (PlanR off xs w) := by
  have HP := hidIt h
  have hlt := h.lt
  have hq : ∀ ob : Obj, (w.alloc ob).cell? ⟨pb, 0, none⟩ = some (.pointer (some ⟨g, 0, none⟩)) := fun ob => ((bel1 w ob).cell (p := ⟨pb, 0, none⟩) (cell_lt hp)).trans hp
  have hc := fun ob => (h.below (bel1 w ob)).cs
  have c0 := fun ob => hc ob 0 _ rfl
  have c1 := fun ob => hc ob 1 _ rfl
  have c2 := fun ob => hc ob 2 _ rfl
  have c3 := fun ob => hc ob 3 _ rfl
  have c4 := fun ob => hc ob 4 _ rfl
  have c5 := fun ob => hc ob 5 _ rfl
  have c6 := fun ob => hc ob 6 _ rfl
  have c7 := fun ob => hc ob 7 _ rfl
  have c8 := fun ob => hc ob 8 _ rfl
  clear h hc hp
  go_enter Tryd.func50, Tryd.ntmps50
  go_wp2
  refine bodyPost_ret (v := .agg #[.bool (a 0), .bool (a 1), .bool (a 2), .bool (a 3), .bool (a 4), .bool (a 5), .bool (a 6), .int .i64 k, .slice sa sn sc]) (by simp [results, Tryd.results50, go_sem]) rfl ⟨⟨_, rfl, ?_⟩, ?_⟩
  · exact HP.out.pl.below (bel1 _ _)
  · exact bel1 _ _
set_option maxHeartbeats 2000000 in
theorem pdue_p {w : World} {g : Nat} {off : Int → Bool} {xs : List Int} {p : Nat → Addr} {d N U R : Int} {r : DR} {a : Nat → Bool} {k : Int} {sa : Option Addr} {sn sc : Nat} (h : PlanAt w g off xs a k sa sn sc) (L : Laid w p) (hr : DueOK off xs p d N U R r) :
    Calls Tryd.prog 37 #[.pointer (some ⟨g, 0, none⟩), .int .i64 d, .agg #[.int .i64 N, .int .i64 U, .int .i64 R]] w fun e w' => e = .returned (r.val p) ∧ Below w.heap.size w w' := by
  have HC : Hid (Calls Tryd.prog 49 #[.int .i64 d, .agg #[.int .i64 N, .int .i64 U, .int .i64 R], .func (.func 50) #[] #[.pointer (some ⟨w.heap.size, 0, none⟩)]] ((w.alloc (.cells #[.pointer (some ⟨g, 0, none⟩)] 59)).alloc (.cells #[.int .i64 N, .int .i64 U, .int .i64 R] 55)) fun e w' => e = .returned (r.val p) ∧ Below ((w.alloc (.cells #[.pointer (some ⟨g, 0, none⟩)] 59)).alloc (.cells #[.int .i64 N, .int .i64 U, .int .i64 R] 55)).heap.size ((w.alloc (.cells #[.pointer (some ⟨g, 0, none⟩)] 59)).alloc (.cells #[.int .i64 N, .int .i64 U, .int .i64 R] 55)) w') := by
    have hb1 := bel1 w (.cells #[.pointer (some ⟨g, 0, none⟩)] 59)
    have hc1 : (w.alloc (.cells #[.pointer (some ⟨g, 0, none⟩)] 59)).cell? ⟨w.heap.size, 0, none⟩ = some (.pointer (some ⟨g, 0, none⟩)) := alloc_range w [.pointer (some ⟨g, 0, none⟩)] _ 0 _ rfl
    generalize w.alloc (.cells #[.pointer (some ⟨g, 0, none⟩)] 59) = W1 at *
    have hb2 := bel1 W1 (.cells #[.int .i64 N, .int .i64 U, .int .i64 R] 55)
    have hc2 := (hb2.cell (p := ⟨w.heap.size, 0, none⟩) (cell_lt hc1)).trans hc1
    generalize W1.alloc (.cells #[.int .i64 N, .int .i64 U, .int .i64 R] 55) = W2 at *
    have hb3 := hb1.trans (hb2.mono hb1.size)
    exact hr W2 w.heap.size (L.below hb3) (fun W hW => clos_p ((h.below hb3).below hW) ((hW.cell (p := ⟨w.heap.size, 0, none⟩) (cell_lt hc2)).trans hc2))
  have HB : Hid (Below w.heap.size w ((w.alloc (.cells #[.pointer (some ⟨g, 0, none⟩)] 59)).alloc (.cells #[.int .i64 N, .int .i64 U, .int .i64 R] 55))) := (bel1 w _).trans ((bel1 _ _).mono (by simp))
  clear h L hr
  cases r with
  | ok x =>
    unfold DR.val at *
    go_enter Tryd.func37, Tryd.ntmps37
    go_wp2_with fail
    refine HC.out.mono ?_
    rintro e w1 ⟨rfl, hb⟩
    have HB1 := hidIt (HB.out.trans (hb.mono HB.out.size))
    clear hb
    go_wp2
    go_ret2
    exact ⟨rfl, HB1.out⟩
  | er k =>
    unfold DR.val at *
    go_enter Tryd.func37, Tryd.ntmps37
    go_wp2_with fail
    refine HC.out.mono ?_
    rintro e w1 ⟨rfl, hb⟩
    have HB1 := hidIt (HB.out.trans (hb.mono HB.out.size))
    clear hb
    go_wp2
    go_ret2
    exact ⟨rfl, HB1.out⟩
/-- What Plan answers. -/
def NewPl (off : Int → Bool) (xs : List Int) (w : World) (e : Ending) (w' : World) : Prop := (∃ g a k sa sn sc, e = .returned (.pointer (some ⟨g, 0, none⟩)) ∧ PlanAt w' g off xs a k sa sn sc) ∧ Below w.heap.size w w'
set_option maxHeartbeats 2000000 in
theorem newPlan_p {w : World} {off : Int → Bool} {xs : List Int} {ca : Option Addr} (h : Calls Tryd.prog 32 #[.pointer ca] w (PlanR off xs w)) :
    Calls Tryd.prog 17 #[.pointer ca] w (NewPl off xs w) := by
  have HP := hidIt h
  clear h
  go_enter Tryd.func17, Tryd.ntmps17
  go_wp2_with fail
  refine HP.out.mono ?_
  rintro e w1 ⟨⟨v, rfl, hv⟩, hb⟩
  have HV := hidIt hv
  obtain ⟨a, sv, _, rfl, hrow, _⟩ := hv
  obtain ⟨⟨sa, sn, sc⟩, hsv⟩ := agg_slice hrow
  simp only at hsv
  subst hsv
  clear hrow
  have HB := hidIt hb
  clear hb
  unfold planV at *
  go_wp2
  go_ret
  refine ⟨⟨_, a, weekOf off, sa, sn, sc, rfl, ⟨?_, HV.out.below (bel1 _ _), by simp⟩⟩, HB.out.trans ((bel1 _ _).mono HB.out.size)⟩
  exact alloc_range w1 [.bool (a 0), .bool (a 1), .bool (a 2), .bool (a 3), .bool (a 4), .bool (a 5), .bool (a 6), .int .i64 (weekOf off), .slice sa sn sc] _
end Go.Proofs.YtpijiglmjkdlgaaDoor
namespace Go.Proofs.YtpijiglmjkdlgaaDoor
open Go.RowKit Go.Extern.Stop Go.Stop Go.Extern Go.Sort Go.Lib

set_option maxHeartbeats 1000000 in
theorem months_low (n k y m d : Int) (a : Addr) (w : World) (hc : w.cell? ⟨0, 0, none⟩ = some (.iface 134 (.pointer (some a))))
    (hP : ∀ w, Calls Tryd.prog 84 #[.int .i64 n] w fun e w' => e = .returned (.tuple #[.int .i64 y, .int .i64 m, .int .i64 d]) ∧ w' = w)
    (hD : isDayB n = true) (k1 : -119988 ≤ k) (k2 : k ≤ 119988) (y1 : 1 ≤ y) (y2 : y ≤ 9999) (m1 : 1 ≤ m) (m2 : m ≤ 12) (ht : y * 12 + m - 1 + k < 12) :
    Calls Tryd.prog 75 #[.int .i64 n, .int .i64 k] w fun e w' => e = .returned (.tuple #[.int .i64 0, .iface 134 (.pointer (some a))]) ∧ ∃ k, w' = w.drewN k := by
  have HP := hidIt hP
  have HD := hidIt (fun w => isDay_any n w)
  rw [hD] at HD
  clear hP hD
  go_enter Tryd.func75, Tryd.ntmps75
  go_wp2_with fail
  refine (HD.out _).mono ?_
  rintro e w1 ⟨rfl, ew⟩
  subst w1
  go_wp2_with fail
  refine (HP.out _).mono ?_
  rintro e w1 ⟨rfl, ew⟩
  subst w1
  go_wp2
  go_quiet (fail)
  go_wp2
  go_ret2
  exact ⟨rfl, _, rfl⟩

theorem months_ex (n k : Int) (p : Nat → Addr) :
    (∃ v, ∀ w, Calls Tryd.prog 75 #[.int .i64 n, .int .i64 k] w fun e w' => e = .returned (.tuple #[.int .i64 v, .nilIface]) ∧ w' = w) ∨
    (∀ w, Laid w p → Calls Tryd.prog 75 #[.int .i64 n, .int .i64 k] w fun e w' => e = .returned (.tuple #[.int .i64 0, .iface 134 (.pointer (some (p 3)))]) ∧ ∃ k, w' = w.drewN k) := by
  cases hd : isDayB n
  · exact .inr fun w L => months_out n k (p 3) w (L.cell 3 (by omega)) (.inl hd)
  obtain ⟨h1, h2⟩ := isDayB_iff.1 hd
  obtain ⟨y, m, d, hD, he⟩ := date_ex h1 h2
  have hP : ∀ w, Calls Tryd.prog 84 #[.int .i64 n] w fun e w' => e = .returned (.tuple #[.int .i64 y, .int .i64 m, .int .i64 d]) ∧ w' = w := fun w => by
    have := parts_ok y m d w hD; rwa [he] at this
  have y1 := hD.y1
  have y2 := hD.y2
  have m1 := hD.m1
  have m2 := hD.m2
  have d1 := hD.d1
  have d2 : d ≤ 31 := by have := hD.d2; have := mlen_bd y m; omega
  by_cases hk : k < -119988 ∨ 119988 < k
  · exact .inr fun w L => months_out n k (p 3) w (L.cell 3 (by omega)) (.inr hk)
  · by_cases hlow : y * 12 + m - 1 + k < 12
    · exact .inr fun w L => months_low n k y m d (p 3) w (L.cell 3 (by omega)) hP hd (by omega) (by omega) y1 y2 m1 m2 hlow
    · have hb := mlen_bd ((y * 12 + m - 1 + k) / 12) ((y * 12 + m - 1 + k) % 12 + 1)
      obtain ⟨dd, hdd⟩ : ∃ dd, dd = if mlen ((y * 12 + m - 1 + k) / 12) ((y * 12 + m - 1 + k) % 12 + 1) < d then mlen ((y * 12 + m - 1 + k) / 12) ((y * 12 + m - 1 + k) % 12 + 1) else d := ⟨_, rfl⟩
      have hdd1 : 1 ≤ dd ∧ dd ≤ mlen ((y * 12 + m - 1 + k) / 12) ((y * 12 + m - 1 + k) % 12 + 1) := by rw [hdd]; split <;> omega
      by_cases hhi : 120000 ≤ y * 12 + m - 1 + k
      · exact .inr fun w L => months_in n k y m d dd w _ _ _ hP hd (by omega) (by omega) y1 y2 m1 m2 d1 d2 (by omega) hdd (of_bad _ _ _ (p 3) w (L.cell 3 (by omega)) (fun h => by have := h.y2; omega))
      · have hD' : Date ((y * 12 + m - 1 + k) / 12) ((y * 12 + m - 1 + k) % 12 + 1) dd := ⟨by omega, by omega, by omega, by omega, hdd1.1, hdd1.2⟩
        exact .inl ⟨dof ((y * 12 + m - 1 + k) / 12) ((y * 12 + m - 1 + k) % 12 + 1) dd, fun w => months_in n k y m d dd w _ _ _ hP hd (by omega) (by omega) y1 y2 m1 m2 d1 d2 (by omega) hdd (of_ok _ _ _ w hD')⟩
/-- What roll, add answer. -/
def RollOK (off : Int → Bool) (xs : List Int) (p : Nat → Addr) (d how : Int) (r : DR) : Prop :=
  ∀ (w : World) (pb : Nat), Laid w p → Calls Tryd.prog 50 #[.pointer (some ⟨pb, 0, none⟩)] w (PlanR off xs w) →
    Calls Tryd.prog 61 #[.int .i64 d, .int .i64 how, .func (.func 50) #[] #[.pointer (some ⟨pb, 0, none⟩)]] w fun e w' => e = .returned (r.val p) ∧ Below w.heap.size w w'
def AddOK (off : Int → Bool) (xs : List Int) (p : Nat → Addr) (d n : Int) (r : DR) : Prop :=
  ∀ (w : World) (pb : Nat), Laid w p → Calls Tryd.prog 50 #[.pointer (some ⟨pb, 0, none⟩)] w (PlanR off xs w) →
    Calls Tryd.prog 74 #[.int .i64 d, .int .i64 n, .func (.func 50) #[] #[.pointer (some ⟨pb, 0, none⟩)]] w fun e w' => e = .returned (r.val p) ∧ Below w.heap.size w w'
theorem roll_ex (off : Int → Bool) (xs : List Int) (p : Nat → Addr) (d how : Int) : ∃ r, RollOK off xs p d how r ∧ ∀ x, r = .ok x → 1 ≤ x := by
  by_cases hk : how = 0 ∨ how = 1 ∨ how = 2
  · have hr : rollB how = true := by rcases hk with rfl | rfl | rfl <;> rfl
    cases hd : isDayB d
    · exact ⟨.er 3, fun w pb L _ => roll_noday pb d how (p 3) w (L.cell 3 (by omega)) hr hd, fun x h => (nomatch h)⟩
    obtain ⟨d1, d2⟩ := isDayB_iff.1 hd
    rcases hk with rfl | rfl | rfl
    · exact ⟨.ok d, fun w pb _ _ => roll_stay pb d w hd, fun x h => by injection h; omega⟩
    · rcases hit_or (upG off xs d) 1 (by omega) (3652060 - d).toNat with hm | ⟨s, hh⟩
      · exact ⟨.er 3, fun w pb L h => roll_up_miss pb off xs d (p 3) w (L.cell 3 (by omega)) h hd hm, fun x h => (nomatch h)⟩
      · exact ⟨.ok (d + s), fun w pb _ h => roll_up_hit pb off xs d s w h hd hh, fun x h => by injection h; omega⟩
    · rcases hit_or (dnG off xs d) 1 (by omega) d.toNat with hm | ⟨s, hh⟩
      · exact ⟨.er 3, fun w pb L h => roll_dn_miss pb off xs d (p 3) w (L.cell 3 (by omega)) h hd hm, fun x h => (nomatch h)⟩
      · exact ⟨.ok (d - s), fun w pb _ h => roll_dn_hit pb off xs d s w h hd hh, fun x h => by have := hh.1; injection h; omega⟩
  · have hr : rollB how = false := by
      unfold rollB
      rw [Bool.and_eq_false_iff]
      simp only [decide_eq_false_iff_not]
      omega
    exact ⟨.er 8, fun w pb L _ => roll_kind pb d how (p 8) w (L.cell 8 (by omega)) hr, fun x h => (nomatch h)⟩
theorem add_ex (off : Int → Bool) (xs : List Int) (p : Nat → Addr) (d n : Int) : (∃ x, AddOK off xs p d n (.ok x)) ∨ ∃ k, AddOK off xs p d n (.er k) := by
  by_cases hb : n < -100000 ∨ 100000 < n
  · exact .inr ⟨1, fun w pb L _ => add_bound pb d n (p 1) w (L.cell 1 (by omega)) hb⟩
  cases hd : isDayB d
  · exact .inr ⟨3, fun w pb L _ => add_noday pb d n (p 3) w (L.cell 3 (by omega)) (by omega) (by omega) hd⟩
  rcases Int.lt_trichotomy n 0 with hn | rfl | hn
  · obtain ⟨m, rfl⟩ : ∃ m, n = -m := ⟨-n, by omega⟩
    rcases hit_or (dnG off xs (d - 1)) m (by omega) (d - 1).toNat with hm | ⟨s, hh⟩
    · exact .inr ⟨3, fun w pb L h => add_dn_miss pb off xs d m (p 3) w (L.cell 3 (by omega)) h hd (by omega) (by omega) hm⟩
    · exact .inl ⟨_, fun w pb _ h => add_dn_hit pb off xs d m s w h hd (by omega) (by omega) hh⟩
  · exact .inl ⟨d, fun w pb _ _ => add_zero' pb d w hd⟩
  · rcases hit_or (upG off xs (d + 1)) n (by omega) (3652060 - (d + 1)).toNat with hm | ⟨s, hh⟩
    · exact .inr ⟨3, fun w pb L h => add_up_miss pb off xs d n (p 3) w (L.cell 3 (by omega)) h hd (by omega) (by omega) hm⟩
    · exact .inl ⟨_, fun w pb _ h => add_up_hit pb off xs d n s w h hd (by omega) (by omega) hh⟩
/-- A term that comes to a day x ahead of being rolled. -/
theorem due_of {off : Int → Bool} {xs : List Int} {p : Nat → Addr} {d N U R x : Int} {r : DR} (n1 : 0 ≤ N) (n2 : N ≤ 100000) (hu : unitB U = true) (hr : rollB R = true) (hd : isDayB d = true) (hq : RollOK off xs p x R r)
    (hE : ∀ (w : World) (pb : Nat), Laid w p → (∀ W, Below w.heap.size w W → Calls Tryd.prog 50 #[.pointer (some ⟨pb, 0, none⟩)] W (PlanR off xs W)) → Calls Tryd.prog 60 #[.int .i64 d, .agg #[.int .i64 N, .int .i64 U, .int .i64 R], .func (.func 50) #[] #[.pointer (some ⟨pb, 0, none⟩)]] w fun e w' => e = .returned (.tuple #[.int .i64 x, .nilIface]) ∧ Below w.heap.size w w') : DueOK off xs p d N U R r := fun w pb L hW => by
  cases r with
  | ok y => exact due_ok pb d N U R x _ _ w n1 n2 hu hr hd (fun W h => hE W pb (L.below h) (fun W' h' => hW W' (h.trans (h'.mono h.size)))) (fun W h => hq W pb (L.below h) (hW W h))
  | er k => exact due_ok pb d N U R x _ _ w n1 n2 hu hr hd (fun W h => hE W pb (L.below h) (fun W' h' => hW W' (h.trans (h'.mono h.size)))) (fun W h => hq W pb (L.below h) (hW W h))
theorem due_no {off : Int → Bool} {xs : List Int} {p : Nat → Addr} {d N U R : Int} {k : Nat} (n1 : 0 ≤ N) (n2 : N ≤ 100000) (hu : unitB U = true) (hr : rollB R = true) (hd : isDayB d = true)
    (hE : ∀ (w : World) (pb : Nat), Laid w p → (∀ W, Below w.heap.size w W → Calls Tryd.prog 50 #[.pointer (some ⟨pb, 0, none⟩)] W (PlanR off xs W)) → Calls Tryd.prog 60 #[.int .i64 d, .agg #[.int .i64 N, .int .i64 U, .int .i64 R], .func (.func 50) #[] #[.pointer (some ⟨pb, 0, none⟩)]] w fun e w' => e = .returned ((DR.er k).val p) ∧ Below w.heap.size w w') : DueOK off xs p d N U R (.er k) := fun w pb L hW =>
  due_err pb d N U R _ _ w n1 n2 hu hr hd (fun W h => hE W pb (L.below h) (fun W' h' => hW W' (h.trans (h'.mono h.size))))
theorem due_ex (off : Int → Bool) (xs : List Int) (p : Nat → Addr) (d N U R : Int) : ∃ r, DueOK off xs p d N U R r ∧ ∀ x, r = .ok x → 1 ≤ x := by
  by_cases hn : N < 0 ∨ 100000 < N
  · exact ⟨.er 1, fun w pb L _ => due_bound pb d N U R (p 1) w (L.cell 1 (by omega)) hn, fun x h => (nomatch h)⟩
  have n1 : 0 ≤ N := by omega
  have n2 : N ≤ 100000 := by omega
  cases hu : unitB U
  · exact ⟨.er 8, fun w pb L _ => due_kind pb d N U R (p 8) w (L.cell 8 (by omega)) n1 n2 (.inl hu), fun x h => (nomatch h)⟩
  cases hr : rollB R
  · exact ⟨.er 8, fun w pb L _ => due_kind pb d N U R (p 8) w (L.cell 8 (by omega)) n1 n2 (.inr ⟨hu, hr⟩), fun x h => (nomatch h)⟩
  cases hd : isDayB d
  · exact ⟨.er 3, fun w pb L _ => due_noday pb d N U R (p 3) w (L.cell 3 (by omega)) n1 n2 hu hr hd, fun x h => (nomatch h)⟩
  obtain ⟨d1, d2⟩ := isDayB_iff.1 hd
  have hc : U = 0 ∨ U = 1 ∨ U = 2 ∨ U = 3 ∨ U = 4 := by
    unfold unitB at hu
    simp only [Bool.and_eq_true, decide_eq_true_eq] at hu
    omega
  rcases hc with rfl | rfl | rfl | rfl | rfl
  · obtain ⟨r, h1, h2⟩ := roll_ex off xs p (d + N) R
    exact ⟨r, due_of n1 n2 hu hr hd h1 (fun w pb _ _ => end_days pb d N R w d1 d2 n1 n2), h2⟩
  · rcases add_ex off xs p d N with ⟨x, ha⟩ | ⟨k, ha⟩
    · obtain ⟨r, h1, h2⟩ := roll_ex off xs p x R
      exact ⟨r, due_of n1 n2 hu hr hd h1 (fun w pb L hW => end_work pb d N R _ _ w (fun o => ha _ pb (L.below (bel1 w o)) (hW _ (bel1 w o)))), h2⟩
    · exact ⟨.er k, due_no n1 n2 hu hr hd (fun w pb L hW => end_work pb d N R _ _ w (fun o => ha _ pb (L.below (bel1 w o)) (hW _ (bel1 w o)))), fun x h => (nomatch h)⟩
  · obtain ⟨r, h1, h2⟩ := roll_ex off xs p (d + 7 * N) R
    exact ⟨r, due_of n1 n2 hu hr hd h1 (fun w pb _ _ => end_weeks pb d N R w d1 d2 n1 n2), h2⟩
  · rcases months_ex d N p with ⟨x, ha⟩ | ha
    · obtain ⟨r, h1, h2⟩ := roll_ex off xs p x R
      exact ⟨r, due_of n1 n2 hu hr hd h1 (fun w pb _ _ => end_months pb d N R _ _ w (fun o => (ha _).mono (fun e w' h => ⟨h.1, 0, h.2⟩))), h2⟩
    · exact ⟨.er 3, due_no n1 n2 hu hr hd (fun w pb L _ => end_months pb d N R _ _ w (fun o => ha _ (L.below (bel1 w o)))), fun x h => (nomatch h)⟩
  · rcases months_ex d (12 * N) p with ⟨x, ha⟩ | ha
    · obtain ⟨r, h1, h2⟩ := roll_ex off xs p x R
      exact ⟨r, due_of n1 n2 hu hr hd h1 (fun w pb _ _ => end_years pb d N R _ _ w n1 n2 (fun o => (ha _).mono (fun e w' h => ⟨h.1, 0, h.2⟩))), h2⟩
    · exact ⟨.er 3, due_no n1 n2 hu hr hd (fun w pb L _ => end_years pb d N R _ _ w n1 n2 (fun o => ha _ (L.below (bel1 w o)))), fun x h => (nomatch h)⟩
end Go.Proofs.YtpijiglmjkdlgaaDoor
namespace Go.Proofs.YtpijiglmjkdlgaaDoor
namespace M
open Go.RowKit Go.Extern.Stop Go.Stop Go.Extern Go.Sort Go.Lib

/-- What roll, add answer. -/
def DueOK (off : Int → Bool) (xs : List Int) (p : Nat → Addr) (d N U R : Int) (r : DR) : Prop :=
  ∀ (w : World) (pb : Option Addr), Laid w p → (∀ W, Below w.heap.size w W → Calls Tryd.prog 32 #[.pointer pb] W (PlanR off xs W)) →
    Calls Tryd.prog 49 #[.int .i64 d, .agg #[.int .i64 N, .int .i64 U, .int .i64 R], .func (.func 32) #[.pointer pb] #[]] w fun e w' => e = .returned (r.val p) ∧ Below w.heap.size w w'
def RollOK (off : Int → Bool) (xs : List Int) (p : Nat → Addr) (d how : Int) (r : DR) : Prop :=
  ∀ (w : World) (pb : Option Addr), Laid w p → Calls Tryd.prog 32 #[.pointer pb] w (PlanR off xs w) →
    Calls Tryd.prog 61 #[.int .i64 d, .int .i64 how, .func (.func 32) #[.pointer pb] #[]] w fun e w' => e = .returned (r.val p) ∧ Below w.heap.size w w'
def AddOK (off : Int → Bool) (xs : List Int) (p : Nat → Addr) (d n : Int) (r : DR) : Prop :=
  ∀ (w : World) (pb : Option Addr), Laid w p → Calls Tryd.prog 32 #[.pointer pb] w (PlanR off xs w) →
    Calls Tryd.prog 74 #[.int .i64 d, .int .i64 n, .func (.func 32) #[.pointer pb] #[]] w fun e w' => e = .returned (r.val p) ∧ Below w.heap.size w w'
theorem roll_ex (off : Int → Bool) (xs : List Int) (p : Nat → Addr) (d how : Int) : ∃ r, RollOK off xs p d how r ∧ ∀ x, r = .ok x → 1 ≤ x := by
  by_cases hk : how = 0 ∨ how = 1 ∨ how = 2
  · have hr : rollB how = true := by rcases hk with rfl | rfl | rfl <;> rfl
    cases hd : isDayB d
    · exact ⟨.er 3, fun w pb L _ => roll_noday pb d how (p 3) w (L.cell 3 (by omega)) hr hd, fun x h => (nomatch h)⟩
    obtain ⟨d1, d2⟩ := isDayB_iff.1 hd
    rcases hk with rfl | rfl | rfl
    · exact ⟨.ok d, fun w pb _ _ => roll_stay pb d w hd, fun x h => by injection h; omega⟩
    · rcases hit_or (upG off xs d) 1 (by omega) (3652060 - d).toNat with hm | ⟨s, hh⟩
      · exact ⟨.er 3, fun w pb L h => roll_up_miss pb off xs d (p 3) w (L.cell 3 (by omega)) h hd hm, fun x h => (nomatch h)⟩
      · exact ⟨.ok (d + s), fun w pb _ h => roll_up_hit pb off xs d s w h hd hh, fun x h => by injection h; omega⟩
    · rcases hit_or (dnG off xs d) 1 (by omega) d.toNat with hm | ⟨s, hh⟩
      · exact ⟨.er 3, fun w pb L h => roll_dn_miss pb off xs d (p 3) w (L.cell 3 (by omega)) h hd hm, fun x h => (nomatch h)⟩
      · exact ⟨.ok (d - s), fun w pb _ h => roll_dn_hit pb off xs d s w h hd hh, fun x h => by have := hh.1; injection h; omega⟩
  · have hr : rollB how = false := by
      unfold rollB
      rw [Bool.and_eq_false_iff]
      simp only [decide_eq_false_iff_not]
      omega
    exact ⟨.er 8, fun w pb L _ => roll_kind pb d how (p 8) w (L.cell 8 (by omega)) hr, fun x h => (nomatch h)⟩
theorem add_ex (off : Int → Bool) (xs : List Int) (p : Nat → Addr) (d n : Int) : (∃ x, AddOK off xs p d n (.ok x)) ∨ ∃ k, AddOK off xs p d n (.er k) := by
  by_cases hb : n < -100000 ∨ 100000 < n
  · exact .inr ⟨1, fun w pb L _ => add_bound pb d n (p 1) w (L.cell 1 (by omega)) hb⟩
  cases hd : isDayB d
  · exact .inr ⟨3, fun w pb L _ => add_noday pb d n (p 3) w (L.cell 3 (by omega)) (by omega) (by omega) hd⟩
  rcases Int.lt_trichotomy n 0 with hn | rfl | hn
  · obtain ⟨m, rfl⟩ : ∃ m, n = -m := ⟨-n, by omega⟩
    rcases hit_or (dnG off xs (d - 1)) m (by omega) (d - 1).toNat with hm | ⟨s, hh⟩
    · exact .inr ⟨3, fun w pb L h => add_dn_miss pb off xs d m (p 3) w (L.cell 3 (by omega)) h hd (by omega) (by omega) hm⟩
    · exact .inl ⟨_, fun w pb _ h => add_dn_hit pb off xs d m s w h hd (by omega) (by omega) hh⟩
  · exact .inl ⟨d, fun w pb _ _ => add_zero' pb d w hd⟩
  · rcases hit_or (upG off xs (d + 1)) n (by omega) (3652060 - (d + 1)).toNat with hm | ⟨s, hh⟩
    · exact .inr ⟨3, fun w pb L h => add_up_miss pb off xs d n (p 3) w (L.cell 3 (by omega)) h hd (by omega) (by omega) hm⟩
    · exact .inl ⟨_, fun w pb _ h => add_up_hit pb off xs d n s w h hd (by omega) (by omega) hh⟩
/-- A term that comes to a day x ahead of being rolled. -/
theorem due_of {off : Int → Bool} {xs : List Int} {p : Nat → Addr} {d N U R x : Int} {r : DR} (n1 : 0 ≤ N) (n2 : N ≤ 100000) (hu : unitB U = true) (hr : rollB R = true) (hd : isDayB d = true) (hq : RollOK off xs p x R r)
    (hE : ∀ (w : World) (pb : Option Addr), Laid w p → (∀ W, Below w.heap.size w W → Calls Tryd.prog 32 #[.pointer pb] W (PlanR off xs W)) → Calls Tryd.prog 60 #[.int .i64 d, .agg #[.int .i64 N, .int .i64 U, .int .i64 R], .func (.func 32) #[.pointer pb] #[]] w fun e w' => e = .returned (.tuple #[.int .i64 x, .nilIface]) ∧ Below w.heap.size w w') : DueOK off xs p d N U R r := fun w pb L hW => by
  cases r with
  | ok y => exact due_ok pb d N U R x _ _ w n1 n2 hu hr hd (fun W h => hE W pb (L.below h) (fun W' h' => hW W' (h.trans (h'.mono h.size)))) (fun W h => hq W pb (L.below h) (hW W h))
  | er k => exact due_ok pb d N U R x _ _ w n1 n2 hu hr hd (fun W h => hE W pb (L.below h) (fun W' h' => hW W' (h.trans (h'.mono h.size)))) (fun W h => hq W pb (L.below h) (hW W h))
theorem due_no {off : Int → Bool} {xs : List Int} {p : Nat → Addr} {d N U R : Int} {k : Nat} (n1 : 0 ≤ N) (n2 : N ≤ 100000) (hu : unitB U = true) (hr : rollB R = true) (hd : isDayB d = true)
    (hE : ∀ (w : World) (pb : Option Addr), Laid w p → (∀ W, Below w.heap.size w W → Calls Tryd.prog 32 #[.pointer pb] W (PlanR off xs W)) → Calls Tryd.prog 60 #[.int .i64 d, .agg #[.int .i64 N, .int .i64 U, .int .i64 R], .func (.func 32) #[.pointer pb] #[]] w fun e w' => e = .returned ((DR.er k).val p) ∧ Below w.heap.size w w') : DueOK off xs p d N U R (.er k) := fun w pb L hW =>
  due_err pb d N U R _ _ w n1 n2 hu hr hd (fun W h => hE W pb (L.below h) (fun W' h' => hW W' (h.trans (h'.mono h.size))))
theorem due_ex (off : Int → Bool) (xs : List Int) (p : Nat → Addr) (d N U R : Int) : ∃ r, DueOK off xs p d N U R r ∧ ∀ x, r = .ok x → 1 ≤ x := by
  by_cases hn : N < 0 ∨ 100000 < N
  · exact ⟨.er 1, fun w pb L _ => due_bound pb d N U R (p 1) w (L.cell 1 (by omega)) hn, fun x h => (nomatch h)⟩
  have n1 : 0 ≤ N := by omega
  have n2 : N ≤ 100000 := by omega
  cases hu : unitB U
  · exact ⟨.er 8, fun w pb L _ => due_kind pb d N U R (p 8) w (L.cell 8 (by omega)) n1 n2 (.inl hu), fun x h => (nomatch h)⟩
  cases hr : rollB R
  · exact ⟨.er 8, fun w pb L _ => due_kind pb d N U R (p 8) w (L.cell 8 (by omega)) n1 n2 (.inr ⟨hu, hr⟩), fun x h => (nomatch h)⟩
  cases hd : isDayB d
  · exact ⟨.er 3, fun w pb L _ => due_noday pb d N U R (p 3) w (L.cell 3 (by omega)) n1 n2 hu hr hd, fun x h => (nomatch h)⟩
  obtain ⟨d1, d2⟩ := isDayB_iff.1 hd
  have hc : U = 0 ∨ U = 1 ∨ U = 2 ∨ U = 3 ∨ U = 4 := by
    unfold unitB at hu
    simp only [Bool.and_eq_true, decide_eq_true_eq] at hu
    omega
  rcases hc with rfl | rfl | rfl | rfl | rfl
  · obtain ⟨r, h1, h2⟩ := roll_ex off xs p (d + N) R
    exact ⟨r, due_of n1 n2 hu hr hd h1 (fun w pb _ _ => end_days pb d N R w d1 d2 n1 n2), h2⟩
  · rcases add_ex off xs p d N with ⟨x, ha⟩ | ⟨k, ha⟩
    · obtain ⟨r, h1, h2⟩ := roll_ex off xs p x R
      exact ⟨r, due_of n1 n2 hu hr hd h1 (fun w pb L hW => end_work pb d N R _ _ w (fun o => ha _ pb (L.below (bel1 w o)) (hW _ (bel1 w o)))), h2⟩
    · exact ⟨.er k, due_no n1 n2 hu hr hd (fun w pb L hW => end_work pb d N R _ _ w (fun o => ha _ pb (L.below (bel1 w o)) (hW _ (bel1 w o)))), fun x h => (nomatch h)⟩
  · obtain ⟨r, h1, h2⟩ := roll_ex off xs p (d + 7 * N) R
    exact ⟨r, due_of n1 n2 hu hr hd h1 (fun w pb _ _ => end_weeks pb d N R w d1 d2 n1 n2), h2⟩
  · rcases months_ex d N p with ⟨x, ha⟩ | ha
    · obtain ⟨r, h1, h2⟩ := roll_ex off xs p x R
      exact ⟨r, due_of n1 n2 hu hr hd h1 (fun w pb _ _ => end_months pb d N R _ _ w (fun o => (ha _).mono (fun e w' h => ⟨h.1, 0, h.2⟩))), h2⟩
    · exact ⟨.er 3, due_no n1 n2 hu hr hd (fun w pb L _ => end_months pb d N R _ _ w (fun o => ha _ (L.below (bel1 w o)))), fun x h => (nomatch h)⟩
  · rcases months_ex d (12 * N) p with ⟨x, ha⟩ | ha
    · obtain ⟨r, h1, h2⟩ := roll_ex off xs p x R
      exact ⟨r, due_of n1 n2 hu hr hd h1 (fun w pb _ _ => end_years pb d N R _ _ w n1 n2 (fun o => (ha _).mono (fun e w' h => ⟨h.1, 0, h.2⟩))), h2⟩
    · exact ⟨.er 3, due_no n1 n2 hu hr hd (fun w pb L _ => end_years pb d N R _ _ w n1 n2 (fun o => ha _ (L.below (bel1 w o)))), fun x h => (nomatch h)⟩
end M
end Go.Proofs.YtpijiglmjkdlgaaDoor

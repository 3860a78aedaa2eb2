/-
  A calendar made ready for many terms: Plan, Plan.Due.
-/
import Derived.Test.YtkaeolcchhneoaaGreatDoorDueG
import Derived.Test.YtkaeolcchhneoaaGreatDoorDuP5
namespace Go.Proofs.YtkaeolcchhneoaaGreatDoor
open Go.RowKit Go.Sort Go.Lib

/-- What a term's end is: a day, or an error. -/
inductive DR where
  | ok (x : Int)
  | er (k : Nat)
def DR.val (p : Nat → Addr) : DR → Value
  | .ok x => .tuple #[.int .i64 x, .nilIface]
  | .er k => .tuple #[.int .i64 0, .iface 173 (.pointer (some (p k)))]
/-- What day.due answers. -/
def DueOK (off : Int → Bool) (xs : List Int) (p : Nat → Addr) (d N U R : Int) (r : DR) : Prop :=
  ∀ (w : World) (pb : Nat), Laid w p → (∀ W, Below w.heap.size w W → Calls Tryz.prog 42 #[.pointer (some ⟨pb, 0, none⟩)] W (PlanR off xs W)) →
    Calls Tryz.prog 41 #[.int .i64 d, .agg #[.int .i64 N, .int .i64 U, .int .i64 R], .func (.func 42) #[] #[.pointer (some ⟨pb, 0, none⟩)]] w fun e w' => e = .returned (r.val p) ∧ Below w.heap.size w w'
/-- A plan that lies somewhere. -/
structure PlanAt (w : World) (g : Nat) (off : Int → Bool) (xs : List Int) (a : Nat → Bool) (k : Int) (sa : Option Addr) (sn sc : Nat) : Prop where
  cs : w.rangeAt g 0 [.bool (a 0), .bool (a 1), .bool (a 2), .bool (a 3), .bool (a 4), .bool (a 5), .bool (a 6), .int .i64 k, .slice sa sn sc]
  pl : IsPlan w (.agg #[.bool (a 0), .bool (a 1), .bool (a 2), .bool (a 3), .bool (a 4), .bool (a 5), .bool (a 6), .int .i64 k, .slice sa sn sc]) off xs
  lt : g < w.heap.size
theorem PlanAt.below {w w' : World} {g : Nat} {off : Int → Bool} {xs : List Int} {a : Nat → Bool} {k : Int} {sa : Option Addr} {sn sc : Nat} (h : PlanAt w g off xs a k sa sn sc) (hb : Below w.heap.size w w') : PlanAt w' g off xs a k sa sn sc :=
  ⟨range_bel h.cs hb h.lt, h.pl.below hb, Nat.lt_of_lt_of_le h.lt hb.size⟩
set_option maxHeartbeats 2000000 in
theorem clos_p {w : World} {g pb : Nat} {off : Int → Bool} {xs : List Int} {a : Nat → Bool} {k : Int} {sa : Option Addr} {sn sc : Nat} (h : PlanAt w g off xs a k sa sn sc) (hp : w.cell? ⟨pb, 0, none⟩ = some (.pointer (some ⟨g, 0, none⟩))) :
    Calls Tryz.prog 42 #[.pointer (some ⟨pb, 0, none⟩)] w (PlanR off xs w) := by
  have HP := hidIt h
  have hlt := h.lt
  have hq : ∀ ob : Obj, (w.alloc ob).cell? ⟨pb, 0, none⟩ = some (.pointer (some ⟨g, 0, none⟩)) := fun ob => ((bel1 w ob).cell (p := ⟨pb, 0, none⟩) (cell_lt hp)).trans hp
  have hc := fun ob => (h.below (bel1 w ob)).cs
  have c0 := fun ob => hc ob 0 _ rfl
  have c1 := fun ob => hc ob 1 _ rfl
  have c2 := fun ob => hc ob 2 _ rfl
  have c3 := fun ob => hc ob 3 _ rfl
  have c4 := fun ob => hc ob 4 _ rfl
  have c5 := fun ob => hc ob 5 _ rfl
  have c6 := fun ob => hc ob 6 _ rfl
  have c7 := fun ob => hc ob 7 _ rfl
  have c8 := fun ob => hc ob 8 _ rfl
  clear h hc hp
  go_enter Tryz.func42, Tryz.ntmps42
  go_wp2
  refine bodyPost_ret (v := .agg #[.bool (a 0), .bool (a 1), .bool (a 2), .bool (a 3), .bool (a 4), .bool (a 5), .bool (a 6), .int .i64 k, .slice sa sn sc]) (by simp [results, Tryz.results42, go_sem]) rfl ⟨⟨_, rfl, ?_⟩, ?_⟩
  · exact HP.out.pl.below (bel1 _ _)
  · exact bel1 _ _
set_option maxHeartbeats 2000000 in
theorem pdue_p {w : World} {g : Nat} {off : Int → Bool} {xs : List Int} {p : Nat → Addr} {d N U R : Int} {r : DR} {a : Nat → Bool} {k : Int} {sa : Option Addr} {sn sc : Nat} (h : PlanAt w g off xs a k sa sn sc) (L : Laid w p) (hr : DueOK off xs p d N U R r) :
    Calls Tryz.prog 31 #[.pointer (some ⟨g, 0, none⟩), .int .i64 d, .agg #[.int .i64 N, .int .i64 U, .int .i64 R]] w fun e w' => e = .returned (r.val p) ∧ Below w.heap.size w w' := by
  have HC : Hid (Calls Tryz.prog 41 #[.int .i64 d, .agg #[.int .i64 N, .int .i64 U, .int .i64 R], .func (.func 42) #[] #[.pointer (some ⟨w.heap.size, 0, none⟩)]] ((w.alloc (.cells #[.pointer (some ⟨g, 0, none⟩)] 87)).alloc (.cells #[.int .i64 N, .int .i64 U, .int .i64 R] 55)) fun e w' => e = .returned (r.val p) ∧ Below ((w.alloc (.cells #[.pointer (some ⟨g, 0, none⟩)] 87)).alloc (.cells #[.int .i64 N, .int .i64 U, .int .i64 R] 55)).heap.size ((w.alloc (.cells #[.pointer (some ⟨g, 0, none⟩)] 87)).alloc (.cells #[.int .i64 N, .int .i64 U, .int .i64 R] 55)) w') := by
    have hb1 := bel1 w (.cells #[.pointer (some ⟨g, 0, none⟩)] 87)
    have hc1 : (w.alloc (.cells #[.pointer (some ⟨g, 0, none⟩)] 87)).cell? ⟨w.heap.size, 0, none⟩ = some (.pointer (some ⟨g, 0, none⟩)) := alloc_range w [.pointer (some ⟨g, 0, none⟩)] _ 0 _ rfl
    generalize w.alloc (.cells #[.pointer (some ⟨g, 0, none⟩)] 87) = W1 at *
    have hb2 := bel1 W1 (.cells #[.int .i64 N, .int .i64 U, .int .i64 R] 55)
    have hc2 := (hb2.cell (p := ⟨w.heap.size, 0, none⟩) (cell_lt hc1)).trans hc1
    generalize W1.alloc (.cells #[.int .i64 N, .int .i64 U, .int .i64 R] 55) = W2 at *
    have hb3 := hb1.trans (hb2.mono hb1.size)
    exact hr W2 w.heap.size (L.below hb3) (fun W hW => clos_p ((h.below hb3).below hW) ((hW.cell (p := ⟨w.heap.size, 0, none⟩) (cell_lt hc2)).trans hc2))
  have HB : Hid (Below w.heap.size w ((w.alloc (.cells #[.pointer (some ⟨g, 0, none⟩)] 87)).alloc (.cells #[.int .i64 N, .int .i64 U, .int .i64 R] 55))) := (bel1 w _).trans ((bel1 _ _).mono (by simp))
  clear h L hr
  cases r with
  | ok x =>
    unfold DR.val at *
    go_enter Tryz.func31, Tryz.ntmps31
    go_wp2_with fail
    refine HC.out.mono ?_
    rintro e w1 ⟨rfl, hb⟩
    have HB1 := hidIt (HB.out.trans (hb.mono HB.out.size))
    clear hb
    go_wp2
    go_ret2
    exact ⟨rfl, HB1.out⟩
  | er k =>
    unfold DR.val at *
    go_enter Tryz.func31, Tryz.ntmps31
    go_wp2_with fail
    refine HC.out.mono ?_
    rintro e w1 ⟨rfl, hb⟩
    have HB1 := hidIt (HB.out.trans (hb.mono HB.out.size))
    clear hb
    go_wp2
    go_ret2
    exact ⟨rfl, HB1.out⟩
/-- What Plan answers. -/
def NewPl (off : Int → Bool) (xs : List Int) (w : World) (e : Ending) (w' : World) : Prop := (∃ g a k sa sn sc, e = .returned (.pointer (some ⟨g, 0, none⟩)) ∧ PlanAt w' g off xs a k sa sn sc) ∧ Below w.heap.size w w'
set_option maxHeartbeats 2000000 in
theorem newPlan_p {w : World} {off : Int → Bool} {xs : List Int} {ca : Option Addr} (h : Calls Tryz.prog 40 #[.pointer ca] w (PlanR off xs w)) :
    Calls Tryz.prog 30 #[.pointer ca] w (NewPl off xs w) := by
  have HP := hidIt h
  clear h
  go_enter Tryz.func30, Tryz.ntmps30
  go_wp2_with fail
  refine HP.out.mono ?_
  rintro e w1 ⟨⟨v, rfl, hv⟩, hb⟩
  have HV := hidIt hv
  obtain ⟨a, sv, _, rfl, hrow, _⟩ := hv
  obtain ⟨⟨sa, sn, sc⟩, hsv⟩ := agg_slice hrow
  simp only at hsv
  subst hsv
  clear hrow
  have HB := hidIt hb
  clear hb
  unfold planV at *
  go_wp2
  go_ret
  refine ⟨⟨_, a, weekOf off, sa, sn, sc, rfl, ⟨?_, HV.out.below (bel1 _ _), by simp⟩⟩, HB.out.trans ((bel1 _ _).mono HB.out.size)⟩
  exact alloc_range w1 [.bool (a 0), .bool (a 1), .bool (a 2), .bool (a 3), .bool (a 4), .bool (a 5), .bool (a 6), .int .i64 (weekOf off), .slice sa sn sc] _
end Go.Proofs.YtkaeolcchhneoaaGreatDoor

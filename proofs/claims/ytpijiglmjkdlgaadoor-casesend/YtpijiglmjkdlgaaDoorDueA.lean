/-
  day.due, day.termEnd by contracts, with any function value that makes the plan (written by tools/gendueg.py).
-/
import Derived.Test.YtpijiglmjkdlgaaDoorRollA
import Derived.Test.YtpijiglmjkdlgaaDoorBel1
import Derived.Test.YtpijiglmjkdlgaaDoorMonths
namespace Go.Proofs.YtpijiglmjkdlgaaDoor
open Go.RowKit Go.Sort Go.Lib

def unitB (h : Int) : Bool := decide (0 ≤ h) && decide (h ≤ 4)
theorem isUnit_any (n : Int) (w : World) : Calls Tryd.prog 58 #[.int .i64 n] w fun e w' => e = .returned (.bool (unitB n)) ∧ w' = w := by
  unfold unitB
  cases h1 : decide (0 ≤ n)
  · go_enter Tryd.func58, Tryd.ntmps58
    go_wp2
    go_ret
    exact ⟨rfl, rfl⟩
  · go_enter Tryd.func58, Tryd.ntmps58
    go_wp2
    go_ret
    exact ⟨rfl, rfl⟩
theorem Cal.alloc {w : World} {b : Nat} {off : Int → Bool} {xs : List Int} {v : Value} (h : Cal w b off xs v) (o : Obj) : Cal (w.alloc o) b off xs v := h.below (bel1 w o)
/-- A boxed term, and what lies below. -/
structure TBox (w W : World) (N U R : Int) : Prop where
  c0 : W.cell? ⟨w.heap.size, 0, none⟩ = some (.int .i64 N)
  c1 : W.cell? ⟨w.heap.size, 0 + 1, none⟩ = some (.int .i64 U)
  c2 : W.cell? ⟨w.heap.size, 0 + 2, none⟩ = some (.int .i64 R)
  bel : Below w.heap.size w W
  lt : w.heap.size < W.heap.size
theorem TBox.mk' (w : World) (N U R : Int) (t : TypeId) : TBox w (w.alloc (.cells #[.int .i64 N, .int .i64 U, .int .i64 R] t)) N U R :=
  ⟨by simp, by simp, by simp, bel1 _ _, by simp⟩
theorem TBox.on {w W W' : World} {N U R : Int} (h : TBox w W N U R) (hb : Below W.heap.size W W') : TBox w W' N U R :=
  ⟨(hb.cell (p := ⟨w.heap.size, 0, none⟩) h.lt).trans h.c0, (hb.cell (p := ⟨w.heap.size, 0 + 1, none⟩) h.lt).trans h.c1, (hb.cell (p := ⟨w.heap.size, 0 + 2, none⟩) h.lt).trans h.c2, h.bel.trans (hb.mono h.bel.size), Nat.lt_of_lt_of_le h.lt hb.size⟩

theorem end_days (pb : Nat) (d N R : Int) (w : World) (d1 : 1 ≤ d) (d2 : d ≤ 3652059) (n1 : 0 ≤ N) (n2 : N ≤ 100000) :
    Calls Tryd.prog 60 #[.int .i64 d, .agg #[.int .i64 N, .int .i64 0, .int .i64 R], .func (.func 50) #[] #[.pointer (some ⟨pb, 0, none⟩)]] w fun e w' => e = .returned (.tuple #[.int .i64 (d + N), .nilIface]) ∧ Below w.heap.size w w' := by
  go_enter Tryd.func60, Tryd.ntmps60
  go_wp2
  go_ret2
  exact ⟨rfl, bel1 _ _⟩
theorem end_weeks (pb : Nat) (d N R : Int) (w : World) (d1 : 1 ≤ d) (d2 : d ≤ 3652059) (n1 : 0 ≤ N) (n2 : N ≤ 100000) :
    Calls Tryd.prog 60 #[.int .i64 d, .agg #[.int .i64 N, .int .i64 2, .int .i64 R], .func (.func 50) #[] #[.pointer (some ⟨pb, 0, none⟩)]] w fun e w' => e = .returned (.tuple #[.int .i64 (d + 7 * N), .nilIface]) ∧ Below w.heap.size w w' := by
  go_enter Tryd.func60, Tryd.ntmps60
  go_wp2
  go_ret2
  exact ⟨rfl, bel1 _ _⟩
theorem end_work (pb : Nat) (d N R : Int) (x y : Value) (w : World)
    (hA : ∀ o, Calls Tryd.prog 74 #[.int .i64 d, .int .i64 N, .func (.func 50) #[] #[.pointer (some ⟨pb, 0, none⟩)]] (w.alloc o) fun e w' => e = .returned (.tuple #[x, y]) ∧ Below (w.alloc o).heap.size (w.alloc o) w') :
    Calls Tryd.prog 60 #[.int .i64 d, .agg #[.int .i64 N, .int .i64 1, .int .i64 R], .func (.func 50) #[] #[.pointer (some ⟨pb, 0, none⟩)]] w fun e w' => e = .returned (.tuple #[x, y]) ∧ Below w.heap.size w w' := by
  have HA := hidIt hA
  clear hA
  go_enter Tryd.func60, Tryd.ntmps60
  go_wp2_with fail
  refine (HA.out _).mono ?_
  rintro e w1 ⟨rfl, hb⟩
  have HB := hidIt ((bel1 w _).trans (hb.mono (bel1 w _).size))
  clear hb
  go_wp2
  go_ret2
  exact ⟨rfl, HB.out⟩
theorem end_months (pb : Nat) (d N R : Int) (x y : Value) (w : World)
    (hA : ∀ o, Calls Tryd.prog 75 #[.int .i64 d, .int .i64 N] (w.alloc o) fun e w' => e = .returned (.tuple #[x, y]) ∧ ∃ k, w' = (w.alloc o).drewN k) :
    Calls Tryd.prog 60 #[.int .i64 d, .agg #[.int .i64 N, .int .i64 3, .int .i64 R], .func (.func 50) #[] #[.pointer (some ⟨pb, 0, none⟩)]] w fun e w' => e = .returned (.tuple #[x, y]) ∧ Below w.heap.size w w' := by
  have HA := hidIt hA
  clear hA
  go_enter Tryd.func60, Tryd.ntmps60
  go_wp2_with fail
  refine (HA.out _).mono ?_
  rintro e w1 ⟨rfl, k, ew⟩
  have HB : Hid (Below w.heap.size w w1) := by show Below _ _ _; rw [ew]; exact bdrewN (bel1 _ _) _
  clear ew
  go_wp2
  go_ret2
  exact ⟨rfl, HB.out⟩
theorem end_years (pb : Nat) (d N R : Int) (x y : Value) (w : World) (n1 : 0 ≤ N) (n2 : N ≤ 100000)
    (hA : ∀ o, Calls Tryd.prog 75 #[.int .i64 d, .int .i64 (12 * N)] (w.alloc o) fun e w' => e = .returned (.tuple #[x, y]) ∧ ∃ k, w' = (w.alloc o).drewN k) :
    Calls Tryd.prog 60 #[.int .i64 d, .agg #[.int .i64 N, .int .i64 4, .int .i64 R], .func (.func 50) #[] #[.pointer (some ⟨pb, 0, none⟩)]] w fun e w' => e = .returned (.tuple #[x, y]) ∧ Below w.heap.size w w' := by
  have HA := hidIt hA
  clear hA
  go_enter Tryd.func60, Tryd.ntmps60
  go_wp2_with fail
  refine (HA.out _).mono ?_
  rintro e w1 ⟨rfl, k, ew⟩
  have HB : Hid (Below w.heap.size w w1) := by show Below _ _ _; rw [ew]; exact bdrewN (bel1 _ _) _
  clear ew
  go_wp2
  go_ret2
  exact ⟨rfl, HB.out⟩

set_option maxHeartbeats 1000000 in
theorem due_bound (pb : Nat) (d N U R : Int) (ad : Addr) (w : World) (hc : w.cell? ⟨4, 0, none⟩ = some (.iface 134 (.pointer (some ad)))) (h : N < 0 ∨ 100000 < N) :
    Calls Tryd.prog 49 #[.int .i64 d, .agg #[.int .i64 N, .int .i64 U, .int .i64 R], .func (.func 50) #[] #[.pointer (some ⟨pb, 0, none⟩)]] w fun e w' => e = .returned (.tuple #[.int .i64 0, .iface 134 (.pointer (some ad))]) ∧ Below w.heap.size w w' := by
  have HC : Hid (∀ o, (w.alloc o).cell? ⟨4, 0, none⟩ = some (.iface 134 (.pointer (some ad)))) := fun o => ((bel1 w o).cell (p := ⟨4, 0, none⟩) (lt_of_cell hc)).trans hc
  clear hc
  by_cases h0 : N < 0
  · clear h
    go_enter Tryd.func49, Tryd.ntmps49
    go_wp2
    have HB := hidIt (bel1 w (.cells #[.int .i64 N, .int .i64 U, .int .i64 R] 55))
    have hc := HC.out (.cells #[.int .i64 N, .int .i64 U, .int .i64 R] 55)
    generalize w.alloc (.cells #[.int .i64 N, .int .i64 U, .int .i64 R] 55) = w0 at *
    go_quiet (fail)
    go_wp2
    go_ret2
    exact ⟨rfl, bdrewN HB.out _⟩
  · have h1 : 100000 < N := by omega
    clear h
    go_enter Tryd.func49, Tryd.ntmps49
    go_wp2
    have HB := hidIt (bel1 w (.cells #[.int .i64 N, .int .i64 U, .int .i64 R] 55))
    have hc := HC.out (.cells #[.int .i64 N, .int .i64 U, .int .i64 R] 55)
    generalize w.alloc (.cells #[.int .i64 N, .int .i64 U, .int .i64 R] 55) = w0 at *
    go_quiet (fail)
    go_wp2
    go_ret2
    exact ⟨rfl, bdrewN HB.out _⟩
set_option maxHeartbeats 1000000 in
theorem due_kind (pb : Nat) (d N U R : Int) (ad : Addr) (w : World) (hc : w.cell? ⟨2, 0, none⟩ = some (.iface 134 (.pointer (some ad)))) (n1 : 0 ≤ N) (n2 : N ≤ 100000) (h : unitB U = false ∨ unitB U = true ∧ rollB R = false) :
    Calls Tryd.prog 49 #[.int .i64 d, .agg #[.int .i64 N, .int .i64 U, .int .i64 R], .func (.func 50) #[] #[.pointer (some ⟨pb, 0, none⟩)]] w fun e w' => e = .returned (.tuple #[.int .i64 0, .iface 134 (.pointer (some ad))]) ∧ Below w.heap.size w w' := by
  have HC : Hid (∀ o, (w.alloc o).cell? ⟨2, 0, none⟩ = some (.iface 134 (.pointer (some ad)))) := fun o => ((bel1 w o).cell (p := ⟨2, 0, none⟩) (lt_of_cell hc)).trans hc
  have HU := hidIt (fun w => isUnit_any U w)
  have HR := hidIt (fun w => isRoll_any R w)
  clear hc
  rcases h with h | ⟨h, h'⟩
  · rw [h] at HU
    clear h
    go_enter Tryd.func49, Tryd.ntmps49
    go_wp2_with fail
    refine (HU.out _).mono ?_
    rintro e w1 ⟨rfl, ew⟩
    subst w1
    go_wp2
    have HB := hidIt (bel1 w (.cells #[.int .i64 N, .int .i64 U, .int .i64 R] 55))
    have hc := HC.out (.cells #[.int .i64 N, .int .i64 U, .int .i64 R] 55)
    generalize w.alloc (.cells #[.int .i64 N, .int .i64 U, .int .i64 R] 55) = w0 at *
    go_quiet (fail)
    go_wp2
    go_ret2
    exact ⟨rfl, bdrewN HB.out _⟩
  · rw [h] at HU
    rw [h'] at HR
    clear h h'
    go_enter Tryd.func49, Tryd.ntmps49
    go_wp2_with fail
    refine (HU.out _).mono ?_
    rintro e w1 ⟨rfl, ew⟩
    subst w1
    go_wp2_with fail
    refine (HR.out _).mono ?_
    rintro e w1 ⟨rfl, ew⟩
    subst w1
    go_wp2
    have HB := hidIt (bel1 w (.cells #[.int .i64 N, .int .i64 U, .int .i64 R] 55))
    have hc := HC.out (.cells #[.int .i64 N, .int .i64 U, .int .i64 R] 55)
    generalize w.alloc (.cells #[.int .i64 N, .int .i64 U, .int .i64 R] 55) = w0 at *
    go_quiet (fail)
    go_wp2
    go_ret2
    exact ⟨rfl, bdrewN HB.out _⟩
set_option maxHeartbeats 1000000 in
theorem due_noday (pb : Nat) (d N U R : Int) (ad : Addr) (w : World) (hc : w.cell? ⟨0, 0, none⟩ = some (.iface 134 (.pointer (some ad)))) (n1 : 0 ≤ N) (n2 : N ≤ 100000) (hu : unitB U = true) (hr : rollB R = true) (hd : isDayB d = false) :
    Calls Tryd.prog 49 #[.int .i64 d, .agg #[.int .i64 N, .int .i64 U, .int .i64 R], .func (.func 50) #[] #[.pointer (some ⟨pb, 0, none⟩)]] w fun e w' => e = .returned (.tuple #[.int .i64 0, .iface 134 (.pointer (some ad))]) ∧ Below w.heap.size w w' := by
  have HC : Hid (∀ o, (w.alloc o).cell? ⟨0, 0, none⟩ = some (.iface 134 (.pointer (some ad)))) := fun o => ((bel1 w o).cell (p := ⟨0, 0, none⟩) (lt_of_cell hc)).trans hc
  have HU := hidIt (fun w => isUnit_any U w)
  have HR := hidIt (fun w => isRoll_any R w)
  have HD := hidIt (fun w => isDay_any d w)
  rw [hu] at HU
  rw [hr] at HR
  rw [hd] at HD
  clear hc hu hr hd
  go_enter Tryd.func49, Tryd.ntmps49
  go_wp2_with fail
  refine (HU.out _).mono ?_
  rintro e w1 ⟨rfl, ew⟩
  subst w1
  go_wp2_with fail
  refine (HR.out _).mono ?_
  rintro e w1 ⟨rfl, ew⟩
  subst w1
  go_wp2_with fail
  refine (HD.out _).mono ?_
  rintro e w1 ⟨rfl, ew⟩
  subst w1
  go_wp2
  have HB := hidIt (bel1 w (.cells #[.int .i64 N, .int .i64 U, .int .i64 R] 55))
  have hc := HC.out (.cells #[.int .i64 N, .int .i64 U, .int .i64 R] 55)
  generalize w.alloc (.cells #[.int .i64 N, .int .i64 U, .int .i64 R] 55) = w0 at *
  go_quiet (fail)
  go_wp2
  go_ret2
  exact ⟨rfl, bdrewN HB.out _⟩
set_option maxHeartbeats 1000000 in
theorem due_err (pb : Nat) (d N U R : Int) (t : TypeId) (a : Addr) (w : World) (n1 : 0 ≤ N) (n2 : N ≤ 100000) (hu : unitB U = true) (hr : rollB R = true) (hd : isDayB d = true)
    (hE : ∀ W, Below w.heap.size w W → Calls Tryd.prog 60 #[.int .i64 d, .agg #[.int .i64 N, .int .i64 U, .int .i64 R], .func (.func 50) #[] #[.pointer (some ⟨pb, 0, none⟩)]] W fun e w' => e = .returned (.tuple #[.int .i64 0, .iface t (.pointer (some a))]) ∧ Below W.heap.size W w') :
    Calls Tryd.prog 49 #[.int .i64 d, .agg #[.int .i64 N, .int .i64 U, .int .i64 R], .func (.func 50) #[] #[.pointer (some ⟨pb, 0, none⟩)]] w fun e w' => e = .returned (.tuple #[.int .i64 0, .iface t (.pointer (some a))]) ∧ Below w.heap.size w w' := by
  have HE := hidIt hE
  clear hE
  have HU := hidIt (fun w => isUnit_any U w)
  have HR := hidIt (fun w => isRoll_any R w)
  have HD := hidIt (fun w => isDay_any d w)
  have HT := hidIt (TBox.mk' w N U R 55)
  rw [hu] at HU
  rw [hr] at HR
  rw [hd] at HD
  clear hu hr hd
  go_enter Tryd.func49, Tryd.ntmps49
  go_wp2_with fail
  refine (HU.out _).mono ?_
  rintro e w1 ⟨rfl, ew⟩
  subst w1
  go_wp2_with fail
  refine (HR.out _).mono ?_
  rintro e w1 ⟨rfl, ew⟩
  subst w1
  go_wp2_with fail
  refine (HD.out _).mono ?_
  rintro e w1 ⟨rfl, ew⟩
  subst w1
  go_wp2_with fail
  refine (HE.out _ (bel1 w _)).mono ?_
  rintro e w1 ⟨rfl, hb⟩
  have HB := hidIt ((bel1 w _).trans (hb.mono (bel1 w _).size))
  clear hb HT
  go_wp2
  go_ret2
  exact ⟨rfl, HB.out⟩
set_option maxHeartbeats 1000000 in
theorem due_ok (pb : Nat) (d N U R x : Int) (y z : Value) (w : World) (n1 : 0 ≤ N) (n2 : N ≤ 100000) (hu : unitB U = true) (hr : rollB R = true) (hd : isDayB d = true)
    (hE : ∀ W, Below w.heap.size w W → Calls Tryd.prog 60 #[.int .i64 d, .agg #[.int .i64 N, .int .i64 U, .int .i64 R], .func (.func 50) #[] #[.pointer (some ⟨pb, 0, none⟩)]] W fun e w' => e = .returned (.tuple #[.int .i64 x, .nilIface]) ∧ Below W.heap.size W w')
    (hR : ∀ W, Below w.heap.size w W → Calls Tryd.prog 61 #[.int .i64 x, .int .i64 R, .func (.func 50) #[] #[.pointer (some ⟨pb, 0, none⟩)]] W fun e w' => e = .returned (.tuple #[y, z]) ∧ Below W.heap.size W w') :
    Calls Tryd.prog 49 #[.int .i64 d, .agg #[.int .i64 N, .int .i64 U, .int .i64 R], .func (.func 50) #[] #[.pointer (some ⟨pb, 0, none⟩)]] w fun e w' => e = .returned (.tuple #[y, z]) ∧ Below w.heap.size w w' := by
  have HE := hidIt hE
  have HQ := hidIt hR
  clear hE hR
  have HU := hidIt (fun w => isUnit_any U w)
  have HR := hidIt (fun w => isRoll_any R w)
  have HD := hidIt (fun w => isDay_any d w)
  have HT := hidIt (TBox.mk' w N U R 55)
  rw [hu] at HU
  rw [hr] at HR
  rw [hd] at HD
  clear hu hr hd
  go_enter Tryd.func49, Tryd.ntmps49
  go_wp2_with fail
  refine (HU.out _).mono ?_
  rintro e w1 ⟨rfl, ew⟩
  subst w1
  go_wp2_with fail
  refine (HR.out _).mono ?_
  rintro e w1 ⟨rfl, ew⟩
  subst w1
  go_wp2_with fail
  refine (HD.out _).mono ?_
  rintro e w1 ⟨rfl, ew⟩
  subst w1
  go_wp2_with fail
  refine (HE.out _ (bel1 w _)).mono ?_
  rintro e w1 ⟨rfl, hb⟩
  have HT1 := hidIt (HT.out.on hb)
  have c2 := HT1.out.c2
  clear hb
  go_wp2_with fail
  refine (HQ.out _ HT1.out.bel).mono ?_
  rintro e w2 ⟨rfl, hb⟩
  have HB := hidIt (HT1.out.bel.trans (hb.mono HT1.out.bel.size))
  clear hb
  go_wp2
  go_ret2
  exact ⟨rfl, HB.out⟩
end Go.Proofs.YtpijiglmjkdlgaaDoor
namespace Go.Proofs.YtpijiglmjkdlgaaDoor
namespace M
open Go.RowKit Go.Sort Go.Lib

theorem end_days (pb : Option Addr) (d N R : Int) (w : World) (d1 : 1 ≤ d) (d2 : d ≤ 3652059) (n1 : 0 ≤ N) (n2 : N ≤ 100000) :
    Calls Tryd.prog 60 #[.int .i64 d, .agg #[.int .i64 N, .int .i64 0, .int .i64 R], .func (.func 32) #[.pointer pb] #[]] w fun e w' => e = .returned (.tuple #[.int .i64 (d + N), .nilIface]) ∧ Below w.heap.size w w' := by
  go_enter Tryd.func60, Tryd.ntmps60
  go_wp2
  go_ret2
  exact ⟨rfl, bel1 _ _⟩
theorem end_weeks (pb : Option Addr) (d N R : Int) (w : World) (d1 : 1 ≤ d) (d2 : d ≤ 3652059) (n1 : 0 ≤ N) (n2 : N ≤ 100000) :
    Calls Tryd.prog 60 #[.int .i64 d, .agg #[.int .i64 N, .int .i64 2, .int .i64 R], .func (.func 32) #[.pointer pb] #[]] w fun e w' => e = .returned (.tuple #[.int .i64 (d + 7 * N), .nilIface]) ∧ Below w.heap.size w w' := by
  go_enter Tryd.func60, Tryd.ntmps60
  go_wp2
  go_ret2
  exact ⟨rfl, bel1 _ _⟩
theorem end_work (pb : Option Addr) (d N R : Int) (x y : Value) (w : World)
    (hA : ∀ o, Calls Tryd.prog 74 #[.int .i64 d, .int .i64 N, .func (.func 32) #[.pointer pb] #[]] (w.alloc o) fun e w' => e = .returned (.tuple #[x, y]) ∧ Below (w.alloc o).heap.size (w.alloc o) w') :
    Calls Tryd.prog 60 #[.int .i64 d, .agg #[.int .i64 N, .int .i64 1, .int .i64 R], .func (.func 32) #[.pointer pb] #[]] w fun e w' => e = .returned (.tuple #[x, y]) ∧ Below w.heap.size w w' := by
  have HA := hidIt hA
  clear hA
  go_enter Tryd.func60, Tryd.ntmps60
  go_wp2_with fail
  refine (HA.out _).mono ?_
  rintro e w1 ⟨rfl, hb⟩
  have HB := hidIt ((bel1 w _).trans (hb.mono (bel1 w _).size))
  clear hb
  go_wp2
  go_ret2
  exact ⟨rfl, HB.out⟩
theorem end_months (pb : Option Addr) (d N R : Int) (x y : Value) (w : World)
    (hA : ∀ o, Calls Tryd.prog 75 #[.int .i64 d, .int .i64 N] (w.alloc o) fun e w' => e = .returned (.tuple #[x, y]) ∧ ∃ k, w' = (w.alloc o).drewN k) :
    Calls Tryd.prog 60 #[.int .i64 d, .agg #[.int .i64 N, .int .i64 3, .int .i64 R], .func (.func 32) #[.pointer pb] #[]] w fun e w' => e = .returned (.tuple #[x, y]) ∧ Below w.heap.size w w' := by
  have HA := hidIt hA
  clear hA
  go_enter Tryd.func60, Tryd.ntmps60
  go_wp2_with fail
  refine (HA.out _).mono ?_
  rintro e w1 ⟨rfl, k, ew⟩
  have HB : Hid (Below w.heap.size w w1) := by show Below _ _ _; rw [ew]; exact bdrewN (bel1 _ _) _
  clear ew
  go_wp2
  go_ret2
  exact ⟨rfl, HB.out⟩
theorem end_years (pb : Option Addr) (d N R : Int) (x y : Value) (w : World) (n1 : 0 ≤ N) (n2 : N ≤ 100000)
    (hA : ∀ o, Calls Tryd.prog 75 #[.int .i64 d, .int .i64 (12 * N)] (w.alloc o) fun e w' => e = .returned (.tuple #[x, y]) ∧ ∃ k, w' = (w.alloc o).drewN k) :
    Calls Tryd.prog 60 #[.int .i64 d, .agg #[.int .i64 N, .int .i64 4, .int .i64 R], .func (.func 32) #[.pointer pb] #[]] w fun e w' => e = .returned (.tuple #[x, y]) ∧ Below w.heap.size w w' := by
  have HA := hidIt hA
  clear hA
  go_enter Tryd.func60, Tryd.ntmps60
  go_wp2_with fail
  refine (HA.out _).mono ?_
  rintro e w1 ⟨rfl, k, ew⟩
  have HB : Hid (Below w.heap.size w w1) := by show Below _ _ _; rw [ew]; exact bdrewN (bel1 _ _) _
  clear ew
  go_wp2
  go_ret2
  exact ⟨rfl, HB.out⟩

set_option maxHeartbeats 1000000 in
theorem due_bound (pb : Option Addr) (d N U R : Int) (ad : Addr) (w : World) (hc : w.cell? ⟨4, 0, none⟩ = some (.iface 134 (.pointer (some ad)))) (h : N < 0 ∨ 100000 < N) :
    Calls Tryd.prog 49 #[.int .i64 d, .agg #[.int .i64 N, .int .i64 U, .int .i64 R], .func (.func 32) #[.pointer pb] #[]] w fun e w' => e = .returned (.tuple #[.int .i64 0, .iface 134 (.pointer (some ad))]) ∧ Below w.heap.size w w' := by
  have HC : Hid (∀ o, (w.alloc o).cell? ⟨4, 0, none⟩ = some (.iface 134 (.pointer (some ad)))) := fun o => ((bel1 w o).cell (p := ⟨4, 0, none⟩) (lt_of_cell hc)).trans hc
  clear hc
  by_cases h0 : N < 0
  · clear h
    go_enter Tryd.func49, Tryd.ntmps49
    go_wp2
    have HB := hidIt (bel1 w (.cells #[.int .i64 N, .int .i64 U, .int .i64 R] 55))
    have hc := HC.out (.cells #[.int .i64 N, .int .i64 U, .int .i64 R] 55)
    generalize w.alloc (.cells #[.int .i64 N, .int .i64 U, .int .i64 R] 55) = w0 at *
    go_quiet (fail)
    go_wp2
    go_ret2
    exact ⟨rfl, bdrewN HB.out _⟩
  · have h1 : 100000 < N := by omega
    clear h
    go_enter Tryd.func49, Tryd.ntmps49
    go_wp2
    have HB := hidIt (bel1 w (.cells #[.int .i64 N, .int .i64 U, .int .i64 R] 55))
    have hc := HC.out (.cells #[.int .i64 N, .int .i64 U, .int .i64 R] 55)
    generalize w.alloc (.cells #[.int .i64 N, .int .i64 U, .int .i64 R] 55) = w0 at *
    go_quiet (fail)
    go_wp2
    go_ret2
    exact ⟨rfl, bdrewN HB.out _⟩
set_option maxHeartbeats 1000000 in
theorem due_kind (pb : Option Addr) (d N U R : Int) (ad : Addr) (w : World) (hc : w.cell? ⟨2, 0, none⟩ = some (.iface 134 (.pointer (some ad)))) (n1 : 0 ≤ N) (n2 : N ≤ 100000) (h : unitB U = false ∨ unitB U = true ∧ rollB R = false) :
    Calls Tryd.prog 49 #[.int .i64 d, .agg #[.int .i64 N, .int .i64 U, .int .i64 R], .func (.func 32) #[.pointer pb] #[]] w fun e w' => e = .returned (.tuple #[.int .i64 0, .iface 134 (.pointer (some ad))]) ∧ Below w.heap.size w w' := by
  have HC : Hid (∀ o, (w.alloc o).cell? ⟨2, 0, none⟩ = some (.iface 134 (.pointer (some ad)))) := fun o => ((bel1 w o).cell (p := ⟨2, 0, none⟩) (lt_of_cell hc)).trans hc
  have HU := hidIt (fun w => isUnit_any U w)
  have HR := hidIt (fun w => isRoll_any R w)
  clear hc
  rcases h with h | ⟨h, h'⟩
  · rw [h] at HU
    clear h
    go_enter Tryd.func49, Tryd.ntmps49
    go_wp2_with fail
    refine (HU.out _).mono ?_
    rintro e w1 ⟨rfl, ew⟩
    subst w1
    go_wp2
    have HB := hidIt (bel1 w (.cells #[.int .i64 N, .int .i64 U, .int .i64 R] 55))
    have hc := HC.out (.cells #[.int .i64 N, .int .i64 U, .int .i64 R] 55)
    generalize w.alloc (.cells #[.int .i64 N, .int .i64 U, .int .i64 R] 55) = w0 at *
    go_quiet (fail)
    go_wp2
    go_ret2
    exact ⟨rfl, bdrewN HB.out _⟩
  · rw [h] at HU
    rw [h'] at HR
    clear h h'
    go_enter Tryd.func49, Tryd.ntmps49
    go_wp2_with fail
    refine (HU.out _).mono ?_
    rintro e w1 ⟨rfl, ew⟩
    subst w1
    go_wp2_with fail
    refine (HR.out _).mono ?_
    rintro e w1 ⟨rfl, ew⟩
    subst w1
    go_wp2
    have HB := hidIt (bel1 w (.cells #[.int .i64 N, .int .i64 U, .int .i64 R] 55))
    have hc := HC.out (.cells #[.int .i64 N, .int .i64 U, .int .i64 R] 55)
    generalize w.alloc (.cells #[.int .i64 N, .int .i64 U, .int .i64 R] 55) = w0 at *
    go_quiet (fail)
    go_wp2
    go_ret2
    exact ⟨rfl, bdrewN HB.out _⟩
set_option maxHeartbeats 1000000 in
theorem due_noday (pb : Option Addr) (d N U R : Int) (ad : Addr) (w : World) (hc : w.cell? ⟨0, 0, none⟩ = some (.iface 134 (.pointer (some ad)))) (n1 : 0 ≤ N) (n2 : N ≤ 100000) (hu : unitB U = true) (hr : rollB R = true) (hd : isDayB d = false) :
    Calls Tryd.prog 49 #[.int .i64 d, .agg #[.int .i64 N, .int .i64 U, .int .i64 R], .func (.func 32) #[.pointer pb] #[]] w fun e w' => e = .returned (.tuple #[.int .i64 0, .iface 134 (.pointer (some ad))]) ∧ Below w.heap.size w w' := by
  have HC : Hid (∀ o, (w.alloc o).cell? ⟨0, 0, none⟩ = some (.iface 134 (.pointer (some ad)))) := fun o => ((bel1 w o).cell (p := ⟨0, 0, none⟩) (lt_of_cell hc)).trans hc
  have HU := hidIt (fun w => isUnit_any U w)
  have HR := hidIt (fun w => isRoll_any R w)
  have HD := hidIt (fun w => isDay_any d w)
  rw [hu] at HU
  rw [hr] at HR
  rw [hd] at HD
  clear hc hu hr hd
  go_enter Tryd.func49, Tryd.ntmps49
  go_wp2_with fail
  refine (HU.out _).mono ?_
  rintro e w1 ⟨rfl, ew⟩
  subst w1
  go_wp2_with fail
  refine (HR.out _).mono ?_
  rintro e w1 ⟨rfl, ew⟩
  subst w1
  go_wp2_with fail
  refine (HD.out _).mono ?_
  rintro e w1 ⟨rfl, ew⟩
  subst w1
  go_wp2
  have HB := hidIt (bel1 w (.cells #[.int .i64 N, .int .i64 U, .int .i64 R] 55))
  have hc := HC.out (.cells #[.int .i64 N, .int .i64 U, .int .i64 R] 55)
  generalize w.alloc (.cells #[.int .i64 N, .int .i64 U, .int .i64 R] 55) = w0 at *
  go_quiet (fail)
  go_wp2
  go_ret2
  exact ⟨rfl, bdrewN HB.out _⟩
set_option maxHeartbeats 1000000 in
theorem due_err (pb : Option Addr) (d N U R : Int) (t : TypeId) (a : Addr) (w : World) (n1 : 0 ≤ N) (n2 : N ≤ 100000) (hu : unitB U = true) (hr : rollB R = true) (hd : isDayB d = true)
    (hE : ∀ W, Below w.heap.size w W → Calls Tryd.prog 60 #[.int .i64 d, .agg #[.int .i64 N, .int .i64 U, .int .i64 R], .func (.func 32) #[.pointer pb] #[]] W fun e w' => e = .returned (.tuple #[.int .i64 0, .iface t (.pointer (some a))]) ∧ Below W.heap.size W w') :
    Calls Tryd.prog 49 #[.int .i64 d, .agg #[.int .i64 N, .int .i64 U, .int .i64 R], .func (.func 32) #[.pointer pb] #[]] w fun e w' => e = .returned (.tuple #[.int .i64 0, .iface t (.pointer (some a))]) ∧ Below w.heap.size w w' := by
  have HE := hidIt hE
  clear hE
  have HU := hidIt (fun w => isUnit_any U w)
  have HR := hidIt (fun w => isRoll_any R w)
  have HD := hidIt (fun w => isDay_any d w)
  have HT := hidIt (TBox.mk' w N U R 55)
  rw [hu] at HU
  rw [hr] at HR
  rw [hd] at HD
  clear hu hr hd
  go_enter Tryd.func49, Tryd.ntmps49
  go_wp2_with fail
  refine (HU.out _).mono ?_
  rintro e w1 ⟨rfl, ew⟩
  subst w1
  go_wp2_with fail
  refine (HR.out _).mono ?_
  rintro e w1 ⟨rfl, ew⟩
  subst w1
  go_wp2_with fail
  refine (HD.out _).mono ?_
  rintro e w1 ⟨rfl, ew⟩
  subst w1
  go_wp2_with fail
  refine (HE.out _ (bel1 w _)).mono ?_
  rintro e w1 ⟨rfl, hb⟩
  have HB := hidIt ((bel1 w _).trans (hb.mono (bel1 w _).size))
  clear hb HT
  go_wp2
  go_ret2
  exact ⟨rfl, HB.out⟩
set_option maxHeartbeats 1000000 in
theorem due_ok (pb : Option Addr) (d N U R x : Int) (y z : Value) (w : World) (n1 : 0 ≤ N) (n2 : N ≤ 100000) (hu : unitB U = true) (hr : rollB R = true) (hd : isDayB d = true)
    (hE : ∀ W, Below w.heap.size w W → Calls Tryd.prog 60 #[.int .i64 d, .agg #[.int .i64 N, .int .i64 U, .int .i64 R], .func (.func 32) #[.pointer pb] #[]] W fun e w' => e = .returned (.tuple #[.int .i64 x, .nilIface]) ∧ Below W.heap.size W w')
    (hR : ∀ W, Below w.heap.size w W → Calls Tryd.prog 61 #[.int .i64 x, .int .i64 R, .func (.func 32) #[.pointer pb] #[]] W fun e w' => e = .returned (.tuple #[y, z]) ∧ Below W.heap.size W w') :
    Calls Tryd.prog 49 #[.int .i64 d, .agg #[.int .i64 N, .int .i64 U, .int .i64 R], .func (.func 32) #[.pointer pb] #[]] w fun e w' => e = .returned (.tuple #[y, z]) ∧ Below w.heap.size w w' := by
  have HE := hidIt hE
  have HQ := hidIt hR
  clear hE hR
  have HU := hidIt (fun w => isUnit_any U w)
  have HR := hidIt (fun w => isRoll_any R w)
  have HD := hidIt (fun w => isDay_any d w)
  have HT := hidIt (TBox.mk' w N U R 55)
  rw [hu] at HU
  rw [hr] at HR
  rw [hd] at HD
  clear hu hr hd
  go_enter Tryd.func49, Tryd.ntmps49
  go_wp2_with fail
  refine (HU.out _).mono ?_
  rintro e w1 ⟨rfl, ew⟩
  subst w1
  go_wp2_with fail
  refine (HR.out _).mono ?_
  rintro e w1 ⟨rfl, ew⟩
  subst w1
  go_wp2_with fail
  refine (HD.out _).mono ?_
  rintro e w1 ⟨rfl, ew⟩
  subst w1
  go_wp2_with fail
  refine (HE.out _ (bel1 w _)).mono ?_
  rintro e w1 ⟨rfl, hb⟩
  have HT1 := hidIt (HT.out.on hb)
  have c2 := HT1.out.c2
  clear hb
  go_wp2_with fail
  refine (HQ.out _ HT1.out.bel).mono ?_
  rintro e w2 ⟨rfl, hb⟩
  have HB := hidIt (HT1.out.bel.trans (hb.mono HT1.out.bel.size))
  clear hb
  go_wp2
  go_ret2
  exact ⟨rfl, HB.out⟩
end M
end Go.Proofs.YtpijiglmjkdlgaaDoor

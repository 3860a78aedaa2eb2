/-
  Facts: Add, what is told of wrong facts (written by tools/genfadd.py).
-/
import Derived.Test.YtcfeflkhmncmjaaGreatDoorFaA
import Derived.Deep.RegionLaw
import Derived.Deep.DeepCutAuto
import Derived.Test.YtcfeflkhmncmjaaGreatDoorAddP
namespace Go.Proofs.YtcfeflkhmncmjaaGreatDoor
open Go.RowKit Go.Extern.Stop Go.Stop Go.Extern

set_option maxHeartbeats 2000000 in
set_option maxRecDepth 20000 in
theorem rAdd_0 {b n c : Nat} {w : World} {sa : Option Addr} (xw xo xv xf xt xl : Int) (xn : ByteArray) (hc : w.cell? ⟨b, 0, none⟩ = some (.slice sa n c)) (hb : b < w.heap.size) (hn : 500 ≤ n) :
    Calls Tryz.prog 18 #[.pointer (some ⟨b, 0, none⟩), .agg #[.int .i64 xw, .string xn, .int .i64 xo, .int .i64 xv, .int .i64 xf, .int .i64 xt, .int .i64 xl]] w fun e w' => e = .returned (.int .i64 2) ∧ Below w.heap.size w w' := by
  have HW := hidLL (rIsWord_f xn)
  have HP := hidLL isBody_f
  have HV := hidLL small_f
  have HD := hidLL rIsDay_f
  have hnz : (500 : Int) ≤ n := by omega
  have HB : Hid (∀ o : Obj, Below w.heap.size w (w.alloc o)) := fun o => (Below.refl _ _).alloc (Nat.le_refl _) o
  go_enter Tryz.func18, Tryz.ntmps18
  go_wp2_with (first | (go_at_call 23; refine (HW.out _).mono ?_; rintro e w' ⟨rfl, rfl⟩) | (go_at_call 19; refine (HP.out _ _).mono ?_; rintro e w' ⟨rfl, rfl⟩) | (go_at_call 29; refine (HV.out _ _).mono ?_; rintro e w' ⟨rfl, rfl⟩) | (go_at_call 20; refine (HD.out _ _).mono ?_; rintro e w' ⟨rfl, rfl⟩))
  all_goals (go_ret; exact ⟨rfl, HB.out _⟩)
set_option maxHeartbeats 2000000 in
set_option maxRecDepth 20000 in
theorem rAdd_1 {b n c : Nat} {w : World} {sa : Option Addr} (xw xo xv xf xt xl : Int) (xn : ByteArray) (hc : w.cell? ⟨b, 0, none⟩ = some (.slice sa n c)) (hb : b < w.heap.size) (hn : ¬ 500 ≤ n) (hm : isWordB xn = false) :
    Calls Tryz.prog 18 #[.pointer (some ⟨b, 0, none⟩), .agg #[.int .i64 xw, .string xn, .int .i64 xo, .int .i64 xv, .int .i64 xf, .int .i64 xt, .int .i64 xl]] w fun e w' => e = .returned (.int .i64 7) ∧ Below w.heap.size w w' := by
  have HW := hidLL (rIsWord_f xn)
  have HP := hidLL isBody_f
  have HV := hidLL small_f
  have HD := hidLL rIsDay_f
  have hnz : ¬ (500 : Int) ≤ n := by omega
  have HB : Hid (∀ o : Obj, Below w.heap.size w (w.alloc o)) := fun o => (Below.refl _ _).alloc (Nat.le_refl _) o
  go_enter Tryz.func18, Tryz.ntmps18
  go_wp2_with (first | (go_at_call 23; refine (HW.out _).mono ?_; rintro e w' ⟨rfl, rfl⟩) | (go_at_call 19; refine (HP.out _ _).mono ?_; rintro e w' ⟨rfl, rfl⟩) | (go_at_call 29; refine (HV.out _ _).mono ?_; rintro e w' ⟨rfl, rfl⟩) | (go_at_call 20; refine (HD.out _ _).mono ?_; rintro e w' ⟨rfl, rfl⟩))
  all_goals (go_ret; exact ⟨rfl, HB.out _⟩)
set_option maxHeartbeats 2000000 in
set_option maxRecDepth 20000 in
theorem rAdd_2 {b n c : Nat} {w : World} {sa : Option Addr} (xw xo xv xf xt xl : Int) (xn : ByteArray) (hc : w.cell? ⟨b, 0, none⟩ = some (.slice sa n c)) (hb : b < w.heap.size) (hn : ¬ 500 ≤ n) (hm : isWordB xn = true) (hk : perB xw = false) :
    Calls Tryz.prog 18 #[.pointer (some ⟨b, 0, none⟩), .agg #[.int .i64 xw, .string xn, .int .i64 xo, .int .i64 xv, .int .i64 xf, .int .i64 xt, .int .i64 xl]] w fun e w' => e = .returned (.int .i64 9) ∧ Below w.heap.size w w' := by
  have HW := hidLL (rIsWord_f xn)
  have HP := hidLL isBody_f
  have HV := hidLL small_f
  have HD := hidLL rIsDay_f
  have hnz : ¬ (500 : Int) ≤ n := by omega
  have HB : Hid (∀ o : Obj, Below w.heap.size w (w.alloc o)) := fun o => (Below.refl _ _).alloc (Nat.le_refl _) o
  go_enter Tryz.func18, Tryz.ntmps18
  go_wp2_with (first | (go_at_call 23; refine (HW.out _).mono ?_; rintro e w' ⟨rfl, rfl⟩) | (go_at_call 19; refine (HP.out _ _).mono ?_; rintro e w' ⟨rfl, rfl⟩) | (go_at_call 29; refine (HV.out _ _).mono ?_; rintro e w' ⟨rfl, rfl⟩) | (go_at_call 20; refine (HD.out _ _).mono ?_; rintro e w' ⟨rfl, rfl⟩))
  all_goals (go_ret; exact ⟨rfl, HB.out _⟩)
set_option maxHeartbeats 2000000 in
set_option maxRecDepth 20000 in
theorem rAdd_3 {b n c : Nat} {w : World} {sa : Option Addr} (xw xo xv xf xt xl : Int) (xn : ByteArray) (hc : w.cell? ⟨b, 0, none⟩ = some (.slice sa n c)) (hb : b < w.heap.size) (hn : ¬ 500 ≤ n) (hm : isWordB xn = true) (hk : perB xw = true) (ho : ¬ xo = -1) (hq : perB xo = false) :
    Calls Tryz.prog 18 #[.pointer (some ⟨b, 0, none⟩), .agg #[.int .i64 xw, .string xn, .int .i64 xo, .int .i64 xv, .int .i64 xf, .int .i64 xt, .int .i64 xl]] w fun e w' => e = .returned (.int .i64 9) ∧ Below w.heap.size w w' := by
  have HW := hidLL (rIsWord_f xn)
  have HP := hidLL isBody_f
  have HV := hidLL small_f
  have HD := hidLL rIsDay_f
  have hnz : ¬ (500 : Int) ≤ n := by omega
  have HB : Hid (∀ o : Obj, Below w.heap.size w (w.alloc o)) := fun o => (Below.refl _ _).alloc (Nat.le_refl _) o
  go_enter Tryz.func18, Tryz.ntmps18
  go_wp2_with (first | (go_at_call 23; refine (HW.out _).mono ?_; rintro e w' ⟨rfl, rfl⟩) | (go_at_call 19; refine (HP.out _ _).mono ?_; rintro e w' ⟨rfl, rfl⟩) | (go_at_call 29; refine (HV.out _ _).mono ?_; rintro e w' ⟨rfl, rfl⟩) | (go_at_call 20; refine (HD.out _ _).mono ?_; rintro e w' ⟨rfl, rfl⟩))
  all_goals (go_ret; exact ⟨rfl, HB.out _⟩)
set_option maxHeartbeats 2000000 in
set_option maxRecDepth 20000 in
theorem rAdd_4 {b n c : Nat} {w : World} {sa : Option Addr} (xw xv xf xt xl : Int) (xn : ByteArray) (hc : w.cell? ⟨b, 0, none⟩ = some (.slice sa n c)) (hb : b < w.heap.size) (hn : ¬ 500 ≤ n) (hm : isWordB xn = true) (hk : perB xw = true) (ho : ¬ xw = -1) :
    Calls Tryz.prog 18 #[.pointer (some ⟨b, 0, none⟩), .agg #[.int .i64 xw, .string xn, .int .i64 xw, .int .i64 xv, .int .i64 xf, .int .i64 xt, .int .i64 xl]] w fun e w' => e = .returned (.int .i64 9) ∧ Below w.heap.size w w' := by
  have HW := hidLL (rIsWord_f xn)
  have HP := hidLL isBody_f
  have HV := hidLL small_f
  have HD := hidLL rIsDay_f
  have hnz : ¬ (500 : Int) ≤ n := by omega
  have HB : Hid (∀ o : Obj, Below w.heap.size w (w.alloc o)) := fun o => (Below.refl _ _).alloc (Nat.le_refl _) o
  go_enter Tryz.func18, Tryz.ntmps18
  go_wp2_with (first | (go_at_call 23; refine (HW.out _).mono ?_; rintro e w' ⟨rfl, rfl⟩) | (go_at_call 19; refine (HP.out _ _).mono ?_; rintro e w' ⟨rfl, rfl⟩) | (go_at_call 29; refine (HV.out _ _).mono ?_; rintro e w' ⟨rfl, rfl⟩) | (go_at_call 20; refine (HD.out _ _).mono ?_; rintro e w' ⟨rfl, rfl⟩))
  all_goals (go_ret; exact ⟨rfl, HB.out _⟩)
set_option maxHeartbeats 2000000 in
set_option maxRecDepth 20000 in
theorem rAdd_5 {b n c : Nat} {w : World} {sa : Option Addr} (xw xv xf xt xl : Int) (xn : ByteArray) (hc : w.cell? ⟨b, 0, none⟩ = some (.slice sa n c)) (hb : b < w.heap.size) (hn : ¬ 500 ≤ n) (hm : isWordB xn = true) (hk : perB xw = true) (hw : ¬ (-1 : Int) = xw) (hv : valB xv = false) :
    Calls Tryz.prog 18 #[.pointer (some ⟨b, 0, none⟩), .agg #[.int .i64 xw, .string xn, .int .i64 (-1), .int .i64 xv, .int .i64 xf, .int .i64 xt, .int .i64 xl]] w fun e w' => e = .returned (.int .i64 3) ∧ Below w.heap.size w w' := by
  have HW := hidLL (rIsWord_f xn)
  have HP := hidLL isBody_f
  have HV := hidLL small_f
  have HD := hidLL rIsDay_f
  have hw2 : ¬ xw = -1 := fun e => hw e.symm
  have hnz : ¬ (500 : Int) ≤ n := by omega
  have HB : Hid (∀ o : Obj, Below w.heap.size w (w.alloc o)) := fun o => (Below.refl _ _).alloc (Nat.le_refl _) o
  go_enter Tryz.func18, Tryz.ntmps18
  go_wp2_with (first | (go_at_call 23; refine (HW.out _).mono ?_; rintro e w' ⟨rfl, rfl⟩) | (go_at_call 19; refine (HP.out _ _).mono ?_; rintro e w' ⟨rfl, rfl⟩) | (go_at_call 29; refine (HV.out _ _).mono ?_; rintro e w' ⟨rfl, rfl⟩) | (go_at_call 20; refine (HD.out _ _).mono ?_; rintro e w' ⟨rfl, rfl⟩))
  all_goals (go_ret; exact ⟨rfl, HB.out _⟩)
set_option maxHeartbeats 2000000 in
set_option maxRecDepth 20000 in
theorem rAdd_6 {b n c : Nat} {w : World} {sa : Option Addr} (xw xv xf xt xl : Int) (xn : ByteArray) (hc : w.cell? ⟨b, 0, none⟩ = some (.slice sa n c)) (hb : b < w.heap.size) (hn : ¬ 500 ≤ n) (hm : isWordB xn = true) (hk : perB xw = true) (hw : ¬ (-1 : Int) = xw) (hv : valB xv = true) (hf : dyB xf = false) :
    Calls Tryz.prog 18 #[.pointer (some ⟨b, 0, none⟩), .agg #[.int .i64 xw, .string xn, .int .i64 (-1), .int .i64 xv, .int .i64 xf, .int .i64 xt, .int .i64 xl]] w fun e w' => e = .returned (.int .i64 4) ∧ Below w.heap.size w w' := by
  have HW := hidLL (rIsWord_f xn)
  have HP := hidLL isBody_f
  have HV := hidLL small_f
  have HD := hidLL rIsDay_f
  have hw2 : ¬ xw = -1 := fun e => hw e.symm
  have hnz : ¬ (500 : Int) ≤ n := by omega
  have HB : Hid (∀ o : Obj, Below w.heap.size w (w.alloc o)) := fun o => (Below.refl _ _).alloc (Nat.le_refl _) o
  go_enter Tryz.func18, Tryz.ntmps18
  go_wp2_with (first | (go_at_call 23; refine (HW.out _).mono ?_; rintro e w' ⟨rfl, rfl⟩) | (go_at_call 19; refine (HP.out _ _).mono ?_; rintro e w' ⟨rfl, rfl⟩) | (go_at_call 29; refine (HV.out _ _).mono ?_; rintro e w' ⟨rfl, rfl⟩) | (go_at_call 20; refine (HD.out _ _).mono ?_; rintro e w' ⟨rfl, rfl⟩))
  all_goals (go_ret; exact ⟨rfl, HB.out _⟩)
set_option maxHeartbeats 2000000 in
set_option maxRecDepth 20000 in
theorem rAdd_7 {b n c : Nat} {w : World} {sa : Option Addr} (xw xv xf xt xl : Int) (xn : ByteArray) (hc : w.cell? ⟨b, 0, none⟩ = some (.slice sa n c)) (hb : b < w.heap.size) (hn : ¬ 500 ≤ n) (hm : isWordB xn = true) (hk : perB xw = true) (hw : ¬ (-1 : Int) = xw) (hv : valB xv = true) (hf : dyB xf = true) (hl : dyB xl = false) :
    Calls Tryz.prog 18 #[.pointer (some ⟨b, 0, none⟩), .agg #[.int .i64 xw, .string xn, .int .i64 (-1), .int .i64 xv, .int .i64 xf, .int .i64 xt, .int .i64 xl]] w fun e w' => e = .returned (.int .i64 4) ∧ Below w.heap.size w w' := by
  have HW := hidLL (rIsWord_f xn)
  have HP := hidLL isBody_f
  have HV := hidLL small_f
  have HD := hidLL rIsDay_f
  have hw2 : ¬ xw = -1 := fun e => hw e.symm
  have hnz : ¬ (500 : Int) ≤ n := by omega
  have HB : Hid (∀ o : Obj, Below w.heap.size w (w.alloc o)) := fun o => (Below.refl _ _).alloc (Nat.le_refl _) o
  go_enter Tryz.func18, Tryz.ntmps18
  go_wp2_with (first | (go_at_call 23; refine (HW.out _).mono ?_; rintro e w' ⟨rfl, rfl⟩) | (go_at_call 19; refine (HP.out _ _).mono ?_; rintro e w' ⟨rfl, rfl⟩) | (go_at_call 29; refine (HV.out _ _).mono ?_; rintro e w' ⟨rfl, rfl⟩) | (go_at_call 20; refine (HD.out _ _).mono ?_; rintro e w' ⟨rfl, rfl⟩))
  all_goals (go_ret; exact ⟨rfl, HB.out _⟩)
end Go.Proofs.YtcfeflkhmncmjaaGreatDoor
namespace Go.Proofs.YtcfeflkhmncmjaaGreatDoor
open Go.RowKit Go.Extern.Stop Go.Stop Go.Extern

set_option maxHeartbeats 2000000 in
set_option maxRecDepth 20000 in
theorem rAdd_8 {b n c : Nat} {w : World} {sa : Option Addr} (xw xv xf xt xl : Int) (xn : ByteArray) (hc : w.cell? ⟨b, 0, none⟩ = some (.slice sa n c)) (hb : b < w.heap.size) (hn : ¬ 500 ≤ n) (hm : isWordB xn = true) (hk : perB xw = true) (hw : ¬ (-1 : Int) = xw) (hv : valB xv = true) (hf : dyB xf = true) (hl : dyB xl = true) (ht : ¬ xt = 0) (hx : dyB xt = false) :
    Calls Tryz.prog 18 #[.pointer (some ⟨b, 0, none⟩), .agg #[.int .i64 xw, .string xn, .int .i64 (-1), .int .i64 xv, .int .i64 xf, .int .i64 xt, .int .i64 xl]] w fun e w' => e = .returned (.int .i64 4) ∧ Below w.heap.size w w' := by
  have HW := hidLL (rIsWord_f xn)
  have HP := hidLL isBody_f
  have HV := hidLL small_f
  have HD := hidLL rIsDay_f
  have hw2 : ¬ xw = -1 := fun e => hw e.symm
  have hnz : ¬ (500 : Int) ≤ n := by omega
  have HB : Hid (∀ o : Obj, Below w.heap.size w (w.alloc o)) := fun o => (Below.refl _ _).alloc (Nat.le_refl _) o
  go_enter Tryz.func18, Tryz.ntmps18
  go_wp2_with (first | (go_at_call 23; refine (HW.out _).mono ?_; rintro e w' ⟨rfl, rfl⟩) | (go_at_call 19; refine (HP.out _ _).mono ?_; rintro e w' ⟨rfl, rfl⟩) | (go_at_call 29; refine (HV.out _ _).mono ?_; rintro e w' ⟨rfl, rfl⟩) | (go_at_call 20; refine (HD.out _ _).mono ?_; rintro e w' ⟨rfl, rfl⟩))
  all_goals (go_ret; exact ⟨rfl, HB.out _⟩)
set_option maxHeartbeats 2000000 in
set_option maxRecDepth 20000 in
theorem rAdd_9 {b n c : Nat} {w : World} {sa : Option Addr} (xw xv xf xt xl : Int) (xn : ByteArray) (hc : w.cell? ⟨b, 0, none⟩ = some (.slice sa n c)) (hb : b < w.heap.size) (hn : ¬ 500 ≤ n) (hm : isWordB xn = true) (hk : perB xw = true) (hw : ¬ (-1 : Int) = xw) (hv : valB xv = true) (hf : dyB xf = true) (hl : dyB xl = true) (ht : ¬ xt = 0) (hx : dyB xt = true) (hy : xt ≤ xf) :
    Calls Tryz.prog 18 #[.pointer (some ⟨b, 0, none⟩), .agg #[.int .i64 xw, .string xn, .int .i64 (-1), .int .i64 xv, .int .i64 xf, .int .i64 xt, .int .i64 xl]] w fun e w' => e = .returned (.int .i64 4) ∧ Below w.heap.size w w' := by
  have HW := hidLL (rIsWord_f xn)
  have HP := hidLL isBody_f
  have HV := hidLL small_f
  have HD := hidLL rIsDay_f
  have hw2 : ¬ xw = -1 := fun e => hw e.symm
  have hnz : ¬ (500 : Int) ≤ n := by omega
  have HB : Hid (∀ o : Obj, Below w.heap.size w (w.alloc o)) := fun o => (Below.refl _ _).alloc (Nat.le_refl _) o
  go_enter Tryz.func18, Tryz.ntmps18
  go_wp2_with (first | (go_at_call 23; refine (HW.out _).mono ?_; rintro e w' ⟨rfl, rfl⟩) | (go_at_call 19; refine (HP.out _ _).mono ?_; rintro e w' ⟨rfl, rfl⟩) | (go_at_call 29; refine (HV.out _ _).mono ?_; rintro e w' ⟨rfl, rfl⟩) | (go_at_call 20; refine (HD.out _ _).mono ?_; rintro e w' ⟨rfl, rfl⟩))
  all_goals (go_ret; exact ⟨rfl, HB.out _⟩)
set_option maxHeartbeats 2000000 in
set_option maxRecDepth 20000 in
theorem rAdd_12 {b n c : Nat} {w : World} {sa : Option Addr} (xw xo xv xf xt xl : Int) (xn : ByteArray) (hc : w.cell? ⟨b, 0, none⟩ = some (.slice sa n c)) (hb : b < w.heap.size) (hn : ¬ 500 ≤ n) (hm : isWordB xn = true) (hk : perB xw = true) (ho : ¬ xo = -1) (hq : perB xo = true) (hw : ¬ xo = xw) (hv : valB xv = false) :
    Calls Tryz.prog 18 #[.pointer (some ⟨b, 0, none⟩), .agg #[.int .i64 xw, .string xn, .int .i64 xo, .int .i64 xv, .int .i64 xf, .int .i64 xt, .int .i64 xl]] w fun e w' => e = .returned (.int .i64 3) ∧ Below w.heap.size w w' := by
  have HW := hidLL (rIsWord_f xn)
  have HP := hidLL isBody_f
  have HV := hidLL small_f
  have HD := hidLL rIsDay_f
  have hnz : ¬ (500 : Int) ≤ n := by omega
  have HB : Hid (∀ o : Obj, Below w.heap.size w (w.alloc o)) := fun o => (Below.refl _ _).alloc (Nat.le_refl _) o
  go_enter Tryz.func18, Tryz.ntmps18
  go_wp2_with (first | (go_at_call 23; refine (HW.out _).mono ?_; rintro e w' ⟨rfl, rfl⟩) | (go_at_call 19; refine (HP.out _ _).mono ?_; rintro e w' ⟨rfl, rfl⟩) | (go_at_call 29; refine (HV.out _ _).mono ?_; rintro e w' ⟨rfl, rfl⟩) | (go_at_call 20; refine (HD.out _ _).mono ?_; rintro e w' ⟨rfl, rfl⟩))
  all_goals (go_ret; exact ⟨rfl, HB.out _⟩)
set_option maxHeartbeats 2000000 in
set_option maxRecDepth 20000 in
theorem rAdd_13 {b n c : Nat} {w : World} {sa : Option Addr} (xw xo xv xf xt xl : Int) (xn : ByteArray) (hc : w.cell? ⟨b, 0, none⟩ = some (.slice sa n c)) (hb : b < w.heap.size) (hn : ¬ 500 ≤ n) (hm : isWordB xn = true) (hk : perB xw = true) (ho : ¬ xo = -1) (hq : perB xo = true) (hw : ¬ xo = xw) (hv : valB xv = true) (hf : dyB xf = false) :
    Calls Tryz.prog 18 #[.pointer (some ⟨b, 0, none⟩), .agg #[.int .i64 xw, .string xn, .int .i64 xo, .int .i64 xv, .int .i64 xf, .int .i64 xt, .int .i64 xl]] w fun e w' => e = .returned (.int .i64 4) ∧ Below w.heap.size w w' := by
  have HW := hidLL (rIsWord_f xn)
  have HP := hidLL isBody_f
  have HV := hidLL small_f
  have HD := hidLL rIsDay_f
  have hnz : ¬ (500 : Int) ≤ n := by omega
  have HB : Hid (∀ o : Obj, Below w.heap.size w (w.alloc o)) := fun o => (Below.refl _ _).alloc (Nat.le_refl _) o
  go_enter Tryz.func18, Tryz.ntmps18
  go_wp2_with (first | (go_at_call 23; refine (HW.out _).mono ?_; rintro e w' ⟨rfl, rfl⟩) | (go_at_call 19; refine (HP.out _ _).mono ?_; rintro e w' ⟨rfl, rfl⟩) | (go_at_call 29; refine (HV.out _ _).mono ?_; rintro e w' ⟨rfl, rfl⟩) | (go_at_call 20; refine (HD.out _ _).mono ?_; rintro e w' ⟨rfl, rfl⟩))
  all_goals (go_ret; exact ⟨rfl, HB.out _⟩)
set_option maxHeartbeats 2000000 in
set_option maxRecDepth 20000 in
theorem rAdd_14 {b n c : Nat} {w : World} {sa : Option Addr} (xw xo xv xf xt xl : Int) (xn : ByteArray) (hc : w.cell? ⟨b, 0, none⟩ = some (.slice sa n c)) (hb : b < w.heap.size) (hn : ¬ 500 ≤ n) (hm : isWordB xn = true) (hk : perB xw = true) (ho : ¬ xo = -1) (hq : perB xo = true) (hw : ¬ xo = xw) (hv : valB xv = true) (hf : dyB xf = true) (hl : dyB xl = false) :
    Calls Tryz.prog 18 #[.pointer (some ⟨b, 0, none⟩), .agg #[.int .i64 xw, .string xn, .int .i64 xo, .int .i64 xv, .int .i64 xf, .int .i64 xt, .int .i64 xl]] w fun e w' => e = .returned (.int .i64 4) ∧ Below w.heap.size w w' := by
  have HW := hidLL (rIsWord_f xn)
  have HP := hidLL isBody_f
  have HV := hidLL small_f
  have HD := hidLL rIsDay_f
  have hnz : ¬ (500 : Int) ≤ n := by omega
  have HB : Hid (∀ o : Obj, Below w.heap.size w (w.alloc o)) := fun o => (Below.refl _ _).alloc (Nat.le_refl _) o
  go_enter Tryz.func18, Tryz.ntmps18
  go_wp2_with (first | (go_at_call 23; refine (HW.out _).mono ?_; rintro e w' ⟨rfl, rfl⟩) | (go_at_call 19; refine (HP.out _ _).mono ?_; rintro e w' ⟨rfl, rfl⟩) | (go_at_call 29; refine (HV.out _ _).mono ?_; rintro e w' ⟨rfl, rfl⟩) | (go_at_call 20; refine (HD.out _ _).mono ?_; rintro e w' ⟨rfl, rfl⟩))
  all_goals (go_ret; exact ⟨rfl, HB.out _⟩)
set_option maxHeartbeats 2000000 in
set_option maxRecDepth 20000 in
theorem rAdd_15 {b n c : Nat} {w : World} {sa : Option Addr} (xw xo xv xf xt xl : Int) (xn : ByteArray) (hc : w.cell? ⟨b, 0, none⟩ = some (.slice sa n c)) (hb : b < w.heap.size) (hn : ¬ 500 ≤ n) (hm : isWordB xn = true) (hk : perB xw = true) (ho : ¬ xo = -1) (hq : perB xo = true) (hw : ¬ xo = xw) (hv : valB xv = true) (hf : dyB xf = true) (hl : dyB xl = true) (ht : ¬ xt = 0) (hx : dyB xt = false) :
    Calls Tryz.prog 18 #[.pointer (some ⟨b, 0, none⟩), .agg #[.int .i64 xw, .string xn, .int .i64 xo, .int .i64 xv, .int .i64 xf, .int .i64 xt, .int .i64 xl]] w fun e w' => e = .returned (.int .i64 4) ∧ Below w.heap.size w w' := by
  have HW := hidLL (rIsWord_f xn)
  have HP := hidLL isBody_f
  have HV := hidLL small_f
  have HD := hidLL rIsDay_f
  have hnz : ¬ (500 : Int) ≤ n := by omega
  have HB : Hid (∀ o : Obj, Below w.heap.size w (w.alloc o)) := fun o => (Below.refl _ _).alloc (Nat.le_refl _) o
  go_enter Tryz.func18, Tryz.ntmps18
  go_wp2_with (first | (go_at_call 23; refine (HW.out _).mono ?_; rintro e w' ⟨rfl, rfl⟩) | (go_at_call 19; refine (HP.out _ _).mono ?_; rintro e w' ⟨rfl, rfl⟩) | (go_at_call 29; refine (HV.out _ _).mono ?_; rintro e w' ⟨rfl, rfl⟩) | (go_at_call 20; refine (HD.out _ _).mono ?_; rintro e w' ⟨rfl, rfl⟩))
  all_goals (go_ret; exact ⟨rfl, HB.out _⟩)
set_option maxHeartbeats 2000000 in
set_option maxRecDepth 20000 in
theorem rAdd_16 {b n c : Nat} {w : World} {sa : Option Addr} (xw xo xv xf xt xl : Int) (xn : ByteArray) (hc : w.cell? ⟨b, 0, none⟩ = some (.slice sa n c)) (hb : b < w.heap.size) (hn : ¬ 500 ≤ n) (hm : isWordB xn = true) (hk : perB xw = true) (ho : ¬ xo = -1) (hq : perB xo = true) (hw : ¬ xo = xw) (hv : valB xv = true) (hf : dyB xf = true) (hl : dyB xl = true) (ht : ¬ xt = 0) (hx : dyB xt = true) (hy : xt ≤ xf) :
    Calls Tryz.prog 18 #[.pointer (some ⟨b, 0, none⟩), .agg #[.int .i64 xw, .string xn, .int .i64 xo, .int .i64 xv, .int .i64 xf, .int .i64 xt, .int .i64 xl]] w fun e w' => e = .returned (.int .i64 4) ∧ Below w.heap.size w w' := by
  have HW := hidLL (rIsWord_f xn)
  have HP := hidLL isBody_f
  have HV := hidLL small_f
  have HD := hidLL rIsDay_f
  have hnz : ¬ (500 : Int) ≤ n := by omega
  have HB : Hid (∀ o : Obj, Below w.heap.size w (w.alloc o)) := fun o => (Below.refl _ _).alloc (Nat.le_refl _) o
  go_enter Tryz.func18, Tryz.ntmps18
  go_wp2_with (first | (go_at_call 23; refine (HW.out _).mono ?_; rintro e w' ⟨rfl, rfl⟩) | (go_at_call 19; refine (HP.out _ _).mono ?_; rintro e w' ⟨rfl, rfl⟩) | (go_at_call 29; refine (HV.out _ _).mono ?_; rintro e w' ⟨rfl, rfl⟩) | (go_at_call 20; refine (HD.out _ _).mono ?_; rintro e w' ⟨rfl, rfl⟩))
  all_goals (go_ret; exact ⟨rfl, HB.out _⟩)
end Go.Proofs.YtcfeflkhmncmjaaGreatDoor
namespace Go.Proofs.YtcfeflkhmncmjaaGreatDoor
open Go.RowKit Go.Extern.Stop Go.Stop Go.Extern

set_option maxHeartbeats 4000000 in
set_option maxRecDepth 20000 in
theorem rAdd_10 {b B n c : Nat} {w : World} {sa : Option Addr} (xw xv xf xl : Int) (xn : ByteArray) (L : List Fct) (hn0 : n = L.length) (h : FFile 55 B w b L (.slice sa n c)) (hB : B ≤ w.heap.size) (hn : ¬ 500 ≤ n) (hm : isWordB xn = true) (hk : perB xw = true) (hw : ¬ (-1 : Int) = xw) (hv : valB xv = true) (hf : dyB xf = true) (hl : dyB xl = true) :
    Calls Tryz.prog 18 #[.pointer (some ⟨b, 0, none⟩), .agg #[.int .i64 xw, .string xn, .int .i64 (-1), .int .i64 xv, .int .i64 xf, .int .i64 0, .int .i64 xl]] w fun e w' => e = .returned (.int .i64 0) ∧ ∃ v' w1 w2, w' = w2.setCell ⟨b, 0, none⟩ v' ∧ w2.ownsRow B 55 7 v' (n + 1) (fcells L ++ fctC ⟨xw, xn, (-1), xv, xf, 0, xl⟩) ∧ Below w.heap.size w w1 ∧ w1.grownBy w2 (Value.slice sa n c).ownBlock := by
  have HW := hidLL (rIsWord_f xn)
  have HP := hidLL isBody_f
  have HV := hidLL small_f
  have HD := hidLL rIsDay_f
  have hw2 : ¬ xw = -1 := fun e => hw e.symm
  have hnz : ¬ (500 : Int) ≤ n := by omega
  obtain ⟨i0, z, hi0, hz0, hz1, hz2, hz3⟩ := Tryz.infoFR
  have HI := hidLL (And.intro hi0 (And.intro hz0 (And.intro hz1 (And.intro hz2 hz3))))
  clear hi0 hz0 hz1 hz2 hz3
  have hc := h.cell
  have hf := h.frz
  have hlb := h.inH
  have HF := hidLL h
  have HN := hidLL hn0
  clear h hn0
  go_enter Tryz.func18, Tryz.ntmps18
  go_wp2_with (first | (go_at_call 23; refine (HW.out _).mono ?_; rintro e w' ⟨rfl, rfl⟩) | (go_at_call 19; refine (HP.out _ _).mono ?_; rintro e w' ⟨rfl, rfl⟩) | (go_at_call 29; refine (HV.out _ _).mono ?_; rintro e w' ⟨rfl, rfl⟩) | (go_at_call 20; refine (HD.out _ _).mono ?_; rintro e w' ⟨rfl, rfl⟩))
  have HB : Hid (Below w.heap.size w (w.alloc (.cells #[.int .i64 xw, .string xn, .int .i64 (-1), .int .i64 xv, .int .i64 xf, .int .i64 0, .int .i64 xl] 55))) := (Below.refl _ _).alloc (Nat.le_refl _) _
  generalize hW : w.alloc (.cells #[.int .i64 xw, .string xn, .int .i64 (-1), .int .i64 xv, .int .i64 xf, .int .i64 0, .int .i64 xl] 55) = W at *
  have hsW : W.heap.size = w.heap.size + 1 := by rw [← hW]; simp
  have x0 : W.cell? ⟨w.heap.size, 0, none⟩ = some (.int .i64 xw) := by rw [← hW]; simp
  have x1 : W.cell? ⟨w.heap.size, 1, none⟩ = some (.string xn) := by rw [← hW]; simp
  have x2 : W.cell? ⟨w.heap.size, 2, none⟩ = some (.int .i64 (-1)) := by rw [← hW]; simp
  have x3 : W.cell? ⟨w.heap.size, 3, none⟩ = some (.int .i64 xv) := by rw [← hW]; simp
  have x4 : W.cell? ⟨w.heap.size, 4, none⟩ = some (.int .i64 xf) := by rw [← hW]; simp
  have x5 : W.cell? ⟨w.heap.size, 5, none⟩ = some (.int .i64 0) := by rw [← hW]; simp
  have x6 : W.cell? ⟨w.heap.size, 6, none⟩ = some (.int .i64 xl) := by rw [← hW]; simp
  have cW := (HB.out.cell (p := ⟨b, 0, none⟩) hlb).trans hc
  have fW := (HB.out.frozen (p := ⟨b, 0, none⟩) hlb).trans hf
  clear hW
  have HKD : Hid (∀ W' : World, (∀ k, k < W.heap.size → W'.heap[k]? = W.heap[k]?) → W'.ownsRow B 55 7 (.slice sa n c) n (fcells L)) := fun W' hW' => by
    have h3 := HF.out.row
    unfold FAt at h3
    rw [← HN.out] at h3
    refine row_step h3 fun k _ hk => (hW' k (by omega)).trans (HB.out.block k hk)
  have HA : Hid (Below W.heap.size W (W.drew.alloc (.cells #[.int .i64 xw, .string xn, .int .i64 (-1), .int .i64 xv, .int .i64 xf, .int .i64 0, .int .i64 xl] 55))) := (Below.refl _ _).drew.alloc (Nat.le_refl _) _
  have HNb : Hid (some b ≠ (Value.slice sa n c).ownBlock) := fun e => by
    have := (HF.out.row.block e.symm).1
    have := HF.out.lt
    omega
  have HNW := hidLL (fctNews W ⟨xw, xn, (-1), xv, xf, 0, xl⟩ 55)
  have HOC := hidLL (fctOne ⟨xw, xn, (-1), xv, xf, 0, xl⟩)
  have hBW : B ≤ W.heap.size := by omega
  go_region_law
    (first
      | (refine step_append_where rfl (.tmp 87) (.tmp 89) 22 rfl B 55 i0 z 7 64 Tryz.underlying22 HI.out.1 HI.out.2.1 HI.out.2.2.1 HI.out.2.2.2.1 HI.out.2.2.2.2 (by decide) (.slice sa n c) n (fcells L) (by first | (simp [Act.eval]; done) | simp [Act.eval, Act.put]) (HKD.out _ (fun k hk => Below.heap_alloc W.drew _ k hk)) ⟨W.heap.size, 0, none⟩ 1 1 (fctC ⟨xw, xn, (-1), xv, xf, 0, xl⟩) (by first | (simp [Act.eval]; done) | simp [Act.eval, Act.put]) rfl HNW.out HOC.out (by decide) (by unfold maxLen; omega) (by omega) (by simp; omega) ?_
         intro v' w' ho hg hw
         have y3 := (grown_cell (a := ⟨b, 0, none⟩) HA.out hg (show b < W.heap.size by omega) HNb.out).1.trans cW
         have y4 := (grown_cell (a := ⟨b, 0, none⟩) HA.out hg (show b < W.heap.size by omega) HNb.out).2.trans fW
         obtain ⟨a', c', hv'⟩ := row_any ho
         subst hv'
         have HH := hidLL (And.intro ho hg)
         clear ho hg hw))
  all_goals
    go_wp2
    go_ret
    exact ⟨rfl, _, _, _, rfl, HH.out.1, HB.out.trans (HA.out.mono (by omega)), HH.out.2⟩
set_option maxHeartbeats 4000000 in
set_option maxRecDepth 20000 in
theorem rAdd_11 {b B n c : Nat} {w : World} {sa : Option Addr} (xw xv xf xt xl : Int) (xn : ByteArray) (L : List Fct) (hn0 : n = L.length) (h : FFile 55 B w b L (.slice sa n c)) (hB : B ≤ w.heap.size) (hn : ¬ 500 ≤ n) (hm : isWordB xn = true) (hk : perB xw = true) (hw : ¬ (-1 : Int) = xw) (hv : valB xv = true) (hf : dyB xf = true) (hl : dyB xl = true) (ht : ¬ xt = 0) (hx : dyB xt = true) (hy : ¬ xt ≤ xf) :
    Calls Tryz.prog 18 #[.pointer (some ⟨b, 0, none⟩), .agg #[.int .i64 xw, .string xn, .int .i64 (-1), .int .i64 xv, .int .i64 xf, .int .i64 xt, .int .i64 xl]] w fun e w' => e = .returned (.int .i64 0) ∧ ∃ v' w1 w2, w' = w2.setCell ⟨b, 0, none⟩ v' ∧ w2.ownsRow B 55 7 v' (n + 1) (fcells L ++ fctC ⟨xw, xn, (-1), xv, xf, xt, xl⟩) ∧ Below w.heap.size w w1 ∧ w1.grownBy w2 (Value.slice sa n c).ownBlock := by
  have HW := hidLL (rIsWord_f xn)
  have HP := hidLL isBody_f
  have HV := hidLL small_f
  have HD := hidLL rIsDay_f
  have hw2 : ¬ xw = -1 := fun e => hw e.symm
  have hnz : ¬ (500 : Int) ≤ n := by omega
  obtain ⟨i0, z, hi0, hz0, hz1, hz2, hz3⟩ := Tryz.infoFR
  have HI := hidLL (And.intro hi0 (And.intro hz0 (And.intro hz1 (And.intro hz2 hz3))))
  clear hi0 hz0 hz1 hz2 hz3
  have hc := h.cell
  have hf := h.frz
  have hlb := h.inH
  have HF := hidLL h
  have HN := hidLL hn0
  clear h hn0
  go_enter Tryz.func18, Tryz.ntmps18
  go_wp2_with (first | (go_at_call 23; refine (HW.out _).mono ?_; rintro e w' ⟨rfl, rfl⟩) | (go_at_call 19; refine (HP.out _ _).mono ?_; rintro e w' ⟨rfl, rfl⟩) | (go_at_call 29; refine (HV.out _ _).mono ?_; rintro e w' ⟨rfl, rfl⟩) | (go_at_call 20; refine (HD.out _ _).mono ?_; rintro e w' ⟨rfl, rfl⟩))
  have HB : Hid (Below w.heap.size w (w.alloc (.cells #[.int .i64 xw, .string xn, .int .i64 (-1), .int .i64 xv, .int .i64 xf, .int .i64 xt, .int .i64 xl] 55))) := (Below.refl _ _).alloc (Nat.le_refl _) _
  generalize hW : w.alloc (.cells #[.int .i64 xw, .string xn, .int .i64 (-1), .int .i64 xv, .int .i64 xf, .int .i64 xt, .int .i64 xl] 55) = W at *
  have hsW : W.heap.size = w.heap.size + 1 := by rw [← hW]; simp
  have x0 : W.cell? ⟨w.heap.size, 0, none⟩ = some (.int .i64 xw) := by rw [← hW]; simp
  have x1 : W.cell? ⟨w.heap.size, 1, none⟩ = some (.string xn) := by rw [← hW]; simp
  have x2 : W.cell? ⟨w.heap.size, 2, none⟩ = some (.int .i64 (-1)) := by rw [← hW]; simp
  have x3 : W.cell? ⟨w.heap.size, 3, none⟩ = some (.int .i64 xv) := by rw [← hW]; simp
  have x4 : W.cell? ⟨w.heap.size, 4, none⟩ = some (.int .i64 xf) := by rw [← hW]; simp
  have x5 : W.cell? ⟨w.heap.size, 5, none⟩ = some (.int .i64 xt) := by rw [← hW]; simp
  have x6 : W.cell? ⟨w.heap.size, 6, none⟩ = some (.int .i64 xl) := by rw [← hW]; simp
  have cW := (HB.out.cell (p := ⟨b, 0, none⟩) hlb).trans hc
  have fW := (HB.out.frozen (p := ⟨b, 0, none⟩) hlb).trans hf
  clear hW
  have HKD : Hid (∀ W' : World, (∀ k, k < W.heap.size → W'.heap[k]? = W.heap[k]?) → W'.ownsRow B 55 7 (.slice sa n c) n (fcells L)) := fun W' hW' => by
    have h3 := HF.out.row
    unfold FAt at h3
    rw [← HN.out] at h3
    refine row_step h3 fun k _ hk => (hW' k (by omega)).trans (HB.out.block k hk)
  have HA : Hid (Below W.heap.size W (W.drew.alloc (.cells #[.int .i64 xw, .string xn, .int .i64 (-1), .int .i64 xv, .int .i64 xf, .int .i64 xt, .int .i64 xl] 55))) := (Below.refl _ _).drew.alloc (Nat.le_refl _) _
  have HNb : Hid (some b ≠ (Value.slice sa n c).ownBlock) := fun e => by
    have := (HF.out.row.block e.symm).1
    have := HF.out.lt
    omega
  have HNW := hidLL (fctNews W ⟨xw, xn, (-1), xv, xf, xt, xl⟩ 55)
  have HOC := hidLL (fctOne ⟨xw, xn, (-1), xv, xf, xt, xl⟩)
  have hBW : B ≤ W.heap.size := by omega
  go_region_law
    (first
      | (refine step_append_where rfl (.tmp 87) (.tmp 89) 22 rfl B 55 i0 z 7 64 Tryz.underlying22 HI.out.1 HI.out.2.1 HI.out.2.2.1 HI.out.2.2.2.1 HI.out.2.2.2.2 (by decide) (.slice sa n c) n (fcells L) (by first | (simp [Act.eval]; done) | simp [Act.eval, Act.put]) (HKD.out _ (fun k hk => Below.heap_alloc W.drew _ k hk)) ⟨W.heap.size, 0, none⟩ 1 1 (fctC ⟨xw, xn, (-1), xv, xf, xt, xl⟩) (by first | (simp [Act.eval]; done) | simp [Act.eval, Act.put]) rfl HNW.out HOC.out (by decide) (by unfold maxLen; omega) (by omega) (by simp; omega) ?_
         intro v' w' ho hg hw
         have y3 := (grown_cell (a := ⟨b, 0, none⟩) HA.out hg (show b < W.heap.size by omega) HNb.out).1.trans cW
         have y4 := (grown_cell (a := ⟨b, 0, none⟩) HA.out hg (show b < W.heap.size by omega) HNb.out).2.trans fW
         obtain ⟨a', c', hv'⟩ := row_any ho
         subst hv'
         have HH := hidLL (And.intro ho hg)
         clear ho hg hw))
  all_goals
    go_wp2
    go_ret
    exact ⟨rfl, _, _, _, rfl, HH.out.1, HB.out.trans (HA.out.mono (by omega)), HH.out.2⟩
end Go.Proofs.YtcfeflkhmncmjaaGreatDoor
namespace Go.Proofs.YtcfeflkhmncmjaaGreatDoor
open Go.RowKit Go.Extern.Stop Go.Stop Go.Extern

set_option maxHeartbeats 4000000 in
set_option maxRecDepth 20000 in
theorem rAdd_17 {b B n c : Nat} {w : World} {sa : Option Addr} (xw xo xv xf xl : Int) (xn : ByteArray) (L : List Fct) (hn0 : n = L.length) (h : FFile 55 B w b L (.slice sa n c)) (hB : B ≤ w.heap.size) (hn : ¬ 500 ≤ n) (hm : isWordB xn = true) (hk : perB xw = true) (ho : ¬ xo = -1) (hq : perB xo = true) (hw : ¬ xo = xw) (hv : valB xv = true) (hf : dyB xf = true) (hl : dyB xl = true) :
    Calls Tryz.prog 18 #[.pointer (some ⟨b, 0, none⟩), .agg #[.int .i64 xw, .string xn, .int .i64 xo, .int .i64 xv, .int .i64 xf, .int .i64 0, .int .i64 xl]] w fun e w' => e = .returned (.int .i64 0) ∧ ∃ v' w1 w2, w' = w2.setCell ⟨b, 0, none⟩ v' ∧ w2.ownsRow B 55 7 v' (n + 1) (fcells L ++ fctC ⟨xw, xn, xo, xv, xf, 0, xl⟩) ∧ Below w.heap.size w w1 ∧ w1.grownBy w2 (Value.slice sa n c).ownBlock := by
  have HW := hidLL (rIsWord_f xn)
  have HP := hidLL isBody_f
  have HV := hidLL small_f
  have HD := hidLL rIsDay_f
  have hnz : ¬ (500 : Int) ≤ n := by omega
  obtain ⟨i0, z, hi0, hz0, hz1, hz2, hz3⟩ := Tryz.infoFR
  have HI := hidLL (And.intro hi0 (And.intro hz0 (And.intro hz1 (And.intro hz2 hz3))))
  clear hi0 hz0 hz1 hz2 hz3
  have hc := h.cell
  have hf := h.frz
  have hlb := h.inH
  have HF := hidLL h
  have HN := hidLL hn0
  clear h hn0
  go_enter Tryz.func18, Tryz.ntmps18
  go_wp2_with (first | (go_at_call 23; refine (HW.out _).mono ?_; rintro e w' ⟨rfl, rfl⟩) | (go_at_call 19; refine (HP.out _ _).mono ?_; rintro e w' ⟨rfl, rfl⟩) | (go_at_call 29; refine (HV.out _ _).mono ?_; rintro e w' ⟨rfl, rfl⟩) | (go_at_call 20; refine (HD.out _ _).mono ?_; rintro e w' ⟨rfl, rfl⟩))
  have HB : Hid (Below w.heap.size w (w.alloc (.cells #[.int .i64 xw, .string xn, .int .i64 xo, .int .i64 xv, .int .i64 xf, .int .i64 0, .int .i64 xl] 55))) := (Below.refl _ _).alloc (Nat.le_refl _) _
  generalize hW : w.alloc (.cells #[.int .i64 xw, .string xn, .int .i64 xo, .int .i64 xv, .int .i64 xf, .int .i64 0, .int .i64 xl] 55) = W at *
  have hsW : W.heap.size = w.heap.size + 1 := by rw [← hW]; simp
  have x0 : W.cell? ⟨w.heap.size, 0, none⟩ = some (.int .i64 xw) := by rw [← hW]; simp
  have x1 : W.cell? ⟨w.heap.size, 1, none⟩ = some (.string xn) := by rw [← hW]; simp
  have x2 : W.cell? ⟨w.heap.size, 2, none⟩ = some (.int .i64 xo) := by rw [← hW]; simp
  have x3 : W.cell? ⟨w.heap.size, 3, none⟩ = some (.int .i64 xv) := by rw [← hW]; simp
  have x4 : W.cell? ⟨w.heap.size, 4, none⟩ = some (.int .i64 xf) := by rw [← hW]; simp
  have x5 : W.cell? ⟨w.heap.size, 5, none⟩ = some (.int .i64 0) := by rw [← hW]; simp
  have x6 : W.cell? ⟨w.heap.size, 6, none⟩ = some (.int .i64 xl) := by rw [← hW]; simp
  have cW := (HB.out.cell (p := ⟨b, 0, none⟩) hlb).trans hc
  have fW := (HB.out.frozen (p := ⟨b, 0, none⟩) hlb).trans hf
  clear hW
  have HKD : Hid (∀ W' : World, (∀ k, k < W.heap.size → W'.heap[k]? = W.heap[k]?) → W'.ownsRow B 55 7 (.slice sa n c) n (fcells L)) := fun W' hW' => by
    have h3 := HF.out.row
    unfold FAt at h3
    rw [← HN.out] at h3
    refine row_step h3 fun k _ hk => (hW' k (by omega)).trans (HB.out.block k hk)
  have HA : Hid (Below W.heap.size W (W.drew.alloc (.cells #[.int .i64 xw, .string xn, .int .i64 xo, .int .i64 xv, .int .i64 xf, .int .i64 0, .int .i64 xl] 55))) := (Below.refl _ _).drew.alloc (Nat.le_refl _) _
  have HNb : Hid (some b ≠ (Value.slice sa n c).ownBlock) := fun e => by
    have := (HF.out.row.block e.symm).1
    have := HF.out.lt
    omega
  have HNW := hidLL (fctNews W ⟨xw, xn, xo, xv, xf, 0, xl⟩ 55)
  have HOC := hidLL (fctOne ⟨xw, xn, xo, xv, xf, 0, xl⟩)
  have hBW : B ≤ W.heap.size := by omega
  go_region_law
    (first
      | (refine step_append_where rfl (.tmp 87) (.tmp 89) 22 rfl B 55 i0 z 7 64 Tryz.underlying22 HI.out.1 HI.out.2.1 HI.out.2.2.1 HI.out.2.2.2.1 HI.out.2.2.2.2 (by decide) (.slice sa n c) n (fcells L) (by first | (simp [Act.eval]; done) | simp [Act.eval, Act.put]) (HKD.out _ (fun k hk => Below.heap_alloc W.drew _ k hk)) ⟨W.heap.size, 0, none⟩ 1 1 (fctC ⟨xw, xn, xo, xv, xf, 0, xl⟩) (by first | (simp [Act.eval]; done) | simp [Act.eval, Act.put]) rfl HNW.out HOC.out (by decide) (by unfold maxLen; omega) (by omega) (by simp; omega) ?_
         intro v' w' ho hg hw
         have y3 := (grown_cell (a := ⟨b, 0, none⟩) HA.out hg (show b < W.heap.size by omega) HNb.out).1.trans cW
         have y4 := (grown_cell (a := ⟨b, 0, none⟩) HA.out hg (show b < W.heap.size by omega) HNb.out).2.trans fW
         obtain ⟨a', c', hv'⟩ := row_any ho
         subst hv'
         have HH := hidLL (And.intro ho hg)
         clear ho hg hw))
  all_goals
    go_wp2
    go_ret
    exact ⟨rfl, _, _, _, rfl, HH.out.1, HB.out.trans (HA.out.mono (by omega)), HH.out.2⟩
set_option maxHeartbeats 4000000 in
set_option maxRecDepth 20000 in
theorem rAdd_18 {b B n c : Nat} {w : World} {sa : Option Addr} (xw xo xv xf xt xl : Int) (xn : ByteArray) (L : List Fct) (hn0 : n = L.length) (h : FFile 55 B w b L (.slice sa n c)) (hB : B ≤ w.heap.size) (hn : ¬ 500 ≤ n) (hm : isWordB xn = true) (hk : perB xw = true) (ho : ¬ xo = -1) (hq : perB xo = true) (hw : ¬ xo = xw) (hv : valB xv = true) (hf : dyB xf = true) (hl : dyB xl = true) (ht : ¬ xt = 0) (hx : dyB xt = true) (hy : ¬ xt ≤ xf) :
    Calls Tryz.prog 18 #[.pointer (some ⟨b, 0, none⟩), .agg #[.int .i64 xw, .string xn, .int .i64 xo, .int .i64 xv, .int .i64 xf, .int .i64 xt, .int .i64 xl]] w fun e w' => e = .returned (.int .i64 0) ∧ ∃ v' w1 w2, w' = w2.setCell ⟨b, 0, none⟩ v' ∧ w2.ownsRow B 55 7 v' (n + 1) (fcells L ++ fctC ⟨xw, xn, xo, xv, xf, xt, xl⟩) ∧ Below w.heap.size w w1 ∧ w1.grownBy w2 (Value.slice sa n c).ownBlock := by
  have HW := hidLL (rIsWord_f xn)
  have HP := hidLL isBody_f
  have HV := hidLL small_f
  have HD := hidLL rIsDay_f
  have hnz : ¬ (500 : Int) ≤ n := by omega
  obtain ⟨i0, z, hi0, hz0, hz1, hz2, hz3⟩ := Tryz.infoFR
  have HI := hidLL (And.intro hi0 (And.intro hz0 (And.intro hz1 (And.intro hz2 hz3))))
  clear hi0 hz0 hz1 hz2 hz3
  have hc := h.cell
  have hf := h.frz
  have hlb := h.inH
  have HF := hidLL h
  have HN := hidLL hn0
  clear h hn0
  go_enter Tryz.func18, Tryz.ntmps18
  go_wp2_with (first | (go_at_call 23; refine (HW.out _).mono ?_; rintro e w' ⟨rfl, rfl⟩) | (go_at_call 19; refine (HP.out _ _).mono ?_; rintro e w' ⟨rfl, rfl⟩) | (go_at_call 29; refine (HV.out _ _).mono ?_; rintro e w' ⟨rfl, rfl⟩) | (go_at_call 20; refine (HD.out _ _).mono ?_; rintro e w' ⟨rfl, rfl⟩))
  have HB : Hid (Below w.heap.size w (w.alloc (.cells #[.int .i64 xw, .string xn, .int .i64 xo, .int .i64 xv, .int .i64 xf, .int .i64 xt, .int .i64 xl] 55))) := (Below.refl _ _).alloc (Nat.le_refl _) _
  generalize hW : w.alloc (.cells #[.int .i64 xw, .string xn, .int .i64 xo, .int .i64 xv, .int .i64 xf, .int .i64 xt, .int .i64 xl] 55) = W at *
  have hsW : W.heap.size = w.heap.size + 1 := by rw [← hW]; simp
  have x0 : W.cell? ⟨w.heap.size, 0, none⟩ = some (.int .i64 xw) := by rw [← hW]; simp
  have x1 : W.cell? ⟨w.heap.size, 1, none⟩ = some (.string xn) := by rw [← hW]; simp
  have x2 : W.cell? ⟨w.heap.size, 2, none⟩ = some (.int .i64 xo) := by rw [← hW]; simp
  have x3 : W.cell? ⟨w.heap.size, 3, none⟩ = some (.int .i64 xv) := by rw [← hW]; simp
  have x4 : W.cell? ⟨w.heap.size, 4, none⟩ = some (.int .i64 xf) := by rw [← hW]; simp
  have x5 : W.cell? ⟨w.heap.size, 5, none⟩ = some (.int .i64 xt) := by rw [← hW]; simp
  have x6 : W.cell? ⟨w.heap.size, 6, none⟩ = some (.int .i64 xl) := by rw [← hW]; simp
  have cW := (HB.out.cell (p := ⟨b, 0, none⟩) hlb).trans hc
  have fW := (HB.out.frozen (p := ⟨b, 0, none⟩) hlb).trans hf
  clear hW
  have HKD : Hid (∀ W' : World, (∀ k, k < W.heap.size → W'.heap[k]? = W.heap[k]?) → W'.ownsRow B 55 7 (.slice sa n c) n (fcells L)) := fun W' hW' => by
    have h3 := HF.out.row
    unfold FAt at h3
    rw [← HN.out] at h3
    refine row_step h3 fun k _ hk => (hW' k (by omega)).trans (HB.out.block k hk)
  have HA : Hid (Below W.heap.size W (W.drew.alloc (.cells #[.int .i64 xw, .string xn, .int .i64 xo, .int .i64 xv, .int .i64 xf, .int .i64 xt, .int .i64 xl] 55))) := (Below.refl _ _).drew.alloc (Nat.le_refl _) _
  have HNb : Hid (some b ≠ (Value.slice sa n c).ownBlock) := fun e => by
    have := (HF.out.row.block e.symm).1
    have := HF.out.lt
    omega
  have HNW := hidLL (fctNews W ⟨xw, xn, xo, xv, xf, xt, xl⟩ 55)
  have HOC := hidLL (fctOne ⟨xw, xn, xo, xv, xf, xt, xl⟩)
  have hBW : B ≤ W.heap.size := by omega
  go_region_law
    (first
      | (refine step_append_where rfl (.tmp 87) (.tmp 89) 22 rfl B 55 i0 z 7 64 Tryz.underlying22 HI.out.1 HI.out.2.1 HI.out.2.2.1 HI.out.2.2.2.1 HI.out.2.2.2.2 (by decide) (.slice sa n c) n (fcells L) (by first | (simp [Act.eval]; done) | simp [Act.eval, Act.put]) (HKD.out _ (fun k hk => Below.heap_alloc W.drew _ k hk)) ⟨W.heap.size, 0, none⟩ 1 1 (fctC ⟨xw, xn, xo, xv, xf, xt, xl⟩) (by first | (simp [Act.eval]; done) | simp [Act.eval, Act.put]) rfl HNW.out HOC.out (by decide) (by unfold maxLen; omega) (by omega) (by simp; omega) ?_
         intro v' w' ho hg hw
         have y3 := (grown_cell (a := ⟨b, 0, none⟩) HA.out hg (show b < W.heap.size by omega) HNb.out).1.trans cW
         have y4 := (grown_cell (a := ⟨b, 0, none⟩) HA.out hg (show b < W.heap.size by omega) HNb.out).2.trans fW
         obtain ⟨a', c', hv'⟩ := row_any ho
         subst hv'
         have HH := hidLL (And.intro ho hg)
         clear ho hg hw))
  all_goals
    go_wp2
    go_ret
    exact ⟨rfl, _, _, _, rfl, HH.out.1, HB.out.trans (HA.out.mono (by omega)), HH.out.2⟩
end Go.Proofs.YtcfeflkhmncmjaaGreatDoor
namespace Go.Proofs.YtcfeflkhmncmjaaGreatDoor
open Go.RowKit Go.Extern.Stop Go.Stop Go.Extern

theorem heap_set_other (w : World) (b i k : Nat) (u : Value) (h : k ≠ b) : (w.setCell ⟨b, i, none⟩ u).heap[k]? = w.heap[k]? := Below.heap_setCell _ _ _ _ h
theorem per_ne {n : Int} (h : perB n = true) : ¬ (-1 : Int) = n := by
  unfold perB at h
  simp at h
  omega
/-- A fact has been kept. -/
theorem add_done {T B b n c : Nat} {w w1 w2 : World} {sa : Option Addr} {L : List Fct} {x : Fct} {v' : Value} (h : FFile T B w b L (.slice sa n c)) (hn : n = L.length) (ho : w2.ownsRow B T 7 v' (n + 1) (fcells L ++ fctC x)) (hb : Below w.heap.size w w1) (hg : w1.grownBy w2 (Value.slice sa n c).ownBlock) :
    FFile T B (w2.setCell ⟨b, 0, none⟩ v') b (L ++ [x]) v' ∧ FStep T B b w (w2.setCell ⟨b, 0, none⟩ v') := by
  have hne : some b ≠ (Value.slice sa n c).ownBlock := fun e => by
    have h1 := (h.row.block e.symm).1
    have h2 := h.lt
    omega
  have e1 : w2.heap[b]? = w.heap[b]? := (hg.block b (Nat.lt_of_lt_of_le h.inH hb.size) hne).trans (hb.block b h.inH)
  have hs : w.heap.size ≤ w2.heap.size := Nat.le_trans hb.size hg.size
  refine ⟨⟨h.lt, by simp; exact Nat.lt_of_lt_of_le h.inH hs, ?_, ?_, ?_⟩, ⟨hg.os.trans hb.os, hg.tape.trans hb.tape, hg.output.trans hb.output, by simpa using hs, fun k hk hkb hc => ?_⟩⟩
  · exact World.cell?_setCell_same _ _ _ ((World.cell?_of_block (a := ⟨b, 0, none⟩) e1).trans h.cell)
  · have := (World.frozen?_of_block (a := ⟨b, 0, none⟩) e1).trans h.frz
    simpa using this
  · unfold FAt
    rw [List.length_append, fcells_app, ← hn]
    refine row_step ho fun k hk _ => heap_set_other _ _ _ _ _ (fun e => ?_)
    have h1 := (ho.lt k hk).1
    have h2 := h.lt
    omega
  · rw [heap_set_other _ _ _ _ _ hkb, hg.block k (Nat.lt_of_lt_of_le hk hb.size) (fun e => ?_), hb.block k hk]
    obtain ⟨h1, cs, h2⟩ := h.row.block e.symm
    rcases hc with hc | hc
    · omega
    · exact hc cs _ h2
theorem pAdd_any {B b : Nat} {w : World} {L : List Fct} {sv : Value} (h : FFile 61 B w b L sv) (hB : B ≤ w.heap.size) (p : Nat → Addr) (Lw : Laid w p) (x : Fct) (hs : x.nm.size ≤ 100000) :
    Calls Tryz.prog 16 #[.pointer (some ⟨b, 0, none⟩), .agg #[.int .i64 x.who, .string x.nm, .int .i64 x.oth, .int .i64 x.val, .int .i64 x.frm, .int .i64 x.til, .int .i64 x.lrn]] w fun e w' =>
      (addC L.length x = 0 ∧ e = .returned .nilIface ∧ (∃ sv', FFile 61 B w' b (L ++ [x]) sv') ∧ FStep 61 B b w w') ∨ (∃ k, addC L.length x = k + 1 ∧ k < 11 ∧ e = .returned (.iface 193 (.pointer (some (p k)))) ∧ Below w.heap.size w w') := by
  obtain ⟨a, c, rfl, _⟩ := h.row.slice
  obtain ⟨xw, xn, xo, xv, xf, xt, xl⟩ := x
  simp only at hs ⊢
  by_cases hn : 500 ≤ L.length
  · have hc : addC L.length ⟨xw, xn, xo, xv, xf, xt, xl⟩ = 2 := by unfold addC badKind badDay; simp [*]
    refine (pAdd_0 xw xo xv xf xt xl xn hs p Lw h.cell h.inH hn).mono ?_
    rintro e w' ⟨rfl, hb⟩
    exact .inr ⟨1, hc, by omega, rfl, hb⟩
  · cases hm : isWordB xn
    · have hc : addC L.length ⟨xw, xn, xo, xv, xf, xt, xl⟩ = 7 := by unfold addC badKind badDay; simp [*]
      refine (pAdd_1 xw xo xv xf xt xl xn hs p Lw h.cell h.inH hn hm).mono ?_
      rintro e w' ⟨rfl, hb⟩
      exact .inr ⟨6, hc, by omega, rfl, hb⟩
    · cases hk : perB xw
      · have hc : addC L.length ⟨xw, xn, xo, xv, xf, xt, xl⟩ = 9 := by unfold addC badKind badDay; simp [*]
        refine (pAdd_2 xw xo xv xf xt xl xn hs p Lw h.cell h.inH hn hm hk).mono ?_
        rintro e w' ⟨rfl, hb⟩
        exact .inr ⟨8, hc, by omega, rfl, hb⟩
      · by_cases ho : xo = -1
        · have hw : ¬ (-1 : Int) = xw := per_ne hk
          cases hv : valB xv
          · have hc : addC L.length ⟨xw, xn, xo, xv, xf, xt, xl⟩ = 3 := by unfold addC badKind badDay; simp [*]
            subst ho
            refine (pAdd_5 xw xv xf xt xl xn hs p Lw h.cell h.inH hn hm hk hw hv).mono ?_
            rintro e w' ⟨rfl, hb⟩
            exact .inr ⟨2, hc, by omega, rfl, hb⟩
          · cases hf : dyB xf
            · have hc : addC L.length ⟨xw, xn, xo, xv, xf, xt, xl⟩ = 4 := by unfold addC badKind badDay; simp [*]
              subst ho
              refine (pAdd_6 xw xv xf xt xl xn hs p Lw h.cell h.inH hn hm hk hw hv hf).mono ?_
              rintro e w' ⟨rfl, hb⟩
              exact .inr ⟨3, hc, by omega, rfl, hb⟩
            · cases hl : dyB xl
              · have hc : addC L.length ⟨xw, xn, xo, xv, xf, xt, xl⟩ = 4 := by unfold addC badKind badDay; simp [*]
                subst ho
                refine (pAdd_7 xw xv xf xt xl xn hs p Lw h.cell h.inH hn hm hk hw hv hf hl).mono ?_
                rintro e w' ⟨rfl, hb⟩
                exact .inr ⟨3, hc, by omega, rfl, hb⟩
              · by_cases ht : xt = 0
                · have hc : addC L.length ⟨xw, xn, xo, xv, xf, xt, xl⟩ = 0 := by unfold addC badKind badDay; simp [*]
                  subst ho
                  subst ht
                  refine (pAdd_10 xw xv xf xl xn hs L rfl h hB hn hm hk hw hv hf hl).mono ?_
                  rintro e w' ⟨rfl, v', w1, w2, rfl, ho, hb, hg⟩
                  obtain ⟨h1, h2⟩ := add_done (x := ⟨xw, xn, -1, xv, xf, 0, xl⟩) h rfl ho hb hg
                  exact .inl ⟨hc, rfl, ⟨_, h1⟩, h2⟩
                · cases hx : dyB xt
                  · have hc : addC L.length ⟨xw, xn, xo, xv, xf, xt, xl⟩ = 4 := by unfold addC badKind badDay; simp [*]
                    subst ho
                    refine (pAdd_8 xw xv xf xt xl xn hs p Lw h.cell h.inH hn hm hk hw hv hf hl ht hx).mono ?_
                    rintro e w' ⟨rfl, hb⟩
                    exact .inr ⟨3, hc, by omega, rfl, hb⟩
                  · by_cases hy : xt ≤ xf
                    · have hc : addC L.length ⟨xw, xn, xo, xv, xf, xt, xl⟩ = 4 := by unfold addC badKind badDay; simp [*]
                      subst ho
                      refine (pAdd_9 xw xv xf xt xl xn hs p Lw h.cell h.inH hn hm hk hw hv hf hl ht hx hy).mono ?_
                      rintro e w' ⟨rfl, hb⟩
                      exact .inr ⟨3, hc, by omega, rfl, hb⟩
                    · have hc : addC L.length ⟨xw, xn, xo, xv, xf, xt, xl⟩ = 0 := by unfold addC badKind badDay; simp [*]
                      subst ho
                      refine (pAdd_11 xw xv xf xt xl xn hs L rfl h hB hn hm hk hw hv hf hl ht hx hy).mono ?_
                      rintro e w' ⟨rfl, v', w1, w2, rfl, ho, hb, hg⟩
                      obtain ⟨h1, h2⟩ := add_done (x := ⟨xw, xn, -1, xv, xf, xt, xl⟩) h rfl ho hb hg
                      exact .inl ⟨hc, rfl, ⟨_, h1⟩, h2⟩
        · cases hq : perB xo
          · have hc : addC L.length ⟨xw, xn, xo, xv, xf, xt, xl⟩ = 9 := by unfold addC badKind badDay; simp [*]
            refine (pAdd_3 xw xo xv xf xt xl xn hs p Lw h.cell h.inH hn hm hk ho hq).mono ?_
            rintro e w' ⟨rfl, hb⟩
            exact .inr ⟨8, hc, by omega, rfl, hb⟩
          · by_cases hw : xo = xw
            · have hc : addC L.length ⟨xw, xn, xo, xv, xf, xt, xl⟩ = 9 := by unfold addC badKind badDay; simp [*]
              subst xo
              refine (pAdd_4 xw xv xf xt xl xn hs p Lw h.cell h.inH hn hm hk ho).mono ?_
              rintro e w' ⟨rfl, hb⟩
              exact .inr ⟨8, hc, by omega, rfl, hb⟩
            · cases hv : valB xv
              · have hc : addC L.length ⟨xw, xn, xo, xv, xf, xt, xl⟩ = 3 := by unfold addC badKind badDay; simp [*]
                refine (pAdd_12 xw xo xv xf xt xl xn hs p Lw h.cell h.inH hn hm hk ho hq hw hv).mono ?_
                rintro e w' ⟨rfl, hb⟩
                exact .inr ⟨2, hc, by omega, rfl, hb⟩
              · cases hf : dyB xf
                · have hc : addC L.length ⟨xw, xn, xo, xv, xf, xt, xl⟩ = 4 := by unfold addC badKind badDay; simp [*]
                  refine (pAdd_13 xw xo xv xf xt xl xn hs p Lw h.cell h.inH hn hm hk ho hq hw hv hf).mono ?_
                  rintro e w' ⟨rfl, hb⟩
                  exact .inr ⟨3, hc, by omega, rfl, hb⟩
                · cases hl : dyB xl
                  · have hc : addC L.length ⟨xw, xn, xo, xv, xf, xt, xl⟩ = 4 := by unfold addC badKind badDay; simp [*]
                    refine (pAdd_14 xw xo xv xf xt xl xn hs p Lw h.cell h.inH hn hm hk ho hq hw hv hf hl).mono ?_
                    rintro e w' ⟨rfl, hb⟩
                    exact .inr ⟨3, hc, by omega, rfl, hb⟩
                  · by_cases ht : xt = 0
                    · have hc : addC L.length ⟨xw, xn, xo, xv, xf, xt, xl⟩ = 0 := by unfold addC badKind badDay; simp [*]
                      subst ht
                      refine (pAdd_17 xw xo xv xf xl xn hs L rfl h hB hn hm hk ho hq hw hv hf hl).mono ?_
                      rintro e w' ⟨rfl, v', w1, w2, rfl, ho, hb, hg⟩
                      obtain ⟨h1, h2⟩ := add_done (x := ⟨xw, xn, xo, xv, xf, 0, xl⟩) h rfl ho hb hg
                      exact .inl ⟨hc, rfl, ⟨_, h1⟩, h2⟩
                    · cases hx : dyB xt
                      · have hc : addC L.length ⟨xw, xn, xo, xv, xf, xt, xl⟩ = 4 := by unfold addC badKind badDay; simp [*]
                        refine (pAdd_15 xw xo xv xf xt xl xn hs p Lw h.cell h.inH hn hm hk ho hq hw hv hf hl ht hx).mono ?_
                        rintro e w' ⟨rfl, hb⟩
                        exact .inr ⟨3, hc, by omega, rfl, hb⟩
                      · by_cases hy : xt ≤ xf
                        · have hc : addC L.length ⟨xw, xn, xo, xv, xf, xt, xl⟩ = 4 := by unfold addC badKind badDay; simp [*]
                          refine (pAdd_16 xw xo xv xf xt xl xn hs p Lw h.cell h.inH hn hm hk ho hq hw hv hf hl ht hx hy).mono ?_
                          rintro e w' ⟨rfl, hb⟩
                          exact .inr ⟨3, hc, by omega, rfl, hb⟩
                        · have hc : addC L.length ⟨xw, xn, xo, xv, xf, xt, xl⟩ = 0 := by unfold addC badKind badDay; simp [*]
                          refine (pAdd_18 xw xo xv xf xt xl xn hs L rfl h hB hn hm hk ho hq hw hv hf hl ht hx hy).mono ?_
                          rintro e w' ⟨rfl, v', w1, w2, rfl, ho, hb, hg⟩
                          obtain ⟨h1, h2⟩ := add_done (x := ⟨xw, xn, xo, xv, xf, xt, xl⟩) h rfl ho hb hg
                          exact .inl ⟨hc, rfl, ⟨_, h1⟩, h2⟩
theorem rAdd_any {B b : Nat} {w : World} {L : List Fct} {sv : Value} (h : FFile 55 B w b L sv) (hB : B ≤ w.heap.size) (x : Fct) :
    Calls Tryz.prog 18 #[.pointer (some ⟨b, 0, none⟩), .agg #[.int .i64 x.who, .string x.nm, .int .i64 x.oth, .int .i64 x.val, .int .i64 x.frm, .int .i64 x.til, .int .i64 x.lrn]] w fun e w' =>
      (addC L.length x = 0 ∧ e = .returned (.int .i64 0) ∧ (∃ sv', FFile 55 B w' b (L ++ [x]) sv') ∧ FStep 55 B b w w') ∨ (addC L.length x ≠ 0 ∧ e = .returned (.int .i64 (addC L.length x)) ∧ Below w.heap.size w w') := by
  obtain ⟨a, c, rfl, _⟩ := h.row.slice
  obtain ⟨xw, xn, xo, xv, xf, xt, xl⟩ := x
  simp only
  by_cases hn : 500 ≤ L.length
  · have hc : addC L.length ⟨xw, xn, xo, xv, xf, xt, xl⟩ = 2 := by unfold addC badKind badDay; simp [*]
    refine (rAdd_0 xw xo xv xf xt xl xn h.cell h.inH hn).mono ?_
    rintro e w' ⟨rfl, hb⟩
    exact .inr ⟨by rw [hc]; decide, by rw [hc]; rfl, hb⟩
  · cases hm : isWordB xn
    · have hc : addC L.length ⟨xw, xn, xo, xv, xf, xt, xl⟩ = 7 := by unfold addC badKind badDay; simp [*]
      refine (rAdd_1 xw xo xv xf xt xl xn h.cell h.inH hn hm).mono ?_
      rintro e w' ⟨rfl, hb⟩
      exact .inr ⟨by rw [hc]; decide, by rw [hc]; rfl, hb⟩
    · cases hk : perB xw
      · have hc : addC L.length ⟨xw, xn, xo, xv, xf, xt, xl⟩ = 9 := by unfold addC badKind badDay; simp [*]
        refine (rAdd_2 xw xo xv xf xt xl xn h.cell h.inH hn hm hk).mono ?_
        rintro e w' ⟨rfl, hb⟩
        exact .inr ⟨by rw [hc]; decide, by rw [hc]; rfl, hb⟩
      · by_cases ho : xo = -1
        · have hw : ¬ (-1 : Int) = xw := per_ne hk
          cases hv : valB xv
          · have hc : addC L.length ⟨xw, xn, xo, xv, xf, xt, xl⟩ = 3 := by unfold addC badKind badDay; simp [*]
            subst ho
            refine (rAdd_5 xw xv xf xt xl xn h.cell h.inH hn hm hk hw hv).mono ?_
            rintro e w' ⟨rfl, hb⟩
            exact .inr ⟨by rw [hc]; decide, by rw [hc]; rfl, hb⟩
          · cases hf : dyB xf
            · have hc : addC L.length ⟨xw, xn, xo, xv, xf, xt, xl⟩ = 4 := by unfold addC badKind badDay; simp [*]
              subst ho
              refine (rAdd_6 xw xv xf xt xl xn h.cell h.inH hn hm hk hw hv hf).mono ?_
              rintro e w' ⟨rfl, hb⟩
              exact .inr ⟨by rw [hc]; decide, by rw [hc]; rfl, hb⟩
            · cases hl : dyB xl
              · have hc : addC L.length ⟨xw, xn, xo, xv, xf, xt, xl⟩ = 4 := by unfold addC badKind badDay; simp [*]
                subst ho
                refine (rAdd_7 xw xv xf xt xl xn h.cell h.inH hn hm hk hw hv hf hl).mono ?_
                rintro e w' ⟨rfl, hb⟩
                exact .inr ⟨by rw [hc]; decide, by rw [hc]; rfl, hb⟩
              · by_cases ht : xt = 0
                · have hc : addC L.length ⟨xw, xn, xo, xv, xf, xt, xl⟩ = 0 := by unfold addC badKind badDay; simp [*]
                  subst ho
                  subst ht
                  refine (rAdd_10 xw xv xf xl xn L rfl h hB hn hm hk hw hv hf hl).mono ?_
                  rintro e w' ⟨rfl, v', w1, w2, rfl, ho, hb, hg⟩
                  obtain ⟨h1, h2⟩ := add_done (x := ⟨xw, xn, -1, xv, xf, 0, xl⟩) h rfl ho hb hg
                  exact .inl ⟨hc, rfl, ⟨_, h1⟩, h2⟩
                · cases hx : dyB xt
                  · have hc : addC L.length ⟨xw, xn, xo, xv, xf, xt, xl⟩ = 4 := by unfold addC badKind badDay; simp [*]
                    subst ho
                    refine (rAdd_8 xw xv xf xt xl xn h.cell h.inH hn hm hk hw hv hf hl ht hx).mono ?_
                    rintro e w' ⟨rfl, hb⟩
                    exact .inr ⟨by rw [hc]; decide, by rw [hc]; rfl, hb⟩
                  · by_cases hy : xt ≤ xf
                    · have hc : addC L.length ⟨xw, xn, xo, xv, xf, xt, xl⟩ = 4 := by unfold addC badKind badDay; simp [*]
                      subst ho
                      refine (rAdd_9 xw xv xf xt xl xn h.cell h.inH hn hm hk hw hv hf hl ht hx hy).mono ?_
                      rintro e w' ⟨rfl, hb⟩
                      exact .inr ⟨by rw [hc]; decide, by rw [hc]; rfl, hb⟩
                    · have hc : addC L.length ⟨xw, xn, xo, xv, xf, xt, xl⟩ = 0 := by unfold addC badKind badDay; simp [*]
                      subst ho
                      refine (rAdd_11 xw xv xf xt xl xn L rfl h hB hn hm hk hw hv hf hl ht hx hy).mono ?_
                      rintro e w' ⟨rfl, v', w1, w2, rfl, ho, hb, hg⟩
                      obtain ⟨h1, h2⟩ := add_done (x := ⟨xw, xn, -1, xv, xf, xt, xl⟩) h rfl ho hb hg
                      exact .inl ⟨hc, rfl, ⟨_, h1⟩, h2⟩
        · cases hq : perB xo
          · have hc : addC L.length ⟨xw, xn, xo, xv, xf, xt, xl⟩ = 9 := by unfold addC badKind badDay; simp [*]
            refine (rAdd_3 xw xo xv xf xt xl xn h.cell h.inH hn hm hk ho hq).mono ?_
            rintro e w' ⟨rfl, hb⟩
            exact .inr ⟨by rw [hc]; decide, by rw [hc]; rfl, hb⟩
          · by_cases hw : xo = xw
            · have hc : addC L.length ⟨xw, xn, xo, xv, xf, xt, xl⟩ = 9 := by unfold addC badKind badDay; simp [*]
              subst xo
              refine (rAdd_4 xw xv xf xt xl xn h.cell h.inH hn hm hk ho).mono ?_
              rintro e w' ⟨rfl, hb⟩
              exact .inr ⟨by rw [hc]; decide, by rw [hc]; rfl, hb⟩
            · cases hv : valB xv
              · have hc : addC L.length ⟨xw, xn, xo, xv, xf, xt, xl⟩ = 3 := by unfold addC badKind badDay; simp [*]
                refine (rAdd_12 xw xo xv xf xt xl xn h.cell h.inH hn hm hk ho hq hw hv).mono ?_
                rintro e w' ⟨rfl, hb⟩
                exact .inr ⟨by rw [hc]; decide, by rw [hc]; rfl, hb⟩
              · cases hf : dyB xf
                · have hc : addC L.length ⟨xw, xn, xo, xv, xf, xt, xl⟩ = 4 := by unfold addC badKind badDay; simp [*]
                  refine (rAdd_13 xw xo xv xf xt xl xn h.cell h.inH hn hm hk ho hq hw hv hf).mono ?_
                  rintro e w' ⟨rfl, hb⟩
                  exact .inr ⟨by rw [hc]; decide, by rw [hc]; rfl, hb⟩
                · cases hl : dyB xl
                  · have hc : addC L.length ⟨xw, xn, xo, xv, xf, xt, xl⟩ = 4 := by unfold addC badKind badDay; simp [*]
                    refine (rAdd_14 xw xo xv xf xt xl xn h.cell h.inH hn hm hk ho hq hw hv hf hl).mono ?_
                    rintro e w' ⟨rfl, hb⟩
                    exact .inr ⟨by rw [hc]; decide, by rw [hc]; rfl, hb⟩
                  · by_cases ht : xt = 0
                    · have hc : addC L.length ⟨xw, xn, xo, xv, xf, xt, xl⟩ = 0 := by unfold addC badKind badDay; simp [*]
                      subst ht
                      refine (rAdd_17 xw xo xv xf xl xn L rfl h hB hn hm hk ho hq hw hv hf hl).mono ?_
                      rintro e w' ⟨rfl, v', w1, w2, rfl, ho, hb, hg⟩
                      obtain ⟨h1, h2⟩ := add_done (x := ⟨xw, xn, xo, xv, xf, 0, xl⟩) h rfl ho hb hg
                      exact .inl ⟨hc, rfl, ⟨_, h1⟩, h2⟩
                    · cases hx : dyB xt
                      · have hc : addC L.length ⟨xw, xn, xo, xv, xf, xt, xl⟩ = 4 := by unfold addC badKind badDay; simp [*]
                        refine (rAdd_15 xw xo xv xf xt xl xn h.cell h.inH hn hm hk ho hq hw hv hf hl ht hx).mono ?_
                        rintro e w' ⟨rfl, hb⟩
                        exact .inr ⟨by rw [hc]; decide, by rw [hc]; rfl, hb⟩
                      · by_cases hy : xt ≤ xf
                        · have hc : addC L.length ⟨xw, xn, xo, xv, xf, xt, xl⟩ = 4 := by unfold addC badKind badDay; simp [*]
                          refine (rAdd_16 xw xo xv xf xt xl xn h.cell h.inH hn hm hk ho hq hw hv hf hl ht hx hy).mono ?_
                          rintro e w' ⟨rfl, hb⟩
                          exact .inr ⟨by rw [hc]; decide, by rw [hc]; rfl, hb⟩
                        · have hc : addC L.length ⟨xw, xn, xo, xv, xf, xt, xl⟩ = 0 := by unfold addC badKind badDay; simp [*]
                          refine (rAdd_18 xw xo xv xf xt xl xn L rfl h hB hn hm hk ho hq hw hv hf hl ht hx hy).mono ?_
                          rintro e w' ⟨rfl, v', w1, w2, rfl, ho, hb, hg⟩
                          obtain ⟨h1, h2⟩ := add_done (x := ⟨xw, xn, xo, xv, xf, xt, xl⟩) h rfl ho hb hg
                          exact .inl ⟨hc, rfl, ⟨_, h1⟩, h2⟩
end Go.Proofs.YtcfeflkhmncmjaaGreatDoor

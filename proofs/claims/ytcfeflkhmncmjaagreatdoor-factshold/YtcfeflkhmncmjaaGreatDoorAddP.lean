/-
  Facts: Add, what is told of wrong facts (written by tools/genfadd.py).
-/
import Derived.Test.YtcfeflkhmncmjaaGreatDoorFaA
import Derived.Deep.RegionLaw
import Derived.Deep.DeepCutAuto
namespace Go.Proofs.YtcfeflkhmncmjaaGreatDoor
open Go.RowKit Go.Extern.Stop Go.Stop Go.Extern

set_option maxHeartbeats 2000000 in
set_option maxRecDepth 20000 in
theorem pAdd_0 {b n c : Nat} {w : World} {sa : Option Addr} (xw xo xv xf xt xl : Int) (xn : ByteArray) (hs : xn.size ≤ 100000) (p : Nat → Addr) (Lw : Laid w p) (hc : w.cell? ⟨b, 0, none⟩ = some (.slice sa n c)) (hb : b < w.heap.size) (hn : 500 ≤ n) :
    Calls Tryz.prog 16 #[.pointer (some ⟨b, 0, none⟩), .agg #[.int .i64 xw, .string xn, .int .i64 xo, .int .i64 xv, .int .i64 xf, .int .i64 xt, .int .i64 xl]] w fun e w' => e = .returned (.iface 193 (.pointer (some (p 1)))) ∧ Below w.heap.size w w' := by
  have hg : w.cell? ⟨0, 0, none⟩ = some (.iface 193 (.pointer (some (p 1)))) := Lw.cell 1 (by omega)
  have hl := Lw.lt
  have hg2 : (w.alloc (.cells #[.int .i64 xw, .string xn, .int .i64 xo, .int .i64 xv, .int .i64 xf, .int .i64 xt, .int .i64 xl] 61)).cell? ⟨0, 0, none⟩ = some (.iface 193 (.pointer (some (p 1)))) := ((Lw.alloc _).cell 1 (by omega))
  clear Lw
  have HW := hidLL (isWord_f xn hs)
  have HP := hidLL isPerson_f
  have HV := hidLL isValue_f
  have HD := hidLL isDay_f
  have hnz : (500 : Int) ≤ n := by omega
  have HB : Hid (∀ o : Obj, Below w.heap.size w (w.alloc o)) := fun o => (Below.refl _ _).alloc (Nat.le_refl _) o
  go_enter Tryz.func16, Tryz.ntmps16
  go_wp2_with (first | (go_at_call 35; refine (HW.out _).mono ?_; rintro e w' ⟨rfl, rfl⟩) | (go_at_call 36; refine (HP.out _ _).mono ?_; rintro e w' ⟨rfl, rfl⟩) | (go_at_call 37; refine (HV.out _ _).mono ?_; rintro e w' ⟨rfl, rfl⟩) | (go_at_call 38; refine (HD.out _ _).mono ?_; rintro e w' ⟨rfl, rfl⟩))
  all_goals (go_ret; exact ⟨rfl, HB.out _⟩)
set_option maxHeartbeats 2000000 in
set_option maxRecDepth 20000 in
theorem pAdd_1 {b n c : Nat} {w : World} {sa : Option Addr} (xw xo xv xf xt xl : Int) (xn : ByteArray) (hs : xn.size ≤ 100000) (p : Nat → Addr) (Lw : Laid w p) (hc : w.cell? ⟨b, 0, none⟩ = some (.slice sa n c)) (hb : b < w.heap.size) (hn : ¬ 500 ≤ n) (hm : isWordB xn = false) :
    Calls Tryz.prog 16 #[.pointer (some ⟨b, 0, none⟩), .agg #[.int .i64 xw, .string xn, .int .i64 xo, .int .i64 xv, .int .i64 xf, .int .i64 xt, .int .i64 xl]] w fun e w' => e = .returned (.iface 193 (.pointer (some (p 6)))) ∧ Below w.heap.size w w' := by
  have hg : w.cell? ⟨1, 0, none⟩ = some (.iface 193 (.pointer (some (p 6)))) := Lw.cell 6 (by omega)
  have hl := Lw.lt
  have hg2 : (w.alloc (.cells #[.int .i64 xw, .string xn, .int .i64 xo, .int .i64 xv, .int .i64 xf, .int .i64 xt, .int .i64 xl] 61)).cell? ⟨1, 0, none⟩ = some (.iface 193 (.pointer (some (p 6)))) := ((Lw.alloc _).cell 6 (by omega))
  clear Lw
  have HW := hidLL (isWord_f xn hs)
  have HP := hidLL isPerson_f
  have HV := hidLL isValue_f
  have HD := hidLL isDay_f
  have hnz : ¬ (500 : Int) ≤ n := by omega
  have HB : Hid (∀ o : Obj, Below w.heap.size w (w.alloc o)) := fun o => (Below.refl _ _).alloc (Nat.le_refl _) o
  go_enter Tryz.func16, Tryz.ntmps16
  go_wp2_with (first | (go_at_call 35; refine (HW.out _).mono ?_; rintro e w' ⟨rfl, rfl⟩) | (go_at_call 36; refine (HP.out _ _).mono ?_; rintro e w' ⟨rfl, rfl⟩) | (go_at_call 37; refine (HV.out _ _).mono ?_; rintro e w' ⟨rfl, rfl⟩) | (go_at_call 38; refine (HD.out _ _).mono ?_; rintro e w' ⟨rfl, rfl⟩))
  all_goals (go_ret; exact ⟨rfl, HB.out _⟩)
set_option maxHeartbeats 2000000 in
set_option maxRecDepth 20000 in
theorem pAdd_2 {b n c : Nat} {w : World} {sa : Option Addr} (xw xo xv xf xt xl : Int) (xn : ByteArray) (hs : xn.size ≤ 100000) (p : Nat → Addr) (Lw : Laid w p) (hc : w.cell? ⟨b, 0, none⟩ = some (.slice sa n c)) (hb : b < w.heap.size) (hn : ¬ 500 ≤ n) (hm : isWordB xn = true) (hk : perB xw = false) :
    Calls Tryz.prog 16 #[.pointer (some ⟨b, 0, none⟩), .agg #[.int .i64 xw, .string xn, .int .i64 xo, .int .i64 xv, .int .i64 xf, .int .i64 xt, .int .i64 xl]] w fun e w' => e = .returned (.iface 193 (.pointer (some (p 8)))) ∧ Below w.heap.size w w' := by
  have hg : w.cell? ⟨2, 0, none⟩ = some (.iface 193 (.pointer (some (p 8)))) := Lw.cell 8 (by omega)
  have hl := Lw.lt
  have hg2 : (w.alloc (.cells #[.int .i64 xw, .string xn, .int .i64 xo, .int .i64 xv, .int .i64 xf, .int .i64 xt, .int .i64 xl] 61)).cell? ⟨2, 0, none⟩ = some (.iface 193 (.pointer (some (p 8)))) := ((Lw.alloc _).cell 8 (by omega))
  clear Lw
  have HW := hidLL (isWord_f xn hs)
  have HP := hidLL isPerson_f
  have HV := hidLL isValue_f
  have HD := hidLL isDay_f
  have hnz : ¬ (500 : Int) ≤ n := by omega
  have HB : Hid (∀ o : Obj, Below w.heap.size w (w.alloc o)) := fun o => (Below.refl _ _).alloc (Nat.le_refl _) o
  go_enter Tryz.func16, Tryz.ntmps16
  go_wp2_with (first | (go_at_call 35; refine (HW.out _).mono ?_; rintro e w' ⟨rfl, rfl⟩) | (go_at_call 36; refine (HP.out _ _).mono ?_; rintro e w' ⟨rfl, rfl⟩) | (go_at_call 37; refine (HV.out _ _).mono ?_; rintro e w' ⟨rfl, rfl⟩) | (go_at_call 38; refine (HD.out _ _).mono ?_; rintro e w' ⟨rfl, rfl⟩))
  all_goals (go_ret; exact ⟨rfl, HB.out _⟩)
set_option maxHeartbeats 2000000 in
set_option maxRecDepth 20000 in
theorem pAdd_3 {b n c : Nat} {w : World} {sa : Option Addr} (xw xo xv xf xt xl : Int) (xn : ByteArray) (hs : xn.size ≤ 100000) (p : Nat → Addr) (Lw : Laid w p) (hc : w.cell? ⟨b, 0, none⟩ = some (.slice sa n c)) (hb : b < w.heap.size) (hn : ¬ 500 ≤ n) (hm : isWordB xn = true) (hk : perB xw = true) (ho : ¬ xo = -1) (hq : perB xo = false) :
    Calls Tryz.prog 16 #[.pointer (some ⟨b, 0, none⟩), .agg #[.int .i64 xw, .string xn, .int .i64 xo, .int .i64 xv, .int .i64 xf, .int .i64 xt, .int .i64 xl]] w fun e w' => e = .returned (.iface 193 (.pointer (some (p 8)))) ∧ Below w.heap.size w w' := by
  have hg : w.cell? ⟨2, 0, none⟩ = some (.iface 193 (.pointer (some (p 8)))) := Lw.cell 8 (by omega)
  have hl := Lw.lt
  have hg2 : (w.alloc (.cells #[.int .i64 xw, .string xn, .int .i64 xo, .int .i64 xv, .int .i64 xf, .int .i64 xt, .int .i64 xl] 61)).cell? ⟨2, 0, none⟩ = some (.iface 193 (.pointer (some (p 8)))) := ((Lw.alloc _).cell 8 (by omega))
  clear Lw
  have HW := hidLL (isWord_f xn hs)
  have HP := hidLL isPerson_f
  have HV := hidLL isValue_f
  have HD := hidLL isDay_f
  have hnz : ¬ (500 : Int) ≤ n := by omega
  have HB : Hid (∀ o : Obj, Below w.heap.size w (w.alloc o)) := fun o => (Below.refl _ _).alloc (Nat.le_refl _) o
  go_enter Tryz.func16, Tryz.ntmps16
  go_wp2_with (first | (go_at_call 35; refine (HW.out _).mono ?_; rintro e w' ⟨rfl, rfl⟩) | (go_at_call 36; refine (HP.out _ _).mono ?_; rintro e w' ⟨rfl, rfl⟩) | (go_at_call 37; refine (HV.out _ _).mono ?_; rintro e w' ⟨rfl, rfl⟩) | (go_at_call 38; refine (HD.out _ _).mono ?_; rintro e w' ⟨rfl, rfl⟩))
  all_goals (go_ret; exact ⟨rfl, HB.out _⟩)
set_option maxHeartbeats 2000000 in
set_option maxRecDepth 20000 in
theorem pAdd_4 {b n c : Nat} {w : World} {sa : Option Addr} (xw xv xf xt xl : Int) (xn : ByteArray) (hs : xn.size ≤ 100000) (p : Nat → Addr) (Lw : Laid w p) (hc : w.cell? ⟨b, 0, none⟩ = some (.slice sa n c)) (hb : b < w.heap.size) (hn : ¬ 500 ≤ n) (hm : isWordB xn = true) (hk : perB xw = true) (ho : ¬ xw = -1) :
    Calls Tryz.prog 16 #[.pointer (some ⟨b, 0, none⟩), .agg #[.int .i64 xw, .string xn, .int .i64 xw, .int .i64 xv, .int .i64 xf, .int .i64 xt, .int .i64 xl]] w fun e w' => e = .returned (.iface 193 (.pointer (some (p 8)))) ∧ Below w.heap.size w w' := by
  have hg : w.cell? ⟨2, 0, none⟩ = some (.iface 193 (.pointer (some (p 8)))) := Lw.cell 8 (by omega)
  have hl := Lw.lt
  have hg2 : (w.alloc (.cells #[.int .i64 xw, .string xn, .int .i64 xw, .int .i64 xv, .int .i64 xf, .int .i64 xt, .int .i64 xl] 61)).cell? ⟨2, 0, none⟩ = some (.iface 193 (.pointer (some (p 8)))) := ((Lw.alloc _).cell 8 (by omega))
  clear Lw
  have HW := hidLL (isWord_f xn hs)
  have HP := hidLL isPerson_f
  have HV := hidLL isValue_f
  have HD := hidLL isDay_f
  have hnz : ¬ (500 : Int) ≤ n := by omega
  have HB : Hid (∀ o : Obj, Below w.heap.size w (w.alloc o)) := fun o => (Below.refl _ _).alloc (Nat.le_refl _) o
  go_enter Tryz.func16, Tryz.ntmps16
  go_wp2_with (first | (go_at_call 35; refine (HW.out _).mono ?_; rintro e w' ⟨rfl, rfl⟩) | (go_at_call 36; refine (HP.out _ _).mono ?_; rintro e w' ⟨rfl, rfl⟩) | (go_at_call 37; refine (HV.out _ _).mono ?_; rintro e w' ⟨rfl, rfl⟩) | (go_at_call 38; refine (HD.out _ _).mono ?_; rintro e w' ⟨rfl, rfl⟩))
  all_goals (go_ret; exact ⟨rfl, HB.out _⟩)
set_option maxHeartbeats 2000000 in
set_option maxRecDepth 20000 in
theorem pAdd_5 {b n c : Nat} {w : World} {sa : Option Addr} (xw xv xf xt xl : Int) (xn : ByteArray) (hs : xn.size ≤ 100000) (p : Nat → Addr) (Lw : Laid w p) (hc : w.cell? ⟨b, 0, none⟩ = some (.slice sa n c)) (hb : b < w.heap.size) (hn : ¬ 500 ≤ n) (hm : isWordB xn = true) (hk : perB xw = true) (hw : ¬ (-1 : Int) = xw) (hv : valB xv = false) :
    Calls Tryz.prog 16 #[.pointer (some ⟨b, 0, none⟩), .agg #[.int .i64 xw, .string xn, .int .i64 (-1), .int .i64 xv, .int .i64 xf, .int .i64 xt, .int .i64 xl]] w fun e w' => e = .returned (.iface 193 (.pointer (some (p 2)))) ∧ Below w.heap.size w w' := by
  have hg : w.cell? ⟨3, 0, none⟩ = some (.iface 193 (.pointer (some (p 2)))) := Lw.cell 2 (by omega)
  have hl := Lw.lt
  have hg2 : (w.alloc (.cells #[.int .i64 xw, .string xn, .int .i64 (-1), .int .i64 xv, .int .i64 xf, .int .i64 xt, .int .i64 xl] 61)).cell? ⟨3, 0, none⟩ = some (.iface 193 (.pointer (some (p 2)))) := ((Lw.alloc _).cell 2 (by omega))
  clear Lw
  have HW := hidLL (isWord_f xn hs)
  have HP := hidLL isPerson_f
  have HV := hidLL isValue_f
  have HD := hidLL isDay_f
  have hw2 : ¬ xw = -1 := fun e => hw e.symm
  have hnz : ¬ (500 : Int) ≤ n := by omega
  have HB : Hid (∀ o : Obj, Below w.heap.size w (w.alloc o)) := fun o => (Below.refl _ _).alloc (Nat.le_refl _) o
  go_enter Tryz.func16, Tryz.ntmps16
  go_wp2_with (first | (go_at_call 35; refine (HW.out _).mono ?_; rintro e w' ⟨rfl, rfl⟩) | (go_at_call 36; refine (HP.out _ _).mono ?_; rintro e w' ⟨rfl, rfl⟩) | (go_at_call 37; refine (HV.out _ _).mono ?_; rintro e w' ⟨rfl, rfl⟩) | (go_at_call 38; refine (HD.out _ _).mono ?_; rintro e w' ⟨rfl, rfl⟩))
  all_goals (go_ret; exact ⟨rfl, HB.out _⟩)
set_option maxHeartbeats 2000000 in
set_option maxRecDepth 20000 in
theorem pAdd_6 {b n c : Nat} {w : World} {sa : Option Addr} (xw xv xf xt xl : Int) (xn : ByteArray) (hs : xn.size ≤ 100000) (p : Nat → Addr) (Lw : Laid w p) (hc : w.cell? ⟨b, 0, none⟩ = some (.slice sa n c)) (hb : b < w.heap.size) (hn : ¬ 500 ≤ n) (hm : isWordB xn = true) (hk : perB xw = true) (hw : ¬ (-1 : Int) = xw) (hv : valB xv = true) (hf : dyB xf = false) :
    Calls Tryz.prog 16 #[.pointer (some ⟨b, 0, none⟩), .agg #[.int .i64 xw, .string xn, .int .i64 (-1), .int .i64 xv, .int .i64 xf, .int .i64 xt, .int .i64 xl]] w fun e w' => e = .returned (.iface 193 (.pointer (some (p 3)))) ∧ Below w.heap.size w w' := by
  have hg : w.cell? ⟨4, 0, none⟩ = some (.iface 193 (.pointer (some (p 3)))) := Lw.cell 3 (by omega)
  have hl := Lw.lt
  have hg2 : (w.alloc (.cells #[.int .i64 xw, .string xn, .int .i64 (-1), .int .i64 xv, .int .i64 xf, .int .i64 xt, .int .i64 xl] 61)).cell? ⟨4, 0, none⟩ = some (.iface 193 (.pointer (some (p 3)))) := ((Lw.alloc _).cell 3 (by omega))
  clear Lw
  have HW := hidLL (isWord_f xn hs)
  have HP := hidLL isPerson_f
  have HV := hidLL isValue_f
  have HD := hidLL isDay_f
  have hw2 : ¬ xw = -1 := fun e => hw e.symm
  have hnz : ¬ (500 : Int) ≤ n := by omega
  have HB : Hid (∀ o : Obj, Below w.heap.size w (w.alloc o)) := fun o => (Below.refl _ _).alloc (Nat.le_refl _) o
  go_enter Tryz.func16, Tryz.ntmps16
  go_wp2_with (first | (go_at_call 35; refine (HW.out _).mono ?_; rintro e w' ⟨rfl, rfl⟩) | (go_at_call 36; refine (HP.out _ _).mono ?_; rintro e w' ⟨rfl, rfl⟩) | (go_at_call 37; refine (HV.out _ _).mono ?_; rintro e w' ⟨rfl, rfl⟩) | (go_at_call 38; refine (HD.out _ _).mono ?_; rintro e w' ⟨rfl, rfl⟩))
  all_goals (go_ret; exact ⟨rfl, HB.out _⟩)
set_option maxHeartbeats 2000000 in
set_option maxRecDepth 20000 in
theorem pAdd_7 {b n c : Nat} {w : World} {sa : Option Addr} (xw xv xf xt xl : Int) (xn : ByteArray) (hs : xn.size ≤ 100000) (p : Nat → Addr) (Lw : Laid w p) (hc : w.cell? ⟨b, 0, none⟩ = some (.slice sa n c)) (hb : b < w.heap.size) (hn : ¬ 500 ≤ n) (hm : isWordB xn = true) (hk : perB xw = true) (hw : ¬ (-1 : Int) = xw) (hv : valB xv = true) (hf : dyB xf = true) (hl : dyB xl = false) :
    Calls Tryz.prog 16 #[.pointer (some ⟨b, 0, none⟩), .agg #[.int .i64 xw, .string xn, .int .i64 (-1), .int .i64 xv, .int .i64 xf, .int .i64 xt, .int .i64 xl]] w fun e w' => e = .returned (.iface 193 (.pointer (some (p 3)))) ∧ Below w.heap.size w w' := by
  have hg : w.cell? ⟨4, 0, none⟩ = some (.iface 193 (.pointer (some (p 3)))) := Lw.cell 3 (by omega)
  have hl := Lw.lt
  have hg2 : (w.alloc (.cells #[.int .i64 xw, .string xn, .int .i64 (-1), .int .i64 xv, .int .i64 xf, .int .i64 xt, .int .i64 xl] 61)).cell? ⟨4, 0, none⟩ = some (.iface 193 (.pointer (some (p 3)))) := ((Lw.alloc _).cell 3 (by omega))
  clear Lw
  have HW := hidLL (isWord_f xn hs)
  have HP := hidLL isPerson_f
  have HV := hidLL isValue_f
  have HD := hidLL isDay_f
  have hw2 : ¬ xw = -1 := fun e => hw e.symm
  have hnz : ¬ (500 : Int) ≤ n := by omega
  have HB : Hid (∀ o : Obj, Below w.heap.size w (w.alloc o)) := fun o => (Below.refl _ _).alloc (Nat.le_refl _) o
  go_enter Tryz.func16, Tryz.ntmps16
  go_wp2_with (first | (go_at_call 35; refine (HW.out _).mono ?_; rintro e w' ⟨rfl, rfl⟩) | (go_at_call 36; refine (HP.out _ _).mono ?_; rintro e w' ⟨rfl, rfl⟩) | (go_at_call 37; refine (HV.out _ _).mono ?_; rintro e w' ⟨rfl, rfl⟩) | (go_at_call 38; refine (HD.out _ _).mono ?_; rintro e w' ⟨rfl, rfl⟩))
  all_goals (go_ret; exact ⟨rfl, HB.out _⟩)
end Go.Proofs.YtcfeflkhmncmjaaGreatDoor
namespace Go.Proofs.YtcfeflkhmncmjaaGreatDoor
open Go.RowKit Go.Extern.Stop Go.Stop Go.Extern

set_option maxHeartbeats 2000000 in
set_option maxRecDepth 20000 in
theorem pAdd_8 {b n c : Nat} {w : World} {sa : Option Addr} (xw xv xf xt xl : Int) (xn : ByteArray) (hs : xn.size ≤ 100000) (p : Nat → Addr) (Lw : Laid w p) (hc : w.cell? ⟨b, 0, none⟩ = some (.slice sa n c)) (hb : b < w.heap.size) (hn : ¬ 500 ≤ n) (hm : isWordB xn = true) (hk : perB xw = true) (hw : ¬ (-1 : Int) = xw) (hv : valB xv = true) (hf : dyB xf = true) (hl : dyB xl = true) (ht : ¬ xt = 0) (hx : dyB xt = false) :
    Calls Tryz.prog 16 #[.pointer (some ⟨b, 0, none⟩), .agg #[.int .i64 xw, .string xn, .int .i64 (-1), .int .i64 xv, .int .i64 xf, .int .i64 xt, .int .i64 xl]] w fun e w' => e = .returned (.iface 193 (.pointer (some (p 3)))) ∧ Below w.heap.size w w' := by
  have hg : w.cell? ⟨4, 0, none⟩ = some (.iface 193 (.pointer (some (p 3)))) := Lw.cell 3 (by omega)
  have hl := Lw.lt
  have hg2 : (w.alloc (.cells #[.int .i64 xw, .string xn, .int .i64 (-1), .int .i64 xv, .int .i64 xf, .int .i64 xt, .int .i64 xl] 61)).cell? ⟨4, 0, none⟩ = some (.iface 193 (.pointer (some (p 3)))) := ((Lw.alloc _).cell 3 (by omega))
  clear Lw
  have HW := hidLL (isWord_f xn hs)
  have HP := hidLL isPerson_f
  have HV := hidLL isValue_f
  have HD := hidLL isDay_f
  have hw2 : ¬ xw = -1 := fun e => hw e.symm
  have hnz : ¬ (500 : Int) ≤ n := by omega
  have HB : Hid (∀ o : Obj, Below w.heap.size w (w.alloc o)) := fun o => (Below.refl _ _).alloc (Nat.le_refl _) o
  go_enter Tryz.func16, Tryz.ntmps16
  go_wp2_with (first | (go_at_call 35; refine (HW.out _).mono ?_; rintro e w' ⟨rfl, rfl⟩) | (go_at_call 36; refine (HP.out _ _).mono ?_; rintro e w' ⟨rfl, rfl⟩) | (go_at_call 37; refine (HV.out _ _).mono ?_; rintro e w' ⟨rfl, rfl⟩) | (go_at_call 38; refine (HD.out _ _).mono ?_; rintro e w' ⟨rfl, rfl⟩))
  all_goals (go_ret; exact ⟨rfl, HB.out _⟩)
set_option maxHeartbeats 2000000 in
set_option maxRecDepth 20000 in
theorem pAdd_9 {b n c : Nat} {w : World} {sa : Option Addr} (xw xv xf xt xl : Int) (xn : ByteArray) (hs : xn.size ≤ 100000) (p : Nat → Addr) (Lw : Laid w p) (hc : w.cell? ⟨b, 0, none⟩ = some (.slice sa n c)) (hb : b < w.heap.size) (hn : ¬ 500 ≤ n) (hm : isWordB xn = true) (hk : perB xw = true) (hw : ¬ (-1 : Int) = xw) (hv : valB xv = true) (hf : dyB xf = true) (hl : dyB xl = true) (ht : ¬ xt = 0) (hx : dyB xt = true) (hy : xt ≤ xf) :
    Calls Tryz.prog 16 #[.pointer (some ⟨b, 0, none⟩), .agg #[.int .i64 xw, .string xn, .int .i64 (-1), .int .i64 xv, .int .i64 xf, .int .i64 xt, .int .i64 xl]] w fun e w' => e = .returned (.iface 193 (.pointer (some (p 3)))) ∧ Below w.heap.size w w' := by
  have hg : w.cell? ⟨4, 0, none⟩ = some (.iface 193 (.pointer (some (p 3)))) := Lw.cell 3 (by omega)
  have hl := Lw.lt
  have hg2 : (w.alloc (.cells #[.int .i64 xw, .string xn, .int .i64 (-1), .int .i64 xv, .int .i64 xf, .int .i64 xt, .int .i64 xl] 61)).cell? ⟨4, 0, none⟩ = some (.iface 193 (.pointer (some (p 3)))) := ((Lw.alloc _).cell 3 (by omega))
  clear Lw
  have HW := hidLL (isWord_f xn hs)
  have HP := hidLL isPerson_f
  have HV := hidLL isValue_f
  have HD := hidLL isDay_f
  have hw2 : ¬ xw = -1 := fun e => hw e.symm
  have hnz : ¬ (500 : Int) ≤ n := by omega
  have HB : Hid (∀ o : Obj, Below w.heap.size w (w.alloc o)) := fun o => (Below.refl _ _).alloc (Nat.le_refl _) o
  go_enter Tryz.func16, Tryz.ntmps16
  go_wp2_with (first | (go_at_call 35; refine (HW.out _).mono ?_; rintro e w' ⟨rfl, rfl⟩) | (go_at_call 36; refine (HP.out _ _).mono ?_; rintro e w' ⟨rfl, rfl⟩) | (go_at_call 37; refine (HV.out _ _).mono ?_; rintro e w' ⟨rfl, rfl⟩) | (go_at_call 38; refine (HD.out _ _).mono ?_; rintro e w' ⟨rfl, rfl⟩))
  all_goals (go_ret; exact ⟨rfl, HB.out _⟩)
set_option maxHeartbeats 2000000 in
set_option maxRecDepth 20000 in
theorem pAdd_12 {b n c : Nat} {w : World} {sa : Option Addr} (xw xo xv xf xt xl : Int) (xn : ByteArray) (hs : xn.size ≤ 100000) (p : Nat → Addr) (Lw : Laid w p) (hc : w.cell? ⟨b, 0, none⟩ = some (.slice sa n c)) (hb : b < w.heap.size) (hn : ¬ 500 ≤ n) (hm : isWordB xn = true) (hk : perB xw = true) (ho : ¬ xo = -1) (hq : perB xo = true) (hw : ¬ xo = xw) (hv : valB xv = false) :
    Calls Tryz.prog 16 #[.pointer (some ⟨b, 0, none⟩), .agg #[.int .i64 xw, .string xn, .int .i64 xo, .int .i64 xv, .int .i64 xf, .int .i64 xt, .int .i64 xl]] w fun e w' => e = .returned (.iface 193 (.pointer (some (p 2)))) ∧ Below w.heap.size w w' := by
  have hg : w.cell? ⟨3, 0, none⟩ = some (.iface 193 (.pointer (some (p 2)))) := Lw.cell 2 (by omega)
  have hl := Lw.lt
  have hg2 : (w.alloc (.cells #[.int .i64 xw, .string xn, .int .i64 xo, .int .i64 xv, .int .i64 xf, .int .i64 xt, .int .i64 xl] 61)).cell? ⟨3, 0, none⟩ = some (.iface 193 (.pointer (some (p 2)))) := ((Lw.alloc _).cell 2 (by omega))
  clear Lw
  have HW := hidLL (isWord_f xn hs)
  have HP := hidLL isPerson_f
  have HV := hidLL isValue_f
  have HD := hidLL isDay_f
  have hnz : ¬ (500 : Int) ≤ n := by omega
  have HB : Hid (∀ o : Obj, Below w.heap.size w (w.alloc o)) := fun o => (Below.refl _ _).alloc (Nat.le_refl _) o
  go_enter Tryz.func16, Tryz.ntmps16
  go_wp2_with (first | (go_at_call 35; refine (HW.out _).mono ?_; rintro e w' ⟨rfl, rfl⟩) | (go_at_call 36; refine (HP.out _ _).mono ?_; rintro e w' ⟨rfl, rfl⟩) | (go_at_call 37; refine (HV.out _ _).mono ?_; rintro e w' ⟨rfl, rfl⟩) | (go_at_call 38; refine (HD.out _ _).mono ?_; rintro e w' ⟨rfl, rfl⟩))
  all_goals (go_ret; exact ⟨rfl, HB.out _⟩)
set_option maxHeartbeats 2000000 in
set_option maxRecDepth 20000 in
theorem pAdd_13 {b n c : Nat} {w : World} {sa : Option Addr} (xw xo xv xf xt xl : Int) (xn : ByteArray) (hs : xn.size ≤ 100000) (p : Nat → Addr) (Lw : Laid w p) (hc : w.cell? ⟨b, 0, none⟩ = some (.slice sa n c)) (hb : b < w.heap.size) (hn : ¬ 500 ≤ n) (hm : isWordB xn = true) (hk : perB xw = true) (ho : ¬ xo = -1) (hq : perB xo = true) (hw : ¬ xo = xw) (hv : valB xv = true) (hf : dyB xf = false) :
    Calls Tryz.prog 16 #[.pointer (some ⟨b, 0, none⟩), .agg #[.int .i64 xw, .string xn, .int .i64 xo, .int .i64 xv, .int .i64 xf, .int .i64 xt, .int .i64 xl]] w fun e w' => e = .returned (.iface 193 (.pointer (some (p 3)))) ∧ Below w.heap.size w w' := by
  have hg : w.cell? ⟨4, 0, none⟩ = some (.iface 193 (.pointer (some (p 3)))) := Lw.cell 3 (by omega)
  have hl := Lw.lt
  have hg2 : (w.alloc (.cells #[.int .i64 xw, .string xn, .int .i64 xo, .int .i64 xv, .int .i64 xf, .int .i64 xt, .int .i64 xl] 61)).cell? ⟨4, 0, none⟩ = some (.iface 193 (.pointer (some (p 3)))) := ((Lw.alloc _).cell 3 (by omega))
  clear Lw
  have HW := hidLL (isWord_f xn hs)
  have HP := hidLL isPerson_f
  have HV := hidLL isValue_f
  have HD := hidLL isDay_f
  have hnz : ¬ (500 : Int) ≤ n := by omega
  have HB : Hid (∀ o : Obj, Below w.heap.size w (w.alloc o)) := fun o => (Below.refl _ _).alloc (Nat.le_refl _) o
  go_enter Tryz.func16, Tryz.ntmps16
  go_wp2_with (first | (go_at_call 35; refine (HW.out _).mono ?_; rintro e w' ⟨rfl, rfl⟩) | (go_at_call 36; refine (HP.out _ _).mono ?_; rintro e w' ⟨rfl, rfl⟩) | (go_at_call 37; refine (HV.out _ _).mono ?_; rintro e w' ⟨rfl, rfl⟩) | (go_at_call 38; refine (HD.out _ _).mono ?_; rintro e w' ⟨rfl, rfl⟩))
  all_goals (go_ret; exact ⟨rfl, HB.out _⟩)
set_option maxHeartbeats 2000000 in
set_option maxRecDepth 20000 in
theorem pAdd_14 {b n c : Nat} {w : World} {sa : Option Addr} (xw xo xv xf xt xl : Int) (xn : ByteArray) (hs : xn.size ≤ 100000) (p : Nat → Addr) (Lw : Laid w p) (hc : w.cell? ⟨b, 0, none⟩ = some (.slice sa n c)) (hb : b < w.heap.size) (hn : ¬ 500 ≤ n) (hm : isWordB xn = true) (hk : perB xw = true) (ho : ¬ xo = -1) (hq : perB xo = true) (hw : ¬ xo = xw) (hv : valB xv = true) (hf : dyB xf = true) (hl : dyB xl = false) :
    Calls Tryz.prog 16 #[.pointer (some ⟨b, 0, none⟩), .agg #[.int .i64 xw, .string xn, .int .i64 xo, .int .i64 xv, .int .i64 xf, .int .i64 xt, .int .i64 xl]] w fun e w' => e = .returned (.iface 193 (.pointer (some (p 3)))) ∧ Below w.heap.size w w' := by
  have hg : w.cell? ⟨4, 0, none⟩ = some (.iface 193 (.pointer (some (p 3)))) := Lw.cell 3 (by omega)
  have hl := Lw.lt
  have hg2 : (w.alloc (.cells #[.int .i64 xw, .string xn, .int .i64 xo, .int .i64 xv, .int .i64 xf, .int .i64 xt, .int .i64 xl] 61)).cell? ⟨4, 0, none⟩ = some (.iface 193 (.pointer (some (p 3)))) := ((Lw.alloc _).cell 3 (by omega))
  clear Lw
  have HW := hidLL (isWord_f xn hs)
  have HP := hidLL isPerson_f
  have HV := hidLL isValue_f
  have HD := hidLL isDay_f
  have hnz : ¬ (500 : Int) ≤ n := by omega
  have HB : Hid (∀ o : Obj, Below w.heap.size w (w.alloc o)) := fun o => (Below.refl _ _).alloc (Nat.le_refl _) o
  go_enter Tryz.func16, Tryz.ntmps16
  go_wp2_with (first | (go_at_call 35; refine (HW.out _).mono ?_; rintro e w' ⟨rfl, rfl⟩) | (go_at_call 36; refine (HP.out _ _).mono ?_; rintro e w' ⟨rfl, rfl⟩) | (go_at_call 37; refine (HV.out _ _).mono ?_; rintro e w' ⟨rfl, rfl⟩) | (go_at_call 38; refine (HD.out _ _).mono ?_; rintro e w' ⟨rfl, rfl⟩))
  all_goals (go_ret; exact ⟨rfl, HB.out _⟩)
set_option maxHeartbeats 2000000 in
set_option maxRecDepth 20000 in
theorem pAdd_15 {b n c : Nat} {w : World} {sa : Option Addr} (xw xo xv xf xt xl : Int) (xn : ByteArray) (hs : xn.size ≤ 100000) (p : Nat → Addr) (Lw : Laid w p) (hc : w.cell? ⟨b, 0, none⟩ = some (.slice sa n c)) (hb : b < w.heap.size) (hn : ¬ 500 ≤ n) (hm : isWordB xn = true) (hk : perB xw = true) (ho : ¬ xo = -1) (hq : perB xo = true) (hw : ¬ xo = xw) (hv : valB xv = true) (hf : dyB xf = true) (hl : dyB xl = true) (ht : ¬ xt = 0) (hx : dyB xt = false) :
    Calls Tryz.prog 16 #[.pointer (some ⟨b, 0, none⟩), .agg #[.int .i64 xw, .string xn, .int .i64 xo, .int .i64 xv, .int .i64 xf, .int .i64 xt, .int .i64 xl]] w fun e w' => e = .returned (.iface 193 (.pointer (some (p 3)))) ∧ Below w.heap.size w w' := by
  have hg : w.cell? ⟨4, 0, none⟩ = some (.iface 193 (.pointer (some (p 3)))) := Lw.cell 3 (by omega)
  have hl := Lw.lt
  have hg2 : (w.alloc (.cells #[.int .i64 xw, .string xn, .int .i64 xo, .int .i64 xv, .int .i64 xf, .int .i64 xt, .int .i64 xl] 61)).cell? ⟨4, 0, none⟩ = some (.iface 193 (.pointer (some (p 3)))) := ((Lw.alloc _).cell 3 (by omega))
  clear Lw
  have HW := hidLL (isWord_f xn hs)
  have HP := hidLL isPerson_f
  have HV := hidLL isValue_f
  have HD := hidLL isDay_f
  have hnz : ¬ (500 : Int) ≤ n := by omega
  have HB : Hid (∀ o : Obj, Below w.heap.size w (w.alloc o)) := fun o => (Below.refl _ _).alloc (Nat.le_refl _) o
  go_enter Tryz.func16, Tryz.ntmps16
  go_wp2_with (first | (go_at_call 35; refine (HW.out _).mono ?_; rintro e w' ⟨rfl, rfl⟩) | (go_at_call 36; refine (HP.out _ _).mono ?_; rintro e w' ⟨rfl, rfl⟩) | (go_at_call 37; refine (HV.out _ _).mono ?_; rintro e w' ⟨rfl, rfl⟩) | (go_at_call 38; refine (HD.out _ _).mono ?_; rintro e w' ⟨rfl, rfl⟩))
  all_goals (go_ret; exact ⟨rfl, HB.out _⟩)
set_option maxHeartbeats 2000000 in
set_option maxRecDepth 20000 in
theorem pAdd_16 {b n c : Nat} {w : World} {sa : Option Addr} (xw xo xv xf xt xl : Int) (xn : ByteArray) (hs : xn.size ≤ 100000) (p : Nat → Addr) (Lw : Laid w p) (hc : w.cell? ⟨b, 0, none⟩ = some (.slice sa n c)) (hb : b < w.heap.size) (hn : ¬ 500 ≤ n) (hm : isWordB xn = true) (hk : perB xw = true) (ho : ¬ xo = -1) (hq : perB xo = true) (hw : ¬ xo = xw) (hv : valB xv = true) (hf : dyB xf = true) (hl : dyB xl = true) (ht : ¬ xt = 0) (hx : dyB xt = true) (hy : xt ≤ xf) :
    Calls Tryz.prog 16 #[.pointer (some ⟨b, 0, none⟩), .agg #[.int .i64 xw, .string xn, .int .i64 xo, .int .i64 xv, .int .i64 xf, .int .i64 xt, .int .i64 xl]] w fun e w' => e = .returned (.iface 193 (.pointer (some (p 3)))) ∧ Below w.heap.size w w' := by
  have hg : w.cell? ⟨4, 0, none⟩ = some (.iface 193 (.pointer (some (p 3)))) := Lw.cell 3 (by omega)
  have hl := Lw.lt
  have hg2 : (w.alloc (.cells #[.int .i64 xw, .string xn, .int .i64 xo, .int .i64 xv, .int .i64 xf, .int .i64 xt, .int .i64 xl] 61)).cell? ⟨4, 0, none⟩ = some (.iface 193 (.pointer (some (p 3)))) := ((Lw.alloc _).cell 3 (by omega))
  clear Lw
  have HW := hidLL (isWord_f xn hs)
  have HP := hidLL isPerson_f
  have HV := hidLL isValue_f
  have HD := hidLL isDay_f
  have hnz : ¬ (500 : Int) ≤ n := by omega
  have HB : Hid (∀ o : Obj, Below w.heap.size w (w.alloc o)) := fun o => (Below.refl _ _).alloc (Nat.le_refl _) o
  go_enter Tryz.func16, Tryz.ntmps16
  go_wp2_with (first | (go_at_call 35; refine (HW.out _).mono ?_; rintro e w' ⟨rfl, rfl⟩) | (go_at_call 36; refine (HP.out _ _).mono ?_; rintro e w' ⟨rfl, rfl⟩) | (go_at_call 37; refine (HV.out _ _).mono ?_; rintro e w' ⟨rfl, rfl⟩) | (go_at_call 38; refine (HD.out _ _).mono ?_; rintro e w' ⟨rfl, rfl⟩))
  all_goals (go_ret; exact ⟨rfl, HB.out _⟩)
end Go.Proofs.YtcfeflkhmncmjaaGreatDoor
namespace Go.Proofs.YtcfeflkhmncmjaaGreatDoor
open Go.RowKit Go.Extern.Stop Go.Stop Go.Extern

set_option maxHeartbeats 4000000 in
set_option maxRecDepth 20000 in
theorem pAdd_10 {b B n c : Nat} {w : World} {sa : Option Addr} (xw xv xf xl : Int) (xn : ByteArray) (hs : xn.size ≤ 100000) (L : List Fct) (hn0 : n = L.length) (h : FFile 61 B w b L (.slice sa n c)) (hB : B ≤ w.heap.size) (hn : ¬ 500 ≤ n) (hm : isWordB xn = true) (hk : perB xw = true) (hw : ¬ (-1 : Int) = xw) (hv : valB xv = true) (hf : dyB xf = true) (hl : dyB xl = true) :
    Calls Tryz.prog 16 #[.pointer (some ⟨b, 0, none⟩), .agg #[.int .i64 xw, .string xn, .int .i64 (-1), .int .i64 xv, .int .i64 xf, .int .i64 0, .int .i64 xl]] w fun e w' => e = .returned .nilIface ∧ ∃ v' w1 w2, w' = w2.setCell ⟨b, 0, none⟩ v' ∧ w2.ownsRow B 61 7 v' (n + 1) (fcells L ++ fctC ⟨xw, xn, (-1), xv, xf, 0, xl⟩) ∧ Below w.heap.size w w1 ∧ w1.grownBy w2 (Value.slice sa n c).ownBlock := by
  have HW := hidLL (isWord_f xn hs)
  have HP := hidLL isPerson_f
  have HV := hidLL isValue_f
  have HD := hidLL isDay_f
  have hw2 : ¬ xw = -1 := fun e => hw e.symm
  have hnz : ¬ (500 : Int) ≤ n := by omega
  obtain ⟨i0, z, hi0, hz0, hz1, hz2, hz3⟩ := Tryz.infoFP
  have HI := hidLL (And.intro hi0 (And.intro hz0 (And.intro hz1 (And.intro hz2 hz3))))
  clear hi0 hz0 hz1 hz2 hz3
  have hc := h.cell
  have hf := h.frz
  have hlb := h.inH
  have HF := hidLL h
  have HN := hidLL hn0
  clear h hn0
  go_enter Tryz.func16, Tryz.ntmps16
  go_wp2_with (first | (go_at_call 35; refine (HW.out _).mono ?_; rintro e w' ⟨rfl, rfl⟩) | (go_at_call 36; refine (HP.out _ _).mono ?_; rintro e w' ⟨rfl, rfl⟩) | (go_at_call 37; refine (HV.out _ _).mono ?_; rintro e w' ⟨rfl, rfl⟩) | (go_at_call 38; refine (HD.out _ _).mono ?_; rintro e w' ⟨rfl, rfl⟩))
  have HB : Hid (Below w.heap.size w (w.alloc (.cells #[.int .i64 xw, .string xn, .int .i64 (-1), .int .i64 xv, .int .i64 xf, .int .i64 0, .int .i64 xl] 61))) := (Below.refl _ _).alloc (Nat.le_refl _) _
  generalize hW : w.alloc (.cells #[.int .i64 xw, .string xn, .int .i64 (-1), .int .i64 xv, .int .i64 xf, .int .i64 0, .int .i64 xl] 61) = W at *
  have hsW : W.heap.size = w.heap.size + 1 := by rw [← hW]; simp
  have x0 : W.cell? ⟨w.heap.size, 0, none⟩ = some (.int .i64 xw) := by rw [← hW]; simp
  have x1 : W.cell? ⟨w.heap.size, 1, none⟩ = some (.string xn) := by rw [← hW]; simp
  have x2 : W.cell? ⟨w.heap.size, 2, none⟩ = some (.int .i64 (-1)) := by rw [← hW]; simp
  have x3 : W.cell? ⟨w.heap.size, 3, none⟩ = some (.int .i64 xv) := by rw [← hW]; simp
  have x4 : W.cell? ⟨w.heap.size, 4, none⟩ = some (.int .i64 xf) := by rw [← hW]; simp
  have x5 : W.cell? ⟨w.heap.size, 5, none⟩ = some (.int .i64 0) := by rw [← hW]; simp
  have x6 : W.cell? ⟨w.heap.size, 6, none⟩ = some (.int .i64 xl) := by rw [← hW]; simp
  have cW := (HB.out.cell (p := ⟨b, 0, none⟩) hlb).trans hc
  have fW := (HB.out.frozen (p := ⟨b, 0, none⟩) hlb).trans hf
  clear hW
  have HKD : Hid (∀ W' : World, (∀ k, k < W.heap.size → W'.heap[k]? = W.heap[k]?) → W'.ownsRow B 61 7 (.slice sa n c) n (fcells L)) := fun W' hW' => by
    have h3 := HF.out.row
    unfold FAt at h3
    rw [← HN.out] at h3
    refine row_step h3 fun k _ hk => (hW' k (by omega)).trans (HB.out.block k hk)
  have HA : Hid (Below W.heap.size W (W.drew.alloc (.cells #[.int .i64 xw, .string xn, .int .i64 (-1), .int .i64 xv, .int .i64 xf, .int .i64 0, .int .i64 xl] 61))) := (Below.refl _ _).drew.alloc (Nat.le_refl _) _
  have HNb : Hid (some b ≠ (Value.slice sa n c).ownBlock) := fun e => by
    have := (HF.out.row.block e.symm).1
    have := HF.out.lt
    omega
  have HNW := hidLL (fctNews W ⟨xw, xn, (-1), xv, xf, 0, xl⟩ 61)
  have HOC := hidLL (fctOne ⟨xw, xn, (-1), xv, xf, 0, xl⟩)
  have hBW : B ≤ W.heap.size := by omega
  go_region_law
    (first
      | (refine step_append_where rfl (.tmp 86) (.tmp 88) 77 rfl B 61 i0 z 7 64 Tryz.underlying77 HI.out.1 HI.out.2.1 HI.out.2.2.1 HI.out.2.2.2.1 HI.out.2.2.2.2 (by decide) (.slice sa n c) n (fcells L) (by first | (simp [Act.eval]; done) | simp [Act.eval, Act.put]) (HKD.out _ (fun k hk => Below.heap_alloc W.drew _ k hk)) ⟨W.heap.size, 0, none⟩ 1 1 (fctC ⟨xw, xn, (-1), xv, xf, 0, xl⟩) (by first | (simp [Act.eval]; done) | simp [Act.eval, Act.put]) rfl HNW.out HOC.out (by decide) (by unfold maxLen; omega) (by omega) (by simp; omega) ?_
         intro v' w' ho hg hw
         have y3 := (grown_cell (a := ⟨b, 0, none⟩) HA.out hg (show b < W.heap.size by omega) HNb.out).1.trans cW
         have y4 := (grown_cell (a := ⟨b, 0, none⟩) HA.out hg (show b < W.heap.size by omega) HNb.out).2.trans fW
         obtain ⟨a', c', hv'⟩ := row_any ho
         subst hv'
         have HH := hidLL (And.intro ho hg)
         clear ho hg hw))
  all_goals
    go_wp2
    go_ret
    exact ⟨rfl, _, _, _, rfl, HH.out.1, HB.out.trans (HA.out.mono (by omega)), HH.out.2⟩
set_option maxHeartbeats 4000000 in
set_option maxRecDepth 20000 in
theorem pAdd_11 {b B n c : Nat} {w : World} {sa : Option Addr} (xw xv xf xt xl : Int) (xn : ByteArray) (hs : xn.size ≤ 100000) (L : List Fct) (hn0 : n = L.length) (h : FFile 61 B w b L (.slice sa n c)) (hB : B ≤ w.heap.size) (hn : ¬ 500 ≤ n) (hm : isWordB xn = true) (hk : perB xw = true) (hw : ¬ (-1 : Int) = xw) (hv : valB xv = true) (hf : dyB xf = true) (hl : dyB xl = true) (ht : ¬ xt = 0) (hx : dyB xt = true) (hy : ¬ xt ≤ xf) :
    Calls Tryz.prog 16 #[.pointer (some ⟨b, 0, none⟩), .agg #[.int .i64 xw, .string xn, .int .i64 (-1), .int .i64 xv, .int .i64 xf, .int .i64 xt, .int .i64 xl]] w fun e w' => e = .returned .nilIface ∧ ∃ v' w1 w2, w' = w2.setCell ⟨b, 0, none⟩ v' ∧ w2.ownsRow B 61 7 v' (n + 1) (fcells L ++ fctC ⟨xw, xn, (-1), xv, xf, xt, xl⟩) ∧ Below w.heap.size w w1 ∧ w1.grownBy w2 (Value.slice sa n c).ownBlock := by
  have HW := hidLL (isWord_f xn hs)
  have HP := hidLL isPerson_f
  have HV := hidLL isValue_f
  have HD := hidLL isDay_f
  have hw2 : ¬ xw = -1 := fun e => hw e.symm
  have hnz : ¬ (500 : Int) ≤ n := by omega
  obtain ⟨i0, z, hi0, hz0, hz1, hz2, hz3⟩ := Tryz.infoFP
  have HI := hidLL (And.intro hi0 (And.intro hz0 (And.intro hz1 (And.intro hz2 hz3))))
  clear hi0 hz0 hz1 hz2 hz3
  have hc := h.cell
  have hf := h.frz
  have hlb := h.inH
  have HF := hidLL h
  have HN := hidLL hn0
  clear h hn0
  go_enter Tryz.func16, Tryz.ntmps16
  go_wp2_with (first | (go_at_call 35; refine (HW.out _).mono ?_; rintro e w' ⟨rfl, rfl⟩) | (go_at_call 36; refine (HP.out _ _).mono ?_; rintro e w' ⟨rfl, rfl⟩) | (go_at_call 37; refine (HV.out _ _).mono ?_; rintro e w' ⟨rfl, rfl⟩) | (go_at_call 38; refine (HD.out _ _).mono ?_; rintro e w' ⟨rfl, rfl⟩))
  have HB : Hid (Below w.heap.size w (w.alloc (.cells #[.int .i64 xw, .string xn, .int .i64 (-1), .int .i64 xv, .int .i64 xf, .int .i64 xt, .int .i64 xl] 61))) := (Below.refl _ _).alloc (Nat.le_refl _) _
  generalize hW : w.alloc (.cells #[.int .i64 xw, .string xn, .int .i64 (-1), .int .i64 xv, .int .i64 xf, .int .i64 xt, .int .i64 xl] 61) = W at *
  have hsW : W.heap.size = w.heap.size + 1 := by rw [← hW]; simp
  have x0 : W.cell? ⟨w.heap.size, 0, none⟩ = some (.int .i64 xw) := by rw [← hW]; simp
  have x1 : W.cell? ⟨w.heap.size, 1, none⟩ = some (.string xn) := by rw [← hW]; simp
  have x2 : W.cell? ⟨w.heap.size, 2, none⟩ = some (.int .i64 (-1)) := by rw [← hW]; simp
  have x3 : W.cell? ⟨w.heap.size, 3, none⟩ = some (.int .i64 xv) := by rw [← hW]; simp
  have x4 : W.cell? ⟨w.heap.size, 4, none⟩ = some (.int .i64 xf) := by rw [← hW]; simp
  have x5 : W.cell? ⟨w.heap.size, 5, none⟩ = some (.int .i64 xt) := by rw [← hW]; simp
  have x6 : W.cell? ⟨w.heap.size, 6, none⟩ = some (.int .i64 xl) := by rw [← hW]; simp
  have cW := (HB.out.cell (p := ⟨b, 0, none⟩) hlb).trans hc
  have fW := (HB.out.frozen (p := ⟨b, 0, none⟩) hlb).trans hf
  clear hW
  have HKD : Hid (∀ W' : World, (∀ k, k < W.heap.size → W'.heap[k]? = W.heap[k]?) → W'.ownsRow B 61 7 (.slice sa n c) n (fcells L)) := fun W' hW' => by
    have h3 := HF.out.row
    unfold FAt at h3
    rw [← HN.out] at h3
    refine row_step h3 fun k _ hk => (hW' k (by omega)).trans (HB.out.block k hk)
  have HA : Hid (Below W.heap.size W (W.drew.alloc (.cells #[.int .i64 xw, .string xn, .int .i64 (-1), .int .i64 xv, .int .i64 xf, .int .i64 xt, .int .i64 xl] 61))) := (Below.refl _ _).drew.alloc (Nat.le_refl _) _
  have HNb : Hid (some b ≠ (Value.slice sa n c).ownBlock) := fun e => by
    have := (HF.out.row.block e.symm).1
    have := HF.out.lt
    omega
  have HNW := hidLL (fctNews W ⟨xw, xn, (-1), xv, xf, xt, xl⟩ 61)
  have HOC := hidLL (fctOne ⟨xw, xn, (-1), xv, xf, xt, xl⟩)
  have hBW : B ≤ W.heap.size := by omega
  go_region_law
    (first
      | (refine step_append_where rfl (.tmp 86) (.tmp 88) 77 rfl B 61 i0 z 7 64 Tryz.underlying77 HI.out.1 HI.out.2.1 HI.out.2.2.1 HI.out.2.2.2.1 HI.out.2.2.2.2 (by decide) (.slice sa n c) n (fcells L) (by first | (simp [Act.eval]; done) | simp [Act.eval, Act.put]) (HKD.out _ (fun k hk => Below.heap_alloc W.drew _ k hk)) ⟨W.heap.size, 0, none⟩ 1 1 (fctC ⟨xw, xn, (-1), xv, xf, xt, xl⟩) (by first | (simp [Act.eval]; done) | simp [Act.eval, Act.put]) rfl HNW.out HOC.out (by decide) (by unfold maxLen; omega) (by omega) (by simp; omega) ?_
         intro v' w' ho hg hw
         have y3 := (grown_cell (a := ⟨b, 0, none⟩) HA.out hg (show b < W.heap.size by omega) HNb.out).1.trans cW
         have y4 := (grown_cell (a := ⟨b, 0, none⟩) HA.out hg (show b < W.heap.size by omega) HNb.out).2.trans fW
         obtain ⟨a', c', hv'⟩ := row_any ho
         subst hv'
         have HH := hidLL (And.intro ho hg)
         clear ho hg hw))
  all_goals
    go_wp2
    go_ret
    exact ⟨rfl, _, _, _, rfl, HH.out.1, HB.out.trans (HA.out.mono (by omega)), HH.out.2⟩
end Go.Proofs.YtcfeflkhmncmjaaGreatDoor
namespace Go.Proofs.YtcfeflkhmncmjaaGreatDoor
open Go.RowKit Go.Extern.Stop Go.Stop Go.Extern

set_option maxHeartbeats 4000000 in
set_option maxRecDepth 20000 in
theorem pAdd_17 {b B n c : Nat} {w : World} {sa : Option Addr} (xw xo xv xf xl : Int) (xn : ByteArray) (hs : xn.size ≤ 100000) (L : List Fct) (hn0 : n = L.length) (h : FFile 61 B w b L (.slice sa n c)) (hB : B ≤ w.heap.size) (hn : ¬ 500 ≤ n) (hm : isWordB xn = true) (hk : perB xw = true) (ho : ¬ xo = -1) (hq : perB xo = true) (hw : ¬ xo = xw) (hv : valB xv = true) (hf : dyB xf = true) (hl : dyB xl = true) :
    Calls Tryz.prog 16 #[.pointer (some ⟨b, 0, none⟩), .agg #[.int .i64 xw, .string xn, .int .i64 xo, .int .i64 xv, .int .i64 xf, .int .i64 0, .int .i64 xl]] w fun e w' => e = .returned .nilIface ∧ ∃ v' w1 w2, w' = w2.setCell ⟨b, 0, none⟩ v' ∧ w2.ownsRow B 61 7 v' (n + 1) (fcells L ++ fctC ⟨xw, xn, xo, xv, xf, 0, xl⟩) ∧ Below w.heap.size w w1 ∧ w1.grownBy w2 (Value.slice sa n c).ownBlock := by
  have HW := hidLL (isWord_f xn hs)
  have HP := hidLL isPerson_f
  have HV := hidLL isValue_f
  have HD := hidLL isDay_f
  have hnz : ¬ (500 : Int) ≤ n := by omega
  obtain ⟨i0, z, hi0, hz0, hz1, hz2, hz3⟩ := Tryz.infoFP
  have HI := hidLL (And.intro hi0 (And.intro hz0 (And.intro hz1 (And.intro hz2 hz3))))
  clear hi0 hz0 hz1 hz2 hz3
  have hc := h.cell
  have hf := h.frz
  have hlb := h.inH
  have HF := hidLL h
  have HN := hidLL hn0
  clear h hn0
  go_enter Tryz.func16, Tryz.ntmps16
  go_wp2_with (first | (go_at_call 35; refine (HW.out _).mono ?_; rintro e w' ⟨rfl, rfl⟩) | (go_at_call 36; refine (HP.out _ _).mono ?_; rintro e w' ⟨rfl, rfl⟩) | (go_at_call 37; refine (HV.out _ _).mono ?_; rintro e w' ⟨rfl, rfl⟩) | (go_at_call 38; refine (HD.out _ _).mono ?_; rintro e w' ⟨rfl, rfl⟩))
  have HB : Hid (Below w.heap.size w (w.alloc (.cells #[.int .i64 xw, .string xn, .int .i64 xo, .int .i64 xv, .int .i64 xf, .int .i64 0, .int .i64 xl] 61))) := (Below.refl _ _).alloc (Nat.le_refl _) _
  generalize hW : w.alloc (.cells #[.int .i64 xw, .string xn, .int .i64 xo, .int .i64 xv, .int .i64 xf, .int .i64 0, .int .i64 xl] 61) = W at *
  have hsW : W.heap.size = w.heap.size + 1 := by rw [← hW]; simp
  have x0 : W.cell? ⟨w.heap.size, 0, none⟩ = some (.int .i64 xw) := by rw [← hW]; simp
  have x1 : W.cell? ⟨w.heap.size, 1, none⟩ = some (.string xn) := by rw [← hW]; simp
  have x2 : W.cell? ⟨w.heap.size, 2, none⟩ = some (.int .i64 xo) := by rw [← hW]; simp
  have x3 : W.cell? ⟨w.heap.size, 3, none⟩ = some (.int .i64 xv) := by rw [← hW]; simp
  have x4 : W.cell? ⟨w.heap.size, 4, none⟩ = some (.int .i64 xf) := by rw [← hW]; simp
  have x5 : W.cell? ⟨w.heap.size, 5, none⟩ = some (.int .i64 0) := by rw [← hW]; simp
  have x6 : W.cell? ⟨w.heap.size, 6, none⟩ = some (.int .i64 xl) := by rw [← hW]; simp
  have cW := (HB.out.cell (p := ⟨b, 0, none⟩) hlb).trans hc
  have fW := (HB.out.frozen (p := ⟨b, 0, none⟩) hlb).trans hf
  clear hW
  have HKD : Hid (∀ W' : World, (∀ k, k < W.heap.size → W'.heap[k]? = W.heap[k]?) → W'.ownsRow B 61 7 (.slice sa n c) n (fcells L)) := fun W' hW' => by
    have h3 := HF.out.row
    unfold FAt at h3
    rw [← HN.out] at h3
    refine row_step h3 fun k _ hk => (hW' k (by omega)).trans (HB.out.block k hk)
  have HA : Hid (Below W.heap.size W (W.drew.alloc (.cells #[.int .i64 xw, .string xn, .int .i64 xo, .int .i64 xv, .int .i64 xf, .int .i64 0, .int .i64 xl] 61))) := (Below.refl _ _).drew.alloc (Nat.le_refl _) _
  have HNb : Hid (some b ≠ (Value.slice sa n c).ownBlock) := fun e => by
    have := (HF.out.row.block e.symm).1
    have := HF.out.lt
    omega
  have HNW := hidLL (fctNews W ⟨xw, xn, xo, xv, xf, 0, xl⟩ 61)
  have HOC := hidLL (fctOne ⟨xw, xn, xo, xv, xf, 0, xl⟩)
  have hBW : B ≤ W.heap.size := by omega
  go_region_law
    (first
      | (refine step_append_where rfl (.tmp 86) (.tmp 88) 77 rfl B 61 i0 z 7 64 Tryz.underlying77 HI.out.1 HI.out.2.1 HI.out.2.2.1 HI.out.2.2.2.1 HI.out.2.2.2.2 (by decide) (.slice sa n c) n (fcells L) (by first | (simp [Act.eval]; done) | simp [Act.eval, Act.put]) (HKD.out _ (fun k hk => Below.heap_alloc W.drew _ k hk)) ⟨W.heap.size, 0, none⟩ 1 1 (fctC ⟨xw, xn, xo, xv, xf, 0, xl⟩) (by first | (simp [Act.eval]; done) | simp [Act.eval, Act.put]) rfl HNW.out HOC.out (by decide) (by unfold maxLen; omega) (by omega) (by simp; omega) ?_
         intro v' w' ho hg hw
         have y3 := (grown_cell (a := ⟨b, 0, none⟩) HA.out hg (show b < W.heap.size by omega) HNb.out).1.trans cW
         have y4 := (grown_cell (a := ⟨b, 0, none⟩) HA.out hg (show b < W.heap.size by omega) HNb.out).2.trans fW
         obtain ⟨a', c', hv'⟩ := row_any ho
         subst hv'
         have HH := hidLL (And.intro ho hg)
         clear ho hg hw))
  all_goals
    go_wp2
    go_ret
    exact ⟨rfl, _, _, _, rfl, HH.out.1, HB.out.trans (HA.out.mono (by omega)), HH.out.2⟩
set_option maxHeartbeats 4000000 in
set_option maxRecDepth 20000 in
theorem pAdd_18 {b B n c : Nat} {w : World} {sa : Option Addr} (xw xo xv xf xt xl : Int) (xn : ByteArray) (hs : xn.size ≤ 100000) (L : List Fct) (hn0 : n = L.length) (h : FFile 61 B w b L (.slice sa n c)) (hB : B ≤ w.heap.size) (hn : ¬ 500 ≤ n) (hm : isWordB xn = true) (hk : perB xw = true) (ho : ¬ xo = -1) (hq : perB xo = true) (hw : ¬ xo = xw) (hv : valB xv = true) (hf : dyB xf = true) (hl : dyB xl = true) (ht : ¬ xt = 0) (hx : dyB xt = true) (hy : ¬ xt ≤ xf) :
    Calls Tryz.prog 16 #[.pointer (some ⟨b, 0, none⟩), .agg #[.int .i64 xw, .string xn, .int .i64 xo, .int .i64 xv, .int .i64 xf, .int .i64 xt, .int .i64 xl]] w fun e w' => e = .returned .nilIface ∧ ∃ v' w1 w2, w' = w2.setCell ⟨b, 0, none⟩ v' ∧ w2.ownsRow B 61 7 v' (n + 1) (fcells L ++ fctC ⟨xw, xn, xo, xv, xf, xt, xl⟩) ∧ Below w.heap.size w w1 ∧ w1.grownBy w2 (Value.slice sa n c).ownBlock := by
  have HW := hidLL (isWord_f xn hs)
  have HP := hidLL isPerson_f
  have HV := hidLL isValue_f
  have HD := hidLL isDay_f
  have hnz : ¬ (500 : Int) ≤ n := by omega
  obtain ⟨i0, z, hi0, hz0, hz1, hz2, hz3⟩ := Tryz.infoFP
  have HI := hidLL (And.intro hi0 (And.intro hz0 (And.intro hz1 (And.intro hz2 hz3))))
  clear hi0 hz0 hz1 hz2 hz3
  have hc := h.cell
  have hf := h.frz
  have hlb := h.inH
  have HF := hidLL h
  have HN := hidLL hn0
  clear h hn0
  go_enter Tryz.func16, Tryz.ntmps16
  go_wp2_with (first | (go_at_call 35; refine (HW.out _).mono ?_; rintro e w' ⟨rfl, rfl⟩) | (go_at_call 36; refine (HP.out _ _).mono ?_; rintro e w' ⟨rfl, rfl⟩) | (go_at_call 37; refine (HV.out _ _).mono ?_; rintro e w' ⟨rfl, rfl⟩) | (go_at_call 38; refine (HD.out _ _).mono ?_; rintro e w' ⟨rfl, rfl⟩))
  have HB : Hid (Below w.heap.size w (w.alloc (.cells #[.int .i64 xw, .string xn, .int .i64 xo, .int .i64 xv, .int .i64 xf, .int .i64 xt, .int .i64 xl] 61))) := (Below.refl _ _).alloc (Nat.le_refl _) _
  generalize hW : w.alloc (.cells #[.int .i64 xw, .string xn, .int .i64 xo, .int .i64 xv, .int .i64 xf, .int .i64 xt, .int .i64 xl] 61) = W at *
  have hsW : W.heap.size = w.heap.size + 1 := by rw [← hW]; simp
  have x0 : W.cell? ⟨w.heap.size, 0, none⟩ = some (.int .i64 xw) := by rw [← hW]; simp
  have x1 : W.cell? ⟨w.heap.size, 1, none⟩ = some (.string xn) := by rw [← hW]; simp
  have x2 : W.cell? ⟨w.heap.size, 2, none⟩ = some (.int .i64 xo) := by rw [← hW]; simp
  have x3 : W.cell? ⟨w.heap.size, 3, none⟩ = some (.int .i64 xv) := by rw [← hW]; simp
  have x4 : W.cell? ⟨w.heap.size, 4, none⟩ = some (.int .i64 xf) := by rw [← hW]; simp
  have x5 : W.cell? ⟨w.heap.size, 5, none⟩ = some (.int .i64 xt) := by rw [← hW]; simp
  have x6 : W.cell? ⟨w.heap.size, 6, none⟩ = some (.int .i64 xl) := by rw [← hW]; simp
  have cW := (HB.out.cell (p := ⟨b, 0, none⟩) hlb).trans hc
  have fW := (HB.out.frozen (p := ⟨b, 0, none⟩) hlb).trans hf
  clear hW
  have HKD : Hid (∀ W' : World, (∀ k, k < W.heap.size → W'.heap[k]? = W.heap[k]?) → W'.ownsRow B 61 7 (.slice sa n c) n (fcells L)) := fun W' hW' => by
    have h3 := HF.out.row
    unfold FAt at h3
    rw [← HN.out] at h3
    refine row_step h3 fun k _ hk => (hW' k (by omega)).trans (HB.out.block k hk)
  have HA : Hid (Below W.heap.size W (W.drew.alloc (.cells #[.int .i64 xw, .string xn, .int .i64 xo, .int .i64 xv, .int .i64 xf, .int .i64 xt, .int .i64 xl] 61))) := (Below.refl _ _).drew.alloc (Nat.le_refl _) _
  have HNb : Hid (some b ≠ (Value.slice sa n c).ownBlock) := fun e => by
    have := (HF.out.row.block e.symm).1
    have := HF.out.lt
    omega
  have HNW := hidLL (fctNews W ⟨xw, xn, xo, xv, xf, xt, xl⟩ 61)
  have HOC := hidLL (fctOne ⟨xw, xn, xo, xv, xf, xt, xl⟩)
  have hBW : B ≤ W.heap.size := by omega
  go_region_law
    (first
      | (refine step_append_where rfl (.tmp 86) (.tmp 88) 77 rfl B 61 i0 z 7 64 Tryz.underlying77 HI.out.1 HI.out.2.1 HI.out.2.2.1 HI.out.2.2.2.1 HI.out.2.2.2.2 (by decide) (.slice sa n c) n (fcells L) (by first | (simp [Act.eval]; done) | simp [Act.eval, Act.put]) (HKD.out _ (fun k hk => Below.heap_alloc W.drew _ k hk)) ⟨W.heap.size, 0, none⟩ 1 1 (fctC ⟨xw, xn, xo, xv, xf, xt, xl⟩) (by first | (simp [Act.eval]; done) | simp [Act.eval, Act.put]) rfl HNW.out HOC.out (by decide) (by unfold maxLen; omega) (by omega) (by simp; omega) ?_
         intro v' w' ho hg hw
         have y3 := (grown_cell (a := ⟨b, 0, none⟩) HA.out hg (show b < W.heap.size by omega) HNb.out).1.trans cW
         have y4 := (grown_cell (a := ⟨b, 0, none⟩) HA.out hg (show b < W.heap.size by omega) HNb.out).2.trans fW
         obtain ⟨a', c', hv'⟩ := row_any ho
         subst hv'
         have HH := hidLL (And.intro ho hg)
         clear ho hg hw))
  all_goals
    go_wp2
    go_ret
    exact ⟨rfl, _, _, _, rfl, HH.out.1, HB.out.trans (HA.out.mono (by omega)), HH.out.2⟩
end Go.Proofs.YtcfeflkhmncmjaaGreatDoor

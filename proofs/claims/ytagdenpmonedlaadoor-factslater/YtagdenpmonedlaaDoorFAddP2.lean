/-
  Facts: Add, what is told of wrong facts (written by tools/genfadd.py).
-/
import Derived.Test.YtagdenpmonedlaaDoorFMem
import Derived.Deep.RegionLaw
import Derived.Deep.DeepCutAuto
namespace Go.Proofs.YtagdenpmonedlaaDoor
open Go.RowKit Go.Extern.Stop Go.Stop Go.Extern

set_option maxHeartbeats 2000000 in
set_option maxRecDepth 20000 in
theorem pAdd_8 {b n c : Nat} {w : World} {sa : Option Addr} (xw xv xf xt xl : Int) (xn : ByteArray) (hs : xn.size ≤ 100000) (p : Nat → Addr) (Lw : Laid w p) (hc : w.cell? ⟨b, 0, none⟩ = some (.slice sa n c)) (hb : b < w.heap.size) (hn : ¬ 500 ≤ n) (hm : isWordB xn = true) (hk : perB xw = true) (hw : ¬ (-1 : Int) = xw) (hv : valB xv = true) (hf : dyB xf = true) (hl : dyB xl = true) (ht : ¬ xt = 0) (hx : dyB xt = false) :
    Calls Tryd.prog 20 #[.pointer (some ⟨b, 0, none⟩), .agg #[.int .i64 xw, .string xn, .int .i64 (-1), .int .i64 xv, .int .i64 xf, .int .i64 xt, .int .i64 xl]] w fun e w' => e = .returned (.iface 127 (.pointer (some (p 3)))) ∧ Below w.heap.size w w' := by
  have hg : w.cell? ⟨4, 0, none⟩ = some (.iface 127 (.pointer (some (p 3)))) := Lw.cell 3 (by omega)
  have hl := Lw.lt
  have hg2 : (w.alloc (.cells #[.int .i64 xw, .string xn, .int .i64 (-1), .int .i64 xv, .int .i64 xf, .int .i64 xt, .int .i64 xl] 32)).cell? ⟨4, 0, none⟩ = some (.iface 127 (.pointer (some (p 3)))) := ((Lw.alloc _).cell 3 (by omega))
  clear Lw
  have HW := hidLL (isWord_f xn hs)
  have HP := hidLL isPerson_f
  have HV := hidLL isValue_f
  have HD := hidLL isDay_f
  have hw2 : ¬ xw = -1 := fun e => hw e.symm
  have hnz : ¬ (500 : Int) ≤ n := by omega
  have HB : Hid (∀ o : Obj, Below w.heap.size w (w.alloc o)) := fun o => (Below.refl _ _).alloc (Nat.le_refl _) o
  go_enter Tryd.func20, Tryd.ntmps20
  go_wp2_with (first | (go_at_call 29; refine (HW.out _).mono ?_; rintro e w' ⟨rfl, rfl⟩) | (go_at_call 30; refine (HP.out _ _).mono ?_; rintro e w' ⟨rfl, rfl⟩) | (go_at_call 31; refine (HV.out _ _).mono ?_; rintro e w' ⟨rfl, rfl⟩) | (go_at_call 32; refine (HD.out _ _).mono ?_; rintro e w' ⟨rfl, rfl⟩))
  all_goals (go_ret; exact ⟨rfl, HB.out _⟩)
set_option maxHeartbeats 2000000 in
set_option maxRecDepth 20000 in
theorem pAdd_9 {b n c : Nat} {w : World} {sa : Option Addr} (xw xv xf xt xl : Int) (xn : ByteArray) (hs : xn.size ≤ 100000) (p : Nat → Addr) (Lw : Laid w p) (hc : w.cell? ⟨b, 0, none⟩ = some (.slice sa n c)) (hb : b < w.heap.size) (hn : ¬ 500 ≤ n) (hm : isWordB xn = true) (hk : perB xw = true) (hw : ¬ (-1 : Int) = xw) (hv : valB xv = true) (hf : dyB xf = true) (hl : dyB xl = true) (ht : ¬ xt = 0) (hx : dyB xt = true) (hy : xt ≤ xf) :
    Calls Tryd.prog 20 #[.pointer (some ⟨b, 0, none⟩), .agg #[.int .i64 xw, .string xn, .int .i64 (-1), .int .i64 xv, .int .i64 xf, .int .i64 xt, .int .i64 xl]] w fun e w' => e = .returned (.iface 127 (.pointer (some (p 3)))) ∧ Below w.heap.size w w' := by
  have hg : w.cell? ⟨4, 0, none⟩ = some (.iface 127 (.pointer (some (p 3)))) := Lw.cell 3 (by omega)
  have hl := Lw.lt
  have hg2 : (w.alloc (.cells #[.int .i64 xw, .string xn, .int .i64 (-1), .int .i64 xv, .int .i64 xf, .int .i64 xt, .int .i64 xl] 32)).cell? ⟨4, 0, none⟩ = some (.iface 127 (.pointer (some (p 3)))) := ((Lw.alloc _).cell 3 (by omega))
  clear Lw
  have HW := hidLL (isWord_f xn hs)
  have HP := hidLL isPerson_f
  have HV := hidLL isValue_f
  have HD := hidLL isDay_f
  have hw2 : ¬ xw = -1 := fun e => hw e.symm
  have hnz : ¬ (500 : Int) ≤ n := by omega
  have HB : Hid (∀ o : Obj, Below w.heap.size w (w.alloc o)) := fun o => (Below.refl _ _).alloc (Nat.le_refl _) o
  go_enter Tryd.func20, Tryd.ntmps20
  go_wp2_with (first | (go_at_call 29; refine (HW.out _).mono ?_; rintro e w' ⟨rfl, rfl⟩) | (go_at_call 30; refine (HP.out _ _).mono ?_; rintro e w' ⟨rfl, rfl⟩) | (go_at_call 31; refine (HV.out _ _).mono ?_; rintro e w' ⟨rfl, rfl⟩) | (go_at_call 32; refine (HD.out _ _).mono ?_; rintro e w' ⟨rfl, rfl⟩))
  all_goals (go_ret; exact ⟨rfl, HB.out _⟩)
set_option maxHeartbeats 2000000 in
set_option maxRecDepth 20000 in
theorem pAdd_12 {b n c : Nat} {w : World} {sa : Option Addr} (xw xo xv xf xt xl : Int) (xn : ByteArray) (hs : xn.size ≤ 100000) (p : Nat → Addr) (Lw : Laid w p) (hc : w.cell? ⟨b, 0, none⟩ = some (.slice sa n c)) (hb : b < w.heap.size) (hn : ¬ 500 ≤ n) (hm : isWordB xn = true) (hk : perB xw = true) (ho : ¬ xo = -1) (hq : perB xo = true) (hw : ¬ xo = xw) (hv : valB xv = false) :
    Calls Tryd.prog 20 #[.pointer (some ⟨b, 0, none⟩), .agg #[.int .i64 xw, .string xn, .int .i64 xo, .int .i64 xv, .int .i64 xf, .int .i64 xt, .int .i64 xl]] w fun e w' => e = .returned (.iface 127 (.pointer (some (p 2)))) ∧ Below w.heap.size w w' := by
  have hg : w.cell? ⟨3, 0, none⟩ = some (.iface 127 (.pointer (some (p 2)))) := Lw.cell 2 (by omega)
  have hl := Lw.lt
  have hg2 : (w.alloc (.cells #[.int .i64 xw, .string xn, .int .i64 xo, .int .i64 xv, .int .i64 xf, .int .i64 xt, .int .i64 xl] 32)).cell? ⟨3, 0, none⟩ = some (.iface 127 (.pointer (some (p 2)))) := ((Lw.alloc _).cell 2 (by omega))
  clear Lw
  have HW := hidLL (isWord_f xn hs)
  have HP := hidLL isPerson_f
  have HV := hidLL isValue_f
  have HD := hidLL isDay_f
  have hnz : ¬ (500 : Int) ≤ n := by omega
  have HB : Hid (∀ o : Obj, Below w.heap.size w (w.alloc o)) := fun o => (Below.refl _ _).alloc (Nat.le_refl _) o
  go_enter Tryd.func20, Tryd.ntmps20
  go_wp2_with (first | (go_at_call 29; refine (HW.out _).mono ?_; rintro e w' ⟨rfl, rfl⟩) | (go_at_call 30; refine (HP.out _ _).mono ?_; rintro e w' ⟨rfl, rfl⟩) | (go_at_call 31; refine (HV.out _ _).mono ?_; rintro e w' ⟨rfl, rfl⟩) | (go_at_call 32; refine (HD.out _ _).mono ?_; rintro e w' ⟨rfl, rfl⟩))
  all_goals (go_ret; exact ⟨rfl, HB.out _⟩)
set_option maxHeartbeats 2000000 in
set_option maxRecDepth 20000 in
theorem pAdd_13 {b n c : Nat} {w : World} {sa : Option Addr} (xw xo xv xf xt xl : Int) (xn : ByteArray) (hs : xn.size ≤ 100000) (p : Nat → Addr) (Lw : Laid w p) (hc : w.cell? ⟨b, 0, none⟩ = some (.slice sa n c)) (hb : b < w.heap.size) (hn : ¬ 500 ≤ n) (hm : isWordB xn = true) (hk : perB xw = true) (ho : ¬ xo = -1) (hq : perB xo = true) (hw : ¬ xo = xw) (hv : valB xv = true) (hf : dyB xf = false) :
    Calls Tryd.prog 20 #[.pointer (some ⟨b, 0, none⟩), .agg #[.int .i64 xw, .string xn, .int .i64 xo, .int .i64 xv, .int .i64 xf, .int .i64 xt, .int .i64 xl]] w fun e w' => e = .returned (.iface 127 (.pointer (some (p 3)))) ∧ Below w.heap.size w w' := by
  have hg : w.cell? ⟨4, 0, none⟩ = some (.iface 127 (.pointer (some (p 3)))) := Lw.cell 3 (by omega)
  have hl := Lw.lt
  have hg2 : (w.alloc (.cells #[.int .i64 xw, .string xn, .int .i64 xo, .int .i64 xv, .int .i64 xf, .int .i64 xt, .int .i64 xl] 32)).cell? ⟨4, 0, none⟩ = some (.iface 127 (.pointer (some (p 3)))) := ((Lw.alloc _).cell 3 (by omega))
  clear Lw
  have HW := hidLL (isWord_f xn hs)
  have HP := hidLL isPerson_f
  have HV := hidLL isValue_f
  have HD := hidLL isDay_f
  have hnz : ¬ (500 : Int) ≤ n := by omega
  have HB : Hid (∀ o : Obj, Below w.heap.size w (w.alloc o)) := fun o => (Below.refl _ _).alloc (Nat.le_refl _) o
  go_enter Tryd.func20, Tryd.ntmps20
  go_wp2_with (first | (go_at_call 29; refine (HW.out _).mono ?_; rintro e w' ⟨rfl, rfl⟩) | (go_at_call 30; refine (HP.out _ _).mono ?_; rintro e w' ⟨rfl, rfl⟩) | (go_at_call 31; refine (HV.out _ _).mono ?_; rintro e w' ⟨rfl, rfl⟩) | (go_at_call 32; refine (HD.out _ _).mono ?_; rintro e w' ⟨rfl, rfl⟩))
  all_goals (go_ret; exact ⟨rfl, HB.out _⟩)
set_option maxHeartbeats 2000000 in
set_option maxRecDepth 20000 in
theorem pAdd_14 {b n c : Nat} {w : World} {sa : Option Addr} (xw xo xv xf xt xl : Int) (xn : ByteArray) (hs : xn.size ≤ 100000) (p : Nat → Addr) (Lw : Laid w p) (hc : w.cell? ⟨b, 0, none⟩ = some (.slice sa n c)) (hb : b < w.heap.size) (hn : ¬ 500 ≤ n) (hm : isWordB xn = true) (hk : perB xw = true) (ho : ¬ xo = -1) (hq : perB xo = true) (hw : ¬ xo = xw) (hv : valB xv = true) (hf : dyB xf = true) (hl : dyB xl = false) :
    Calls Tryd.prog 20 #[.pointer (some ⟨b, 0, none⟩), .agg #[.int .i64 xw, .string xn, .int .i64 xo, .int .i64 xv, .int .i64 xf, .int .i64 xt, .int .i64 xl]] w fun e w' => e = .returned (.iface 127 (.pointer (some (p 3)))) ∧ Below w.heap.size w w' := by
  have hg : w.cell? ⟨4, 0, none⟩ = some (.iface 127 (.pointer (some (p 3)))) := Lw.cell 3 (by omega)
  have hl := Lw.lt
  have hg2 : (w.alloc (.cells #[.int .i64 xw, .string xn, .int .i64 xo, .int .i64 xv, .int .i64 xf, .int .i64 xt, .int .i64 xl] 32)).cell? ⟨4, 0, none⟩ = some (.iface 127 (.pointer (some (p 3)))) := ((Lw.alloc _).cell 3 (by omega))
  clear Lw
  have HW := hidLL (isWord_f xn hs)
  have HP := hidLL isPerson_f
  have HV := hidLL isValue_f
  have HD := hidLL isDay_f
  have hnz : ¬ (500 : Int) ≤ n := by omega
  have HB : Hid (∀ o : Obj, Below w.heap.size w (w.alloc o)) := fun o => (Below.refl _ _).alloc (Nat.le_refl _) o
  go_enter Tryd.func20, Tryd.ntmps20
  go_wp2_with (first | (go_at_call 29; refine (HW.out _).mono ?_; rintro e w' ⟨rfl, rfl⟩) | (go_at_call 30; refine (HP.out _ _).mono ?_; rintro e w' ⟨rfl, rfl⟩) | (go_at_call 31; refine (HV.out _ _).mono ?_; rintro e w' ⟨rfl, rfl⟩) | (go_at_call 32; refine (HD.out _ _).mono ?_; rintro e w' ⟨rfl, rfl⟩))
  all_goals (go_ret; exact ⟨rfl, HB.out _⟩)
set_option maxHeartbeats 2000000 in
set_option maxRecDepth 20000 in
theorem pAdd_15 {b n c : Nat} {w : World} {sa : Option Addr} (xw xo xv xf xt xl : Int) (xn : ByteArray) (hs : xn.size ≤ 100000) (p : Nat → Addr) (Lw : Laid w p) (hc : w.cell? ⟨b, 0, none⟩ = some (.slice sa n c)) (hb : b < w.heap.size) (hn : ¬ 500 ≤ n) (hm : isWordB xn = true) (hk : perB xw = true) (ho : ¬ xo = -1) (hq : perB xo = true) (hw : ¬ xo = xw) (hv : valB xv = true) (hf : dyB xf = true) (hl : dyB xl = true) (ht : ¬ xt = 0) (hx : dyB xt = false) :
    Calls Tryd.prog 20 #[.pointer (some ⟨b, 0, none⟩), .agg #[.int .i64 xw, .string xn, .int .i64 xo, .int .i64 xv, .int .i64 xf, .int .i64 xt, .int .i64 xl]] w fun e w' => e = .returned (.iface 127 (.pointer (some (p 3)))) ∧ Below w.heap.size w w' := by
  have hg : w.cell? ⟨4, 0, none⟩ = some (.iface 127 (.pointer (some (p 3)))) := Lw.cell 3 (by omega)
  have hl := Lw.lt
  have hg2 : (w.alloc (.cells #[.int .i64 xw, .string xn, .int .i64 xo, .int .i64 xv, .int .i64 xf, .int .i64 xt, .int .i64 xl] 32)).cell? ⟨4, 0, none⟩ = some (.iface 127 (.pointer (some (p 3)))) := ((Lw.alloc _).cell 3 (by omega))
  clear Lw
  have HW := hidLL (isWord_f xn hs)
  have HP := hidLL isPerson_f
  have HV := hidLL isValue_f
  have HD := hidLL isDay_f
  have hnz : ¬ (500 : Int) ≤ n := by omega
  have HB : Hid (∀ o : Obj, Below w.heap.size w (w.alloc o)) := fun o => (Below.refl _ _).alloc (Nat.le_refl _) o
  go_enter Tryd.func20, Tryd.ntmps20
  go_wp2_with (first | (go_at_call 29; refine (HW.out _).mono ?_; rintro e w' ⟨rfl, rfl⟩) | (go_at_call 30; refine (HP.out _ _).mono ?_; rintro e w' ⟨rfl, rfl⟩) | (go_at_call 31; refine (HV.out _ _).mono ?_; rintro e w' ⟨rfl, rfl⟩) | (go_at_call 32; refine (HD.out _ _).mono ?_; rintro e w' ⟨rfl, rfl⟩))
  all_goals (go_ret; exact ⟨rfl, HB.out _⟩)
set_option maxHeartbeats 2000000 in
set_option maxRecDepth 20000 in
theorem pAdd_16 {b n c : Nat} {w : World} {sa : Option Addr} (xw xo xv xf xt xl : Int) (xn : ByteArray) (hs : xn.size ≤ 100000) (p : Nat → Addr) (Lw : Laid w p) (hc : w.cell? ⟨b, 0, none⟩ = some (.slice sa n c)) (hb : b < w.heap.size) (hn : ¬ 500 ≤ n) (hm : isWordB xn = true) (hk : perB xw = true) (ho : ¬ xo = -1) (hq : perB xo = true) (hw : ¬ xo = xw) (hv : valB xv = true) (hf : dyB xf = true) (hl : dyB xl = true) (ht : ¬ xt = 0) (hx : dyB xt = true) (hy : xt ≤ xf) :
    Calls Tryd.prog 20 #[.pointer (some ⟨b, 0, none⟩), .agg #[.int .i64 xw, .string xn, .int .i64 xo, .int .i64 xv, .int .i64 xf, .int .i64 xt, .int .i64 xl]] w fun e w' => e = .returned (.iface 127 (.pointer (some (p 3)))) ∧ Below w.heap.size w w' := by
  have hg : w.cell? ⟨4, 0, none⟩ = some (.iface 127 (.pointer (some (p 3)))) := Lw.cell 3 (by omega)
  have hl := Lw.lt
  have hg2 : (w.alloc (.cells #[.int .i64 xw, .string xn, .int .i64 xo, .int .i64 xv, .int .i64 xf, .int .i64 xt, .int .i64 xl] 32)).cell? ⟨4, 0, none⟩ = some (.iface 127 (.pointer (some (p 3)))) := ((Lw.alloc _).cell 3 (by omega))
  clear Lw
  have HW := hidLL (isWord_f xn hs)
  have HP := hidLL isPerson_f
  have HV := hidLL isValue_f
  have HD := hidLL isDay_f
  have hnz : ¬ (500 : Int) ≤ n := by omega
  have HB : Hid (∀ o : Obj, Below w.heap.size w (w.alloc o)) := fun o => (Below.refl _ _).alloc (Nat.le_refl _) o
  go_enter Tryd.func20, Tryd.ntmps20
  go_wp2_with (first | (go_at_call 29; refine (HW.out _).mono ?_; rintro e w' ⟨rfl, rfl⟩) | (go_at_call 30; refine (HP.out _ _).mono ?_; rintro e w' ⟨rfl, rfl⟩) | (go_at_call 31; refine (HV.out _ _).mono ?_; rintro e w' ⟨rfl, rfl⟩) | (go_at_call 32; refine (HD.out _ _).mono ?_; rintro e w' ⟨rfl, rfl⟩))
  all_goals (go_ret; exact ⟨rfl, HB.out _⟩)
end Go.Proofs.YtagdenpmonedlaaDoor

/-
  Package amend: put's regions that draw their order (written by tools/genput.py).
-/
import Derived.Test.YtpbolcjcmkmalaaGreatDoorFo24
import Derived.Test.YtpbolcjcmkmalaaGreatDoorFo28
import Derived.Test.YtpbolcjcmkmalaaGreatDoorFo21
import Derived.Test.YtpbolcjcmkmalaaGreatDoorFo10
import Derived.Deep.RegionWith
import Derived.Deep.DrawnRows
namespace Go.Proofs.YtpbolcjcmkmalaaGreatDoor
open Go.RowKit
set_option linter.unusedVariables false

section
variable {ρ : Operand → Value} {dst : Option Tmp} {ty : TypeId} {ps : String} {af : Array Go.Edge} {g : Option (Nat × Bool)} {w : World} {x y z : Operand}
set_option maxRecDepth 20000
theorem x_opItem {b : Nat} (h : ρ x = .pointer (some ⟨b, 0, none⟩)) : (execOp ρ ⟨dst, .fieldAddr 46 x 6, ty, ps, af, g⟩).run Tryz.prog w = .ok (.value (.pointer (some ⟨b, 6, none⟩))) w := by
  simp only [execOp, h]
  go_simp
theorem x_copy {a : Value} {t0 : TypeId} (h : ρ x = a) (hf : ρ (.func 17) = .func (.func 17) #[] #[]) : (execOp ρ ⟨dst, .call { callee := .value (.func 17), args := #[x], argTypes := #[t0] }, ty, ps, af, g⟩).run Tryz.prog w = .ok (.enter 17 #[a]) w := by
  simp [execOp, go_sem, h, hf]
theorem x_idx {g0 n c j : Nat} (h : ρ x = .slice (some ⟨g0, 0, none⟩) n c) (h2 : ρ y = .int .i64 j) (hj : j < n) : (execOp ρ ⟨dst, .indexAddr 23 x y, ty, ps, af, g⟩).run Tryz.prog w = .ok (.value (.pointer (some ⟨g0, j * 4, none⟩))) w := by
  simp only [execOp, h, h2]
  have h3 : ¬ ((n : Int) ≤ (j : Int)) := by omega
  have h4 : ((j : Int) < (n : Int)) := by omega
  go_simp
theorem x_stItem {b o : Nat} {v : Nat → Value} {lab hd : ByteArray} {la ka : Option Addr} {ln lc kn kc : Nat} (h : ρ x = .pointer (some ⟨b, o, none⟩)) (h2 : ρ y = .agg #[v 0, v 1, v 2, v 3]) (v0 : v 0 = .string lab) (v1 : v 1 = .string hd) (v2 : v 2 = .slice la ln lc) (v3 : v 3 = .slice ka kn kc) {u0 u1 u2 u3 : Value} (c0 : w.cell? ⟨b, o, none⟩ = some u0) (c1 : w.cell? ⟨b, o + 1, none⟩ = some u1) (c2 : w.cell? ⟨b, o + 2, none⟩ = some u2) (c3 : w.cell? ⟨b, o + 3, none⟩ = some u3) (f0 : w.frozen? ⟨b, o, none⟩ = false) (f1 : w.frozen? ⟨b, o + 1, none⟩ = false) (f2 : w.frozen? ⟨b, o + 2, none⟩ = false) (f3 : w.frozen? ⟨b, o + 3, none⟩ = false) : (execOp ρ ⟨dst, .store 25 x y, ty, ps, af, g⟩).run Tryz.prog w = .ok .skip ((((w.setCell ⟨b, o, none⟩ (v 0)).setCell ⟨b, o + 1, none⟩ (v 1)).setCell ⟨b, o + 2, none⟩ (v 2)).setCell ⟨b, o + 3, none⟩ (v 3)) := by
  rw [v0, v1, v2, v3] at h2
  rw [v0, v1, v2, v3]
  clear v0 v1 v2 v3
  simp only [execOp, h, h2]
  go_simp
end
def puA0 : Oper := { dst := some 16, op := Op.move (Operand.tmp 5), type := 51, pos := "amend.go:55", after := #[], guard := none }
def puA1 : Oper := { dst := some 17, op := Op.nilCheck (Operand.tmp 16), type := 0, pos := "amend.go:55", after := #[{ on := 0, ground := Ground.data }], guard := none }
def puA2 : Oper := { dst := some 18, op := Op.fieldAddr 25 (Operand.tmp 17) 3, type := 0, pos := "amend.go:55", after := #[{ on := 1, ground := Ground.data }], guard := none }
def puA3 : Oper := { dst := some 19, op := Op.load 23 (Operand.tmp 18), type := 23, pos := "amend.go:55", after := #[{ on := 2, ground := Ground.data }], guard := none }
def puA4 : Oper := { dst := some 20, op := Op.fieldAddr 46 (Operand.tmp 3) 2, type := 0, pos := "amend.go:55", after := #[], guard := none }
def puA5 : Oper := { dst := some 21, op := Op.load 9 (Operand.tmp 20), type := 9, pos := "amend.go:55", after := #[{ on := 4, ground := Ground.data }], guard := none }
def puA6 : Oper := { dst := some 22, op := Op.call { callee := Callee.value (Operand.func 76), args := #[Operand.tmp 19, Operand.tmp 21], argTypes := #[23, 9] }, type := 3, pos := "amend.go:55", after := #[{ on := 3, ground := Ground.data }, { on := 5, ground := Ground.data }], guard := none }
def puA7 : Oper := { dst := some 6, op := Op.assign (Operand.tmp 22), type := 3, pos := "amend.go:55", after := #[{ on := 6, ground := Ground.data }, { on := 6, ground := Ground.chain }, { on := 0, ground := Ground.phase }, { on := 1, ground := Ground.phase }, { on := 2, ground := Ground.phase }, { on := 3, ground := Ground.phase }, { on := 4, ground := Ground.phase }, { on := 5, ground := Ground.phase }, { on := 6, ground := Ground.phase }], guard := none }
def puAL : List Oper := [puA0, puA1, puA2, puA3, puA4, puA5, puA6, puA7]
theorem seven7 {mid : List Value} (h : mid.length = 7) : ∃ u0 u1 u2 u3 u4 u5 u6 : Value, mid = [u0, u1, u2, u3, u4, u5, u6] := by
  match mid, h with
  | [u0, u1, u2, u3, u4, u5, u6], _ => exact ⟨_, _, _, _, _, _, _, rfl⟩
set_option maxRecDepth 20000 in
theorem puA_go {C : World → Prop} {Q : Act → Prop} {pre mid suf : List Value} {d : List Deferred} (hk : pre.length = 16) (hm : mid.length = 7) {b1 o1 g0 : Nat} {ka : Option Addr} {zn kc : Nat} {at' : ByteArray} {n1 : Int}
    (p5 : pre[5]? = some (.pointer (some ⟨b1, o1, none⟩))) (p3 : pre[3]? = some (.pointer (some ⟨g0, 0, none⟩))) (h3 : ∀ W, C W → W.cell? ⟨b1, o1 + 3, none⟩ = some (.slice ka zn kc)) (hA : ∀ W, C W → W.cell? ⟨g0, 2, none⟩ = some (.string at'))
    (hB : ∀ W, C W → Calls Tryz.prog 76 #[.slice ka zn kc, .string at'] W fun e w' => e = .returned (.int .i64 n1) ∧ C w')
    (hQ : ∀ m : List Value, m.length = 7 → Q (MA (pre.set 6 (.int .i64 n1)) m suf d)) : wpQuiet Tryz.prog puAL.toArray C Q puAL (MA pre mid suf d) := by
  obtain ⟨u0, u1, u2, u3, u4, u5, u6, rfl⟩ := seven7 hm
  refine mq_val (.pointer (some ⟨b1, o1, none⟩)) hk rfl (by decide) (by simp) (want0 rfl) (fun W hW => x_move (MA.lo p5)) ?_
  show wpQuiet _ _ C Q _ (MA pre [.pointer (some ⟨b1, o1, none⟩), u1, u2, u3, u4, u5, u6] suf d)
  refine mq_val (.pointer (some ⟨b1, o1, none⟩)) hk rfl (by decide) (by simp) (want0 rfl) (fun W hW => x_nil (MA.hi hk (by decide) rfl)) ?_
  show wpQuiet _ _ C Q _ (MA pre [.pointer (some ⟨b1, o1, none⟩), .pointer (some ⟨b1, o1, none⟩), u2, u3, u4, u5, u6] suf d)
  refine mq_val (.pointer (some ⟨b1, o1 + 3, none⟩)) hk rfl (by decide) (by simp) (want0 rfl) (fun W hW => x_kids (MA.hi hk (by decide) rfl)) ?_
  show wpQuiet _ _ C Q _ (MA pre [.pointer (some ⟨b1, o1, none⟩), .pointer (some ⟨b1, o1, none⟩), .pointer (some ⟨b1, o1 + 3, none⟩), u3, u4, u5, u6] suf d)
  refine mq_val (.slice ka zn kc) hk rfl (by decide) (by simp) (want0 rfl) (fun W hW => x_ldK (MA.hi hk (by decide) rfl) (h3 W hW)) ?_
  show wpQuiet _ _ C Q _ (MA pre [.pointer (some ⟨b1, o1, none⟩), .pointer (some ⟨b1, o1, none⟩), .pointer (some ⟨b1, o1 + 3, none⟩), .slice ka zn kc, u4, u5, u6] suf d)
  refine mq_val (.pointer (some ⟨g0, 2, none⟩)) hk rfl (by decide) (by simp) (want0 rfl) (fun W hW => x_opAt (MA.lo p3)) ?_
  show wpQuiet _ _ C Q _ (MA pre [.pointer (some ⟨b1, o1, none⟩), .pointer (some ⟨b1, o1, none⟩), .pointer (some ⟨b1, o1 + 3, none⟩), .slice ka zn kc, .pointer (some ⟨g0, 2, none⟩), u5, u6] suf d)
  refine mq_val (.string at') hk rfl (by decide) (by simp) (want0 rfl) (fun W hW => x_ldS (MA.hi hk (by decide) rfl) (hA W hW)) ?_
  show wpQuiet _ _ C Q _ (MA pre [.pointer (some ⟨b1, o1, none⟩), .pointer (some ⟨b1, o1, none⟩), .pointer (some ⟨b1, o1 + 3, none⟩), .slice ka zn kc, .pointer (some ⟨g0, 2, none⟩), .string at', u6] suf d)
  refine mq_call 76 #[.slice ka zn kc, .string at'] (.int .i64 n1) hk rfl (by decide) (by simp) (want0 rfl) (fun W hW => x_behind (MA.hi hk (by decide) rfl) (MA.hi hk (by decide) rfl) rfl) (fun W hW => hB W hW) ?_
  show wpQuiet _ _ C Q _ (MA pre [.pointer (some ⟨b1, o1, none⟩), .pointer (some ⟨b1, o1, none⟩), .pointer (some ⟨b1, o1 + 3, none⟩), .slice ka zn kc, .pointer (some ⟨g0, 2, none⟩), .string at', .int .i64 n1] suf d)
  refine mq_lo (.int .i64 n1) rfl (by omega) (want0 rfl) (fun W hW => x_assign (MA.hi hk (by decide) rfl)) ?_
  exact wpQuiet_nil (hQ _ rfl)
def puB0 : Oper := { dst := some 26, op := Op.move (Operand.tmp 5), type := 51, pos := "amend.go:59", after := #[], guard := none }
def puB1 : Oper := { dst := some 27, op := Op.nilCheck (Operand.tmp 26), type := 0, pos := "amend.go:59", after := #[{ on := 0, ground := Ground.data }], guard := none }
def puB2 : Oper := { dst := some 28, op := Op.fieldAddr 25 (Operand.tmp 27) 3, type := 0, pos := "amend.go:59", after := #[{ on := 1, ground := Ground.data }], guard := none }
def puB3 : Oper := { dst := some 29, op := Op.load 23 (Operand.tmp 28), type := 23, pos := "amend.go:59", after := #[{ on := 2, ground := Ground.data }], guard := none }
def puB4 : Oper := { dst := some 30, op := Op.fieldAddr 46 (Operand.tmp 3) 6, type := 0, pos := "amend.go:59", after := #[], guard := none }
def puB5 : Oper := { dst := some 31, op := Op.fieldAddr 25 (Operand.tmp 30) 0, type := 0, pos := "amend.go:59", after := #[{ on := 4, ground := Ground.data }], guard := none }
def puB6 : Oper := { dst := some 32, op := Op.load 9 (Operand.tmp 31), type := 9, pos := "amend.go:59", after := #[{ on := 5, ground := Ground.data }], guard := none }
def puB7 : Oper := { dst := some 33, op := Op.call { callee := Callee.value (Operand.func 69), args := #[Operand.tmp 29, Operand.tmp 32], argTypes := #[23, 9] }, type := 3, pos := "amend.go:59", after := #[{ on := 3, ground := Ground.data }, { on := 6, ground := Ground.data }], guard := none }
def puB8 : Oper := { dst := some 34, op := Op.binOp BinOp.geq 3 (Operand.tmp 33) (Operand.const (Value.int IntKind.i64 0)) 3, type := 4, pos := "amend.go:59", after := #[{ on := 7, ground := Ground.data }], guard := none }
def puBL : List Oper := [puB0, puB1, puB2, puB3, puB4, puB5, puB6, puB7, puB8]
theorem nine9 {mid : List Value} (h : mid.length = 9) : ∃ u0 u1 u2 u3 u4 u5 u6 u7 u8 : Value, mid = [u0, u1, u2, u3, u4, u5, u6, u7, u8] := by
  match mid, h with
  | [u0, u1, u2, u3, u4, u5, u6, u7, u8], _ => exact ⟨_, _, _, _, _, _, _, _, _, rfl⟩
set_option maxRecDepth 20000 in
theorem puB_go {C : World → Prop} {Q : Act → Prop} {pre mid suf : List Value} {d : List Deferred} (hk : pre.length = 26) (hm : mid.length = 9) {b1 o1 g0 : Nat} {ka : Option Addr} {zn kc : Nat} {lab : ByteArray} {n1 : Int} {same : Bool}
    (p5 : pre[5]? = some (.pointer (some ⟨b1, o1, none⟩))) (p3 : pre[3]? = some (.pointer (some ⟨g0, 0, none⟩))) (h3 : ∀ W, C W → W.cell? ⟨b1, o1 + 3, none⟩ = some (.slice ka zn kc)) (hA : ∀ W, C W → W.cell? ⟨g0, 6, none⟩ = some (.string lab))
    (hB : ∀ W, C W → Calls Tryz.prog 69 #[.slice ka zn kc, .string lab] W fun e w' => e = .returned (.int .i64 n1) ∧ C w') (hs : decide (0 ≤ n1) = same)
    (hQ : ∀ m : List Value, m.length = 9 → m[8]? = some (.bool same) → Q (MA pre m suf d)) : wpQuiet Tryz.prog puBL.toArray C Q puBL (MA pre mid suf d) := by
  obtain ⟨u0, u1, u2, u3, u4, u5, u6, u7, u8, rfl⟩ := nine9 hm
  refine mq_val (.pointer (some ⟨b1, o1, none⟩)) hk rfl (by decide) (by simp) (want0 rfl) (fun W hW => x_move (MA.lo p5)) ?_
  show wpQuiet _ _ C Q _ (MA pre [.pointer (some ⟨b1, o1, none⟩), u1, u2, u3, u4, u5, u6, u7, u8] suf d)
  refine mq_val (.pointer (some ⟨b1, o1, none⟩)) hk rfl (by decide) (by simp) (want0 rfl) (fun W hW => x_nil (MA.hi hk (by decide) rfl)) ?_
  show wpQuiet _ _ C Q _ (MA pre [.pointer (some ⟨b1, o1, none⟩), .pointer (some ⟨b1, o1, none⟩), u2, u3, u4, u5, u6, u7, u8] suf d)
  refine mq_val (.pointer (some ⟨b1, o1 + 3, none⟩)) hk rfl (by decide) (by simp) (want0 rfl) (fun W hW => x_kids (MA.hi hk (by decide) rfl)) ?_
  show wpQuiet _ _ C Q _ (MA pre [.pointer (some ⟨b1, o1, none⟩), .pointer (some ⟨b1, o1, none⟩), .pointer (some ⟨b1, o1 + 3, none⟩), u3, u4, u5, u6, u7, u8] suf d)
  refine mq_val (.slice ka zn kc) hk rfl (by decide) (by simp) (want0 rfl) (fun W hW => x_ldK (MA.hi hk (by decide) rfl) (h3 W hW)) ?_
  show wpQuiet _ _ C Q _ (MA pre [.pointer (some ⟨b1, o1, none⟩), .pointer (some ⟨b1, o1, none⟩), .pointer (some ⟨b1, o1 + 3, none⟩), .slice ka zn kc, u4, u5, u6, u7, u8] suf d)
  refine mq_val (.pointer (some ⟨g0, 6, none⟩)) hk rfl (by decide) (by simp) (want0 rfl) (fun W hW => x_opItem (MA.lo p3)) ?_
  show wpQuiet _ _ C Q _ (MA pre [.pointer (some ⟨b1, o1, none⟩), .pointer (some ⟨b1, o1, none⟩), .pointer (some ⟨b1, o1 + 3, none⟩), .slice ka zn kc, .pointer (some ⟨g0, 6, none⟩), u5, u6, u7, u8] suf d)
  refine mq_val (.pointer (some ⟨g0, 6, none⟩)) hk rfl (by decide) (by simp) (want0 rfl) (fun W hW => x_label (MA.hi hk (by decide) rfl)) ?_
  show wpQuiet _ _ C Q _ (MA pre [.pointer (some ⟨b1, o1, none⟩), .pointer (some ⟨b1, o1, none⟩), .pointer (some ⟨b1, o1 + 3, none⟩), .slice ka zn kc, .pointer (some ⟨g0, 6, none⟩), .pointer (some ⟨g0, 6, none⟩), u6, u7, u8] suf d)
  refine mq_val (.string lab) hk rfl (by decide) (by simp) (want0 rfl) (fun W hW => x_ldS (MA.hi hk (by decide) rfl) (hA W hW)) ?_
  show wpQuiet _ _ C Q _ (MA pre [.pointer (some ⟨b1, o1, none⟩), .pointer (some ⟨b1, o1, none⟩), .pointer (some ⟨b1, o1 + 3, none⟩), .slice ka zn kc, .pointer (some ⟨g0, 6, none⟩), .pointer (some ⟨g0, 6, none⟩), .string lab, u7, u8] suf d)
  refine mq_call 69 #[.slice ka zn kc, .string lab] (.int .i64 n1) hk rfl (by decide) (by simp) (want0 rfl) (fun W hW => x_labld (MA.hi hk (by decide) rfl) (MA.hi hk (by decide) rfl) rfl) (fun W hW => hB W hW) ?_
  show wpQuiet _ _ C Q _ (MA pre [.pointer (some ⟨b1, o1, none⟩), .pointer (some ⟨b1, o1, none⟩), .pointer (some ⟨b1, o1 + 3, none⟩), .slice ka zn kc, .pointer (some ⟨g0, 6, none⟩), .pointer (some ⟨g0, 6, none⟩), .string lab, .int .i64 n1, u8] suf d)
  refine mq_val (.bool same) hk rfl (by decide) (by simp) (want0 rfl) (fun W hW => x_geq (MA.hi hk (by decide) rfl) rfl hs) ?_
  show wpQuiet _ _ C Q _ (MA pre [.pointer (some ⟨b1, o1, none⟩), .pointer (some ⟨b1, o1, none⟩), .pointer (some ⟨b1, o1 + 3, none⟩), .slice ka zn kc, .pointer (some ⟨g0, 6, none⟩), .pointer (some ⟨g0, 6, none⟩), .string lab, .int .i64 n1, .bool same] suf d)
  exact wpQuiet_nil (hQ _ rfl rfl)
def puC0 : Oper := { dst := some 36, op := Op.move (Operand.tmp 5), type := 51, pos := "amend.go:62", after := #[], guard := none }
def puC1 : Oper := { dst := some 37, op := Op.move (Operand.tmp 5), type := 51, pos := "amend.go:62", after := #[], guard := none }
def puC2 : Oper := { dst := some 38, op := Op.nilCheck (Operand.tmp 37), type := 0, pos := "amend.go:62", after := #[{ on := 1, ground := Ground.data }], guard := none }
def puC3 : Oper := { dst := some 39, op := Op.fieldAddr 25 (Operand.tmp 38) 3, type := 0, pos := "amend.go:62", after := #[{ on := 2, ground := Ground.data }], guard := none }
def puC4 : Oper := { dst := some 40, op := Op.load 23 (Operand.tmp 39), type := 23, pos := "amend.go:62", after := #[{ on := 3, ground := Ground.data }], guard := none }
def puC5 : Oper := { dst := some 41, op := Op.move (Operand.tmp 6), type := 3, pos := "amend.go:62", after := #[], guard := none }
def puC6 : Oper := { dst := some 42, op := Op.fieldAddr 46 (Operand.tmp 3) 6, type := 0, pos := "amend.go:62", after := #[], guard := none }
def puC7 : Oper := { dst := some 43, op := Op.load 25 (Operand.tmp 42), type := 25, pos := "amend.go:62", after := #[{ on := 6, ground := Ground.data }], guard := none }
def puC8 : Oper := { dst := some 44, op := Op.buildSlice 23 1 #[(0, Operand.tmp 43)], type := 23, pos := "amend.go:62", after := #[{ on := 7, ground := Ground.data }], guard := none }
def puC9 : Oper := { dst := some 45, op := Op.call { callee := Callee.value (Operand.func 77), args := #[Operand.tmp 40, Operand.tmp 41, Operand.tmp 44], argTypes := #[23, 3, 23] }, type := 23, pos := "amend.go:62", after := #[{ on := 4, ground := Ground.data }, { on := 5, ground := Ground.data }, { on := 8, ground := Ground.data }], guard := none }
def puC10 : Oper := { dst := some 46, op := Op.nilCheck (Operand.tmp 36), type := 0, pos := "amend.go:62", after := #[{ on := 0, ground := Ground.data }, { on := 0, ground := Ground.phase }, { on := 1, ground := Ground.phase }, { on := 2, ground := Ground.phase }, { on := 3, ground := Ground.phase }, { on := 4, ground := Ground.phase }, { on := 5, ground := Ground.phase }, { on := 6, ground := Ground.phase }, { on := 7, ground := Ground.phase }, { on := 8, ground := Ground.phase }, { on := 9, ground := Ground.phase }], guard := none }
def puC11 : Oper := { dst := some 47, op := Op.fieldAddr 25 (Operand.tmp 46) 3, type := 0, pos := "amend.go:62", after := #[{ on := 10, ground := Ground.data }, { on := 0, ground := Ground.phase }, { on := 1, ground := Ground.phase }, { on := 2, ground := Ground.phase }, { on := 3, ground := Ground.phase }, { on := 4, ground := Ground.phase }, { on := 5, ground := Ground.phase }, { on := 6, ground := Ground.phase }, { on := 7, ground := Ground.phase }, { on := 8, ground := Ground.phase }, { on := 9, ground := Ground.phase }], guard := none }
def puC12 : Oper := { dst := none, op := Op.store 23 (Operand.tmp 47) (Operand.tmp 45), type := 0, pos := "amend.go:62", after := #[{ on := 11, ground := Ground.data }, { on := 9, ground := Ground.data }, { on := 9, ground := Ground.chain }, { on := 0, ground := Ground.phase }, { on := 1, ground := Ground.phase }, { on := 2, ground := Ground.phase }, { on := 3, ground := Ground.phase }, { on := 4, ground := Ground.phase }, { on := 5, ground := Ground.phase }, { on := 6, ground := Ground.phase }, { on := 7, ground := Ground.phase }, { on := 8, ground := Ground.phase }, { on := 9, ground := Ground.phase }], guard := none }
def puCL : List Oper := [puC0, puC1, puC2, puC3, puC4, puC5, puC6, puC7, puC8, puC9, puC10, puC11, puC12]
theorem twelve12 {mid : List Value} (h : mid.length = 12) : ∃ u0 u1 u2 u3 u4 u5 u6 u7 u8 u9 u10 u11 : Value, mid = [u0, u1, u2, u3, u4, u5, u6, u7, u8, u9, u10, u11] := by
  match mid, h with
  | [u0, u1, u2, u3, u4, u5, u6, u7, u8, u9, u10, u11], _ => exact ⟨_, _, _, _, _, _, _, _, _, _, _, _, rfl⟩
set_option maxRecDepth 20000 in
theorem puC_go {W0 : World} {Q : Exit → Act → World → Prop} {pre mid suf : List Value} {d : List Deferred} {b1 o1 g0 zn kc ln lc kn kc2 j : Nat} {ka la ka2 : Option Addr} {lab hd : ByteArray} {R : World → Prop} (hk : pre.length = 36) (hm : mid.length = 12) (HP : NoP Q) (p5 : pre[5]? = some (.pointer (some ⟨b1, o1, none⟩))) (p3 : pre[3]? = some (.pointer (some ⟨g0, 0, none⟩))) (p6 : pre[6]? = some (.int .i64 j))
    (hC : ∀ V, Below W0.heap.size W0 V → V.cell? ⟨b1, o1 + 3, none⟩ = some (.slice ka zn kc) ∧ V.cell? ⟨g0, 6, none⟩ = some (.string lab) ∧ V.cell? ⟨g0, 7, none⟩ = some (.string hd) ∧ V.cell? ⟨g0, 8, none⟩ = some (.slice la ln lc) ∧ V.cell? ⟨g0, 9, none⟩ = some (.slice ka2 kn kc2))
    (hI : ∀ V vb, Below W0.heap.size W0 V → V.heap[vb]? = some (.cells #[.string lab, .string hd, .slice la ln lc, .slice ka2 kn kc2] 25 (0, 0)) → W0.heap.size ≤ vb → Calls Tryz.prog 77 #[.slice ka zn kc, .int .i64 j, .slice (some ⟨vb, 0, none⟩) 1 1] V (fun e w' => ∃ a n c, e = .returned (.slice a n c) ∧ StC b1 o1 3 (.slice a n c) w' R))
    (hQ : ∀ m w'', m.length = 12 → R w'' → Q .normal (MA pre m suf d) w'') {V : World} (hV : Below W0.heap.size W0 V) :
    wpLast Tryz.prog .any puCL.toArray Q (fun V => Below W0.heap.size W0 V) [9, 10, 11, 12] 13 (Array.replicate 13 false) (MA pre mid suf d) V := by
  obtain ⟨u0, u1, u2, u3, u4, u5, u6, u7, u8, u9, u10, u11, rfl⟩ := twelve12 hm
  refine ml_free (i := 0) (oi := puC0) (.pointer (some ⟨b1, o1, none⟩)) HP hk rfl rfl (by decide) (by simp) rfl (by kernel_rfl) (by kernel_rfl) (by kernel_rfl) (by kernel_rfl) (fun W => x_move (MA.lo p5)) ?_
  show wpLast _ _ _ _ _ _ _ _ (MA pre [.pointer (some ⟨b1, o1, none⟩), u1, u2, u3, u4, u5, u6, u7, u8, u9, u10, u11] suf d) _
  refine ml_free (i := 1) (oi := puC1) (.pointer (some ⟨b1, o1, none⟩)) HP hk rfl rfl (by decide) (by simp) rfl (by kernel_rfl) (by kernel_rfl) (by kernel_rfl) (by kernel_rfl) (fun W => x_move (MA.lo p5)) ?_
  show wpLast _ _ _ _ _ _ _ _ (MA pre [.pointer (some ⟨b1, o1, none⟩), .pointer (some ⟨b1, o1, none⟩), u2, u3, u4, u5, u6, u7, u8, u9, u10, u11] suf d) _
  refine ml_free (i := 2) (oi := puC2) (.pointer (some ⟨b1, o1, none⟩)) HP hk rfl rfl (by decide) (by simp) rfl (by kernel_rfl) (by kernel_rfl) (by kernel_rfl) (by kernel_rfl) (fun W => x_nil (MA.hi hk (by decide) rfl)) ?_
  show wpLast _ _ _ _ _ _ _ _ (MA pre [.pointer (some ⟨b1, o1, none⟩), .pointer (some ⟨b1, o1, none⟩), .pointer (some ⟨b1, o1, none⟩), u3, u4, u5, u6, u7, u8, u9, u10, u11] suf d) _
  refine ml_free (i := 3) (oi := puC3) (.pointer (some ⟨b1, o1 + 3, none⟩)) HP hk rfl rfl (by decide) (by simp) rfl (by kernel_rfl) (by kernel_rfl) (by kernel_rfl) (by kernel_rfl) (fun W => x_kids (MA.hi hk (by decide) rfl)) ?_
  show wpLast _ _ _ _ _ _ _ _ (MA pre [.pointer (some ⟨b1, o1, none⟩), .pointer (some ⟨b1, o1, none⟩), .pointer (some ⟨b1, o1, none⟩), .pointer (some ⟨b1, o1 + 3, none⟩), u4, u5, u6, u7, u8, u9, u10, u11] suf d) _
  refine ml_take (i := 4) (oi := puC4) (.slice ka zn kc) HP hk rfl rfl (by decide) (by simp) rfl (by kernel_rfl) (by kernel_rfl) (by kernel_rfl) (by kernel_rfl) (by kernel_rfl) hV (fun W hW => x_ldK (MA.hi hk (by decide) rfl) (hC W hW).1) ?_
  show wpLast _ _ _ _ _ _ _ _ (MA pre [.pointer (some ⟨b1, o1, none⟩), .pointer (some ⟨b1, o1, none⟩), .pointer (some ⟨b1, o1, none⟩), .pointer (some ⟨b1, o1 + 3, none⟩), .slice ka zn kc, u5, u6, u7, u8, u9, u10, u11] suf d) _
  refine ml_free (i := 5) (oi := puC5) (.int .i64 j) HP hk rfl rfl (by decide) (by simp) rfl (by kernel_rfl) (by kernel_rfl) (by kernel_rfl) (by kernel_rfl) (fun W => x_move (MA.lo p6)) ?_
  show wpLast _ _ _ _ _ _ _ _ (MA pre [.pointer (some ⟨b1, o1, none⟩), .pointer (some ⟨b1, o1, none⟩), .pointer (some ⟨b1, o1, none⟩), .pointer (some ⟨b1, o1 + 3, none⟩), .slice ka zn kc, .int .i64 j, u6, u7, u8, u9, u10, u11] suf d) _
  refine ml_free (i := 6) (oi := puC6) (.pointer (some ⟨g0, 6, none⟩)) HP hk rfl rfl (by decide) (by simp) rfl (by kernel_rfl) (by kernel_rfl) (by kernel_rfl) (by kernel_rfl) (fun W => x_opItem (MA.lo p3)) ?_
  show wpLast _ _ _ _ _ _ _ _ (MA pre [.pointer (some ⟨b1, o1, none⟩), .pointer (some ⟨b1, o1, none⟩), .pointer (some ⟨b1, o1, none⟩), .pointer (some ⟨b1, o1 + 3, none⟩), .slice ka zn kc, .int .i64 j, .pointer (some ⟨g0, 6, none⟩), u7, u8, u9, u10, u11] suf d) _
  refine ml_take (i := 7) (oi := puC7) (.agg #[.string lab, .string hd, .slice la ln lc, .slice ka2 kn kc2]) HP hk rfl rfl (by decide) (by simp) rfl (by kernel_rfl) (by kernel_rfl) (by kernel_rfl) (by kernel_rfl) (by kernel_rfl) hV (fun W hW => x_ldItem (MA.hi hk (by decide) rfl) (hC W hW).2.1 (hC W hW).2.2.1 (hC W hW).2.2.2.1 (hC W hW).2.2.2.2) ?_
  show wpLast _ _ _ _ _ _ _ _ (MA pre [.pointer (some ⟨b1, o1, none⟩), .pointer (some ⟨b1, o1, none⟩), .pointer (some ⟨b1, o1, none⟩), .pointer (some ⟨b1, o1 + 3, none⟩), .slice ka zn kc, .int .i64 j, .pointer (some ⟨g0, 6, none⟩), .agg #[.string lab, .string hd, .slice la ln lc, .slice ka2 kn kc2], u8, u9, u10, u11] suf d) _
  refine wpLast_all (rs := [8]) (by kernel_rfl) (by simp) fun j' hj' => ?_
  obtain rfl : j' = 8 := by simpa using hj'
  refine wpOp_val (o := puC8) rfl rfl (x_build1 (lab := lab) (hd := hd) (la := la) (ln := ln) (lc := lc) (ka2 := ka2) (kn := kn) (kc2 := kc2) (MA.hi hk (by decide) rfl)) ⟨fun _ => .inr (hV.alloc hV.size _), ?_⟩
  rw [show (MA pre [.pointer (some ⟨b1, o1, none⟩), .pointer (some ⟨b1, o1, none⟩), .pointer (some ⟨b1, o1, none⟩), .pointer (some ⟨b1, o1 + 3, none⟩), .slice ka zn kc, .int .i64 j, .pointer (some ⟨g0, 6, none⟩), .agg #[.string lab, .string hd, .slice la ln lc, .slice ka2 kn kc2], u8, u9, u10, u11] suf d).put puC8.dst (.slice (some ⟨V.heap.size, 0, none⟩) 1 1) = MA pre [.pointer (some ⟨b1, o1, none⟩), .pointer (some ⟨b1, o1, none⟩), .pointer (some ⟨b1, o1, none⟩), .pointer (some ⟨b1, o1 + 3, none⟩), .slice ka zn kc, .int .i64 j, .pointer (some ⟨g0, 6, none⟩), .agg #[.string lab, .string hd, .slice la ln lc, .slice ka2 kn kc2], .slice (some ⟨V.heap.size, 0, none⟩) 1 1, u9, u10, u11] suf d from MA.put hk (by decide) (by simp)]
  refine wpLast_all (rs := [9]) (by kernel_rfl) (by simp) fun j' hj' => ?_
  obtain rfl : j' = 9 := by simpa using hj'
  have hvA := heap_alloc_new V (.cells #[.string lab, .string hd, .slice la ln lc, .slice ka2 kn kc2] 25)
  refine wpOp_call (o := puC9) rfl rfl (x_insert (MA.hi hk (by decide) rfl) (MA.hi hk (by decide) rfl) (MA.hi hk (by decide) rfl) rfl) (hI _ V.heap.size (hV.alloc hV.size _) hvA hV.size) ?_
  rintro e V1 ⟨ra, rn, rc, rfl, hst⟩
  refine ⟨_, rfl, fun _ => .inl (by decide), ?_⟩
  rw [show (MA pre [.pointer (some ⟨b1, o1, none⟩), .pointer (some ⟨b1, o1, none⟩), .pointer (some ⟨b1, o1, none⟩), .pointer (some ⟨b1, o1 + 3, none⟩), .slice ka zn kc, .int .i64 j, .pointer (some ⟨g0, 6, none⟩), .agg #[.string lab, .string hd, .slice la ln lc, .slice ka2 kn kc2], .slice (some ⟨V.heap.size, 0, none⟩) 1 1, u9, u10, u11] suf d).put puC9.dst (.slice ra rn rc) = MA pre [.pointer (some ⟨b1, o1, none⟩), .pointer (some ⟨b1, o1, none⟩), .pointer (some ⟨b1, o1, none⟩), .pointer (some ⟨b1, o1 + 3, none⟩), .slice ka zn kc, .int .i64 j, .pointer (some ⟨g0, 6, none⟩), .agg #[.string lab, .string hd, .slice la ln lc, .slice ka2 kn kc2], .slice (some ⟨V.heap.size, 0, none⟩) 1 1, .slice ra rn rc, u10, u11] suf d from MA.put hk (by decide) (by simp)]
  refine wpLast_all (rs := [10]) (by kernel_rfl) (by simp) fun j' hj' => ?_
  obtain rfl : j' = 10 := by simpa using hj'
  refine wpOp_val (o := puC10) rfl rfl (x_nil (q := ⟨b1, o1, none⟩) (MA.hi hk (by decide) rfl)) ⟨fun _ => .inl (by decide), ?_⟩
  rw [show (MA pre [.pointer (some ⟨b1, o1, none⟩), .pointer (some ⟨b1, o1, none⟩), .pointer (some ⟨b1, o1, none⟩), .pointer (some ⟨b1, o1 + 3, none⟩), .slice ka zn kc, .int .i64 j, .pointer (some ⟨g0, 6, none⟩), .agg #[.string lab, .string hd, .slice la ln lc, .slice ka2 kn kc2], .slice (some ⟨V.heap.size, 0, none⟩) 1 1, .slice ra rn rc, u10, u11] suf d).put puC10.dst (.pointer (some ⟨b1, o1, none⟩)) = MA pre [.pointer (some ⟨b1, o1, none⟩), .pointer (some ⟨b1, o1, none⟩), .pointer (some ⟨b1, o1, none⟩), .pointer (some ⟨b1, o1 + 3, none⟩), .slice ka zn kc, .int .i64 j, .pointer (some ⟨g0, 6, none⟩), .agg #[.string lab, .string hd, .slice la ln lc, .slice ka2 kn kc2], .slice (some ⟨V.heap.size, 0, none⟩) 1 1, .slice ra rn rc, .pointer (some ⟨b1, o1, none⟩), u11] suf d from MA.put hk (by decide) (by simp)]
  refine wpLast_all (rs := [11]) (by kernel_rfl) (by simp) fun j' hj' => ?_
  obtain rfl : j' = 11 := by simpa using hj'
  refine wpOp_val (o := puC11) rfl rfl (x_kids (b := b1) (o := o1) (MA.hi hk (by decide) rfl)) ⟨fun _ => .inl (by decide), ?_⟩
  rw [show (MA pre [.pointer (some ⟨b1, o1, none⟩), .pointer (some ⟨b1, o1, none⟩), .pointer (some ⟨b1, o1, none⟩), .pointer (some ⟨b1, o1 + 3, none⟩), .slice ka zn kc, .int .i64 j, .pointer (some ⟨g0, 6, none⟩), .agg #[.string lab, .string hd, .slice la ln lc, .slice ka2 kn kc2], .slice (some ⟨V.heap.size, 0, none⟩) 1 1, .slice ra rn rc, .pointer (some ⟨b1, o1, none⟩), u11] suf d).put puC11.dst (.pointer (some ⟨b1, o1 + 3, none⟩)) = MA pre [.pointer (some ⟨b1, o1, none⟩), .pointer (some ⟨b1, o1, none⟩), .pointer (some ⟨b1, o1, none⟩), .pointer (some ⟨b1, o1 + 3, none⟩), .slice ka zn kc, .int .i64 j, .pointer (some ⟨g0, 6, none⟩), .agg #[.string lab, .string hd, .slice la ln lc, .slice ka2 kn kc2], .slice (some ⟨V.heap.size, 0, none⟩) 1 1, .slice ra rn rc, .pointer (some ⟨b1, o1, none⟩), .pointer (some ⟨b1, o1 + 3, none⟩)] suf d from MA.put hk (by decide) (by simp)]
  refine wpLast_all (rs := [12]) (by kernel_rfl) (by simp) fun j' hj' => ?_
  obtain rfl : j' = 12 := by simpa using hj'
  obtain ⟨old, ho⟩ := hst.cell
  refine wpOp_skip (o := puC12) rfl rfl (x_stK (b := b1) (o := o1 + 3) (p := ra) (n := rn) (c := rc) (MA.hi hk (by decide) rfl) (MA.hi hk (by decide) rfl) ho hst.frz) ⟨fun _ => .inl (by decide), ?_⟩
  exact wpLast_done (by kernel_rfl) (hQ _ _ rfl (hst.fin _ rfl rfl rfl rfl)) _
def puD0 : Oper := { dst := some 55, op := Op.move (Operand.tmp 5), type := 51, pos := "amend.go:67", after := #[], guard := none }
def puD1 : Oper := { dst := some 56, op := Op.nilCheck (Operand.tmp 55), type := 0, pos := "amend.go:67", after := #[{ on := 0, ground := Ground.data }], guard := none }
def puD2 : Oper := { dst := some 57, op := Op.fieldAddr 25 (Operand.tmp 56) 3, type := 0, pos := "amend.go:67", after := #[{ on := 1, ground := Ground.data }], guard := none }
def puD3 : Oper := { dst := some 58, op := Op.load 23 (Operand.tmp 57), type := 23, pos := "amend.go:67", after := #[{ on := 2, ground := Ground.data }], guard := none }
def puD4 : Oper := { dst := some 59, op := Op.move (Operand.tmp 6), type := 3, pos := "amend.go:67", after := #[], guard := none }
def puD5 : Oper := { dst := some 60, op := Op.fieldAddr 46 (Operand.tmp 3) 6, type := 0, pos := "amend.go:67", after := #[], guard := none }
def puD6 : Oper := { dst := some 61, op := Op.load 25 (Operand.tmp 60), type := 25, pos := "amend.go:67", after := #[{ on := 5, ground := Ground.data }], guard := none }
def puD7 : Oper := { dst := some 62, op := Op.call { callee := Callee.value (Operand.func 17), args := #[Operand.tmp 61], argTypes := #[25] }, type := 25, pos := "amend.go:67", after := #[{ on := 6, ground := Ground.data }], guard := none }
def puD8 : Oper := { dst := some 63, op := Op.indexAddr 23 (Operand.tmp 58) (Operand.tmp 59), type := 0, pos := "amend.go:67", after := #[{ on := 3, ground := Ground.data }, { on := 4, ground := Ground.data }, { on := 0, ground := Ground.phase }, { on := 1, ground := Ground.phase }, { on := 2, ground := Ground.phase }, { on := 3, ground := Ground.phase }, { on := 4, ground := Ground.phase }, { on := 5, ground := Ground.phase }, { on := 6, ground := Ground.phase }, { on := 7, ground := Ground.phase }], guard := none }
def puD9 : Oper := { dst := none, op := Op.store 25 (Operand.tmp 63) (Operand.tmp 62), type := 0, pos := "amend.go:67", after := #[{ on := 8, ground := Ground.data }, { on := 7, ground := Ground.data }, { on := 7, ground := Ground.chain }, { on := 0, ground := Ground.phase }, { on := 1, ground := Ground.phase }, { on := 2, ground := Ground.phase }, { on := 3, ground := Ground.phase }, { on := 4, ground := Ground.phase }, { on := 5, ground := Ground.phase }, { on := 6, ground := Ground.phase }, { on := 7, ground := Ground.phase }], guard := none }
def puDL : List Oper := [puD0, puD1, puD2, puD3, puD4, puD5, puD6, puD7, puD8, puD9]
theorem nine9b {mid : List Value} (h : mid.length = 9) : ∃ u0 u1 u2 u3 u4 u5 u6 u7 u8 : Value, mid = [u0, u1, u2, u3, u4, u5, u6, u7, u8] := by
  match mid, h with
  | [u0, u1, u2, u3, u4, u5, u6, u7, u8], _ => exact ⟨_, _, _, _, _, _, _, _, _, rfl⟩
theorem Own.bel {w : World} {B B' : Nat} {v : Nat → Value} {t : It} {S : Nat → Prop} (h : Own w B v t S) (hB : B' ≤ B) : Own w B' v t S := by
  induction h with
  | mk v t K T S h0 h1 ln kd sl sk hr hT hd hS ih =>
    refine .mk v t K T S h0 h1 ⟨ln.1, ln.2.imp (fun h => h) ?_⟩ ⟨kd.1, kd.2.imp (fun h => h) ?_⟩ sl sk ih hT hd fun q hq => ⟨Nat.le_trans hB (hS q hq).1, (hS q hq).2⟩
    · rintro ⟨g, cap, cur, e, h1, h2⟩; exact ⟨g, cap, cur, e, Nat.le_trans hB h1, h2⟩
    · rintro ⟨g, cap, cur, e, h1, h2⟩; exact ⟨g, cap, cur, e, Nat.le_trans hB h1, h2⟩
set_option maxRecDepth 20000 in
theorem puD_go {W0 : World} {Q : Exit → Act → World → Prop} {pre mid suf : List Value} {d : List Deferred} {b1 o1 g0 g zn kc ln lc kn kc2 j : Nat} {k : It} {la ka2 : Option Addr} {lab hd : ByteArray} (hk : pre.length = 55) (hm : mid.length = 9) (HP : NoP Q) (p5 : pre[5]? = some (.pointer (some ⟨b1, o1, none⟩))) (p3 : pre[3]? = some (.pointer (some ⟨g0, 0, none⟩))) (p6 : pre[6]? = some (.int .i64 j))
    (hC : ∀ V, Below W0.heap.size W0 V → V.cell? ⟨b1, o1 + 3, none⟩ = some (.slice (some ⟨g, 0, none⟩) zn kc) ∧ V.cell? ⟨g0, 6, none⟩ = some (.string lab) ∧ V.cell? ⟨g0, 7, none⟩ = some (.string hd) ∧ V.cell? ⟨g0, 8, none⟩ = some (.slice la ln lc) ∧ V.cell? ⟨g0, 9, none⟩ = some (.slice ka2 kn kc2)) (hj : j < zn)
    (hI : ∀ V, Below W0.heap.size W0 V → Calls Tryz.prog 17 #[.agg #[.string lab, .string hd, .slice la ln lc, .slice ka2 kn kc2]] V (fun e w' => ∃ y Ty, e = .returned (.agg #[y 0, y 1, y 2, y 3]) ∧ Own w' V.heap.size y k Ty ∧ Below V.heap.size V w'))
    (hPl : ∀ V, Below W0.heap.size W0 V → (∃ u, V.cell? ⟨g, j * 4, none⟩ = some u) ∧ (∃ u, V.cell? ⟨g, j * 4 + 1, none⟩ = some u) ∧ (∃ u, V.cell? ⟨g, j * 4 + 2, none⟩ = some u) ∧ (∃ u, V.cell? ⟨g, j * 4 + 3, none⟩ = some u)) (hFz : ∀ V, Below W0.heap.size W0 V → ∀ i, V.frozen? ⟨g, i, none⟩ = false)
    (hQ : ∀ m w'' V1 y Ty, m.length = 9 → Below W0.heap.size W0 V1 → Own V1 W0.heap.size y k Ty → Put4 V1 w'' g (j * 4) y → (∀ q, Ty q → W0.heap.size ≤ q) → Q .normal (MA pre m suf d) w'') {V : World} (hV : Below W0.heap.size W0 V) :
    wpLast Tryz.prog .any puDL.toArray Q (fun V => Below W0.heap.size W0 V) [9] 10 (Array.replicate 10 false) (MA pre mid suf d) V := by
  obtain ⟨u0, u1, u2, u3, u4, u5, u6, u7, u8, rfl⟩ := nine9b hm
  refine ml_free (i := 0) (oi := puD0) (.pointer (some ⟨b1, o1, none⟩)) HP hk rfl rfl (by decide) (by simp) rfl (by kernel_rfl) (by kernel_rfl) (by kernel_rfl) (by kernel_rfl) (fun W => x_move (MA.lo p5)) ?_
  show wpLast _ _ _ _ _ _ _ _ (MA pre [.pointer (some ⟨b1, o1, none⟩), u1, u2, u3, u4, u5, u6, u7, u8] suf d) _
  refine ml_free (i := 1) (oi := puD1) (.pointer (some ⟨b1, o1, none⟩)) HP hk rfl rfl (by decide) (by simp) rfl (by kernel_rfl) (by kernel_rfl) (by kernel_rfl) (by kernel_rfl) (fun W => x_nil (MA.hi hk (by decide) rfl)) ?_
  show wpLast _ _ _ _ _ _ _ _ (MA pre [.pointer (some ⟨b1, o1, none⟩), .pointer (some ⟨b1, o1, none⟩), u2, u3, u4, u5, u6, u7, u8] suf d) _
  refine ml_free (i := 2) (oi := puD2) (.pointer (some ⟨b1, o1 + 3, none⟩)) HP hk rfl rfl (by decide) (by simp) rfl (by kernel_rfl) (by kernel_rfl) (by kernel_rfl) (by kernel_rfl) (fun W => x_kids (MA.hi hk (by decide) rfl)) ?_
  show wpLast _ _ _ _ _ _ _ _ (MA pre [.pointer (some ⟨b1, o1, none⟩), .pointer (some ⟨b1, o1, none⟩), .pointer (some ⟨b1, o1 + 3, none⟩), u3, u4, u5, u6, u7, u8] suf d) _
  refine ml_take (i := 3) (oi := puD3) (.slice (some ⟨g, 0, none⟩) zn kc) HP hk rfl rfl (by decide) (by simp) rfl (by kernel_rfl) (by kernel_rfl) (by kernel_rfl) (by kernel_rfl) (by kernel_rfl) hV (fun W hW => x_ldK (MA.hi hk (by decide) rfl) (hC W hW).1) ?_
  show wpLast _ _ _ _ _ _ _ _ (MA pre [.pointer (some ⟨b1, o1, none⟩), .pointer (some ⟨b1, o1, none⟩), .pointer (some ⟨b1, o1 + 3, none⟩), .slice (some ⟨g, 0, none⟩) zn kc, u4, u5, u6, u7, u8] suf d) _
  refine ml_free (i := 4) (oi := puD4) (.int .i64 j) HP hk rfl rfl (by decide) (by simp) rfl (by kernel_rfl) (by kernel_rfl) (by kernel_rfl) (by kernel_rfl) (fun W => x_move (MA.lo p6)) ?_
  show wpLast _ _ _ _ _ _ _ _ (MA pre [.pointer (some ⟨b1, o1, none⟩), .pointer (some ⟨b1, o1, none⟩), .pointer (some ⟨b1, o1 + 3, none⟩), .slice (some ⟨g, 0, none⟩) zn kc, .int .i64 j, u5, u6, u7, u8] suf d) _
  refine ml_free (i := 5) (oi := puD5) (.pointer (some ⟨g0, 6, none⟩)) HP hk rfl rfl (by decide) (by simp) rfl (by kernel_rfl) (by kernel_rfl) (by kernel_rfl) (by kernel_rfl) (fun W => x_opItem (MA.lo p3)) ?_
  show wpLast _ _ _ _ _ _ _ _ (MA pre [.pointer (some ⟨b1, o1, none⟩), .pointer (some ⟨b1, o1, none⟩), .pointer (some ⟨b1, o1 + 3, none⟩), .slice (some ⟨g, 0, none⟩) zn kc, .int .i64 j, .pointer (some ⟨g0, 6, none⟩), u6, u7, u8] suf d) _
  refine ml_take (i := 6) (oi := puD6) (.agg #[.string lab, .string hd, .slice la ln lc, .slice ka2 kn kc2]) HP hk rfl rfl (by decide) (by simp) rfl (by kernel_rfl) (by kernel_rfl) (by kernel_rfl) (by kernel_rfl) (by kernel_rfl) hV (fun W hW => x_ldItem (MA.hi hk (by decide) rfl) (hC W hW).2.1 (hC W hW).2.2.1 (hC W hW).2.2.2.1 (hC W hW).2.2.2.2) ?_
  show wpLast _ _ _ _ _ _ _ _ (MA pre [.pointer (some ⟨b1, o1, none⟩), .pointer (some ⟨b1, o1, none⟩), .pointer (some ⟨b1, o1 + 3, none⟩), .slice (some ⟨g, 0, none⟩) zn kc, .int .i64 j, .pointer (some ⟨g0, 6, none⟩), .agg #[.string lab, .string hd, .slice la ln lc, .slice ka2 kn kc2], u7, u8] suf d) _
  refine wpLast_all (rs := [7]) (by kernel_rfl) (by simp) fun j' hj' => ?_
  obtain rfl : j' = 7 := by simpa using hj'
  refine wpOp_call (o := puD7) rfl rfl (x_copy (MA.hi hk (by decide) rfl) rfl) (hI V hV) ?_
  rintro e V1 ⟨y, Ty, rfl, hy, hb1⟩
  obtain ⟨y0, y1, ⟨yl, ylc, y2⟩, yk, ykc, y3⟩ := hy.lies.forms
  have hV1 := hV.trans (hb1.mono hV.size)
  refine ⟨_, rfl, fun _ => .inr hV1, ?_⟩
  rw [show (MA pre [.pointer (some ⟨b1, o1, none⟩), .pointer (some ⟨b1, o1, none⟩), .pointer (some ⟨b1, o1 + 3, none⟩), .slice (some ⟨g, 0, none⟩) zn kc, .int .i64 j, .pointer (some ⟨g0, 6, none⟩), .agg #[.string lab, .string hd, .slice la ln lc, .slice ka2 kn kc2], u7, u8] suf d).put puD7.dst (.agg #[y 0, y 1, y 2, y 3]) = MA pre [.pointer (some ⟨b1, o1, none⟩), .pointer (some ⟨b1, o1, none⟩), .pointer (some ⟨b1, o1 + 3, none⟩), .slice (some ⟨g, 0, none⟩) zn kc, .int .i64 j, .pointer (some ⟨g0, 6, none⟩), .agg #[.string lab, .string hd, .slice la ln lc, .slice ka2 kn kc2], .agg #[y 0, y 1, y 2, y 3], u8] suf d from MA.put hk (by decide) (by simp)]
  refine wpLast_all (rs := [8]) (by kernel_rfl) (by simp) fun j' hj' => ?_
  obtain rfl : j' = 8 := by simpa using hj'
  refine wpOp_val (o := puD8) rfl rfl (x_idx (MA.hi hk (by decide) rfl) (MA.hi hk (by decide) rfl) hj) ⟨fun _ => .inr hV1, ?_⟩
  rw [show (MA pre [.pointer (some ⟨b1, o1, none⟩), .pointer (some ⟨b1, o1, none⟩), .pointer (some ⟨b1, o1 + 3, none⟩), .slice (some ⟨g, 0, none⟩) zn kc, .int .i64 j, .pointer (some ⟨g0, 6, none⟩), .agg #[.string lab, .string hd, .slice la ln lc, .slice ka2 kn kc2], .agg #[y 0, y 1, y 2, y 3], u8] suf d).put puD8.dst (.pointer (some ⟨g, j * 4, none⟩)) = MA pre [.pointer (some ⟨b1, o1, none⟩), .pointer (some ⟨b1, o1, none⟩), .pointer (some ⟨b1, o1 + 3, none⟩), .slice (some ⟨g, 0, none⟩) zn kc, .int .i64 j, .pointer (some ⟨g0, 6, none⟩), .agg #[.string lab, .string hd, .slice la ln lc, .slice ka2 kn kc2], .agg #[y 0, y 1, y 2, y 3], .pointer (some ⟨g, j * 4, none⟩)] suf d from MA.put hk (by decide) (by simp)]
  refine wpLast_all (rs := [9]) (by kernel_rfl) (by simp) fun j' hj' => ?_
  obtain rfl : j' = 9 := by simpa using hj'
  obtain ⟨⟨x0, c0⟩, ⟨x1, c1⟩, ⟨x2, c2⟩, ⟨x3, c3⟩⟩ := hPl V1 hV1
  refine wpOp_skip (o := puD9) rfl rfl (x_stItem (v := y) (MA.hi hk (by decide) rfl) (MA.hi hk (by decide) rfl) y0 y1 y2 y3 c0 c1 c2 c3 (hFz V1 hV1 _) (hFz V1 hV1 _) (hFz V1 hV1 _) (hFz V1 hV1 _)) ⟨fun _ => .inl (by decide), ?_⟩
  exact wpLast_done (by kernel_rfl) (hQ _ _ V1 y Ty rfl hV1 (hy.bel (hV.size)) (put4 V1 g (j * 4) y) (fun q hq => Nat.le_trans hV.size (hy.in q hq).1)) _
end Go.Proofs.YtpbolcjcmkmalaaGreatDoor
namespace Go.Proofs.YtpbolcjcmkmalaaGreatDoor
open Go.RowKit Go.Extern.Stop Go.Stop Go.Extern
attribute [local go_sem ↓] Go.wp_at_zero Go.wp_at_succ

/-- The count's block. -/
def CntAt (bc n : Nat) (w : World) : Prop := w.heap[bc]? = some (.cells #[.int .i64 n] 69 (0, 0))
/-- What the look at an item tells and leaves. -/
def VRes (bc : Nat) (p : Nat → Addr) (e : Ending) (w' : World) : VOut → Prop
  | .bad c => ∃ k, c = k + 1 ∧ k < 11 ∧ e = .returned (errI (p k))
  | .ok n => e = .returned .nilIface ∧ CntAt bc n w'
/-- The loop over the kids. -/
inductive VLoop (bc d : Nat) (w : World) (t : It) (O : VOut) (a b c k : Value) (y : Value) (wr : World) : Prop
  | mk (i n : Nat) (h1 : i ≤ t.kids.length) (h2 : y = .int .i64 i) (h3 : CntAt bc n wr) (hn : n ≤ 300) (h4 : vKs d n (t.kids.take i) (t.kids.drop i) = O) (h5 : BelX w.heap.size bc w wr) (h6 : wr.heap[w.heap.size]? = some (.cells #[a, b, c, k] 25 (0, 0)))
theorem one {W : World} {g : Nat} {a : Value} {t : TypeId} (h : W.heap[g]? = some (.cells #[a] t (0, 0))) : W.cell? ⟨g, 0, none⟩ = some a ∧ ∀ i, W.frozen? ⟨g, i, none⟩ = false := by
  simp [World.cell?, World.frozen?, h]
theorem wrapD (d : Nat) (h : d ≤ 7) : IntKind.i64.wrap ((d : Int) + 1) = (d : Int) + 1 := by
  have : d = 0 ∨ d = 1 ∨ d = 2 ∨ d = 3 ∨ d = 4 ∨ d = 5 ∨ d = 6 ∨ d = 7 := by omega
  rcases this with rfl | rfl | rfl | rfl | rfl | rfl | rfl | rfl <;> decide
set_option maxHeartbeats 8000000 in
set_option maxRecDepth 10000 in
theorem item_any (bc : Nat) (p : Nat → Addr) (m : Int) (W0 : World) (hE0 : Env W0 p m) (hb0 : W0.heap.size ≤ bc) : ∀ (N : Nat) (t : It), sizeIt t ≤ N → FewIt t → ∀ (d n : Nat) (v : Nat → Value) (w : World) (aa : Option Addr) (ac : Nat) (ah : List It) (V : Nat → Nat → Value), Lies w (fun b => b ≠ bc) v t → AheadAt w (fun b => b ≠ bc) aa ah V → CntAt bc n w → Below W0.heap.size W0 w → d ≤ 7 → n ≤ 301 → ah.length ≤ 1000 →
    Calls Tryz.prog 26 #[.pointer (some ⟨bc, 0, none⟩), .agg #[v 0, v 1, v 2, v 3], .int .i64 d, .slice aa ah.length ac] w fun e w' => VRes bc p e w' (vIt d n ah t) ∧ BelX w.heap.size bc w w'
  | 0, t, h, hF, d, n, v, w, aa, ac, ah, V, hL, hA, hc, hW, hd, hn, han => by have := sizeIt_eq t; omega
  | N + 1, t, h, hF, d, n, v, w, aa, ac, ah, V, hL, hA, hc, hW, hd, hn, han => by
    obtain ⟨k1, k2, k3, k4, k5, k6⟩ := hF.get
    obtain ⟨f0, f1, ⟨la, lc, f2⟩, ⟨ka, kc, f3⟩⟩ := hL.forms
    have hcl : bc < w.heap.size := lt_of_block hc
    have hkcp := (hL.caps f2 f3).2
    have HV := hidLL (vIt_eq d n ah t)
    have HEn := hidLL (fun w' (hb : Below w.heap.size w w') => hE0.on (hW.trans (hb.mono hW.size)))
    have hw0 := hW.size
    have HIH := hidLL (fun k (hk : k ∈ t.kids) d n v w aa ac ah V hL hA hc hW hd hn han => item_any bc p m W0 hE0 hb0 N k (by have := kid_size hk; omega) (k6 k hk) d n v w aa ac ah V hL hA hc hW hd hn han)
    obtain ⟨_, VK, hkk, hkr⟩ := hL.kidsAt f3
    have hll := (hL.linesIn f2).2
    have HGr := hidLL (fun W (hb : Below w.heap.size w W) => isTooGreat_any t hF v W _ (hL.bel hb))
    have HRi := hidLL (fun W (hb : Below w.heap.size w W) hT => hasRight_any t hF d (by omega) v W _ _ (hL.bel hb) aa ac ah V (hA.on (fun b hbb _ => hb.block b hbb)) han hT)
    have HIl := hidLL (fun W => isLine_any t.head (by omega) W)
    have HAl := hidLL (fun W (hb : Below w.heap.size w W) => allLines_any t.lines la lc W (by omega) k3 (fun i s e => by
      obtain ⟨b, o, e1, _, e3⟩ := hll i s e
      exact ⟨b, o, e1, (hb.cell (p := ⟨b, o + i, none⟩) (cell_lt e3)).trans e3⟩))
    rw [f0, f1, f2, f3] at HGr HRi
    rw [f0, f1, f2, f3]
    have HK := hidLL (And.intro hkk hkr)
    have HC := hidLL hc
    have HW := hidLL hW
    have HTx : Hid (textsOk t = (lineB t.head && !(t.lines.any badB))) := rfl
    clear hL hA hF hkk hkr hll k3 k4 k5 k6 f0 f1 f2 f3 hW
    obtain ⟨WB, hWB⟩ : ∃ WB, WB = w.alloc (.cells #[.string t.label, .string t.head, .slice la t.lines.length lc, .slice ka t.kids.length kc] 25) := ⟨_, rfl⟩
    have HB0 : Hid (Below w.heap.size w WB) := by show Below _ _ _; rw [hWB]; exact (Below.refl _ _).alloc (Nat.le_refl _) _
    have HBx : Hid (WB.heap[w.heap.size]? = some (.cells #[.string t.label, .string t.head, .slice la t.lines.length lc, .slice ka t.kids.length kc] 25 (0, 0))) := by show _ = _; rw [hWB]; exact heap_alloc_new _ _
    have hsz0 : w.heap.size < WB.heap.size := by rw [hWB]; simp
    have HX := hidLL hWB
    clear hWB
    obtain ⟨c0, cf⟩ := one hc
    have c0' := (HB0.out.cell (p := ⟨bc, 0, none⟩) hcl).trans c0
    have cf' := fun i => (HB0.out.frozen (p := ⟨bc, i, none⟩) hcl).trans (cf i)
    obtain ⟨x0, x1, x2, x3, xf⟩ := four HBx.out
    have e1 : WB.cell? ⟨0, 0, none⟩ = some (.iface 214 (.pointer (some (p 1)))) := (HEn.out _ HB0.out).L.cell 1 (by omega)
    clear hc c0 cf
    by_cases hd6 : 6 < d
    · have hdz : (6 : Int) < (d : Int) := by omega
      have hdd : decide ((6 : Int) < (d : Int)) = true := decide_eq_true hdz
      have HO : Hid (vIt d n ah t = .bad 2) := by show _ = _; rw [HV.out, if_pos (.inl hd6)]
      clear hd6
      go_enter Tryz.func26, Tryz.ntmps26
      go_upto_region 1 with fail
      rw [← HX.out]
      go_wp2
      go_ret
      exact ⟨by rw [HO.out]; exact ⟨1, rfl, by omega, rfl⟩, Below.x HB0.out bc (Nat.le_refl _)⟩
    have hdd : decide ((6 : Int) < (d : Int)) = false := decide_eq_false (by omega)
    by_cases hn3 : 300 < n
    · have hnz : (300 : Int) < (n : Int) := by omega
      have hnd : decide ((300 : Int) < (n : Int)) = true := decide_eq_true hnz
      have HO : Hid (vIt d n ah t = .bad 2) := by show _ = _; rw [HV.out, if_pos (.inr (.inl hn3))]
      clear hn3
      go_enter Tryz.func26, Tryz.ntmps26
      go_upto_region 1 with fail
      rw [← HX.out]
      go_wp2
      go_ret
      exact ⟨by rw [HO.out]; exact ⟨1, rfl, by omega, rfl⟩, Below.x HB0.out bc (Nat.le_refl _)⟩
    have hnd : decide ((300 : Int) < (n : Int)) = false := decide_eq_false (by omega)
    go_enter Tryz.func26, Tryz.ntmps26
    go_upto_region 1 with fail
    rw [← HX.out]
    go_wp2_with fail
    go_at_call 58
    refine (HGr.out _ HB0.out).mono ?_
    rintro e w1 ⟨rfl, hb1⟩
    have hb01 : Below w.heap.size w w1 := HB0.out.trans (hb1.mono (by omega))
    have HB1 := hidLL hb01
    have HBx1 : Hid (w1.heap[w.heap.size]? = _) := (hb1.block w.heap.size hsz0).trans HBx.out
    have HC1 : Hid (CntAt bc n w1) := (hb01.block bc hcl).trans HC.out
    have hs1 : w.heap.size < w1.heap.size := by have := hb1.size; omega
    clear hb1 hb01 x0 x1 x2 x3 xf c0' cf' e1
    cases hgr : greatB t
    · obtain ⟨x0, x1, x2, x3, xf⟩ := four HBx1.out
      go_wp2_with fail
      go_at_call 59
      refine (HRi.out _ HB1.out (HEn.out _ HB1.out).T).mono ?_
      rintro e w2 ⟨rfl, hb2⟩
      have hb02 : Below w.heap.size w w2 := HB1.out.trans (hb2.mono (by omega))
      have HB2 := hidLL hb02
      have HBx2 : Hid (w2.heap[w.heap.size]? = _) := (hb2.block w.heap.size hs1).trans HBx1.out
      have HC2 : Hid (CntAt bc n w2) := (hb02.block bc hcl).trans HC.out
      have hs2 : w.heap.size < w2.heap.size := by have := hb2.size; omega
      clear hb2 hb02 x0 x1 x2 x3 xf
      cases hlo : labelOk d ah t
      · have e6 : w2.cell? ⟨6, 0, none⟩ = some (.iface 214 (.pointer (some (p 6)))) := (HEn.out _ HB2.out).L.cell 6 (by omega)
        have HO : Hid (vIt d n ah t = .bad 7) := by show _ = _; rw [HV.out, if_neg (by rw [hgr]; simp; omega), if_pos hlo]
        go_wp2
        go_ret
        exact ⟨by rw [HO.out]; exact ⟨6, rfl, by omega, rfl⟩, Below.x HB2.out bc (Nat.le_refl _)⟩
      · obtain ⟨x0, x1, x2, x3, xf⟩ := four HBx2.out
        have HO : Hid (vIt d n ah t = if textsOk t = false then .bad 1 else vKs d n [] t.kids) := by show _ = _; rw [HV.out, if_neg (by rw [hgr]; simp; omega), if_neg (by rw [hlo]; decide)]
        clear HV
        go_wp2_with fail
        go_at_call 60
        refine (HIl.out _).mono ?_
        rintro e w3 ⟨rfl, hb3⟩
        have hb03 : Below w.heap.size w w3 := HB2.out.trans (hb3.mono (by omega))
        have HB3 := hidLL hb03
        have HBx3 : Hid (w3.heap[w.heap.size]? = _) := (hb3.block w.heap.size hs2).trans HBx2.out
        have HC3 : Hid (CntAt bc n w3) := (hb03.block bc hcl).trans HC.out
        have hs3 : w.heap.size < w3.heap.size := by have := hb3.size; omega
        clear hb3 hb03 x0 x1 x2 x3 xf
        cases hli : lineB t.head
        · have e0 : w3.cell? ⟨1, 0, none⟩ = some (.iface 214 (.pointer (some (p 0)))) := (HEn.out _ HB3.out).L.cell 0 (by omega)
          have HO2 : Hid (vIt d n ah t = .bad 1) := by show _ = _; rw [HO.out, if_pos (by rw [HTx.out, hli]; rfl)]
          go_wp2
          go_ret
          exact ⟨by rw [HO2.out]; exact ⟨0, rfl, by omega, rfl⟩, Below.x HB3.out bc (Nat.le_refl _)⟩
        · obtain ⟨x0, x1, x2, x3, xf⟩ := four HBx3.out
          go_wp2_with fail
          go_at_call 61
          refine (HAl.out _ HB3.out).mono ?_
          rintro e w4 ⟨rfl, hb4⟩
          have hb04 : Below w.heap.size w w4 := HB3.out.trans (hb4.mono (by omega))
          have HB4 := hidLL hb04
          have HBx4 : Hid (w4.heap[w.heap.size]? = _) := (hb4.block w.heap.size hs3).trans HBx3.out
          have HC4 : Hid (CntAt bc n w4) := (hb04.block bc hcl).trans HC.out
          have hs4 : w.heap.size < w4.heap.size := by have := hb4.size; omega
          clear hb4 hb04 x0 x1 x2 x3 xf
          cases hba : t.lines.any badB
          · have HO2 : Hid (vIt d n ah t = vKs d n [] t.kids) := by show _ = _; rw [HO.out, if_neg (by rw [HTx.out, hli, hba]; decide)]
            have hkn : t.kids.length ≤ 1000 := k2
            obtain ⟨kn, hkne⟩ : ∃ kn, kn = t.kids.length := ⟨_, rfl⟩
            have HKn := hidLL hkne
            rw [← hkne] at hkn HBx4
            obtain ⟨O, hOO⟩ : ∃ O, O = vIt d n ah t := ⟨_, rfl⟩
            have HOO := hidLL (hOO.trans HO2.out)
            have HOv := hidLL hOO
            rw [← hkne]
            clear hkne hOO
            obtain ⟨x0, x1, x2, x3, xf⟩ := four HBx4.out
            go_wp2_with fail
            go_loopw [46] (fun y wr => VLoop bc d w t O (.string t.label) (.string t.head) (.slice la t.lines.length lc) (.slice ka kn kc) y wr) (fun y _ => (kn - RowKit.intOf y).toNat)
            case atStart => exact ⟨0, n, by omega, rfl, HC4.out, by omega, by rw [List.take_zero, List.drop_zero]; exact HOO.out.symm, Below.x HB4.out bc (Nat.le_refl _), HBx4.out⟩
            case round =>
              obtain ⟨i, n', hi, rfl, hcnt, hn', hvk, hbx, hbox⟩ := hrel
              rw [← HKn.out] at hi
              have HBX := hidLL hbx
              have HVK := hidLL hvk
              have HCn := hidLL hcnt
              have HBo := hidLL hbox
              have hsw := hbx.size
              have hbl := lt_of_block hbox
              clear x0 x1 x2 x3 xf
              obtain ⟨x0, x1, x2, x3, xf⟩ := four hbox
              obtain ⟨c0, cf⟩ := one hcnt
              clear hcnt hvk hbx hbox
              by_cases hin : i < kn
              · have hiz : (i : Int) < kn := by omega
                obtain ⟨x, hx⟩ : ∃ x, t.kids[i]? = some x := ⟨_, List.getElem?_eq_getElem (by rw [← HKn.out]; exact hin)⟩
                have hxm := List.mem_of_getElem? hx
                obtain ⟨b, o, hka, hbn, cx⟩ := HK.out.1 i (by rw [← HKn.out]; exact hin)
                subst hka
                obtain ⟨g0, g1, ⟨pa, pc, g2⟩, ⟨pk, pkc, g3⟩⟩ := (HK.out.2 i x hx).forms
                have hcx := fun c (hc : c < 4) => (HBX.out.cell (p := ⟨b, o + i * 4 + c, none⟩) (cell_lt (cx c hc)) hbn).trans (cx c hc)
                have y0 : wr.cell? ⟨b, o + i * 4, none⟩ = some (VK i 0) := hcx 0 (by omega)
                have y1 := hcx 1 (by omega)
                have y2 := hcx 2 (by omega)
                have y3 := hcx 3 (by omega)
                rw [g0] at y0
                rw [g1] at y1
                rw [g2] at y2
                rw [g3] at y3
                have HStep := hidLL (vKs_step (d := d) (n := n') hx)
                have HM7 : Hid (∀ m', vIt (d + 1) (n' + 1) (t.kids.take i) x = .ok m' → m' ≤ 300) := fun m' hm' => vIt_le _ x (Nat.le_refl _) _ _ _ _ hm'
                have hlen : (t.kids.take i).length = i := by rw [List.length_take, ← HKn.out]; omega
                have HCi : Hid (∀ W W6 : World, BelX w.heap.size bc w W6 → CntAt bc (n' + 1) W6 → LikeW W W6 → Calls Tryz.prog 26 #[.pointer (some ⟨bc, 0, none⟩), .agg #[VK i 0, VK i 1, VK i 2, VK i 3], .int .i64 ((d : Int) + 1), .slice (some ⟨b, o, none⟩) i kc] W fun e w' => VRes bc p e w' (vIt (d + 1) (n' + 1) (t.kids.take i) x) ∧ BelX W.heap.size bc W w') := fun W W6 hx6 hc6 hlk => by
                  have hkeep : ∀ q, q < w.heap.size → q ≠ bc → W.heap[q]? = w.heap[q]? := fun q hq hqn => by rw [hlk.heap]; exact hx6.block q hq hqn
                  have h := HIH.out x hxm (d + 1) (n' + 1) (VK i) W (some ⟨b, o, none⟩) kc (t.kids.take i) VK ((HK.out.2 i x hx).step fun q hq hqn => ⟨hkeep q hq hqn, hqn⟩) ⟨fun j hj => by
                      obtain ⟨b2, o2, q1, q2, q3⟩ := HK.out.1 j (by rw [hlen] at hj; rw [← HKn.out]; omega)
                      exact ⟨b2, o2, q1, q2, fun c hc => (World.cell?_of_block (a := ⟨b2, o2 + j * 4 + c, none⟩) (hkeep b2 (cell_lt (q3 0 (by omega))) q2)).trans (q3 c hc)⟩, fun j k e => by
                      rw [List.getElem?_take] at e
                      split at e
                      · exact (HK.out.2 j k e).step fun q hq hqn => ⟨hkeep q hq hqn, hqn⟩
                      · cases e⟩ (by unfold CntAt; rw [hlk.heap]; exact hc6) (HW.out.trans ((hx6.down hw0 hb0).trans ⟨hlk.os, hlk.tape, hlk.output, by rw [hlk.heap]; exact Nat.le_refl _, fun q _ => by rw [hlk.heap]⟩)) (by omega) (by omega) (by rw [hlen]; omega)
                  rw [hlen, show ((d + 1 : Nat) : Int) = (d : Int) + 1 by omega] at h
                  exact h
                rw [g0, g1, g2, g3] at HCi
                generalize x.label = xl at *
                generalize x.head = xh at *
                generalize x.lines.length = xn at *
                generalize x.kids.length = xk at *
                generalize vIt (d + 1) (n' + 1) (t.kids.take i) x = R at *
                clear hcx cx g0 g1 g2 g3 hx hxm hlen
                have hnw : (n' : Int) + 1 ≤ 1000 := by omega
                have hdw : (d : Int) + 1 ≤ 1000 := by omega
                have hwrap : IntKind.i64.wrap ((d : Int) + 1) = (d : Int) + 1 := wrapD d (by omega)
                have hik : (i : Int) ≤ (kn : Int) := by omega
                have hikc : (i : Int) ≤ (kc : Int) := by have := HKn.out; omega
                have hkkc : (kn : Int) ≤ (kc : Int) := by have := HKn.out; omega
                have hbcr : bc < wr.heap.size := by omega
                have hbcn : bc ≠ wr.heap.size := by omega
                have hwn : w.heap.size ≠ wr.heap.size := by omega
                have hwbc : w.heap.size ≠ bc := by omega
                go_upto_region 11 with fail
                obtain ⟨W6, hW6⟩ : ∃ W6, W6 = (wr.setCell ⟨bc, 0, none⟩ (.int .i64 ((n' : Int) + 1))).alloc (.cells #[.string xl, .string xh, .slice pa xn pc, .slice pk xk pkc] 25) := ⟨_, rfl⟩
                have hse : (wr.setCell ⟨bc, 0, none⟩ (.int .i64 ((n' : Int) + 1))).heap.size = wr.heap.size := by simp
                have HX6 : Hid (BelX w.heap.size bc w W6) := by
                  show BelX _ _ _ _
                  rw [hW6]
                  exact (HBX.out.setCell (p := ⟨bc, 0, none⟩) (.inr rfl) _).trans (Below.x ((Below.refl _ _).alloc (Nat.le_refl _) _) bc (by rw [hse]; omega))
                have HC6 : Hid (CntAt bc (n' + 1) W6) := by
                  show CntAt _ _ _
                  unfold CntAt
                  rw [hW6, Below.heap_alloc _ _ _ (by rw [hse]; exact hbcr), heap_setCell_same wr bc 0 _ _ _ HCn.out]
                  rfl
                have HK6 : Hid (W6.heap[wr.heap.size]? = some (.cells #[.string xl, .string xh, .slice pa xn pc, .slice pk xk pkc] 25 (0, 0))) := by
                  show _ = _
                  have h5 := heap_alloc_new (wr.setCell ⟨bc, 0, none⟩ (.int .i64 ((n' : Int) + 1))) (.cells #[.string xl, .string xh, .slice pa xn pc, .slice pk xk pkc] 25)
                  rw [hse] at h5
                  rw [hW6]; exact h5
                have HB6 : Hid (W6.heap[w.heap.size]? = some (.cells #[.string t.label, .string t.head, .slice la t.lines.length lc, .slice (some ⟨b, o, none⟩) kn kc] 25 (0, 0))) := by
                  show _ = _
                  rw [hW6, Below.heap_alloc _ _ _ (by rw [hse]; exact hbl), Below.heap_setCell _ _ _ _ hwbc]
                  exact HBo.out
                have hs6 : wr.heap.size < W6.heap.size := by rw [hW6]; simp
                rw [← hW6]
                clear hW6 hse x0 x1 x2 x3 xf c0 cf y0 y1 y2 y3
                obtain ⟨u0, u1, u2, u3, uf⟩ := four HK6.out
                obtain ⟨x0, x1, x2, x3, xf⟩ := four HB6.out
                cases R with
                | bad c =>
                  have HR : Hid (O = .bad c) := HVK.out.symm.trans HStep.out
                  go_region_with
                    (first
                      | (go_at_call 26
                         refine (HCi.out _ W6 HX6.out HC6.out ?_).mono ?_
                         · exact ⟨rfl, rfl, rfl, rfl⟩
                         rintro e w7 ⟨⟨k, hck, hk, rfl⟩, hb7⟩
                         have HB7 := hidLL hb7
                         have HCk := hidLL hck
                         unfold errI
                         clear hb7 hck))
                  all_goals
                    go_wp2
                    go_ret
                    refine ⟨by rw [← HOv.out, HR.out]; exact ⟨k, HCk.out, hk, rfl⟩, HX6.out.trans ?_⟩
                    exact ⟨HB7.out.os, HB7.out.tape, HB7.out.output, HB7.out.size, fun q hq hqn => HB7.out.block q (by show q < W6.heap.size; omega) hqn⟩
                | ok m' =>
                  have HR : Hid (vKs d m' (t.kids.take (i + 1)) (t.kids.drop (i + 1)) = O) := HStep.out.symm.trans HVK.out
                  go_region_with
                    (first
                      | (go_at_call 26
                         refine (HCi.out _ W6 HX6.out HC6.out ?_).mono ?_
                         · exact ⟨rfl, rfl, rfl, rfl⟩
                         rintro e w7 ⟨⟨rfl, hcn7⟩, hb7⟩
                         have HB7 := hidLL hb7
                         have HC7 := hidLL hcn7
                         clear hb7 hcn7))
                  all_goals
                    go_wp2
                    go_roundw
                    case rel =>
                      refine ⟨i + 1, m', by rw [← HKn.out]; omega, by go_num, HC7.out, HM7.out m' rfl, HR.out, HX6.out.trans ?_, ?_⟩
                      · exact ⟨HB7.out.os, HB7.out.tape, HB7.out.output, HB7.out.size, fun q hq hqn => HB7.out.block q (by show q < W6.heap.size; omega) hqn⟩
                      · exact (HB7.out.block w.heap.size (by show w.heap.size < W6.heap.size; omega) hwbc).trans HB6.out
                    case measure => simp [RowKit.intOf]; omega
              · have HR : Hid (O = .ok n') := HVK.out.symm.trans (vKs_end (by rw [← HKn.out]; omega))
                go_wp2
                go_ret
                exact ⟨by rw [← HOv.out, HR.out]; exact ⟨rfl, HCn.out⟩, HBX.out⟩
          · have e0 : w4.cell? ⟨1, 0, none⟩ = some (.iface 214 (.pointer (some (p 0)))) := (HEn.out _ HB4.out).L.cell 0 (by omega)
            have HO2 : Hid (vIt d n ah t = .bad 1) := by show _ = _; rw [HO.out, if_pos (by rw [HTx.out, hli, hba]; rfl)]
            go_wp2
            go_ret
            exact ⟨by rw [HO2.out]; exact ⟨0, rfl, by omega, rfl⟩, Below.x HB4.out bc (Nat.le_refl _)⟩
    · have e1 : w1.cell? ⟨0, 0, none⟩ = some (.iface 214 (.pointer (some (p 1)))) := (HEn.out _ HB1.out).L.cell 1 (by omega)
      have HO : Hid (vIt d n ah t = .bad 2) := by show _ = _; rw [HV.out, if_pos (.inr (.inr hgr))]
      go_wp2
      go_ret
      exact ⟨by rw [HO.out]; exact ⟨1, rfl, by omega, rfl⟩, Below.x HB1.out bc (Nat.le_refl _)⟩
end Go.Proofs.YtpbolcjcmkmalaaGreatDoor
namespace Go.Proofs.YtpbolcjcmkmalaaGreatDoor
open Go.RowKit Go.Extern.Stop Go.Stop Go.Extern

/-- What Valid tells. -/
def VTold (p : Nat → Addr) (e : Ending) : VOut → Prop
  | .bad c => ∃ k, c = k + 1 ∧ k < 11 ∧ e = .returned (errI (p k))
  | .ok _ => e = .returned .nilIface
set_option maxHeartbeats 2000000 in
theorem valid_any (t : It) (hF : FewIt t) (p : Nat → Addr) (m : Int) (w : World) (hE : Env w p m) (P : Nat → Prop) (v : Nat → Value) (hL : Lies w P v t) :
    Calls Tryz.prog 16 #[.agg #[v 0, v 1, v 2, v 3]] w fun e w' => VTold p e (vIt 0 0 [] t) ∧ Below w.heap.size w w' := by
  obtain ⟨f0, f1, ⟨la, lc, f2⟩, ⟨ka, kc, f3⟩⟩ := hL.forms
  obtain ⟨W2, hW2⟩ : ∃ W2, W2 = (w.alloc (.cells #[.string t.label, .string t.head, .slice la t.lines.length lc, .slice ka t.kids.length kc] 25)).alloc (.cells #[.int .i64 0] 69) := ⟨_, rfl⟩
  have ha := alloc_two w (.cells #[.string t.label, .string t.head, .slice la t.lines.length lc, .slice ka t.kids.length kc] 25) (.cells #[.int .i64 0] 69)
  have hb : Below w.heap.size w W2 := by rw [hW2]; exact ((Below.refl _ _).alloc (Nat.le_refl _) _).alloc (by simp) _
  have hs2 : W2.heap.size = w.heap.size + 2 := by rw [hW2]; simp
  rw [← hW2] at ha
  have hI := item_any (w.heap.size + 1) p m w hE (by omega) _ t (Nat.le_refl _) hF 0 0 v W2 none 0 [] (fun _ _ => .nilIface) (hL.step fun b hb' _ => ⟨hb.block b hb', by show b ≠ w.heap.size + 1; omega⟩) ⟨fun i hi => absurd hi (Nat.not_lt_zero _), fun i k e => by cases e⟩ ha.2 hb (by omega) (by omega) (by simp)
  rw [f0, f1, f2, f3] at hI
  rw [f0, f1, f2, f3]
  have HI := hidLL hI
  have HB := hidLL hb
  have HX := hidLL hW2
  have HS2 := hidLL hs2
  obtain ⟨x0, x1, x2, x3, xf⟩ := four ha.1
  clear hI hb hW2 ha hL f0 f1 f2 f3 hF hs2
  generalize vIt 0 0 [] t = O at *
  go_enter Tryz.func16, Tryz.ntmps16
  go_upto_region 2 with fail
  rw [← HX.out]
  go_wp2_with fail
  go_at_call 26
  refine HI.out.mono ?_
  rintro e w3 ⟨hS, hb3⟩
  have HB3 : Hid (Below w.heap.size w w3) := HB.out.trans (hb3.down (by have := HS2.out; omega) (by omega))
  clear hb3
  cases O with
  | bad c =>
    obtain ⟨k, hc, hk, rfl⟩ := hS
    have HC := hidLL hc
    clear hc
    unfold errI
    go_wp2
    go_ret
    exact ⟨⟨k, HC.out, hk, rfl⟩, HB3.out⟩
  | ok n =>
    obtain ⟨rfl, _⟩ := hS
    go_wp2
    go_ret
    exact ⟨rfl, HB3.out⟩
end Go.Proofs.YtpbolcjcmkmalaaGreatDoor

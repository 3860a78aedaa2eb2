/-
  Package amend: move's two tests, each a region that draws its order and is guarded by a call's answer (written by tools/genmvreg.py).
-/
import Derived.Test.YtpbolcjcmkmalaaGreatDoorCo16
import Derived.OrdersHeld
import Derived.Test.YtpbolcjcmkmalaaGreatDoorCo10
import Derived.Laws.IdiomCopy
import Derived.Lib.Overlaps
import Derived.Lib.AppendZerosOnto
import Derived.Lib.SliceRun
import Derived.Deep.RegionLaw
import Derived.Deep.OwnRows
import Derived.Test.YtpbolcjcmkmalaaGreatDoorCo14
import Derived.Test.YtpbolcjcmkmalaaGreatDoorCo15
import Derived.Test.YtpbolcjcmkmalaaGreatDoorCo11
namespace Go.Proofs.YtpbolcjcmkmalaaGreatDoor
open Go.RowKit
set_option linter.unusedVariables false

def mvA0 : Oper := { dst := some 45, op := Op.move (Operand.tmp 9), type := 51, pos := "amend.go:104", after := #[], guard := none }
def mvA1 : Oper := { dst := some 46, op := Op.nilCheck (Operand.tmp 45), type := 0, pos := "amend.go:104", after := #[{ on := 0, ground := Ground.data }], guard := none }
def mvA2 : Oper := { dst := some 47, op := Op.fieldAddr 25 (Operand.tmp 46) 3, type := 0, pos := "amend.go:104", after := #[{ on := 1, ground := Ground.data }], guard := none }
def mvA3 : Oper := { dst := some 48, op := Op.load 23 (Operand.tmp 47), type := 23, pos := "amend.go:104", after := #[{ on := 2, ground := Ground.data }], guard := none }
def mvA4 : Oper := { dst := some 49, op := Op.fieldAddr 46 (Operand.tmp 3) 2, type := 0, pos := "amend.go:104", after := #[], guard := none }
def mvA5 : Oper := { dst := some 50, op := Op.load 9 (Operand.tmp 49), type := 9, pos := "amend.go:104", after := #[{ on := 4, ground := Ground.data }], guard := none }
def mvA6 : Oper := { dst := some 51, op := Op.call { callee := Callee.value (Operand.func 76), args := #[Operand.tmp 48, Operand.tmp 50], argTypes := #[23, 9] }, type := 3, pos := "amend.go:104", after := #[{ on := 3, ground := Ground.data }, { on := 5, ground := Ground.data }], guard := none }
def mvA7 : Oper := { dst := some 52, op := Op.binOp BinOp.lss 3 (Operand.tmp 51) (Operand.const (Value.int IntKind.i64 0)) 3, type := 4, pos := "amend.go:104", after := #[{ on := 6, ground := Ground.data }], guard := none }
def mvA8 : Oper := { dst := some 53, op := Op.move (Operand.tmp 52), type := 4, pos := "amend.go:104", after := #[{ on := 7, ground := Ground.data }, { on := 6, ground := Ground.chain }], guard := none }
def mvA9 : Oper := { dst := some 54, op := Op.move (Operand.tmp 9), type := 51, pos := "amend.go:104", after := #[{ on := 8, ground := Ground.guard }], guard := some (8, false) }
def mvA10 : Oper := { dst := some 55, op := Op.move (Operand.tmp 7), type := 51, pos := "amend.go:104", after := #[{ on := 8, ground := Ground.guard }], guard := some (8, false) }
def mvA11 : Oper := { dst := some 56, op := Op.binOp BinOp.eql 51 (Operand.tmp 54) (Operand.tmp 55) 51, type := 4, pos := "amend.go:104", after := #[{ on := 9, ground := Ground.data }, { on := 10, ground := Ground.data }, { on := 8, ground := Ground.guard }], guard := some (8, false) }
def mvA12 : Oper := { dst := some 57, op := Op.move (Operand.tmp 56), type := 4, pos := "amend.go:104", after := #[{ on := 11, ground := Ground.data }, { on := 8, ground := Ground.chain }, { on := 8, ground := Ground.guard }], guard := some (8, false) }
def mvA13 : Oper := { dst := some 58, op := Op.fieldAddr 46 (Operand.tmp 3) 2, type := 0, pos := "amend.go:104", after := #[{ on := 12, ground := Ground.guard }], guard := some (12, true) }
def mvA14 : Oper := { dst := some 59, op := Op.load 9 (Operand.tmp 58), type := 9, pos := "amend.go:104", after := #[{ on := 13, ground := Ground.data }, { on := 12, ground := Ground.guard }], guard := some (12, true) }
def mvA15 : Oper := { dst := some 60, op := Op.fieldAddr 25 (Operand.tmp 10) 0, type := 0, pos := "amend.go:104", after := #[{ on := 12, ground := Ground.guard }], guard := some (12, true) }
def mvA16 : Oper := { dst := some 61, op := Op.load 9 (Operand.tmp 60), type := 9, pos := "amend.go:104", after := #[{ on := 15, ground := Ground.data }, { on := 12, ground := Ground.guard }], guard := some (12, true) }
def mvA17 : Oper := { dst := some 62, op := Op.binOp BinOp.eql 9 (Operand.tmp 59) (Operand.tmp 61) 9, type := 4, pos := "amend.go:104", after := #[{ on := 14, ground := Ground.data }, { on := 16, ground := Ground.data }, { on := 12, ground := Ground.guard }], guard := some (12, true) }
def mvA18 : Oper := { dst := some 63, op := Op.pick (Operand.tmp 57) (Operand.tmp 62) (Operand.const (Value.bool false)), type := 4, pos := "amend.go:104", after := #[{ on := 12, ground := Ground.data }, { on := 17, ground := Ground.data }, { on := 8, ground := Ground.guard }], guard := some (8, false) }
def mvA19 : Oper := { dst := some 64, op := Op.pick (Operand.tmp 53) (Operand.const (Value.bool true)) (Operand.tmp 63), type := 4, pos := "amend.go:104", after := #[{ on := 8, ground := Ground.data }, { on := 18, ground := Ground.data }], guard := none }
def mvAL : List Oper := [mvA0, mvA1, mvA2, mvA3, mvA4, mvA5, mvA6, mvA7, mvA8, mvA9, mvA10, mvA11, mvA12, mvA13, mvA14, mvA15, mvA16, mvA17, mvA18, mvA19]
theorem twenty {mid : List Value} (h : mid.length = 20) : ∃ u0 u1 u2 u3 u4 u5 u6 u7 u8 u9 u10 u11 u12 u13 u14 u15 u16 u17 u18 u19 : Value, mid = [u0, u1, u2, u3, u4, u5, u6, u7, u8, u9, u10, u11, u12, u13, u14, u15, u16, u17, u18, u19] := by
  match mid, h with
  | [u0, u1, u2, u3, u4, u5, u6, u7, u8, u9, u10, u11, u12, u13, u14, u15, u16, u17, u18, u19], _ => exact ⟨_, _, _, _, _, _, _, _, _, _, _, _, _, _, _, _, _, _, _, _, rfl⟩
theorem x_behind {ρ : Operand → Value} {dst : Option Tmp} {ty ta tb : TypeId} {ps : String} {af : Array Go.Edge} {g : Option (Nat × Bool)} {w : World} {x y : Operand} {a b : Value} (h : ρ x = a) (h2 : ρ y = b) (hf : ρ (.func 76) = .func (.func 76) #[] #[]) : (execOp ρ ⟨dst, .call { callee := .value (.func 76), args := #[x, y], argTypes := #[ta, tb] }, ty, ps, af, g⟩).run Tryz.prog w = .ok (.enter 76 #[a, b]) w := by
  simp [execOp, go_sem, h, h2, hf]
theorem x_labld {ρ : Operand → Value} {dst : Option Tmp} {ty ta tb : TypeId} {ps : String} {af : Array Go.Edge} {g : Option (Nat × Bool)} {w : World} {x y : Operand} {a b : Value} (h : ρ x = a) (h2 : ρ y = b) (hf : ρ (.func 69) = .func (.func 69) #[] #[]) : (execOp ρ ⟨dst, .call { callee := .value (.func 69), args := #[x, y], argTypes := #[ta, tb] }, ty, ps, af, g⟩).run Tryz.prog w = .ok (.enter 69 #[a, b]) w := by
  simp [execOp, go_sem, h, h2, hf]
set_option maxRecDepth 20000 in
theorem mvA_neg {C : World → Prop} {Q : Act → Prop} {pre mid suf : List Value} {d : List Deferred} (hk : pre.length = 45) (hm : mid.length = 20) {b1 o1 b2 o2 g0 g1 : Nat} {ka2 : Option Addr} {yn kc2 : Nat} {at' lab : ByteArray} {n1 : Int} {same : Bool}
    (p9 : pre[9]? = some (.pointer (some ⟨b2, o2, none⟩))) (p7 : pre[7]? = some (.pointer (some ⟨b1, o1, none⟩))) (p3 : pre[3]? = some (.pointer (some ⟨g0, 0, none⟩))) (p10 : pre[10]? = some (.pointer (some ⟨g1, 0, none⟩)))
    (h3 : ∀ W, C W → W.cell? ⟨b2, o2 + 3, none⟩ = some (.slice ka2 yn kc2)) (hA : ∀ W, C W → W.cell? ⟨g0, 2, none⟩ = some (.string at')) (hL : ∀ W, C W → W.cell? ⟨g1, 0, none⟩ = some (.string lab))
    (hB : ∀ W, C W → Calls Tryz.prog 76 #[.slice ka2 yn kc2, .string at'] W fun e w' => e = .returned (.int .i64 n1) ∧ C w') (hn : n1 < 0)
    (hQ : ∀ m : List Value, m.length = 20 → m[19]? = some (.bool true) → Q (MA pre m suf d)) : wpQuiet Tryz.prog mvAL.toArray C Q mvAL (MA pre mid suf d) := by
  obtain ⟨u0, u1, u2, u3, u4, u5, u6, u7, u8, u9, u10, u11, u12, u13, u14, u15, u16, u17, u18, u19, rfl⟩ := twenty hm
  refine mq_val (.pointer (some ⟨b2, o2, none⟩)) hk rfl (by decide) (by simp) (want0 rfl) (fun W hW => x_move (MA.lo p9)) ?_
  show wpQuiet _ _ C Q _ (MA pre [.pointer (some ⟨b2, o2, none⟩), u1, u2, u3, u4, u5, u6, u7, u8, u9, u10, u11, u12, u13, u14, u15, u16, u17, u18, u19] suf d)
  refine mq_val (.pointer (some ⟨b2, o2, none⟩)) hk rfl (by decide) (by simp) (want0 rfl) (fun W hW => x_nil (MA.hi hk (by decide) rfl)) ?_
  show wpQuiet _ _ C Q _ (MA pre [.pointer (some ⟨b2, o2, none⟩), .pointer (some ⟨b2, o2, none⟩), u2, u3, u4, u5, u6, u7, u8, u9, u10, u11, u12, u13, u14, u15, u16, u17, u18, u19] suf d)
  refine mq_val (.pointer (some ⟨b2, o2 + 3, none⟩)) hk rfl (by decide) (by simp) (want0 rfl) (fun W hW => x_kids (MA.hi hk (by decide) rfl)) ?_
  show wpQuiet _ _ C Q _ (MA pre [.pointer (some ⟨b2, o2, none⟩), .pointer (some ⟨b2, o2, none⟩), .pointer (some ⟨b2, o2 + 3, none⟩), u3, u4, u5, u6, u7, u8, u9, u10, u11, u12, u13, u14, u15, u16, u17, u18, u19] suf d)
  refine mq_val (.slice ka2 yn kc2) hk rfl (by decide) (by simp) (want0 rfl) (fun W hW => x_ldK (MA.hi hk (by decide) rfl) (h3 W hW)) ?_
  show wpQuiet _ _ C Q _ (MA pre [.pointer (some ⟨b2, o2, none⟩), .pointer (some ⟨b2, o2, none⟩), .pointer (some ⟨b2, o2 + 3, none⟩), .slice ka2 yn kc2, u4, u5, u6, u7, u8, u9, u10, u11, u12, u13, u14, u15, u16, u17, u18, u19] suf d)
  refine mq_val (.pointer (some ⟨g0, 2, none⟩)) hk rfl (by decide) (by simp) (want0 rfl) (fun W hW => x_opAt (MA.lo p3)) ?_
  show wpQuiet _ _ C Q _ (MA pre [.pointer (some ⟨b2, o2, none⟩), .pointer (some ⟨b2, o2, none⟩), .pointer (some ⟨b2, o2 + 3, none⟩), .slice ka2 yn kc2, .pointer (some ⟨g0, 2, none⟩), u5, u6, u7, u8, u9, u10, u11, u12, u13, u14, u15, u16, u17, u18, u19] suf d)
  refine mq_val (.string at') hk rfl (by decide) (by simp) (want0 rfl) (fun W hW => x_ldS (MA.hi hk (by decide) rfl) (hA W hW)) ?_
  show wpQuiet _ _ C Q _ (MA pre [.pointer (some ⟨b2, o2, none⟩), .pointer (some ⟨b2, o2, none⟩), .pointer (some ⟨b2, o2 + 3, none⟩), .slice ka2 yn kc2, .pointer (some ⟨g0, 2, none⟩), .string at', u6, u7, u8, u9, u10, u11, u12, u13, u14, u15, u16, u17, u18, u19] suf d)
  refine mq_call 76 #[.slice ka2 yn kc2, .string at'] (.int .i64 n1) hk rfl (by decide) (by simp) (want0 rfl) (fun W hW => x_behind (MA.hi hk (by decide) rfl) (MA.hi hk (by decide) rfl) rfl) (fun W hW => hB W hW) ?_
  show wpQuiet _ _ C Q _ (MA pre [.pointer (some ⟨b2, o2, none⟩), .pointer (some ⟨b2, o2, none⟩), .pointer (some ⟨b2, o2 + 3, none⟩), .slice ka2 yn kc2, .pointer (some ⟨g0, 2, none⟩), .string at', .int .i64 n1, u7, u8, u9, u10, u11, u12, u13, u14, u15, u16, u17, u18, u19] suf d)
  refine mq_val (.bool true) hk rfl (by decide) (by simp) (want0 rfl) (fun W hW => x_lss (MA.hi hk (by decide) rfl) rfl (by simp [hn])) ?_
  show wpQuiet _ _ C Q _ (MA pre [.pointer (some ⟨b2, o2, none⟩), .pointer (some ⟨b2, o2, none⟩), .pointer (some ⟨b2, o2 + 3, none⟩), .slice ka2 yn kc2, .pointer (some ⟨g0, 2, none⟩), .string at', .int .i64 n1, .bool true, u8, u9, u10, u11, u12, u13, u14, u15, u16, u17, u18, u19] suf d)
  refine mq_val (.bool true) hk rfl (by decide) (by simp) (want0 rfl) (fun W hW => x_move (MA.hi hk (by decide) rfl)) ?_
  show wpQuiet _ _ C Q _ (MA pre [.pointer (some ⟨b2, o2, none⟩), .pointer (some ⟨b2, o2, none⟩), .pointer (some ⟨b2, o2 + 3, none⟩), .slice ka2 yn kc2, .pointer (some ⟨g0, 2, none⟩), .string at', .int .i64 n1, .bool true, .bool true, u9, u10, u11, u12, u13, u14, u15, u16, u17, u18, u19] suf d)
  refine mq_off hk rfl (by decide) (by simp) (wantG (n := 8) (j := 53) rfl rfl hk (by decide) rfl (by decide)) ?_
  show wpQuiet _ _ C Q _ (MA pre [.pointer (some ⟨b2, o2, none⟩), .pointer (some ⟨b2, o2, none⟩), .pointer (some ⟨b2, o2 + 3, none⟩), .slice ka2 yn kc2, .pointer (some ⟨g0, 2, none⟩), .string at', .int .i64 n1, .bool true, .bool true, undef, u10, u11, u12, u13, u14, u15, u16, u17, u18, u19] suf d)
  refine mq_off hk rfl (by decide) (by simp) (wantG (n := 8) (j := 53) rfl rfl hk (by decide) rfl (by decide)) ?_
  show wpQuiet _ _ C Q _ (MA pre [.pointer (some ⟨b2, o2, none⟩), .pointer (some ⟨b2, o2, none⟩), .pointer (some ⟨b2, o2 + 3, none⟩), .slice ka2 yn kc2, .pointer (some ⟨g0, 2, none⟩), .string at', .int .i64 n1, .bool true, .bool true, undef, undef, u11, u12, u13, u14, u15, u16, u17, u18, u19] suf d)
  refine mq_off hk rfl (by decide) (by simp) (wantG (n := 8) (j := 53) rfl rfl hk (by decide) rfl (by decide)) ?_
  show wpQuiet _ _ C Q _ (MA pre [.pointer (some ⟨b2, o2, none⟩), .pointer (some ⟨b2, o2, none⟩), .pointer (some ⟨b2, o2 + 3, none⟩), .slice ka2 yn kc2, .pointer (some ⟨g0, 2, none⟩), .string at', .int .i64 n1, .bool true, .bool true, undef, undef, undef, u12, u13, u14, u15, u16, u17, u18, u19] suf d)
  refine mq_off hk rfl (by decide) (by simp) (wantG (n := 8) (j := 53) rfl rfl hk (by decide) rfl (by decide)) ?_
  show wpQuiet _ _ C Q _ (MA pre [.pointer (some ⟨b2, o2, none⟩), .pointer (some ⟨b2, o2, none⟩), .pointer (some ⟨b2, o2 + 3, none⟩), .slice ka2 yn kc2, .pointer (some ⟨g0, 2, none⟩), .string at', .int .i64 n1, .bool true, .bool true, undef, undef, undef, undef, u13, u14, u15, u16, u17, u18, u19] suf d)
  refine mq_off hk rfl (by decide) (by simp) (wantU (n := 12) (j := 57) rfl rfl hk (by decide) rfl) ?_
  show wpQuiet _ _ C Q _ (MA pre [.pointer (some ⟨b2, o2, none⟩), .pointer (some ⟨b2, o2, none⟩), .pointer (some ⟨b2, o2 + 3, none⟩), .slice ka2 yn kc2, .pointer (some ⟨g0, 2, none⟩), .string at', .int .i64 n1, .bool true, .bool true, undef, undef, undef, undef, undef, u14, u15, u16, u17, u18, u19] suf d)
  refine mq_off hk rfl (by decide) (by simp) (wantU (n := 12) (j := 57) rfl rfl hk (by decide) rfl) ?_
  show wpQuiet _ _ C Q _ (MA pre [.pointer (some ⟨b2, o2, none⟩), .pointer (some ⟨b2, o2, none⟩), .pointer (some ⟨b2, o2 + 3, none⟩), .slice ka2 yn kc2, .pointer (some ⟨g0, 2, none⟩), .string at', .int .i64 n1, .bool true, .bool true, undef, undef, undef, undef, undef, undef, u15, u16, u17, u18, u19] suf d)
  refine mq_off hk rfl (by decide) (by simp) (wantU (n := 12) (j := 57) rfl rfl hk (by decide) rfl) ?_
  show wpQuiet _ _ C Q _ (MA pre [.pointer (some ⟨b2, o2, none⟩), .pointer (some ⟨b2, o2, none⟩), .pointer (some ⟨b2, o2 + 3, none⟩), .slice ka2 yn kc2, .pointer (some ⟨g0, 2, none⟩), .string at', .int .i64 n1, .bool true, .bool true, undef, undef, undef, undef, undef, undef, undef, u16, u17, u18, u19] suf d)
  refine mq_off hk rfl (by decide) (by simp) (wantU (n := 12) (j := 57) rfl rfl hk (by decide) rfl) ?_
  show wpQuiet _ _ C Q _ (MA pre [.pointer (some ⟨b2, o2, none⟩), .pointer (some ⟨b2, o2, none⟩), .pointer (some ⟨b2, o2 + 3, none⟩), .slice ka2 yn kc2, .pointer (some ⟨g0, 2, none⟩), .string at', .int .i64 n1, .bool true, .bool true, undef, undef, undef, undef, undef, undef, undef, undef, u17, u18, u19] suf d)
  refine mq_off hk rfl (by decide) (by simp) (wantU (n := 12) (j := 57) rfl rfl hk (by decide) rfl) ?_
  show wpQuiet _ _ C Q _ (MA pre [.pointer (some ⟨b2, o2, none⟩), .pointer (some ⟨b2, o2, none⟩), .pointer (some ⟨b2, o2 + 3, none⟩), .slice ka2 yn kc2, .pointer (some ⟨g0, 2, none⟩), .string at', .int .i64 n1, .bool true, .bool true, undef, undef, undef, undef, undef, undef, undef, undef, undef, u18, u19] suf d)
  refine mq_off hk rfl (by decide) (by simp) (wantG (n := 8) (j := 53) rfl rfl hk (by decide) rfl (by decide)) ?_
  show wpQuiet _ _ C Q _ (MA pre [.pointer (some ⟨b2, o2, none⟩), .pointer (some ⟨b2, o2, none⟩), .pointer (some ⟨b2, o2 + 3, none⟩), .slice ka2 yn kc2, .pointer (some ⟨g0, 2, none⟩), .string at', .int .i64 n1, .bool true, .bool true, undef, undef, undef, undef, undef, undef, undef, undef, undef, undef, u19] suf d)
  refine mq_val (.bool true) hk rfl (by decide) (by simp) (want0 rfl) (fun W hW => x_pick (c := true) (u := .bool true) (v := undef) (MA.hi hk (by decide) rfl) rfl (MA.hi hk (by decide) rfl) rfl) ?_
  show wpQuiet _ _ C Q _ (MA pre [.pointer (some ⟨b2, o2, none⟩), .pointer (some ⟨b2, o2, none⟩), .pointer (some ⟨b2, o2 + 3, none⟩), .slice ka2 yn kc2, .pointer (some ⟨g0, 2, none⟩), .string at', .int .i64 n1, .bool true, .bool true, undef, undef, undef, undef, undef, undef, undef, undef, undef, undef, .bool true] suf d)
  exact wpQuiet_nil (hQ _ rfl rfl)
set_option maxRecDepth 20000 in
theorem mvA_other {C : World → Prop} {Q : Act → Prop} {pre mid suf : List Value} {d : List Deferred} (hk : pre.length = 45) (hm : mid.length = 20) {b1 o1 b2 o2 g0 g1 : Nat} {ka2 : Option Addr} {yn kc2 : Nat} {at' lab : ByteArray} {n1 : Int} {same : Bool}
    (p9 : pre[9]? = some (.pointer (some ⟨b2, o2, none⟩))) (p7 : pre[7]? = some (.pointer (some ⟨b1, o1, none⟩))) (p3 : pre[3]? = some (.pointer (some ⟨g0, 0, none⟩))) (p10 : pre[10]? = some (.pointer (some ⟨g1, 0, none⟩)))
    (h3 : ∀ W, C W → W.cell? ⟨b2, o2 + 3, none⟩ = some (.slice ka2 yn kc2)) (hA : ∀ W, C W → W.cell? ⟨g0, 2, none⟩ = some (.string at')) (hL : ∀ W, C W → W.cell? ⟨g1, 0, none⟩ = some (.string lab))
    (hB : ∀ W, C W → Calls Tryz.prog 76 #[.slice ka2 yn kc2, .string at'] W fun e w' => e = .returned (.int .i64 n1) ∧ C w') (hn : ¬ n1 < 0) (hE : ∀ W, C W → (binOp .eql 51 (.pointer (some ⟨b2, o2, none⟩)) (.pointer (some ⟨b1, o1, none⟩))).run Tryz.prog W = .ok (.bool false) W)
    (hQ : ∀ m : List Value, m.length = 20 → m[19]? = some (.bool false) → Q (MA pre m suf d)) : wpQuiet Tryz.prog mvAL.toArray C Q mvAL (MA pre mid suf d) := by
  obtain ⟨u0, u1, u2, u3, u4, u5, u6, u7, u8, u9, u10, u11, u12, u13, u14, u15, u16, u17, u18, u19, rfl⟩ := twenty hm
  refine mq_val (.pointer (some ⟨b2, o2, none⟩)) hk rfl (by decide) (by simp) (want0 rfl) (fun W hW => x_move (MA.lo p9)) ?_
  show wpQuiet _ _ C Q _ (MA pre [.pointer (some ⟨b2, o2, none⟩), u1, u2, u3, u4, u5, u6, u7, u8, u9, u10, u11, u12, u13, u14, u15, u16, u17, u18, u19] suf d)
  refine mq_val (.pointer (some ⟨b2, o2, none⟩)) hk rfl (by decide) (by simp) (want0 rfl) (fun W hW => x_nil (MA.hi hk (by decide) rfl)) ?_
  show wpQuiet _ _ C Q _ (MA pre [.pointer (some ⟨b2, o2, none⟩), .pointer (some ⟨b2, o2, none⟩), u2, u3, u4, u5, u6, u7, u8, u9, u10, u11, u12, u13, u14, u15, u16, u17, u18, u19] suf d)
  refine mq_val (.pointer (some ⟨b2, o2 + 3, none⟩)) hk rfl (by decide) (by simp) (want0 rfl) (fun W hW => x_kids (MA.hi hk (by decide) rfl)) ?_
  show wpQuiet _ _ C Q _ (MA pre [.pointer (some ⟨b2, o2, none⟩), .pointer (some ⟨b2, o2, none⟩), .pointer (some ⟨b2, o2 + 3, none⟩), u3, u4, u5, u6, u7, u8, u9, u10, u11, u12, u13, u14, u15, u16, u17, u18, u19] suf d)
  refine mq_val (.slice ka2 yn kc2) hk rfl (by decide) (by simp) (want0 rfl) (fun W hW => x_ldK (MA.hi hk (by decide) rfl) (h3 W hW)) ?_
  show wpQuiet _ _ C Q _ (MA pre [.pointer (some ⟨b2, o2, none⟩), .pointer (some ⟨b2, o2, none⟩), .pointer (some ⟨b2, o2 + 3, none⟩), .slice ka2 yn kc2, u4, u5, u6, u7, u8, u9, u10, u11, u12, u13, u14, u15, u16, u17, u18, u19] suf d)
  refine mq_val (.pointer (some ⟨g0, 2, none⟩)) hk rfl (by decide) (by simp) (want0 rfl) (fun W hW => x_opAt (MA.lo p3)) ?_
  show wpQuiet _ _ C Q _ (MA pre [.pointer (some ⟨b2, o2, none⟩), .pointer (some ⟨b2, o2, none⟩), .pointer (some ⟨b2, o2 + 3, none⟩), .slice ka2 yn kc2, .pointer (some ⟨g0, 2, none⟩), u5, u6, u7, u8, u9, u10, u11, u12, u13, u14, u15, u16, u17, u18, u19] suf d)
  refine mq_val (.string at') hk rfl (by decide) (by simp) (want0 rfl) (fun W hW => x_ldS (MA.hi hk (by decide) rfl) (hA W hW)) ?_
  show wpQuiet _ _ C Q _ (MA pre [.pointer (some ⟨b2, o2, none⟩), .pointer (some ⟨b2, o2, none⟩), .pointer (some ⟨b2, o2 + 3, none⟩), .slice ka2 yn kc2, .pointer (some ⟨g0, 2, none⟩), .string at', u6, u7, u8, u9, u10, u11, u12, u13, u14, u15, u16, u17, u18, u19] suf d)
  refine mq_call 76 #[.slice ka2 yn kc2, .string at'] (.int .i64 n1) hk rfl (by decide) (by simp) (want0 rfl) (fun W hW => x_behind (MA.hi hk (by decide) rfl) (MA.hi hk (by decide) rfl) rfl) (fun W hW => hB W hW) ?_
  show wpQuiet _ _ C Q _ (MA pre [.pointer (some ⟨b2, o2, none⟩), .pointer (some ⟨b2, o2, none⟩), .pointer (some ⟨b2, o2 + 3, none⟩), .slice ka2 yn kc2, .pointer (some ⟨g0, 2, none⟩), .string at', .int .i64 n1, u7, u8, u9, u10, u11, u12, u13, u14, u15, u16, u17, u18, u19] suf d)
  refine mq_val (.bool false) hk rfl (by decide) (by simp) (want0 rfl) (fun W hW => x_lss (MA.hi hk (by decide) rfl) rfl (by simp [hn])) ?_
  show wpQuiet _ _ C Q _ (MA pre [.pointer (some ⟨b2, o2, none⟩), .pointer (some ⟨b2, o2, none⟩), .pointer (some ⟨b2, o2 + 3, none⟩), .slice ka2 yn kc2, .pointer (some ⟨g0, 2, none⟩), .string at', .int .i64 n1, .bool false, u8, u9, u10, u11, u12, u13, u14, u15, u16, u17, u18, u19] suf d)
  refine mq_val (.bool false) hk rfl (by decide) (by simp) (want0 rfl) (fun W hW => x_move (MA.hi hk (by decide) rfl)) ?_
  show wpQuiet _ _ C Q _ (MA pre [.pointer (some ⟨b2, o2, none⟩), .pointer (some ⟨b2, o2, none⟩), .pointer (some ⟨b2, o2 + 3, none⟩), .slice ka2 yn kc2, .pointer (some ⟨g0, 2, none⟩), .string at', .int .i64 n1, .bool false, .bool false, u9, u10, u11, u12, u13, u14, u15, u16, u17, u18, u19] suf d)
  refine mq_val (.pointer (some ⟨b2, o2, none⟩)) hk rfl (by decide) (by simp) (wantG (n := 8) (j := 53) rfl rfl hk (by decide) rfl (by decide)) (fun W hW => x_move (MA.lo p9)) ?_
  show wpQuiet _ _ C Q _ (MA pre [.pointer (some ⟨b2, o2, none⟩), .pointer (some ⟨b2, o2, none⟩), .pointer (some ⟨b2, o2 + 3, none⟩), .slice ka2 yn kc2, .pointer (some ⟨g0, 2, none⟩), .string at', .int .i64 n1, .bool false, .bool false, .pointer (some ⟨b2, o2, none⟩), u10, u11, u12, u13, u14, u15, u16, u17, u18, u19] suf d)
  refine mq_val (.pointer (some ⟨b1, o1, none⟩)) hk rfl (by decide) (by simp) (wantG (n := 8) (j := 53) rfl rfl hk (by decide) rfl (by decide)) (fun W hW => x_move (MA.lo p7)) ?_
  show wpQuiet _ _ C Q _ (MA pre [.pointer (some ⟨b2, o2, none⟩), .pointer (some ⟨b2, o2, none⟩), .pointer (some ⟨b2, o2 + 3, none⟩), .slice ka2 yn kc2, .pointer (some ⟨g0, 2, none⟩), .string at', .int .i64 n1, .bool false, .bool false, .pointer (some ⟨b2, o2, none⟩), .pointer (some ⟨b1, o1, none⟩), u11, u12, u13, u14, u15, u16, u17, u18, u19] suf d)
  refine mq_val (.bool false) hk rfl (by decide) (by simp) (wantG (n := 8) (j := 53) rfl rfl hk (by decide) rfl (by decide)) (fun W hW => x_bin (MA.hi hk (by decide) rfl) (MA.hi hk (by decide) rfl) rfl (hE W hW)) ?_
  show wpQuiet _ _ C Q _ (MA pre [.pointer (some ⟨b2, o2, none⟩), .pointer (some ⟨b2, o2, none⟩), .pointer (some ⟨b2, o2 + 3, none⟩), .slice ka2 yn kc2, .pointer (some ⟨g0, 2, none⟩), .string at', .int .i64 n1, .bool false, .bool false, .pointer (some ⟨b2, o2, none⟩), .pointer (some ⟨b1, o1, none⟩), .bool false, u12, u13, u14, u15, u16, u17, u18, u19] suf d)
  refine mq_val (.bool false) hk rfl (by decide) (by simp) (wantG (n := 8) (j := 53) rfl rfl hk (by decide) rfl (by decide)) (fun W hW => x_move (MA.hi hk (by decide) rfl)) ?_
  show wpQuiet _ _ C Q _ (MA pre [.pointer (some ⟨b2, o2, none⟩), .pointer (some ⟨b2, o2, none⟩), .pointer (some ⟨b2, o2 + 3, none⟩), .slice ka2 yn kc2, .pointer (some ⟨g0, 2, none⟩), .string at', .int .i64 n1, .bool false, .bool false, .pointer (some ⟨b2, o2, none⟩), .pointer (some ⟨b1, o1, none⟩), .bool false, .bool false, u13, u14, u15, u16, u17, u18, u19] suf d)
  refine mq_off hk rfl (by decide) (by simp) (wantG (n := 12) (j := 57) rfl rfl hk (by decide) rfl (by decide)) ?_
  show wpQuiet _ _ C Q _ (MA pre [.pointer (some ⟨b2, o2, none⟩), .pointer (some ⟨b2, o2, none⟩), .pointer (some ⟨b2, o2 + 3, none⟩), .slice ka2 yn kc2, .pointer (some ⟨g0, 2, none⟩), .string at', .int .i64 n1, .bool false, .bool false, .pointer (some ⟨b2, o2, none⟩), .pointer (some ⟨b1, o1, none⟩), .bool false, .bool false, undef, u14, u15, u16, u17, u18, u19] suf d)
  refine mq_off hk rfl (by decide) (by simp) (wantG (n := 12) (j := 57) rfl rfl hk (by decide) rfl (by decide)) ?_
  show wpQuiet _ _ C Q _ (MA pre [.pointer (some ⟨b2, o2, none⟩), .pointer (some ⟨b2, o2, none⟩), .pointer (some ⟨b2, o2 + 3, none⟩), .slice ka2 yn kc2, .pointer (some ⟨g0, 2, none⟩), .string at', .int .i64 n1, .bool false, .bool false, .pointer (some ⟨b2, o2, none⟩), .pointer (some ⟨b1, o1, none⟩), .bool false, .bool false, undef, undef, u15, u16, u17, u18, u19] suf d)
  refine mq_off hk rfl (by decide) (by simp) (wantG (n := 12) (j := 57) rfl rfl hk (by decide) rfl (by decide)) ?_
  show wpQuiet _ _ C Q _ (MA pre [.pointer (some ⟨b2, o2, none⟩), .pointer (some ⟨b2, o2, none⟩), .pointer (some ⟨b2, o2 + 3, none⟩), .slice ka2 yn kc2, .pointer (some ⟨g0, 2, none⟩), .string at', .int .i64 n1, .bool false, .bool false, .pointer (some ⟨b2, o2, none⟩), .pointer (some ⟨b1, o1, none⟩), .bool false, .bool false, undef, undef, undef, u16, u17, u18, u19] suf d)
  refine mq_off hk rfl (by decide) (by simp) (wantG (n := 12) (j := 57) rfl rfl hk (by decide) rfl (by decide)) ?_
  show wpQuiet _ _ C Q _ (MA pre [.pointer (some ⟨b2, o2, none⟩), .pointer (some ⟨b2, o2, none⟩), .pointer (some ⟨b2, o2 + 3, none⟩), .slice ka2 yn kc2, .pointer (some ⟨g0, 2, none⟩), .string at', .int .i64 n1, .bool false, .bool false, .pointer (some ⟨b2, o2, none⟩), .pointer (some ⟨b1, o1, none⟩), .bool false, .bool false, undef, undef, undef, undef, u17, u18, u19] suf d)
  refine mq_off hk rfl (by decide) (by simp) (wantG (n := 12) (j := 57) rfl rfl hk (by decide) rfl (by decide)) ?_
  show wpQuiet _ _ C Q _ (MA pre [.pointer (some ⟨b2, o2, none⟩), .pointer (some ⟨b2, o2, none⟩), .pointer (some ⟨b2, o2 + 3, none⟩), .slice ka2 yn kc2, .pointer (some ⟨g0, 2, none⟩), .string at', .int .i64 n1, .bool false, .bool false, .pointer (some ⟨b2, o2, none⟩), .pointer (some ⟨b1, o1, none⟩), .bool false, .bool false, undef, undef, undef, undef, undef, u18, u19] suf d)
  refine mq_val (.bool false) hk rfl (by decide) (by simp) (wantG (n := 8) (j := 53) rfl rfl hk (by decide) rfl (by decide)) (fun W hW => x_pick (c := false) (u := undef) (MA.hi hk (by decide) rfl) (MA.hi hk (by decide) rfl) rfl rfl) ?_
  show wpQuiet _ _ C Q _ (MA pre [.pointer (some ⟨b2, o2, none⟩), .pointer (some ⟨b2, o2, none⟩), .pointer (some ⟨b2, o2 + 3, none⟩), .slice ka2 yn kc2, .pointer (some ⟨g0, 2, none⟩), .string at', .int .i64 n1, .bool false, .bool false, .pointer (some ⟨b2, o2, none⟩), .pointer (some ⟨b1, o1, none⟩), .bool false, .bool false, undef, undef, undef, undef, undef, .bool false, u19] suf d)
  refine mq_val (.bool false) hk rfl (by decide) (by simp) (want0 rfl) (fun W hW => x_pick (c := false) (MA.hi hk (by decide) rfl) rfl (MA.hi hk (by decide) rfl) rfl) ?_
  show wpQuiet _ _ C Q _ (MA pre [.pointer (some ⟨b2, o2, none⟩), .pointer (some ⟨b2, o2, none⟩), .pointer (some ⟨b2, o2 + 3, none⟩), .slice ka2 yn kc2, .pointer (some ⟨g0, 2, none⟩), .string at', .int .i64 n1, .bool false, .bool false, .pointer (some ⟨b2, o2, none⟩), .pointer (some ⟨b1, o1, none⟩), .bool false, .bool false, undef, undef, undef, undef, undef, .bool false, .bool false] suf d)
  exact wpQuiet_nil (hQ _ rfl rfl)
set_option maxRecDepth 20000 in
theorem mvA_same {C : World → Prop} {Q : Act → Prop} {pre mid suf : List Value} {d : List Deferred} (hk : pre.length = 45) (hm : mid.length = 20) {b1 o1 b2 o2 g0 g1 : Nat} {ka2 : Option Addr} {yn kc2 : Nat} {at' lab : ByteArray} {n1 : Int} {same : Bool}
    (p9 : pre[9]? = some (.pointer (some ⟨b2, o2, none⟩))) (p7 : pre[7]? = some (.pointer (some ⟨b1, o1, none⟩))) (p3 : pre[3]? = some (.pointer (some ⟨g0, 0, none⟩))) (p10 : pre[10]? = some (.pointer (some ⟨g1, 0, none⟩)))
    (h3 : ∀ W, C W → W.cell? ⟨b2, o2 + 3, none⟩ = some (.slice ka2 yn kc2)) (hA : ∀ W, C W → W.cell? ⟨g0, 2, none⟩ = some (.string at')) (hL : ∀ W, C W → W.cell? ⟨g1, 0, none⟩ = some (.string lab))
    (hB : ∀ W, C W → Calls Tryz.prog 76 #[.slice ka2 yn kc2, .string at'] W fun e w' => e = .returned (.int .i64 n1) ∧ C w') (hn : ¬ n1 < 0) (hE : ∀ W, C W → (binOp .eql 51 (.pointer (some ⟨b2, o2, none⟩)) (.pointer (some ⟨b1, o1, none⟩))).run Tryz.prog W = .ok (.bool true) W) (hs : (at'.toList == lab.toList) = same)
    (hQ : ∀ m : List Value, m.length = 20 → m[19]? = some (.bool same) → Q (MA pre m suf d)) : wpQuiet Tryz.prog mvAL.toArray C Q mvAL (MA pre mid suf d) := by
  obtain ⟨u0, u1, u2, u3, u4, u5, u6, u7, u8, u9, u10, u11, u12, u13, u14, u15, u16, u17, u18, u19, rfl⟩ := twenty hm
  refine mq_val (.pointer (some ⟨b2, o2, none⟩)) hk rfl (by decide) (by simp) (want0 rfl) (fun W hW => x_move (MA.lo p9)) ?_
  show wpQuiet _ _ C Q _ (MA pre [.pointer (some ⟨b2, o2, none⟩), u1, u2, u3, u4, u5, u6, u7, u8, u9, u10, u11, u12, u13, u14, u15, u16, u17, u18, u19] suf d)
  refine mq_val (.pointer (some ⟨b2, o2, none⟩)) hk rfl (by decide) (by simp) (want0 rfl) (fun W hW => x_nil (MA.hi hk (by decide) rfl)) ?_
  show wpQuiet _ _ C Q _ (MA pre [.pointer (some ⟨b2, o2, none⟩), .pointer (some ⟨b2, o2, none⟩), u2, u3, u4, u5, u6, u7, u8, u9, u10, u11, u12, u13, u14, u15, u16, u17, u18, u19] suf d)
  refine mq_val (.pointer (some ⟨b2, o2 + 3, none⟩)) hk rfl (by decide) (by simp) (want0 rfl) (fun W hW => x_kids (MA.hi hk (by decide) rfl)) ?_
  show wpQuiet _ _ C Q _ (MA pre [.pointer (some ⟨b2, o2, none⟩), .pointer (some ⟨b2, o2, none⟩), .pointer (some ⟨b2, o2 + 3, none⟩), u3, u4, u5, u6, u7, u8, u9, u10, u11, u12, u13, u14, u15, u16, u17, u18, u19] suf d)
  refine mq_val (.slice ka2 yn kc2) hk rfl (by decide) (by simp) (want0 rfl) (fun W hW => x_ldK (MA.hi hk (by decide) rfl) (h3 W hW)) ?_
  show wpQuiet _ _ C Q _ (MA pre [.pointer (some ⟨b2, o2, none⟩), .pointer (some ⟨b2, o2, none⟩), .pointer (some ⟨b2, o2 + 3, none⟩), .slice ka2 yn kc2, u4, u5, u6, u7, u8, u9, u10, u11, u12, u13, u14, u15, u16, u17, u18, u19] suf d)
  refine mq_val (.pointer (some ⟨g0, 2, none⟩)) hk rfl (by decide) (by simp) (want0 rfl) (fun W hW => x_opAt (MA.lo p3)) ?_
  show wpQuiet _ _ C Q _ (MA pre [.pointer (some ⟨b2, o2, none⟩), .pointer (some ⟨b2, o2, none⟩), .pointer (some ⟨b2, o2 + 3, none⟩), .slice ka2 yn kc2, .pointer (some ⟨g0, 2, none⟩), u5, u6, u7, u8, u9, u10, u11, u12, u13, u14, u15, u16, u17, u18, u19] suf d)
  refine mq_val (.string at') hk rfl (by decide) (by simp) (want0 rfl) (fun W hW => x_ldS (MA.hi hk (by decide) rfl) (hA W hW)) ?_
  show wpQuiet _ _ C Q _ (MA pre [.pointer (some ⟨b2, o2, none⟩), .pointer (some ⟨b2, o2, none⟩), .pointer (some ⟨b2, o2 + 3, none⟩), .slice ka2 yn kc2, .pointer (some ⟨g0, 2, none⟩), .string at', u6, u7, u8, u9, u10, u11, u12, u13, u14, u15, u16, u17, u18, u19] suf d)
  refine mq_call 76 #[.slice ka2 yn kc2, .string at'] (.int .i64 n1) hk rfl (by decide) (by simp) (want0 rfl) (fun W hW => x_behind (MA.hi hk (by decide) rfl) (MA.hi hk (by decide) rfl) rfl) (fun W hW => hB W hW) ?_
  show wpQuiet _ _ C Q _ (MA pre [.pointer (some ⟨b2, o2, none⟩), .pointer (some ⟨b2, o2, none⟩), .pointer (some ⟨b2, o2 + 3, none⟩), .slice ka2 yn kc2, .pointer (some ⟨g0, 2, none⟩), .string at', .int .i64 n1, u7, u8, u9, u10, u11, u12, u13, u14, u15, u16, u17, u18, u19] suf d)
  refine mq_val (.bool false) hk rfl (by decide) (by simp) (want0 rfl) (fun W hW => x_lss (MA.hi hk (by decide) rfl) rfl (by simp [hn])) ?_
  show wpQuiet _ _ C Q _ (MA pre [.pointer (some ⟨b2, o2, none⟩), .pointer (some ⟨b2, o2, none⟩), .pointer (some ⟨b2, o2 + 3, none⟩), .slice ka2 yn kc2, .pointer (some ⟨g0, 2, none⟩), .string at', .int .i64 n1, .bool false, u8, u9, u10, u11, u12, u13, u14, u15, u16, u17, u18, u19] suf d)
  refine mq_val (.bool false) hk rfl (by decide) (by simp) (want0 rfl) (fun W hW => x_move (MA.hi hk (by decide) rfl)) ?_
  show wpQuiet _ _ C Q _ (MA pre [.pointer (some ⟨b2, o2, none⟩), .pointer (some ⟨b2, o2, none⟩), .pointer (some ⟨b2, o2 + 3, none⟩), .slice ka2 yn kc2, .pointer (some ⟨g0, 2, none⟩), .string at', .int .i64 n1, .bool false, .bool false, u9, u10, u11, u12, u13, u14, u15, u16, u17, u18, u19] suf d)
  refine mq_val (.pointer (some ⟨b2, o2, none⟩)) hk rfl (by decide) (by simp) (wantG (n := 8) (j := 53) rfl rfl hk (by decide) rfl (by decide)) (fun W hW => x_move (MA.lo p9)) ?_
  show wpQuiet _ _ C Q _ (MA pre [.pointer (some ⟨b2, o2, none⟩), .pointer (some ⟨b2, o2, none⟩), .pointer (some ⟨b2, o2 + 3, none⟩), .slice ka2 yn kc2, .pointer (some ⟨g0, 2, none⟩), .string at', .int .i64 n1, .bool false, .bool false, .pointer (some ⟨b2, o2, none⟩), u10, u11, u12, u13, u14, u15, u16, u17, u18, u19] suf d)
  refine mq_val (.pointer (some ⟨b1, o1, none⟩)) hk rfl (by decide) (by simp) (wantG (n := 8) (j := 53) rfl rfl hk (by decide) rfl (by decide)) (fun W hW => x_move (MA.lo p7)) ?_
  show wpQuiet _ _ C Q _ (MA pre [.pointer (some ⟨b2, o2, none⟩), .pointer (some ⟨b2, o2, none⟩), .pointer (some ⟨b2, o2 + 3, none⟩), .slice ka2 yn kc2, .pointer (some ⟨g0, 2, none⟩), .string at', .int .i64 n1, .bool false, .bool false, .pointer (some ⟨b2, o2, none⟩), .pointer (some ⟨b1, o1, none⟩), u11, u12, u13, u14, u15, u16, u17, u18, u19] suf d)
  refine mq_val (.bool true) hk rfl (by decide) (by simp) (wantG (n := 8) (j := 53) rfl rfl hk (by decide) rfl (by decide)) (fun W hW => x_bin (MA.hi hk (by decide) rfl) (MA.hi hk (by decide) rfl) rfl (hE W hW)) ?_
  show wpQuiet _ _ C Q _ (MA pre [.pointer (some ⟨b2, o2, none⟩), .pointer (some ⟨b2, o2, none⟩), .pointer (some ⟨b2, o2 + 3, none⟩), .slice ka2 yn kc2, .pointer (some ⟨g0, 2, none⟩), .string at', .int .i64 n1, .bool false, .bool false, .pointer (some ⟨b2, o2, none⟩), .pointer (some ⟨b1, o1, none⟩), .bool true, u12, u13, u14, u15, u16, u17, u18, u19] suf d)
  refine mq_val (.bool true) hk rfl (by decide) (by simp) (wantG (n := 8) (j := 53) rfl rfl hk (by decide) rfl (by decide)) (fun W hW => x_move (MA.hi hk (by decide) rfl)) ?_
  show wpQuiet _ _ C Q _ (MA pre [.pointer (some ⟨b2, o2, none⟩), .pointer (some ⟨b2, o2, none⟩), .pointer (some ⟨b2, o2 + 3, none⟩), .slice ka2 yn kc2, .pointer (some ⟨g0, 2, none⟩), .string at', .int .i64 n1, .bool false, .bool false, .pointer (some ⟨b2, o2, none⟩), .pointer (some ⟨b1, o1, none⟩), .bool true, .bool true, u13, u14, u15, u16, u17, u18, u19] suf d)
  refine mq_val (.pointer (some ⟨g0, 2, none⟩)) hk rfl (by decide) (by simp) (wantG (n := 12) (j := 57) rfl rfl hk (by decide) rfl (by decide)) (fun W hW => x_opAt (MA.lo p3)) ?_
  show wpQuiet _ _ C Q _ (MA pre [.pointer (some ⟨b2, o2, none⟩), .pointer (some ⟨b2, o2, none⟩), .pointer (some ⟨b2, o2 + 3, none⟩), .slice ka2 yn kc2, .pointer (some ⟨g0, 2, none⟩), .string at', .int .i64 n1, .bool false, .bool false, .pointer (some ⟨b2, o2, none⟩), .pointer (some ⟨b1, o1, none⟩), .bool true, .bool true, .pointer (some ⟨g0, 2, none⟩), u14, u15, u16, u17, u18, u19] suf d)
  refine mq_val (.string at') hk rfl (by decide) (by simp) (wantG (n := 12) (j := 57) rfl rfl hk (by decide) rfl (by decide)) (fun W hW => x_ldS (MA.hi hk (by decide) rfl) (hA W hW)) ?_
  show wpQuiet _ _ C Q _ (MA pre [.pointer (some ⟨b2, o2, none⟩), .pointer (some ⟨b2, o2, none⟩), .pointer (some ⟨b2, o2 + 3, none⟩), .slice ka2 yn kc2, .pointer (some ⟨g0, 2, none⟩), .string at', .int .i64 n1, .bool false, .bool false, .pointer (some ⟨b2, o2, none⟩), .pointer (some ⟨b1, o1, none⟩), .bool true, .bool true, .pointer (some ⟨g0, 2, none⟩), .string at', u15, u16, u17, u18, u19] suf d)
  refine mq_val (.pointer (some ⟨g1, 0, none⟩)) hk rfl (by decide) (by simp) (wantG (n := 12) (j := 57) rfl rfl hk (by decide) rfl (by decide)) (fun W hW => x_label (MA.lo p10)) ?_
  show wpQuiet _ _ C Q _ (MA pre [.pointer (some ⟨b2, o2, none⟩), .pointer (some ⟨b2, o2, none⟩), .pointer (some ⟨b2, o2 + 3, none⟩), .slice ka2 yn kc2, .pointer (some ⟨g0, 2, none⟩), .string at', .int .i64 n1, .bool false, .bool false, .pointer (some ⟨b2, o2, none⟩), .pointer (some ⟨b1, o1, none⟩), .bool true, .bool true, .pointer (some ⟨g0, 2, none⟩), .string at', .pointer (some ⟨g1, 0, none⟩), u16, u17, u18, u19] suf d)
  refine mq_val (.string lab) hk rfl (by decide) (by simp) (wantG (n := 12) (j := 57) rfl rfl hk (by decide) rfl (by decide)) (fun W hW => x_ldS (MA.hi hk (by decide) rfl) (hL W hW)) ?_
  show wpQuiet _ _ C Q _ (MA pre [.pointer (some ⟨b2, o2, none⟩), .pointer (some ⟨b2, o2, none⟩), .pointer (some ⟨b2, o2 + 3, none⟩), .slice ka2 yn kc2, .pointer (some ⟨g0, 2, none⟩), .string at', .int .i64 n1, .bool false, .bool false, .pointer (some ⟨b2, o2, none⟩), .pointer (some ⟨b1, o1, none⟩), .bool true, .bool true, .pointer (some ⟨g0, 2, none⟩), .string at', .pointer (some ⟨g1, 0, none⟩), .string lab, u17, u18, u19] suf d)
  refine mq_val (.bool same) hk rfl (by decide) (by simp) (wantG (n := 12) (j := 57) rfl rfl hk (by decide) rfl (by decide)) (fun W hW => x_eqS (MA.hi hk (by decide) rfl) (MA.hi hk (by decide) rfl) hs) ?_
  show wpQuiet _ _ C Q _ (MA pre [.pointer (some ⟨b2, o2, none⟩), .pointer (some ⟨b2, o2, none⟩), .pointer (some ⟨b2, o2 + 3, none⟩), .slice ka2 yn kc2, .pointer (some ⟨g0, 2, none⟩), .string at', .int .i64 n1, .bool false, .bool false, .pointer (some ⟨b2, o2, none⟩), .pointer (some ⟨b1, o1, none⟩), .bool true, .bool true, .pointer (some ⟨g0, 2, none⟩), .string at', .pointer (some ⟨g1, 0, none⟩), .string lab, .bool same, u18, u19] suf d)
  refine mq_val (.bool same) hk rfl (by decide) (by simp) (wantG (n := 8) (j := 53) rfl rfl hk (by decide) rfl (by decide)) (fun W hW => x_pick (c := true) (MA.hi hk (by decide) rfl) (MA.hi hk (by decide) rfl) rfl rfl) ?_
  show wpQuiet _ _ C Q _ (MA pre [.pointer (some ⟨b2, o2, none⟩), .pointer (some ⟨b2, o2, none⟩), .pointer (some ⟨b2, o2 + 3, none⟩), .slice ka2 yn kc2, .pointer (some ⟨g0, 2, none⟩), .string at', .int .i64 n1, .bool false, .bool false, .pointer (some ⟨b2, o2, none⟩), .pointer (some ⟨b1, o1, none⟩), .bool true, .bool true, .pointer (some ⟨g0, 2, none⟩), .string at', .pointer (some ⟨g1, 0, none⟩), .string lab, .bool same, .bool same, u19] suf d)
  refine mq_val (.bool same) hk rfl (by decide) (by simp) (want0 rfl) (fun W hW => x_pick (c := false) (MA.hi hk (by decide) rfl) rfl (MA.hi hk (by decide) rfl) rfl) ?_
  show wpQuiet _ _ C Q _ (MA pre [.pointer (some ⟨b2, o2, none⟩), .pointer (some ⟨b2, o2, none⟩), .pointer (some ⟨b2, o2 + 3, none⟩), .slice ka2 yn kc2, .pointer (some ⟨g0, 2, none⟩), .string at', .int .i64 n1, .bool false, .bool false, .pointer (some ⟨b2, o2, none⟩), .pointer (some ⟨b1, o1, none⟩), .bool true, .bool true, .pointer (some ⟨g0, 2, none⟩), .string at', .pointer (some ⟨g1, 0, none⟩), .string lab, .bool same, .bool same, .bool same] suf d)
  exact wpQuiet_nil (hQ _ rfl rfl)
def mvB0 : Oper := { dst := some 66, op := Op.move (Operand.tmp 9), type := 51, pos := "amend.go:107", after := #[], guard := none }
def mvB1 : Oper := { dst := some 67, op := Op.move (Operand.tmp 7), type := 51, pos := "amend.go:107", after := #[], guard := none }
def mvB2 : Oper := { dst := some 68, op := Op.binOp BinOp.neq 51 (Operand.tmp 66) (Operand.tmp 67) 51, type := 4, pos := "amend.go:107", after := #[{ on := 0, ground := Ground.data }, { on := 1, ground := Ground.data }], guard := none }
def mvB3 : Oper := { dst := some 69, op := Op.move (Operand.tmp 68), type := 4, pos := "amend.go:107", after := #[{ on := 2, ground := Ground.data }], guard := none }
def mvB4 : Oper := { dst := some 70, op := Op.move (Operand.tmp 9), type := 51, pos := "amend.go:107", after := #[{ on := 3, ground := Ground.guard }], guard := some (3, true) }
def mvB5 : Oper := { dst := some 71, op := Op.nilCheck (Operand.tmp 70), type := 0, pos := "amend.go:107", after := #[{ on := 4, ground := Ground.data }, { on := 3, ground := Ground.guard }], guard := some (3, true) }
def mvB6 : Oper := { dst := some 72, op := Op.fieldAddr 25 (Operand.tmp 71) 3, type := 0, pos := "amend.go:107", after := #[{ on := 5, ground := Ground.data }, { on := 3, ground := Ground.guard }], guard := some (3, true) }
def mvB7 : Oper := { dst := some 73, op := Op.load 23 (Operand.tmp 72), type := 23, pos := "amend.go:107", after := #[{ on := 6, ground := Ground.data }, { on := 3, ground := Ground.guard }], guard := some (3, true) }
def mvB8 : Oper := { dst := some 74, op := Op.fieldAddr 25 (Operand.tmp 10) 0, type := 0, pos := "amend.go:107", after := #[{ on := 3, ground := Ground.guard }], guard := some (3, true) }
def mvB9 : Oper := { dst := some 75, op := Op.load 9 (Operand.tmp 74), type := 9, pos := "amend.go:107", after := #[{ on := 8, ground := Ground.data }, { on := 3, ground := Ground.guard }], guard := some (3, true) }
def mvB10 : Oper := { dst := some 76, op := Op.call { callee := Callee.value (Operand.func 69), args := #[Operand.tmp 73, Operand.tmp 75], argTypes := #[23, 9] }, type := 3, pos := "amend.go:107", after := #[{ on := 7, ground := Ground.data }, { on := 9, ground := Ground.data }, { on := 3, ground := Ground.chain }, { on := 3, ground := Ground.guard }], guard := some (3, true) }
def mvB11 : Oper := { dst := some 77, op := Op.binOp BinOp.geq 3 (Operand.tmp 76) (Operand.const (Value.int IntKind.i64 0)) 3, type := 4, pos := "amend.go:107", after := #[{ on := 10, ground := Ground.data }, { on := 3, ground := Ground.guard }], guard := some (3, true) }
def mvB12 : Oper := { dst := some 78, op := Op.pick (Operand.tmp 69) (Operand.tmp 77) (Operand.const (Value.bool false)), type := 4, pos := "amend.go:107", after := #[{ on := 3, ground := Ground.data }, { on := 11, ground := Ground.data }], guard := none }
def mvBL : List Oper := [mvB0, mvB1, mvB2, mvB3, mvB4, mvB5, mvB6, mvB7, mvB8, mvB9, mvB10, mvB11, mvB12]
theorem thirteen {mid : List Value} (h : mid.length = 13) : ∃ u0 u1 u2 u3 u4 u5 u6 u7 u8 u9 u10 u11 u12 : Value, mid = [u0, u1, u2, u3, u4, u5, u6, u7, u8, u9, u10, u11, u12] := by
  match mid, h with
  | [u0, u1, u2, u3, u4, u5, u6, u7, u8, u9, u10, u11, u12], _ => exact ⟨_, _, _, _, _, _, _, _, _, _, _, _, _, rfl⟩
set_option maxRecDepth 20000 in
theorem mvB_same {C : World → Prop} {Q : Act → Prop} {pre mid suf : List Value} {d : List Deferred} (hk : pre.length = 66) (hm : mid.length = 13) {b1 o1 b2 o2 g1 : Nat} {ka2 : Option Addr} {yn kc2 : Nat} {lab : ByteArray} {n1 : Int} {same : Bool}
    (p9 : pre[9]? = some (.pointer (some ⟨b2, o2, none⟩))) (p7 : pre[7]? = some (.pointer (some ⟨b1, o1, none⟩))) (p10 : pre[10]? = some (.pointer (some ⟨g1, 0, none⟩)))
    (h3 : ∀ W, C W → W.cell? ⟨b2, o2 + 3, none⟩ = some (.slice ka2 yn kc2)) (hL : ∀ W, C W → W.cell? ⟨g1, 0, none⟩ = some (.string lab))
    (hB : ∀ W, C W → Calls Tryz.prog 69 #[.slice ka2 yn kc2, .string lab] W fun e w' => e = .returned (.int .i64 n1) ∧ C w') (hE : ∀ W, C W → (binOp .neq 51 (.pointer (some ⟨b2, o2, none⟩)) (.pointer (some ⟨b1, o1, none⟩))).run Tryz.prog W = .ok (.bool false) W)
    (hQ : ∀ m : List Value, m.length = 13 → m[12]? = some (.bool false) → Q (MA pre m suf d)) : wpQuiet Tryz.prog mvBL.toArray C Q mvBL (MA pre mid suf d) := by
  obtain ⟨u0, u1, u2, u3, u4, u5, u6, u7, u8, u9, u10, u11, u12, rfl⟩ := thirteen hm
  refine mq_val (.pointer (some ⟨b2, o2, none⟩)) hk rfl (by decide) (by simp) (want0 rfl) (fun W hW => x_move (MA.lo p9)) ?_
  show wpQuiet _ _ C Q _ (MA pre [.pointer (some ⟨b2, o2, none⟩), u1, u2, u3, u4, u5, u6, u7, u8, u9, u10, u11, u12] suf d)
  refine mq_val (.pointer (some ⟨b1, o1, none⟩)) hk rfl (by decide) (by simp) (want0 rfl) (fun W hW => x_move (MA.lo p7)) ?_
  show wpQuiet _ _ C Q _ (MA pre [.pointer (some ⟨b2, o2, none⟩), .pointer (some ⟨b1, o1, none⟩), u2, u3, u4, u5, u6, u7, u8, u9, u10, u11, u12] suf d)
  refine mq_val (.bool false) hk rfl (by decide) (by simp) (want0 rfl) (fun W hW => x_bin (MA.hi hk (by decide) rfl) (MA.hi hk (by decide) rfl) rfl (hE W hW)) ?_
  show wpQuiet _ _ C Q _ (MA pre [.pointer (some ⟨b2, o2, none⟩), .pointer (some ⟨b1, o1, none⟩), .bool false, u3, u4, u5, u6, u7, u8, u9, u10, u11, u12] suf d)
  refine mq_val (.bool false) hk rfl (by decide) (by simp) (want0 rfl) (fun W hW => x_move (MA.hi hk (by decide) rfl)) ?_
  show wpQuiet _ _ C Q _ (MA pre [.pointer (some ⟨b2, o2, none⟩), .pointer (some ⟨b1, o1, none⟩), .bool false, .bool false, u4, u5, u6, u7, u8, u9, u10, u11, u12] suf d)
  refine mq_off hk rfl (by decide) (by simp) (wantG (n := 3) (j := 69) rfl rfl hk (by decide) rfl (by decide)) ?_
  show wpQuiet _ _ C Q _ (MA pre [.pointer (some ⟨b2, o2, none⟩), .pointer (some ⟨b1, o1, none⟩), .bool false, .bool false, undef, u5, u6, u7, u8, u9, u10, u11, u12] suf d)
  refine mq_off hk rfl (by decide) (by simp) (wantG (n := 3) (j := 69) rfl rfl hk (by decide) rfl (by decide)) ?_
  show wpQuiet _ _ C Q _ (MA pre [.pointer (some ⟨b2, o2, none⟩), .pointer (some ⟨b1, o1, none⟩), .bool false, .bool false, undef, undef, u6, u7, u8, u9, u10, u11, u12] suf d)
  refine mq_off hk rfl (by decide) (by simp) (wantG (n := 3) (j := 69) rfl rfl hk (by decide) rfl (by decide)) ?_
  show wpQuiet _ _ C Q _ (MA pre [.pointer (some ⟨b2, o2, none⟩), .pointer (some ⟨b1, o1, none⟩), .bool false, .bool false, undef, undef, undef, u7, u8, u9, u10, u11, u12] suf d)
  refine mq_off hk rfl (by decide) (by simp) (wantG (n := 3) (j := 69) rfl rfl hk (by decide) rfl (by decide)) ?_
  show wpQuiet _ _ C Q _ (MA pre [.pointer (some ⟨b2, o2, none⟩), .pointer (some ⟨b1, o1, none⟩), .bool false, .bool false, undef, undef, undef, undef, u8, u9, u10, u11, u12] suf d)
  refine mq_off hk rfl (by decide) (by simp) (wantG (n := 3) (j := 69) rfl rfl hk (by decide) rfl (by decide)) ?_
  show wpQuiet _ _ C Q _ (MA pre [.pointer (some ⟨b2, o2, none⟩), .pointer (some ⟨b1, o1, none⟩), .bool false, .bool false, undef, undef, undef, undef, undef, u9, u10, u11, u12] suf d)
  refine mq_off hk rfl (by decide) (by simp) (wantG (n := 3) (j := 69) rfl rfl hk (by decide) rfl (by decide)) ?_
  show wpQuiet _ _ C Q _ (MA pre [.pointer (some ⟨b2, o2, none⟩), .pointer (some ⟨b1, o1, none⟩), .bool false, .bool false, undef, undef, undef, undef, undef, undef, u10, u11, u12] suf d)
  refine mq_off hk rfl (by decide) (by simp) (wantG (n := 3) (j := 69) rfl rfl hk (by decide) rfl (by decide)) ?_
  show wpQuiet _ _ C Q _ (MA pre [.pointer (some ⟨b2, o2, none⟩), .pointer (some ⟨b1, o1, none⟩), .bool false, .bool false, undef, undef, undef, undef, undef, undef, undef, u11, u12] suf d)
  refine mq_off hk rfl (by decide) (by simp) (wantG (n := 3) (j := 69) rfl rfl hk (by decide) rfl (by decide)) ?_
  show wpQuiet _ _ C Q _ (MA pre [.pointer (some ⟨b2, o2, none⟩), .pointer (some ⟨b1, o1, none⟩), .bool false, .bool false, undef, undef, undef, undef, undef, undef, undef, undef, u12] suf d)
  refine mq_val (.bool false) hk rfl (by decide) (by simp) (want0 rfl) (fun W hW => x_pick (c := false) (u := undef) (MA.hi hk (by decide) rfl) (MA.hi hk (by decide) rfl) rfl rfl) ?_
  show wpQuiet _ _ C Q _ (MA pre [.pointer (some ⟨b2, o2, none⟩), .pointer (some ⟨b1, o1, none⟩), .bool false, .bool false, undef, undef, undef, undef, undef, undef, undef, undef, .bool false] suf d)
  exact wpQuiet_nil (hQ _ rfl rfl)
set_option maxRecDepth 20000 in
theorem mvB_other {C : World → Prop} {Q : Act → Prop} {pre mid suf : List Value} {d : List Deferred} (hk : pre.length = 66) (hm : mid.length = 13) {b1 o1 b2 o2 g1 : Nat} {ka2 : Option Addr} {yn kc2 : Nat} {lab : ByteArray} {n1 : Int} {same : Bool}
    (p9 : pre[9]? = some (.pointer (some ⟨b2, o2, none⟩))) (p7 : pre[7]? = some (.pointer (some ⟨b1, o1, none⟩))) (p10 : pre[10]? = some (.pointer (some ⟨g1, 0, none⟩)))
    (h3 : ∀ W, C W → W.cell? ⟨b2, o2 + 3, none⟩ = some (.slice ka2 yn kc2)) (hL : ∀ W, C W → W.cell? ⟨g1, 0, none⟩ = some (.string lab))
    (hB : ∀ W, C W → Calls Tryz.prog 69 #[.slice ka2 yn kc2, .string lab] W fun e w' => e = .returned (.int .i64 n1) ∧ C w') (hE : ∀ W, C W → (binOp .neq 51 (.pointer (some ⟨b2, o2, none⟩)) (.pointer (some ⟨b1, o1, none⟩))).run Tryz.prog W = .ok (.bool true) W) (hs : decide (0 ≤ n1) = same)
    (hQ : ∀ m : List Value, m.length = 13 → m[12]? = some (.bool same) → Q (MA pre m suf d)) : wpQuiet Tryz.prog mvBL.toArray C Q mvBL (MA pre mid suf d) := by
  obtain ⟨u0, u1, u2, u3, u4, u5, u6, u7, u8, u9, u10, u11, u12, rfl⟩ := thirteen hm
  refine mq_val (.pointer (some ⟨b2, o2, none⟩)) hk rfl (by decide) (by simp) (want0 rfl) (fun W hW => x_move (MA.lo p9)) ?_
  show wpQuiet _ _ C Q _ (MA pre [.pointer (some ⟨b2, o2, none⟩), u1, u2, u3, u4, u5, u6, u7, u8, u9, u10, u11, u12] suf d)
  refine mq_val (.pointer (some ⟨b1, o1, none⟩)) hk rfl (by decide) (by simp) (want0 rfl) (fun W hW => x_move (MA.lo p7)) ?_
  show wpQuiet _ _ C Q _ (MA pre [.pointer (some ⟨b2, o2, none⟩), .pointer (some ⟨b1, o1, none⟩), u2, u3, u4, u5, u6, u7, u8, u9, u10, u11, u12] suf d)
  refine mq_val (.bool true) hk rfl (by decide) (by simp) (want0 rfl) (fun W hW => x_bin (MA.hi hk (by decide) rfl) (MA.hi hk (by decide) rfl) rfl (hE W hW)) ?_
  show wpQuiet _ _ C Q _ (MA pre [.pointer (some ⟨b2, o2, none⟩), .pointer (some ⟨b1, o1, none⟩), .bool true, u3, u4, u5, u6, u7, u8, u9, u10, u11, u12] suf d)
  refine mq_val (.bool true) hk rfl (by decide) (by simp) (want0 rfl) (fun W hW => x_move (MA.hi hk (by decide) rfl)) ?_
  show wpQuiet _ _ C Q _ (MA pre [.pointer (some ⟨b2, o2, none⟩), .pointer (some ⟨b1, o1, none⟩), .bool true, .bool true, u4, u5, u6, u7, u8, u9, u10, u11, u12] suf d)
  refine mq_val (.pointer (some ⟨b2, o2, none⟩)) hk rfl (by decide) (by simp) (wantG (n := 3) (j := 69) rfl rfl hk (by decide) rfl (by decide)) (fun W hW => x_move (MA.lo p9)) ?_
  show wpQuiet _ _ C Q _ (MA pre [.pointer (some ⟨b2, o2, none⟩), .pointer (some ⟨b1, o1, none⟩), .bool true, .bool true, .pointer (some ⟨b2, o2, none⟩), u5, u6, u7, u8, u9, u10, u11, u12] suf d)
  refine mq_val (.pointer (some ⟨b2, o2, none⟩)) hk rfl (by decide) (by simp) (wantG (n := 3) (j := 69) rfl rfl hk (by decide) rfl (by decide)) (fun W hW => x_nil (MA.hi hk (by decide) rfl)) ?_
  show wpQuiet _ _ C Q _ (MA pre [.pointer (some ⟨b2, o2, none⟩), .pointer (some ⟨b1, o1, none⟩), .bool true, .bool true, .pointer (some ⟨b2, o2, none⟩), .pointer (some ⟨b2, o2, none⟩), u6, u7, u8, u9, u10, u11, u12] suf d)
  refine mq_val (.pointer (some ⟨b2, o2 + 3, none⟩)) hk rfl (by decide) (by simp) (wantG (n := 3) (j := 69) rfl rfl hk (by decide) rfl (by decide)) (fun W hW => x_kids (MA.hi hk (by decide) rfl)) ?_
  show wpQuiet _ _ C Q _ (MA pre [.pointer (some ⟨b2, o2, none⟩), .pointer (some ⟨b1, o1, none⟩), .bool true, .bool true, .pointer (some ⟨b2, o2, none⟩), .pointer (some ⟨b2, o2, none⟩), .pointer (some ⟨b2, o2 + 3, none⟩), u7, u8, u9, u10, u11, u12] suf d)
  refine mq_val (.slice ka2 yn kc2) hk rfl (by decide) (by simp) (wantG (n := 3) (j := 69) rfl rfl hk (by decide) rfl (by decide)) (fun W hW => x_ldK (MA.hi hk (by decide) rfl) (h3 W hW)) ?_
  show wpQuiet _ _ C Q _ (MA pre [.pointer (some ⟨b2, o2, none⟩), .pointer (some ⟨b1, o1, none⟩), .bool true, .bool true, .pointer (some ⟨b2, o2, none⟩), .pointer (some ⟨b2, o2, none⟩), .pointer (some ⟨b2, o2 + 3, none⟩), .slice ka2 yn kc2, u8, u9, u10, u11, u12] suf d)
  refine mq_val (.pointer (some ⟨g1, 0, none⟩)) hk rfl (by decide) (by simp) (wantG (n := 3) (j := 69) rfl rfl hk (by decide) rfl (by decide)) (fun W hW => x_label (MA.lo p10)) ?_
  show wpQuiet _ _ C Q _ (MA pre [.pointer (some ⟨b2, o2, none⟩), .pointer (some ⟨b1, o1, none⟩), .bool true, .bool true, .pointer (some ⟨b2, o2, none⟩), .pointer (some ⟨b2, o2, none⟩), .pointer (some ⟨b2, o2 + 3, none⟩), .slice ka2 yn kc2, .pointer (some ⟨g1, 0, none⟩), u9, u10, u11, u12] suf d)
  refine mq_val (.string lab) hk rfl (by decide) (by simp) (wantG (n := 3) (j := 69) rfl rfl hk (by decide) rfl (by decide)) (fun W hW => x_ldS (MA.hi hk (by decide) rfl) (hL W hW)) ?_
  show wpQuiet _ _ C Q _ (MA pre [.pointer (some ⟨b2, o2, none⟩), .pointer (some ⟨b1, o1, none⟩), .bool true, .bool true, .pointer (some ⟨b2, o2, none⟩), .pointer (some ⟨b2, o2, none⟩), .pointer (some ⟨b2, o2 + 3, none⟩), .slice ka2 yn kc2, .pointer (some ⟨g1, 0, none⟩), .string lab, u10, u11, u12] suf d)
  refine mq_call 69 #[.slice ka2 yn kc2, .string lab] (.int .i64 n1) hk rfl (by decide) (by simp) (wantG (n := 3) (j := 69) rfl rfl hk (by decide) rfl (by decide)) (fun W hW => x_labld (MA.hi hk (by decide) rfl) (MA.hi hk (by decide) rfl) rfl) (fun W hW => hB W hW) ?_
  show wpQuiet _ _ C Q _ (MA pre [.pointer (some ⟨b2, o2, none⟩), .pointer (some ⟨b1, o1, none⟩), .bool true, .bool true, .pointer (some ⟨b2, o2, none⟩), .pointer (some ⟨b2, o2, none⟩), .pointer (some ⟨b2, o2 + 3, none⟩), .slice ka2 yn kc2, .pointer (some ⟨g1, 0, none⟩), .string lab, .int .i64 n1, u11, u12] suf d)
  refine mq_val (.bool same) hk rfl (by decide) (by simp) (wantG (n := 3) (j := 69) rfl rfl hk (by decide) rfl (by decide)) (fun W hW => x_geq (MA.hi hk (by decide) rfl) rfl hs) ?_
  show wpQuiet _ _ C Q _ (MA pre [.pointer (some ⟨b2, o2, none⟩), .pointer (some ⟨b1, o1, none⟩), .bool true, .bool true, .pointer (some ⟨b2, o2, none⟩), .pointer (some ⟨b2, o2, none⟩), .pointer (some ⟨b2, o2 + 3, none⟩), .slice ka2 yn kc2, .pointer (some ⟨g1, 0, none⟩), .string lab, .int .i64 n1, .bool same, u12] suf d)
  refine mq_val (.bool same) hk rfl (by decide) (by simp) (want0 rfl) (fun W hW => x_pick (c := true) (MA.hi hk (by decide) rfl) (MA.hi hk (by decide) rfl) rfl rfl) ?_
  show wpQuiet _ _ C Q _ (MA pre [.pointer (some ⟨b2, o2, none⟩), .pointer (some ⟨b1, o1, none⟩), .bool true, .bool true, .pointer (some ⟨b2, o2, none⟩), .pointer (some ⟨b2, o2, none⟩), .pointer (some ⟨b2, o2 + 3, none⟩), .slice ka2 yn kc2, .pointer (some ⟨g1, 0, none⟩), .string lab, .int .i64 n1, .bool same, .bool same] suf d)
  exact wpQuiet_nil (hQ _ rfl rfl)
end Go.Proofs.YtpbolcjcmkmalaaGreatDoor
namespace Go.Proofs.YtpbolcjcmkmalaaGreatDoor
open Go.RowKit

section
variable {P : Program} {ops : Array Oper} {Q : Exit → Act → World → Prop} {md : Region.Mode} {S : World → Prop} {L : List Nat}
/-- Whatever order is picked: behind each operation but those of 'L' the world is one of 'S'. -/
def wpLast (P : Program) (md : Region.Mode) (ops : Array Oper) (Q : Exit → Act → World → Prop) (S : World → Prop) (L : List Nat) : Nat → Array Bool → Act → World → Prop
  | 0, done, a, w => Region.ready md ops done = [] ∧ Q .normal a w
  | n + 1, done, a, w => (Region.ready md ops done = [] → Q .normal a w) ∧ ∀ j, j ∈ Region.ready md ops done → wpOp P ops Q j (fun a' w' => (S w → j ∈ L ∨ S w') ∧ wpLast P md ops Q S L n (done.setIfInBounds j true) a' w') a w
theorem wpLast.any : ∀ {n : Nat} {done : Array Bool} {a : Act} {w : World}, wpLast P md ops Q S L n done a w → wpAny P md ops Q n done a w
  | 0, _, _, _, h => h
  | _ + 1, _, _, _, h => ⟨h.1, fun j hj => wpOp_mono (fun _ _ h' => h'.2.any) (h.2 j hj)⟩
/-- Number 'l' waits for number 'i', be it by way of others. -/
def waitsT (md : Region.Mode) (ops : Array Oper) (i : Nat) : Nat → Nat → Bool
  | 0, _ => false
  | n + 1, l => match ops[l]? with
    | none => false
    | some o => o.after.any fun e => Region.binds md e && (e.on == i || waitsT md ops i n e.on)
/-- What is done has been done behind what it waits for. -/
def closedB (md : Region.Mode) (ops : Array Oper) (done : Array Bool) : Bool := (List.range ops.size).all fun k => match ops[k]? with
  | none => true
  | some o => !done.getD k false || o.after.all fun e => !Region.binds md e || done.getD e.on false
def Closed (md : Region.Mode) (ops : Array Oper) (done : Array Bool) : Prop := ∀ k o, ops[k]? = some o → done.getD k false = true → ∀ e ∈ o.after, Region.binds md e = true → done.getD e.on false = true
theorem closedB_spec {done : Array Bool} (h : closedB md ops done = true) : Closed md ops done := by
  intro k o hk hd e he hb
  unfold closedB at h
  rw [List.all_eq_true] at h
  have h1 := h k (List.mem_range.2 (Array.getElem?_eq_some_iff.1 hk).1)
  rw [hk] at h1
  simp only [hd, Bool.not_true, Bool.false_or, Array.all_eq_true'] at h1
  have h2 := h1 e he
  simpa [hb] using h2
theorem done_both {done : Array Bool} {i : Nat} (h1 : done.getD i false = true) (h2 : done.getD i true = false) : False := by
  rcases Nat.lt_or_ge i done.size with hl | hl
  · rw [Array.getD_eq_getD_getElem?, Array.getElem?_eq_getElem hl] at h1 h2
    simp only [Option.getD_some] at h1 h2
    rw [h1] at h2; cases h2
  · rw [Array.getD_eq_getD_getElem?, Array.getElem?_eq_none hl] at h1; cases h1
theorem Closed.step {done : Array Bool} (h : Closed md ops done) {j : Nat} (hj : j ∈ Region.ready md ops done) : Closed md ops (done.setIfInBounds j true) := by
  intro k o hk hd e he hb
  rcases Nat.decEq j k with hjk | hjk
  · exact getD_set_true (h k o hk (by rwa [getD_set_ne false hjk] at hd) e he hb)
  · subst hjk
    obtain ⟨_, oj, hoj, hall⟩ := mem_ready.1 hj
    rw [hk] at hoj
    injection hoj with hoj
    subst hoj
    exact getD_set_true (hall e he hb)
theorem waits_done {done : Array Bool} (hc : Closed md ops done) {i : Nat} (hi : done.getD i true = false) : ∀ (n l : Nat), waitsT md ops i n l = true → ∀ o, ops[l]? = some o → ¬ ∀ e ∈ o.after, Region.binds md e = true → done.getD e.on false = true
  | 0, _, h, _, _, _ => by cases h
  | n + 1, l, h, o, ho, hall => by
    unfold waitsT at h
    rw [ho] at h
    simp only [Array.any_eq_true', Bool.and_eq_true, Bool.or_eq_true, beq_iff_eq] at h
    obtain ⟨e, he, hb, hon⟩ := h
    have h1 := hall e he hb
    rcases hon with hon | hon
    · rw [hon] at h1
      exact done_both h1 hi
    · cases ho' : ops[e.on]? with
      | none => cases n with
        | zero => cases hon
        | succ n => unfold waitsT at hon; rw [ho'] at hon; cases hon
      | some o' => exact waits_done hc hi n e.on hon o' ho' (hc e.on o' ho' h1)
theorem waits_ne {i n l : Nat} {done : Array Bool} (hc : Closed md ops done) (h : waitsT md ops i n l = true) (hi : i ∈ Region.ready md ops done) : l ∉ Region.ready md ops done := by
  intro hl
  obtain ⟨_, o, ho, hall⟩ := mem_ready.1 hl
  exact waits_done hc (mem_ready.1 hi).1 n l h o ho hall
theorem wpLast_first {i : Nat} {oi : Oper} {v : Value} {S0 : World → Prop} (hi : ops[i]? = some oi) (hsel : Region.noSelect ops = true) (hQ : ∀ c a w, Q (.panic c) (a.put oi.dst v) w → Q (.panic c) a w) (n : Nat) :
    ∀ (done : Array Bool) (a : Act) (w : World), Closed md ops done → (∀ j oj, ops[j]? = some oj → j ≠ i → done.getD j true = false → (∀ e ∈ oj.after, Region.binds md e = true → e.on ≠ i) → oi.apart ops oj = true) → i ∈ Region.ready md ops done → YieldsIf P ops S0 oi v a → ((∀ w, S0 w) ∨ ((∀ l, l ∈ L → waitsT md ops i ops.size l = true) ∧ (∀ w, S w → S0 w) ∧ S w)) → wpLast P md ops Q S L n (done.setIfInBounds i true) (a.put oi.dst v) w → wpLast P md ops Q S L (n + 1) done a w := by
  have sel := Region.noSelect_spec hsel
  have now : ∀ {w : World}, ((∀ w, S0 w) ∨ ((∀ l, l ∈ L → waitsT md ops i ops.size l = true) ∧ (∀ w, S w → S0 w) ∧ S w)) → S0 w := fun h => h.elim (fun h => h _) (fun h => h.2.1 _ h.2.2)
  induction n with
  | zero =>
    intro done a w _ _ hr hy hS H
    refine ⟨fun h0 => (by rw [h0] at hr; cases hr), fun j hj => ?_⟩
    rcases Nat.decEq j i with hji | hji
    · have := ready_mono hj hji
      rw [H.1] at this
      cases this
    · subst hji; exact hy.wpOp hi (now hS) ⟨fun h => .inr h, H⟩
  | succ n ih =>
    intro done a w hcl hfree hr hy hS H
    refine ⟨fun h0 => (by rw [h0] at hr; cases hr), fun j hj => ?_⟩
    rcases Nat.decEq j i with hji | hji
    rotate_left
    · subst hji; exact hy.wpOp hi (now hS) ⟨fun h => .inr h, H⟩
    · obtain ⟨hjd, oj, hoj, hall⟩ := mem_ready.1 hj
      have hi0 := (mem_ready.1 hr).1
      have hno : ∀ e ∈ oj.after, Region.binds md e = true → e.on ≠ i := fun e he hb heq => done_both (heq ▸ hall e he hb) hi0
      have step := wpOp_putIf hoj (hfree j oj hoj hji hjd hno) (fun cs b => sel i oi cs b hi) (fun cs b => sel j oj cs b hoj) hQ hy (H.2 j (ready_mono hj hji))
      refine wpOp_mono (fun a' w' h3 => ?_) step
      refine ⟨h3.2.1, ih (done.setIfInBounds j true) a' w' (hcl.step hj) (fun k ok hk hki hun hkn => hfree k ok hk hki ?_ hkn) (ready_mono hr (Ne.symm hji)) h3.1 ?_ ?_⟩
      · rcases Nat.decEq j k with hjk | hjk
        · rwa [getD_set_ne true hjk] at hun
        · exact hjk ▸ hjd
      · exact hS.imp (fun h => h) (fun h => ⟨h.1, h.2.1, (h3.2.1 h.2.2).resolve_left fun e => waits_ne hcl (h.1 j e) hr hj⟩)
      · rw [Array.setIfInBounds_comm _ _ hji]
        exact h3.2.2
/-- An operation that reads is taken first. -/
theorem wpLast_take {i : Nat} {oi : Oper} {v : Value} {n : Nat} {done : Array Bool} {a : Act} {w : World} (hi : ops[i]? = some oi) (hs : Region.noSelect ops = true) (hf : Region.free md ops done i = true) (hr : (Region.ready md ops done).contains i = true) (hL : (L.all fun l => waitsT md ops i ops.size l) = true) (hcl : closedB md ops done = true)
    (hQ : ∀ c a w, Q (.panic c) (a.put oi.dst v) w → Q (.panic c) a w) (hg : oi.guard = none) (hy : ∀ w, S w → (execOp a.eval oi).run P w = .ok (.value v) w) (hS : S w)
    (h : wpLast P md ops Q S L n (done.setIfInBounds i true) (a.put oi.dst v) w) : wpLast P md ops Q S L (n + 1) done a w :=
  wpLast_first (S0 := S) hi hs hQ n done a w (closedB_spec hcl) (Region.free_spec hi hf) (by simpa using hr) (.inl ⟨want0 hg, hy⟩) (.inr ⟨fun l hl => by rw [List.all_eq_true] at hL; exact hL l hl, fun _ h => h, hS⟩) h
/-- One that yields in whatever world. -/
theorem wpLast_free {i : Nat} {oi : Oper} {v : Value} {n : Nat} {done : Array Bool} {a : Act} {w : World} (hi : ops[i]? = some oi) (hs : Region.noSelect ops = true) (hf : Region.free md ops done i = true) (hr : (Region.ready md ops done).contains i = true) (hcl : closedB md ops done = true)
    (hQ : ∀ c a w, Q (.panic c) (a.put oi.dst v) w → Q (.panic c) a w) (hg : oi.guard = none) (hy : ∀ w, (execOp a.eval oi).run P w = .ok (.value v) w)
    (h : wpLast P md ops Q S L n (done.setIfInBounds i true) (a.put oi.dst v) w) : wpLast P md ops Q S L (n + 1) done a w :=
  wpLast_first (S0 := fun _ => True) hi hs hQ n done a w (closedB_spec hcl) (Region.free_spec hi hf) (by simpa using hr) (.inl ⟨want0 hg, fun w _ => hy w⟩) (.inl fun _ => trivial) h
theorem wpLast_all {rs : List Nat} {n : Nat} {done : Array Bool} {a : Act} {w : World} (hr : Region.ready md ops done = rs) (hne : rs ≠ []) (h : ∀ j, j ∈ rs → wpOp P ops Q j (fun a' w' => (S w → j ∈ L ∨ S w') ∧ wpLast P md ops Q S L n (done.setIfInBounds j true) a' w') a w) : wpLast P md ops Q S L (n + 1) done a w :=
  ⟨fun h0 => absurd (hr ▸ h0) hne, hr ▸ h⟩
theorem wpLast_done {done : Array Bool} {a : Act} {w : World} (hr : Region.ready md ops done = []) (h : Q .normal a w) : ∀ n, wpLast P md ops Q S L n done a w
  | 0 => ⟨hr, h⟩
  | _ + 1 => ⟨fun _ => h, by rw [hr]; simp⟩
theorem last_MA {A : Act} {n : Nat} {done : Array Bool} {w : World} (k m : Nat) (h : wpLast P md ops Q S L n done (MA (A.tmps.toList.take k) ((A.tmps.toList.drop k).take m) (A.tmps.toList.drop (k + m)) A.defers) w) : wpLast P md ops Q S L n done A w := by
  rw [MA.of A k m]; exact h
theorem wpOp_val {i : Nat} {o : Oper} {v : Value} {a : Act} {w w' : World} {K : Act → World → Prop} (hi : ops[i]? = some o) (hg : o.guard = none) (he : (execOp a.eval o).run P w = .ok (.value v) w') (h : K (a.put o.dst v) w') : wpOp P ops Q i K a w := by
  unfold wpOp
  simp only [hi, want0 hg, if_true]
  refine .inl ?_
  unfold Oper.wp
  rw [he]
  exact h
theorem wpOp_skip {i : Nat} {o : Oper} {a : Act} {w w' : World} {K : Act → World → Prop} (hi : ops[i]? = some o) (hg : o.guard = none) (he : (execOp a.eval o).run P w = .ok .skip w') (h : K (a.put o.dst undef) w') : wpOp P ops Q i K a w := by
  unfold wpOp
  simp only [hi, want0 hg, if_true]
  refine .inl ?_
  unfold Oper.wp
  rw [he]
  exact h
theorem wpOp_call {i : Nat} {o : Oper} {a : Act} {w : World} {K : Act → World → Prop} {f : FuncId} {args : Array Value} {R : Ending → World → Prop} (hi : ops[i]? = some o) (hg : o.guard = none) (he : (execOp a.eval o).run P w = .ok (.enter f args) w) (hc : Calls P f args w R) (h : ∀ e w', R e w' → ∃ v, e = .returned v ∧ K (a.put o.dst v) w') : wpOp P ops Q i K a w := by
  unfold wpOp
  simp only [hi, want0 hg, if_true]
  refine .inl ?_
  unfold Oper.wp
  rw [he]
  refine hc.mono ?_
  intro e w' hr
  obtain ⟨v, rfl, hk⟩ := h e w' hr
  exact hk
theorem wp_region_last {id : Nat} {a : Act} {w : World} {l : List Oper} (hm : P.follows .mixedOrders = true) (h : wpLast P .any l.toArray Q S L l.length (Array.replicate l.length false) a { w with drawn := w.drawn + 1 }) : (Code.region id l.toArray true).wp P Q a w :=
  wp_region_any hm (by simpa using h.any)
end
end Go.Proofs.YtpbolcjcmkmalaaGreatDoor
namespace Go.Proofs.YtpbolcjcmkmalaaGreatDoor
open Go.RowKit Go.Extern.Stop Go.Stop Go.Extern

theorem setCells_blk (b : Nat) : ∀ (vs : List Value) (o : Nat) (W : World) (k : Nat), k ≠ b → (W.setCells b o vs).heap[k]? = W.heap[k]?
  | [], _, _, _, _ => rfl
  | v :: r, o, W, k, hk => by
    rw [World.setCells, setCells_blk b r (o + 1) _ k hk]
    exact Below.heap_setCell _ _ _ _ hk
theorem setCells_rest (b : Nat) : ∀ (vs : List Value) (o : Nat) (W : World), (W.setCells b o vs).os = W.os ∧ (W.setCells b o vs).tape = W.tape ∧ (W.setCells b o vs).output = W.output ∧ (W.setCells b o vs).heap.size = W.heap.size
  | [], _, _ => ⟨rfl, rfl, rfl, rfl⟩
  | v :: r, o, W => by
    obtain ⟨h1, h2, h3, h4⟩ := setCells_rest b r (o + 1) (W.setCell ⟨b, o, none⟩ v)
    rw [World.setCells]
    exact ⟨h1, h2, h3, h4.trans (by simp)⟩
theorem setCells_heap (b : Nat) : ∀ (vs : List Value) (o : Nat) {W W' : World}, W.heap = W'.heap → (W.setCells b o vs).heap = (W'.setCells b o vs).heap
  | [], _, _, _, h => h
  | v :: r, o, W, W', h => by
    rw [World.setCells, World.setCells]
    refine setCells_heap b r (o + 1) ?_
    unfold World.setCell
    rw [h]
theorem setCell_row {w : World} {g o : Nat} {cur : Array Value} {T : TypeId} {fr : Nat × Nat} (v : Value) (h : w.heap[g]? = some (.cells cur T fr)) : (w.setCell ⟨g, o, none⟩ v).heap[g]? = some (.cells (cur.setIfInBounds o v) T fr) := by
  have hlt := (Array.getElem?_eq_some_iff.1 h).1
  simp [World.setCell, Array.getElem?_modify, h]
theorem setCells_row (g : Nat) (T : TypeId) (fr : Nat × Nat) : ∀ (vs : List Value) (o : Nat) (w : World) (cur : Array Value), w.heap[g]? = some (.cells cur T fr) → o + vs.length ≤ cur.size → ∃ cur', (w.setCells g o vs).heap[g]? = some (.cells cur' T fr) ∧ cur'.size = cur.size ∧ cur'.toList = cur.toList.take o ++ vs ++ cur.toList.drop (o + vs.length)
  | [], o, w, cur, h, hl => ⟨cur, h, rfl, by simp⟩
  | v :: r, o, w, cur, h, hl => by
    rw [List.length_cons] at hl
    obtain ⟨cur', h1, h2, h3⟩ := setCells_row g T fr r (o + 1) (w.setCell ⟨g, o, none⟩ v) (cur.setIfInBounds o v) (setCell_row v h) (by simp; omega)
    refine ⟨cur', by rw [World.setCells]; exact h1, by rw [h2]; simp, ?_⟩
    rw [h3, Array.toList_setIfInBounds]
    have ho : o < cur.toList.length := by simp; omega
    have e1 : (cur.toList.set o v).take (o + 1) = cur.toList.take o ++ [v] := by
      rw [List.take_succ_eq_append_getElem (by simpa using ho), List.getElem_set_self, List.take_set_of_le (Nat.le_refl _)]
    have e2 : (cur.toList.set o v).drop (o + 1 + r.length) = cur.toList.drop (o + 1 + r.length) := by
      rw [List.drop_set_of_lt (by omega)]
    rw [e1, e2, List.length_cons, show o + 1 + r.length = o + (r.length + 1) by omega]
    simp
variable {P : Program}
/-- ALL IS READ BEFORE ANYTHING IS WRITTEN. -/
theorem run_copy_k (w : World) (dT sT ty elem : TypeId) (b o dLen dCap : Nat) (a : Addr) (sLen sCap k : Nat) (cs : List Value)
    (hu : P.underlying dT = some (.slice elem)) (hs : (P.info? elem).map (·.size) = some k) (hn : cs.length = Nat.min sLen dLen * k)
    (hsrc : ∀ j v, cs[j]? = some v → w.cell? (a.add j) = some v) (hc : ∀ j, j < cs.length → (w.cell? ⟨b, o + j, none⟩).isSome = true) (hf : ∀ j, j < cs.length → w.frozen? ⟨b, o + j, none⟩ = false) (h1 : ∀ v ∈ cs, v.oneCell' = true) :
    (Builtin.copy_ #[dT, sT] ty #[.slice (some ⟨b, o, none⟩) dLen dCap, .slice (some a) sLen sCap]).run P w = .ok (goInt (Nat.min sLen dLen)) (w.setCells b o cs) := by
  have hl := run_loadCells_list (P := P) w a cs hsrc
  have hst := run_storeCells_cells (P := P) b o cs 0 w (by simpa using hc) (by simpa using hf) h1
  cases hq : P.info? elem with
  | none => simp [hq] at hs
  | some i =>
    have hi : i.size = k := by simpa [hq] using hs
    simp only [Nat.add_zero] at hst
    simp [Builtin.copy_, run_underlying hu, Builtin.lenOf, Builtin.firstCells, sizeOf, typeInfo, hq, hi, ← hn, hl, hst]
theorem wp_copy_r (w : World) {o : Oper} {a : Act} {K : Act → World → Prop} {Q : Exit → Act → World → Prop} (d s : Operand) (t t' : TypeId)
    (ho : o.op = .call { callee := .builtin .copy, args := #[d, s], argTypes := #[t, t'] }) (v u : Value) (hd : a.eval d = v) (hs : a.eval s = u) {v' : Value} {w' : World}
    (hr : (Builtin.copy_ #[t, t'] o.type #[v, u]).run P w = .ok v' w') (h : K (a.put o.dst v') w') : o.wp P a w K Q := by
  unfold Oper.wp execOp
  simp only [ho, resolve, invoke, builtin, Sem.run_bind, Sem.run_pure, Result.andThen_ok, List.map_toArray, List.map_cons, List.map_nil, hd, hs, hr]
  exact h
theorem wpList_copy_r (w : World) {ops : Array Oper} {rest : List Oper} {o : Oper} {a : Act} {Q : Exit → Act → World → Prop} (hgd : o.guard = none) (d s : Operand) (t t' : TypeId)
    (ho : o.op = .call { callee := .builtin .copy, args := #[d, s], argTypes := #[t, t'] }) (v u : Value) (hd : a.eval d = v) (hs : a.eval s = u) {v' : Value} {w' : World}
    (hr : (Builtin.copy_ #[t, t'] o.type #[v, u]).run P w = .ok v' w') (h : wpList P ops Q rest (a.put o.dst v') w') : wpList P ops Q (o :: rest) a w :=
  wpList_plain hgd fun _ hK => wp_copy_r w d s t t' ho v u hd hs hr (hK _ _ h)
theorem step_copy_r {ops : Array Oper} {o : Oper} {a : Act} {w : World} {K : Act → World → Prop} {Q : Exit → Act → World → Prop} {E : Prop}
    (hg : o.guard = none) (d x : Operand) (dT sT : TypeId) (hop : o.op = Op.call { callee := Callee.builtin Builtin.copy, args := #[d, x], argTypes := #[dT, sT] })
    (v u : Value) (hd : a.eval d = v) (hx : a.eval x = u) {v' : Value} {w' : World} (hr : (Builtin.copy_ #[dT, sT] o.type #[v, u]).run P w = .ok v' w') (hK : K (a.put o.dst v') w') :
    if Region.wanted o (yielded ops a.tmps) = true then Oper.wp P o a w K Q else E := by
  have hw : Region.wanted o (yielded ops a.tmps) = true := by simp [Region.wanted, hg]
  rw [if_pos hw]
  unfold Oper.wp
  simp [execOp, hop, resolve, invoke, builtin, hd, hx, hr, Result.andThen]
  exact hK
/-- What clear leaves. -/
theorem run_clear_k (w : World) (t e ty : TypeId) (z : Value) (k : Nat) (ht : P.underlying t = some (.slice e)) (hv : ∀ w, (zeroValue e).run P w = .ok z w) (hz : z.cells.size = k) (h1 : ∀ i (h : i < z.cells.size), (z.cells[i]).oneCell' = true) (b o n c : Nat) (hn : 0 < n) (hc : ∀ j, j < n * k → (w.cell? ⟨b, o + j, none⟩).isSome = true) (hf : ∀ j, j < n * k → w.frozen? ⟨b, o + j, none⟩ = false) :
    ∃ zs : List Value, zs.length = n * k ∧ (Builtin.clear_ #[t] ty #[.slice (some ⟨b, o, none⟩) n c]).run P w = .ok (.tuple #[]) (w.setCells b o zs) := by
  have hl : (Builtin.zeroCells z.cells n).toList.length = n * k := by simp [Builtin.zeroCells, hz]
  refine ⟨(Builtin.zeroCells z.cells n).toList, hl, ?_⟩
  have hone : ∀ v ∈ (Builtin.zeroCells z.cells n).toList, v.oneCell' = true := fun v hv' => by
    simp only [Builtin.zeroCells, Array.toList_map, List.mem_map] at hv'
    obtain ⟨i, hi, rfl⟩ := hv'
    have hpos : 0 < z.cells.size := by
      rcases Nat.eq_zero_or_pos z.cells.size with h0 | h0
      · rw [h0] at hi; simp at hi
      · exact h0
    have hlt := Nat.mod_lt i hpos
    rw [getElem!_pos z.cells (i % z.cells.size) hlt]
    exact h1 _ hlt
  have hst := run_storeCells_cells (P := P) b o (Builtin.zeroCells z.cells n).toList 0 w (fun j hj => by rw [Nat.add_zero]; exact hc j (by omega)) (fun j hj => by rw [Nat.add_zero]; exact hf j (by omega)) hone
  simp only [Nat.add_zero] at hst
  obtain ⟨m, rfl⟩ : ∃ m, n = m + 1 := ⟨n - 1, by omega⟩
  simp [Builtin.clear_, run_underlying ht, hv, hst]
theorem wpList_clear_r (w : World) {ops : Array Oper} {rest : List Oper} {o : Oper} {a : Act} {Q : Exit → Act → World → Prop} (hgd : o.guard = none) (d : Operand) (t : TypeId)
    (ho : o.op = .call { callee := .builtin .clear, args := #[d], argTypes := #[t] }) (v : Value) (hd : a.eval d = v) {v' : Value} {w' : World}
    (hr : (Builtin.clear_ #[t] o.type #[v]).run P w = .ok v' w') (h : wpList P ops Q rest (a.put o.dst v') w') : wpList P ops Q (o :: rest) a w := by
  refine wpList_plain hgd fun K hK => ?_
  unfold Oper.wp execOp
  simp only [ho, resolve, invoke, builtin, Sem.run_bind, Sem.run_pure, Result.andThen_ok, List.map_toArray, List.map_cons, List.map_nil, hd, hr]
  exact hK _ _ h
/-- A row of the call's own, its block written out. -/
structure RowB (w : World) (B : Nat) (T k : Nat) (g cap n : Nat) (cur : Array Value) (xs : List Value) : Prop where
  hB : B ≤ g
  blk : w.heap[g]? = some (.cells cur T (0, 0))
  le : n ≤ cap
  mx : cap ≤ maxLen
  sz : cur.size = cap * k
  is : cur.toList.take (n * k) = xs
  len : xs.length = n * k
theorem row_b {w : World} {B T k n : Nat} {v : Value} {xs : List Value} (h : w.ownsRow B T k v n xs) (hn : 0 < n) : ∃ g cap cur, v = .slice (some ⟨g, 0, none⟩) n cap ∧ RowB w B T k g cap n cur xs := by
  rcases h.2 with ⟨_, h0⟩ | ⟨g, cap, cur, e, h1, h2, h3, h4, h5, h6⟩
  · omega
  · exact ⟨g, cap, cur, e, h1, h2, h3, h4, h5, h6, h.1⟩
theorem RowB.row {w : World} {B T k g cap n : Nat} {cur : Array Value} {xs : List Value} (h : RowB w B T k g cap n cur xs) : w.ownsRow B T k (.slice (some ⟨g, 0, none⟩) n cap) n xs := ⟨h.len, .inr ⟨g, cap, cur, rfl, h.hB, h.blk, h.le, h.mx, h.sz, h.is⟩⟩
theorem RowB.lt {w : World} {B T k g cap n : Nat} {cur : Array Value} {xs : List Value} (h : RowB w B T k g cap n cur xs) : g < w.heap.size := (Array.getElem?_eq_some_iff.1 h.blk).1
theorem RowB.cell {w : World} {B T k g cap n : Nat} {cur : Array Value} {xs : List Value} (h : RowB w B T k g cap n cur xs) {j : Nat} {v : Value} (hj : xs[j]? = some v) : w.cell? ⟨g, j, none⟩ = some v := by
  have hlt := (List.getElem?_eq_some_iff.1 hj).1
  rw [← h.is, List.getElem?_take, if_pos (by rw [h.len] at hlt; exact hlt)] at hj
  simp only [World.cell?, h.blk]
  simpa using hj
theorem RowB.some' {w : World} {B T k g cap n : Nat} {cur : Array Value} {xs : List Value} (h : RowB w B T k g cap n cur xs) {j : Nat} (hj : j < cap * k) : (w.cell? ⟨g, j, none⟩).isSome = true := by
  simp only [World.cell?, h.blk]
  have : j < cur.size := by rw [h.sz]; exact hj
  simp [this]
theorem RowB.frozen {w : World} {B T k g cap n : Nat} {cur : Array Value} {xs : List Value} (h : RowB w B T k g cap n cur xs) (j : Nat) : w.frozen? ⟨g, j, none⟩ = false := by
  simp [World.frozen?, h.blk]
/-- Cells of the row are written. -/
theorem RowB.set {w : World} {B T k g cap n : Nat} {cur : Array Value} {xs : List Value} (h : RowB w B T k g cap n cur xs) (o : Nat) (vs : List Value) (ho : o + vs.length ≤ cap * k) {m : Nat} (hm : m ≤ cap) {ys : List Value} (hy : (cur.toList.take o ++ vs ++ cur.toList.drop (o + vs.length)).take (m * k) = ys) (hl : ys.length = m * k) : ∃ cur', RowB (w.setCells g o vs) B T k g cap m cur' ys ∧ cur'.toList = cur.toList.take o ++ vs ++ cur.toList.drop (o + vs.length) := by
  obtain ⟨cur', h1, h2, h3⟩ := setCells_row g T (0, 0) vs o w cur h.blk (by rw [h.sz]; exact ho)
  exact ⟨cur', ⟨h.hB, h1, hm, h.mx, by rw [h2, h.sz], by rw [h3]; exact hy, hl⟩, h3⟩
theorem grown_set {w w' : World} {g : Nat} (h : w.grownBy w' (some g)) (o : Nat) (vs : List Value) : w.grownBy (w'.setCells g o vs) (some g) := by
  obtain ⟨h1, h2, h3, h4⟩ := setCells_rest g vs o w'
  exact ⟨h1.trans h.os, h2.trans h.tape, h3.trans h.output, by rw [h4]; exact h.size, fun k hk hne => (setCells_blk g vs o w' k (fun e => hne (by rw [e]))).trans (h.block k hk hne)⟩
theorem grown_refl (w : World) (row : Option Nat) : w.grownBy w row := ⟨rfl, rfl, rfl, Nat.le_refl _, fun _ _ _ => rfl⟩
theorem grown_drew {w w' : World} {row : Option Nat} (h : w.grownBy w' row) : w.grownBy w'.drew row := ⟨h.os, h.tape, h.output, h.size, h.block⟩
theorem grown_alloc {w w' : World} {row : Option Nat} (h : w.grownBy w' row) (o : Obj) : w.grownBy (w'.alloc o) row := ⟨h.os, h.tape, h.output, by have := h.size; simp; omega, fun k hk hne => by rw [Go.Deep.blk_alloc_lt _ _ _ (by have := h.size; omega)]; exact h.block k hk hne⟩
/-- Writes to a new block alone. -/
theorem grown_new {w w' : World} {row : Option Nat} {g : Nat} (h : w.grownBy w' row) (hg : w.heap.size ≤ g) (o : Nat) (vs : List Value) : w.grownBy (w'.setCells g o vs) row := by
  obtain ⟨h1, h2, h3, h4⟩ := setCells_rest g vs o w'
  exact ⟨h1.trans h.os, h2.trans h.tape, h3.trans h.output, by rw [h4]; exact h.size, fun k hk hne => (setCells_blk g vs o w' k (by omega)).trans (h.block k hk hne)⟩
end Go.Proofs.YtpbolcjcmkmalaaGreatDoor
namespace Go.Proofs.YtpbolcjcmkmalaaGreatDoor
open Go.RowKit Go.Extern.Stop Go.Stop Go.Extern

def updV (v : Nat → Value) (c : Nat) (u : Value) : Nat → Value := fun j => if j = c then u else v j
theorem updV_same (v : Nat → Value) (c : Nat) (u : Value) : updV v c u c = u := by simp [updV]
theorem updV_ne (v : Nat → Value) {c j : Nat} (u : Value) (h : j ≠ c) : updV v c u j = v j := by simp [updV, h]
theorem ins_take {α : Type} : ∀ (l : List α) (i : Nat) (a : α), i ≤ l.length → l.insertIdx i a = l.take i ++ a :: l.drop i
  | l, 0, a, _ => by simp
  | [], i + 1, a, h => by simp at h
  | b :: r, i + 1, a, h => by rw [List.insertIdx_succ_cons, ins_take r i a (by simpa using h)]; rfl
/-- From a world to a later one: all blocks stay but some. -/
structure Fr (X : Nat → Prop) (w w' : World) : Prop where
  os : w'.os = w.os
  tape : w'.tape = w.tape
  output : w'.output = w.output
  size : w.heap.size ≤ w'.heap.size
  block : ∀ k, k < w.heap.size → ¬ X k → w'.heap[k]? = w.heap[k]?
theorem Fr.refl (X : Nat → Prop) (w : World) : Fr X w w := ⟨rfl, rfl, rfl, Nat.le_refl _, fun _ _ _ => rfl⟩
theorem Fr.trans {X : Nat → Prop} {a b c : World} (h : Fr X a b) (k : Fr X b c) : Fr X a c := ⟨k.os.trans h.os, k.tape.trans h.tape, k.output.trans h.output, Nat.le_trans h.size k.size, fun i hi hx => (k.block i (Nat.lt_of_lt_of_le hi h.size) hx).trans (h.block i hi hx)⟩
theorem Fr.mono {X Y : Nat → Prop} {w w' : World} (h : Fr X w w') (hXY : ∀ k, k < w.heap.size → X k → Y k) : Fr Y w w' := ⟨h.os, h.tape, h.output, h.size, fun k hk hy => h.block k hk fun hx => hy (hXY k hk hx)⟩
theorem Fr.of {X : Nat → Prop} {w w' : World} (h : Below w.heap.size w w') : Fr X w w' := ⟨h.os, h.tape, h.output, h.size, fun k hk _ => h.block k hk⟩
theorem Fr.after {X : Nat → Prop} {w w1 w2 : World} (h : Below w.heap.size w w1) (k : Fr X w1 w2) : Fr X w w2 := (Fr.of h).trans k
theorem Fr.bel {X : Nat → Prop} {w w1 w2 : World} (h : Fr X w w1) (k : Below w1.heap.size w1 w2) : Fr X w w2 := h.trans (Fr.of k)
theorem Fr.setCell {X : Nat → Prop} {w w' : World} (h : Fr X w w') {p : Addr} (hp : X p.block ∨ w.heap.size ≤ p.block) (u : Value) : Fr X w (w'.setCell p u) :=
  ⟨h.os, h.tape, h.output, by have := h.size; simp; exact this, fun k hk hx => by rw [Below.heap_setCell _ _ _ _ (fun e => by rcases hp with hp | hp; exact hx (e ▸ hp); omega)]; exact h.block k hk hx⟩
theorem Fr.grown {X : Nat → Prop} {w w1 w2 : World} {row : Option Nat} (h : Fr X w w1) (g : w1.grownBy w2 row) (hr : ∀ k, row = some k → X k ∨ w.heap.size ≤ k) : Fr X w w2 :=
  ⟨g.os.trans h.os, g.tape.trans h.tape, g.output.trans h.output, Nat.le_trans h.size g.size, fun k hk hx => by
    rw [g.block k (Nat.lt_of_lt_of_le hk h.size) (fun e => (hr k e.symm).elim hx (fun h1 => by omega))]
    exact h.block k hk hx⟩
theorem Fr.below {X : Nat → Prop} {w w' : World} {B : Nat} (h : Fr X w w') (hX : ∀ k, k < B → ¬ X k) (hB : B ≤ w.heap.size) : Below B w w' := ⟨h.os, h.tape, h.output, h.size, fun k hk => h.block k (by omega) (hX k hk)⟩
/-- The rows of an item are two. -/
theorem rows_ne {w : World} {B : Nat} {v : Nat → Value} {t : It} {S : Nat → Prop} {K : Nat → Nat → Value} {T : Nat → Nat → Prop} (h : OwnK w B v t S K T) {g : Nat} (h2 : (v 2).ownBlock = some g) : (v 3).ownBlock ≠ some g := by
  intro h3
  rcases h.ln.2 with ⟨e1, _⟩ | ⟨g1, c1, cur1, e1, _, hg1, _⟩
  · rw [e1] at h2; cases h2
  · rcases h.kd.2 with ⟨e2, _⟩ | ⟨g2, c2, cur2, e2, _, hg2, _⟩
    · rw [e2] at h3; cases h3
    · rw [e1] at h2
      rw [e2] at h3
      injection h2 with h2
      injection h3 with h3
      have h2 : g1 = g := h2
      have h3 : g2 = g := h3
      rw [h2] at hg1
      rw [h3, hg1] at hg2
      injection hg2 with hg2
      injection hg2 with _ hg2 _
      exact absurd hg2 (by decide)
/-- A cell of the item is written. -/
theorem here_set {w w' : World} {b o c : Nat} {v : Nat → Value} {u : Value} (h : ∃ cur ty, w.heap[b]? = some (.cells cur ty (0, 0)) ∧ ∀ c, c < 4 → cur[o + c]? = some (v c)) (hc : c < 4) (hb : w'.heap[b]? = (w.setCell ⟨b, o + c, none⟩ u).heap[b]?) : (∃ cur ty, w'.heap[b]? = some (.cells cur ty (0, 0)) ∧ ∀ j, j < 4 → cur[o + j]? = some (updV v c u j)) ∧ ∀ cur ty, w.heap[b]? = some (.cells cur ty (0, 0)) → ∃ cur', w'.heap[b]? = some (.cells cur' ty (0, 0)) ∧ cur'.size = cur.size ∧ ∀ q, (q < o ∨ o + 4 ≤ q) → cur'[q]? = cur[q]? := by
  obtain ⟨cur, ty, e, hcs⟩ := h
  have e1 := hb.trans (setCell_row u e)
  have hlt : o + c < cur.size := by
    have := hcs c hc
    exact (Array.getElem?_eq_some_iff.1 this).1
  refine ⟨⟨_, ty, e1, fun j hj => ?_⟩, fun cur' ty' e' => ?_⟩
  · rw [Array.getElem?_setIfInBounds]
    unfold updV
    by_cases hjc : j = c
    · rw [if_pos (by omega), if_pos hlt, if_pos hjc]
    · rw [if_neg (by omega), if_neg hjc]
      exact hcs j hj
  · rw [e] at e'
    injection e' with e'
    injection e' with h1 h2 _
    subst h1 h2
    refine ⟨_, e1, by simp, fun q hq => ?_⟩
    rw [Array.getElem?_setIfInBounds, if_neg (by omega)]
theorem own_step2 {w w' : World} {B : Nat} {v : Nat → Value} {t : It} {S : Nat → Prop} {K : Nat → Nat → Value} {T : Nat → Nat → Prop} (h : OwnK w B v t S K T) {X : Nat → Prop} (hf : Fr X w w') (hX : ∀ i q, i < t.kids.length → T i q → ¬ X q) : ∀ i k, t.kids[i]? = some k → Own w' B (K i) k (T i) := fun i k e => by
  have hil := (List.getElem?_eq_some_iff.1 e).1
  exact (h.hr i k e).step (fun q hq => hf.block q (h.hS q (h.hT i q hil hq).1).2 (hX i q hil hq)) hf.size
/-- Another heading. -/
theorem ItAt.setHead {w w' : World} {B b o : Nat} {x : It} {S : Nat → Prop} {v : Nat → Value} (h : ItAt w B b o x S v) (s : ByteArray) (hf : Fr (· = b) w w') (hb : w'.heap[b]? = (w.setCell ⟨b, o + 1, none⟩ (.string s)).heap[b]?) :
    ItAt w' B b o (x.setHead s) S (updV v 1 (.string s)) ∧ Upd w w' b o S := by
  obtain ⟨h1, h2⟩ := here_set (u := .string s) h.here (c := 1) (by omega) hb
  obtain ⟨K, T, hk⟩ := h.own.parts
  have hn : ∀ q, S q → q ≠ b := fun q hq e => h.out (e ▸ hq)
  refine ⟨⟨h1, ?_, h.out⟩, ⟨hf.os, hf.tape, hf.output, hf.size, fun k hk _ hne => hf.block k hk hne, h2⟩⟩
  refine .mk _ _ K T S ((updV_ne v _ (by omega)).trans hk.h0) (updV_same _ _ _) ?_ ?_ (fun g hg => hk.sl g (by rw [updV_ne v _ (by omega)] at hg; exact hg)) (fun g hg => hk.sk g (by rw [updV_ne v _ (by omega)] at hg; exact hg)) (fun i k e => own_step2 (t := x) hk hf (fun i q hi hq => hn q (hk.hT i q hi hq).1) i k e) (fun i q hi hq => by rw [updV_ne v _ (by omega), updV_ne v _ (by omega)]; exact hk.hT i q hi hq) hk.hd (fun g hg => ⟨(hk.hS g hg).1, Nat.lt_of_lt_of_le (hk.hS g hg).2 hf.size⟩)
  · rw [updV_ne v _ (by omega)]
    exact row_step hk.ln fun g hg hl => hf.block g hl (hn g (hk.sl g hg))
  · rw [updV_ne v _ (by omega)]
    exact row_step hk.kd fun g hg hl => hf.block g hl (hn g (hk.sk g hg))
/-- Other lines. -/
theorem ItAt.setL {w w' : World} {B b o : Nat} {x : It} {S : Nat → Prop} {v : Nat → Value} (h : ItAt w B b o x S v) {u : Value} {ls : List ByteArray} (hf : Fr (fun k => k = b ∨ (v 2).ownBlock = some k) w w') (hb : w'.heap[b]? = (w.setCell ⟨b, o + 2, none⟩ u).heap[b]?)
    (hr : w'.ownsRow B 9 1 u ls.length (ls.map Value.string)) (hu : u.ownBlock = (v 2).ownBlock ∨ ∃ g, u.ownBlock = some g ∧ w.heap.size ≤ g ∧ g < w'.heap.size) (hB : B ≤ w.heap.size) :
    ∃ S' v', ItAt w' B b o (x.setLines ls) S' v' ∧ (∀ q, S' q → S q ∨ w.heap.size ≤ q) ∧ Upd w w' b o S := by
  obtain ⟨h1, h2⟩ := here_set (u := u) h.here (c := 2) (by omega) hb
  obtain ⟨K, T, hk⟩ := h.own.parts
  have hn : ∀ q, S q → q ≠ b := fun q hq e => h.out (e ▸ hq)
  have hlt := h.lt
  refine ⟨fun q => S q ∨ (w.heap.size ≤ q ∧ q < w'.heap.size), updV v 2 u, ⟨h1, ?_, fun hh => hh.elim h.out (fun e => by omega)⟩, fun q hq => hq.imp (fun h => h) (fun h => h.1), ⟨hf.os, hf.tape, hf.output, hf.size, fun k hk' hs hne => hf.block k hk' (fun e => e.elim hne (fun e => hs (hk.sl k e))), h2⟩⟩
  have hkne : ∀ g, (v 3).ownBlock = some g → ¬ (g = b ∨ (v 2).ownBlock = some g) := fun g hg e => e.elim (hn g (hk.sk g hg)) (fun e => rows_ne hk e hg)
  refine .mk _ _ K T _ ((updV_ne v _ (by omega)).trans hk.h0) ((updV_ne v _ (by omega)).trans hk.h1) ?_ ?_ (fun g hg => ?_) (fun g hg => ?_) (fun i k e => own_step2 (t := x) hk hf (fun i q hi hq e => e.elim (hn q (hk.hT i q hi hq).1) (hk.hT i q hi hq).2.1) i k e) (fun i q hi hq => ?_) hk.hd (fun g hg => ?_)
  · rw [updV_same]; exact hr
  · rw [updV_ne v _ (by omega)]
    exact row_step hk.kd fun g hg hl => hf.block g hl (hkne g hg)
  · rw [updV_same] at hg
    rcases hu with e | ⟨g', e, h3, h4⟩
    · exact .inl (hk.sl g (by rw [← e]; exact hg))
    · rw [e] at hg; injection hg with hg; subst hg; exact .inr ⟨h3, h4⟩
  · rw [updV_ne v _ (by omega)] at hg
    exact .inl (hk.sk g hg)
  · have h9 := hk.hT i q hi hq
    refine ⟨.inl h9.1, ?_, by rw [updV_ne v _ (by omega)]; exact h9.2.2⟩
    rw [updV_same]
    rcases hu with e | ⟨g', e, h3, h4⟩
    · rw [e]; exact h9.2.1
    · rw [e]; intro e2; injection e2 with e2; have := (hk.hS q h9.1).2; omega
  · rcases hg with hg | hg
    · exact ⟨(hk.hS g hg).1, Nat.lt_of_lt_of_le (hk.hS g hg).2 hf.size⟩
    · exact ⟨by omega, hg.2⟩
/-- One line is another. -/
theorem ItAt.setLine {w : World} {B b o : Nat} {x : It} {S : Nat → Prop} {v : Nat → Value} (h : ItAt w B b o x S v) {i : Nat} (hi : i < x.lines.length) (s : ByteArray) : ∃ g cap, v 2 = .slice (some ⟨g, 0, none⟩) x.lines.length cap ∧ w.cell? ⟨g, i, none⟩ = some (.string (x.lines[i])) ∧ w.frozen? ⟨g, i, none⟩ = false ∧ ∀ w', Fr (· = g) w w' → w'.heap[g]? = (w.setCell ⟨g, i, none⟩ (.string s)).heap[g]? → ItAt w' B b o (x.setLines (x.lines.set i s)) S v ∧ Upd w w' b o S := by
  obtain ⟨K, T, hk⟩ := h.own.parts
  obtain ⟨g, cap, cur, e, hr⟩ := row_b hk.ln (by omega)
  have hS := hk.sl g (by rw [e]; rfl)
  have hn : ∀ q, S q → q ≠ b := fun q hq e => h.out (e ▸ hq)
  refine ⟨g, cap, e, hr.cell (by rw [List.getElem?_map, List.getElem?_eq_getElem hi]; rfl), hr.frozen _, fun w' hf hg => ?_⟩
  have hgb : g ≠ b := hn g hS
  have hg := hg.trans (setCell_row _ hr.blk)
  have hbb : w'.heap[b]? = w.heap[b]? := hf.block b h.lt (fun e => hgb e.symm)
  have hilt : i < cur.size := by have := hr.sz; have := hr.le; omega
  refine ⟨⟨?_, ?_, h.out⟩, ⟨hf.os, hf.tape, hf.output, hf.size, fun k hk' hs hne => hf.block k hk' (fun e => hs (e ▸ hS)), fun cur' ty' e' => ⟨cur', hbb.trans e', rfl, fun _ _ => rfl⟩⟩⟩
  · obtain ⟨c0, ty, e0, h0⟩ := h.here
    exact ⟨c0, ty, hbb.trans e0, h0⟩
  · have hl : (x.setLines (x.lines.set i s)).lines.length = x.lines.length := by show (x.lines.set i s).length = _; simp
    refine .mk v _ K T S hk.h0 hk.h1 ?_ ?_ hk.sl hk.sk (fun j k ej => own_step2 (t := x) hk hf (fun j q hj hq e2 => (hk.hT j q hj hq).2.1 (by rw [e, e2]; rfl)) j k ej) hk.hT hk.hd (fun q hq => ⟨(hk.hS q hq).1, Nat.lt_of_lt_of_le (hk.hS q hq).2 hf.size⟩)
    · rw [hl]
      show w'.ownsRow B 9 1 (v 2) x.lines.length ((x.lines.set i s).map Value.string)
      rw [e]
      refine RowB.row (cur := cur.setIfInBounds i (.string s)) ⟨hr.hB, hg, hr.le, hr.mx, by simp [hr.sz], ?_, by simp⟩
      rw [Array.toList_setIfInBounds, List.take_set, hr.is, List.map_set]
    · exact row_step hk.kd fun q hq hl' => hf.block q hl' (fun e2 => rows_ne hk (g := q) (by rw [e, e2]; rfl) hq)
end Go.Proofs.YtpbolcjcmkmalaaGreatDoor
namespace Go.Proofs.YtpbolcjcmkmalaaGreatDoor
open Go.RowKit Go.Extern.Stop Go.Stop Go.Extern

theorem allLines_any (ls : List ByteArray) (la : Option Addr) (lc : Nat) (w : World) (hn : ls.length ≤ 100000) (hL : ∀ s ∈ ls, s.size ≤ 1000000) (hk : ∀ i s, ls[i]? = some s → ∃ b o, la = some ⟨b, o, none⟩ ∧ w.cell? ⟨b, o + i, none⟩ = some (.string s)) :
    Calls Tryz.prog 61 #[.slice la ls.length lc] w fun e w' => e = .returned (.bool (!(ls.any badB))) ∧ Below w.heap.size w w' := by
  have HC := hidLL (bad_has ls la lc w hn hL hk)
  clear hk hL
  generalize ls.length = n at *
  generalize ls.any badB = an at *
  go_enter Tryz.func61, Tryz.ntmps61
  go_wp2_with fail
  refine HC.out.mono ?_
  rintro e w1 ⟨rfl, hb1⟩
  have HB := hidLL hb1
  clear hb1
  go_wp2
  go_ret
  exact ⟨rfl, HB.out⟩
set_option maxHeartbeats 1000000 in
theorem isTooGreat_any (t : It) (hF : FewIt t) (v : Nat → Value) (w : World) (P : Nat → Prop) (hL : Lies w P v t) :
    Calls Tryz.prog 58 #[.agg #[v 0, v 1, v 2, v 3]] w fun e w' => e = .returned (.bool (greatB t)) ∧ Below w.heap.size w w' := by
  obtain ⟨k1, k2, k3, k4, k5, _⟩ := hF.get
  obtain ⟨f0, f1, ⟨la, lc, f2⟩, ⟨ka, kc, f3⟩⟩ := hL.forms
  have hb : Below w.heap.size w (w.alloc (.cells #[v 0, v 1, v 2, v 3] 25)) := (Below.refl _ _).alloc (Nat.le_refl _) _
  rw [f0, f1, f2, f3] at hb
  have hl2 : ∀ i s, t.lines[i]? = some s → ∃ b o, la = some ⟨b, o, none⟩ ∧ (w.alloc (.cells #[.string t.label, .string t.head, .slice la t.lines.length lc, .slice ka t.kids.length kc] 25)).cell? ⟨b, o + i, none⟩ = some (.string s) := fun i s h => by
    obtain ⟨b, o, e1, _, e3⟩ := (hL.linesIn f2).2 i s h
    exact ⟨b, o, e1, (hb.cell (p := ⟨b, o + i, none⟩) (cell_lt e3)).trans e3⟩
  have HH := hidLL (long_has t.lines la lc _ (by omega) k3 hl2)
  have HL1 := hidLL (fun w => longQ_any t.head k4 w)
  rw [f0, f1, f2, f3]
  clear hL hl2 f0 f1 f2 f3 k3 k4 k5 hF
  have HG : Hid (greatB t = (decide (40 < t.lines.length) || (longB t.head || t.lines.any longB))) := rfl
  have h40 : decide (40 < t.lines.length) = decide ((40 : Int) < (t.lines.length : Int)) := by rw [decide_eq_decide]; omega
  rw [h40] at HG
  generalize t.label = lb at *
  generalize t.kids.length = kn at *
  generalize greatB t = g at *
  generalize t.lines.any longB = la2 at *
  generalize longB t.head = lh at *
  generalize t.head = hd at *
  generalize t.lines.length = ln at *
  clear h40
  have HBx := hidLL hb
  clear hb
  by_cases hc : (40 : Int) < (ln : Int)
  · have hcd : decide ((40 : Int) < (ln : Int)) = true := decide_eq_true hc
    rw [hcd] at HG
    go_enter Tryz.func58, Tryz.ntmps58
    go_wp2
    go_ret
    exact ⟨ret_b (by rw [HG.out]; rfl), HBx.out⟩
  · have hcd : decide ((40 : Int) < (ln : Int)) = false := decide_eq_false hc
    rw [hcd] at HG
    cases lh
    · go_enter Tryz.func58, Tryz.ntmps58
      go_wp2_with fail
      go_at_call 97
      refine (HL1.out _).mono ?_
      rintro e w1 ⟨rfl, ew⟩
      subst w1
      go_wp2_with fail
      go_at_call 98
      refine HH.out.mono ?_
      rintro e w1 ⟨rfl, hb1⟩
      have HB1 := hidLL (HBx.out.trans (hb1.mono (by simp)))
      clear hb1
      go_wp2
      go_ret
      exact ⟨ret_b (by rw [HG.out]; rfl), HB1.out⟩
    · go_enter Tryz.func58, Tryz.ntmps58
      go_wp2_with fail
      go_at_call 97
      refine (HL1.out _).mono ?_
      rintro e w1 ⟨rfl, ew⟩
      subst w1
      go_wp2
      go_ret
      exact ⟨ret_b (by rw [HG.out]; rfl), HBx.out⟩
/-- Items in a row: what stands ahead. -/
structure AheadAt (w : World) (P : Nat → Prop) (aa : Option Addr) (ah : List It) (V : Nat → Nat → Value) : Prop where
  hk : ∀ i, i < ah.length → ∃ b o, aa = some ⟨b, o, none⟩ ∧ P b ∧ ∀ c, c < 4 → w.cell? ⟨b, o + i * 4 + c, none⟩ = some (V i c)
  hr : ∀ i k, ah[i]? = some k → Lies w P (V i) k
theorem AheadAt.on {w w' : World} {P : Nat → Prop} {aa : Option Addr} {ah : List It} {V : Nat → Nat → Value} (h : AheadAt w P aa ah V) (hb : ∀ b, b < w.heap.size → P b → w'.heap[b]? = w.heap[b]?) : AheadAt w' P aa ah V where
  hk := fun i hi => by
    obtain ⟨b, o, h1, h2, h3⟩ := h.hk i hi
    exact ⟨b, o, h1, h2, fun c hc => (World.cell?_of_block (a := ⟨b, o + i * 4 + c, none⟩) (hb b (cell_lt (h3 0 (by omega))) h2)).trans (h3 c hc)⟩
  hr := fun i k e => (h.hr i k e).step fun b hb' hp => ⟨hb b hb' hp, hp⟩
theorem ahead_has {w : World} {P : Nat → Prop} {aa : Option Addr} {ah : List It} {V : Nat → Nat → Value} (h : AheadAt w P aa ah V) (s : ByteArray) : (∃ i, i < ah.length ∧ ((strOf (V i 0)).toList == s.toList) = true) ↔ (ah.any fun k => k.label.toList == s.toList) = true := by
  have := kids_has (t := It.mk ⟨#[]⟩ ⟨#[]⟩ [] ah) h.hr s
  exact this.symm
set_option maxHeartbeats 1000000 in
theorem hasRight_any (t : It) (hF : FewIt t) (d : Nat) (hd : d ≤ 1000) (v : Nat → Value) (w : World) (P Q : Nat → Prop) (hL : Lies w P v t) (aa : Option Addr) (ac : Nat) (ah : List It) (V : Nat → Nat → Value) (hA : AheadAt w Q aa ah V) (hn : ah.length ≤ 1000) (hT : Lib.Utf8Tabs 13 14 w) :
    Calls Tryz.prog 59 #[.agg #[v 0, v 1, v 2, v 3], .int .i64 d, .slice aa ah.length ac] w fun e w' => e = .returned (.bool (labelOk d ah t)) ∧ Below w.heap.size w w' := by
  obtain ⟨k1, k2, k3, k4, k5, _⟩ := hF.get
  obtain ⟨f0, f1, ⟨la, lc, f2⟩, ⟨ka, kc, f3⟩⟩ := hL.forms
  have HO : Hid (labelOk d ah t = if d = 0 then decide (t.label.size = 0) else isLab t.label && !(ah.any fun k => k.label.toList == t.label.toList)) := rfl
  have hE := empty_is t.label
  have HLb := hidLL (fun w hT => isLabel_any t.label k5 w hT)
  have HA := hidLL hA
  have HT := hidLL hT
  have HLd : Hid (∀ W, Below w.heap.size w W → Calls Tryz.prog 99 #[.slice aa ah.length ac, .string t.label] W fun e w' => (∃ k : Int, e = .returned (.int .i64 k) ∧ -1 ≤ k ∧ (0 ≤ k ↔ (ah.any fun k => k.label.toList == t.label.toList) = true)) ∧ Below W.heap.size W w') := fun W hW => by
    have hA2 := hA.on (w' := W) (fun b hb _ => hW.block b hb)
    refine (labelled_any ah.length aa ac _ _ _ _ _ _ _ _ t.label W (by omega) (kids_cells hA2.hk hA2.hr)).mono ?_
    rintro e w' ⟨⟨k, h1, h2, h3⟩, h4⟩
    exact ⟨⟨k, h1, h2, h3.trans (ahead_has hA2 t.label)⟩, h4⟩
  rw [f0, f1, f2, f3]
  clear hL f0 f1 f2 f3 hF k1 k2 k3 k4 hA hT
  generalize labelOk d ah t = O at *
  generalize (ah.any fun k => k.label.toList == t.label.toList) = an at *
  generalize isLab t.label = il at *
  generalize t.label = lb at *
  generalize t.head = hd2 at *
  generalize t.lines.length = ln at *
  generalize t.kids.length = kn at *
  generalize ah.length = an2 at *
  have HBx : Hid (Below w.heap.size w (w.alloc (.cells #[.string lb, .string hd2, .slice la ln lc, .slice ka kn kc] 25))) := (Below.refl _ _).alloc (Nat.le_refl _) _
  by_cases h0 : d = 0
  · subst h0
    rw [if_pos rfl] at HO
    generalize decide (lb.size = 0) = z0 at *
    go_enter Tryz.func59, Tryz.ntmps59
    go_wp2
    go_ret
    exact ⟨ret_b HO.out.symm, HBx.out⟩
  · rw [if_neg h0] at HO
    have h0z : ((d : Int) == 0) = false := by rw [beq_eq_false_iff_ne]; omega
    have HLb2 := hidLL (HLb.out (w.alloc (.cells #[.string lb, .string hd2, .slice la ln lc, .slice ka kn kc] 25)) (tabs_below HT.out HBx.out))
    clear hE
    cases il
    · go_enter Tryz.func59, Tryz.ntmps59
      go_wp2_with fail
      go_at_call 80
      refine HLb2.out.mono ?_
      rintro e w1 ⟨rfl, hb1⟩
      have HB1 := hidLL (HBx.out.trans (hb1.mono (by simp)))
      clear hb1
      go_wp2
      go_ret
      exact ⟨ret_b (by rw [HO.out]; rfl), HB1.out⟩
    · go_enter Tryz.func59, Tryz.ntmps59
      go_wp2_with fail
      go_at_call 80
      refine HLb2.out.mono ?_
      rintro e w1 ⟨rfl, hb1⟩
      have y0 : w1.cell? ⟨w.heap.size, 0, none⟩ = some (.string lb) := (hb1.cell (p := ⟨w.heap.size, 0, none⟩) (by simp)).trans (by simp)
      have HB1 := hidLL (HBx.out.trans (hb1.mono (by simp)))
      clear hb1
      go_wp2_with fail
      go_at_call 99
      refine (HLd.out _ HB1.out).mono ?_
      rintro e w2 ⟨⟨k, rfl, hk1, hk2⟩, hb2⟩
      have HB2 := hidLL (HB1.out.trans (hb2.mono HB1.out.size))
      have HR : Hid (decide (k < 0) = !an) := by
        show _ = _
        cases an
        · exact decide_eq_true (by rcases Int.lt_or_le k 0 with h | h; exact h; exact absurd (hk2.1 h) (by decide))
        · exact decide_eq_false (by have := hk2.2 rfl; omega)
      clear hb2 hk2
      go_wp2
      go_ret
      exact ⟨ret_b (by rw [HO.out, ← HR.out]; rfl), HB2.out⟩
end Go.Proofs.YtpbolcjcmkmalaaGreatDoor
namespace Go.Proofs.YtpbolcjcmkmalaaGreatDoor
open Go.RowKit Go.Extern.Stop Go.Stop Go.Extern

theorem Tryz.infoRow : ∃ i z, Tryz.prog.info? 82 = some i ∧ i.zero = some z ∧ i.size = 8 ∧ i.bytes = 136 ∧ z.cells.size = 8 := by
  have h : (Tryz.prog.info? 82).map (fun i => (i.zero.map (fun z => z.cells.size), i.size, i.bytes)) = some (some 8, 8, 136) := by kernel_rfl
  obtain ⟨i, hi, e⟩ := Option.map_eq_some_iff.1 h
  injection e with e1 e2
  injection e2 with e2 e3
  obtain ⟨z, hz, e4⟩ := Option.map_eq_some_iff.1 e1
  exact ⟨i, z, hi, hz, e2, e3, e4⟩
def flat8 (V : Nat → Nat → Value) (n : Nat) : List Value := (List.range (n * 8)).map fun q => V (q / 8) (q % 8)
theorem flat8_len (V : Nat → Nat → Value) (n : Nat) : (flat8 V n).length = n * 8 := by unfold flat8; simp
theorem flat8_get (V : Nat → Nat → Value) (n j c : Nat) (hj : j < n) (hc : c < 8) : (flat8 V n)[j * 8 + c]? = some (V j c) := by
  unfold flat8
  rw [List.getElem?_map, List.getElem?_range (by omega)]
  simp only [Option.map_some, Option.some.injEq]
  rw [show (j * 8 + c) / 8 = j by omega, show (j * 8 + c) % 8 = c by omega]
theorem flat8_snoc (V : Nat → Nat → Value) (n : Nat) (x : Nat → Value) : flat8 V n ++ [x 0, x 1, x 2, x 3, x 4, x 5, x 6, x 7] = flat8 (snocV V n x) (n + 1) := by
  apply List.ext_getElem?
  intro q
  rcases Nat.lt_or_ge q (n * 8) with h | h
  · rw [List.getElem?_append_left (by rw [flat8_len]; exact h)]
    have e : q = q / 8 * 8 + q % 8 := by omega
    rw [e, flat8_get _ _ _ _ (by omega) (by omega), flat8_get _ _ _ _ (by omega) (by omega)]
    unfold snocV
    rw [if_neg (by omega)]
  · rw [List.getElem?_append_right (by rw [flat8_len]; exact h), flat8_len]
    rcases Nat.lt_or_ge q ((n + 1) * 8) with h2 | h2
    · obtain ⟨c, hc⟩ : ∃ c, c = q - n * 8 := ⟨_, rfl⟩
      have e : q = n * 8 + c := by omega
      rw [e, flat8_get _ _ _ _ (by omega) (by omega)]
      unfold snocV
      rw [if_pos rfl, show n * 8 + c - n * 8 = c by omega]
      have : c < 8 := by omega
      match c, this with
      | 0, _ => rfl
      | 1, _ => rfl
      | 2, _ => rfl
      | 3, _ => rfl
      | 4, _ => rfl
      | 5, _ => rfl
      | 6, _ => rfl
      | 7, _ => rfl
    · rw [List.getElem?_eq_none (by simp; omega), List.getElem?_eq_none (by rw [flat8_len]; exact h2)]
/-- A row in memory; the law lies below B. -/
structure RowAt (B : Nat) (w : World) (c : Nat → Value) (r : FRow) : Prop where
  it : Lies w (fun k => k < B) c r.item
  dp : c 4 = .int .i64 r.deep
  pa : ∃ s, c 5 = .string s
  nt : c 6 = .int .i64 r.nth
  up : ∃ ua uc, c 7 = .slice ua r.up.length uc ∧ ∀ k x, r.up[k]? = some x → ∃ b o, ua = some ⟨b, o, none⟩ ∧ b < B ∧ w.cell? ⟨b, o + k * 4, none⟩ = some (.string x.label)
theorem RowAt.on {B : Nat} {w w' : World} {c : Nat → Value} {r : FRow} (h : RowAt B w c r) (hb : Below B w w') : RowAt B w' c r where
  it := h.it.step fun b _ hp => ⟨hb.block b hp, hp⟩
  dp := h.dp
  pa := h.pa
  nt := h.nt
  up := by
    obtain ⟨ua, uc, h1, h2⟩ := h.up
    refine ⟨ua, uc, h1, fun k x hx => ?_⟩
    obtain ⟨b, o, e1, e2, e3⟩ := h2 k x hx
    exact ⟨b, o, e1, e2, (hb.cell (p := ⟨b, o + k * 4, none⟩) e2).trans e3⟩
/-- The rows so far. -/
structure FAt (B : Nat) (w : World) (sv : Value) (rows : List FRow) (V : Nat → Nat → Value) : Prop where
  row : w.ownsRow B 82 8 sv rows.length (flat8 V rows.length)
  each : ∀ i r, rows[i]? = some r → RowAt B w (V i) r
/-- What making rows leaves as it was: all below B, and every block that does not hold rows. -/
structure RStep (B : Nat) (w w' : World) : Prop where
  bel : Below B w w'
  kp : ∀ (k : Nat) cs T fr, w.heap[k]? = some (.cells cs T fr) → T ≠ 82 → w'.heap[k]? = w.heap[k]?
theorem RStep.refl (B : Nat) (w : World) : RStep B w w := ⟨Below.refl _ _, fun _ _ _ _ _ _ => rfl⟩
theorem RStep.trans {B : Nat} {w w' w'' : World} (h : RStep B w w') (h' : RStep B w' w'') : RStep B w w'' :=
  ⟨h.bel.trans h'.bel, fun k cs T fr hc hT => (h'.kp k cs T fr ((h.kp k cs T fr hc hT).trans hc) hT).trans (h.kp k cs T fr hc hT)⟩
theorem RStep.of {B : Nat} {w w' : World} (hw : B ≤ w.heap.size) (h : Below w.heap.size w w') : RStep B w w' :=
  ⟨h.mono hw, fun k _ _ _ hc _ => h.block k (lt_of_block hc)⟩
theorem FAt.on {B : Nat} {w w' : World} {sv : Value} {rows : List FRow} {V : Nat → Nat → Value} (h : FAt B w sv rows V) (hw : B ≤ w.heap.size) (hb : Below w.heap.size w w') : FAt B w' sv rows V :=
  ⟨row_step h.row fun g _ hg => hb.block g hg, fun i r e => (h.each i r e).on (hb.mono hw)⟩
/-- A row more. -/
theorem FAt.push {B : Nat} {w w1 w2 : World} {sv sv' : Value} {rows : List FRow} {V : Nat → Nat → Value} (h : FAt B w sv rows V) (hw : B ≤ w.heap.size) (ha : Below w.heap.size w w1) (x : Nat → Value) (r : FRow)
    (ho : w2.ownsRow B 82 8 sv' (rows.length + 1) (flat8 V rows.length ++ [x 0, x 1, x 2, x 3, x 4, x 5, x 6, x 7])) (hg : w1.grownBy w2 sv.ownBlock) (hr : RowAt B w x r) :
    FAt B w2 sv' (rows ++ [r]) (snocV V rows.length x) ∧ RStep B w w2 := by
  have hs1 : B ≤ w1.heap.size := Nat.le_trans hw ha.size
  have hrow1 : w1.ownsRow B 82 8 sv rows.length (flat8 V rows.length) := row_step h.row fun g _ hg => ha.block g hg
  have hb2 : Below B w w2 := (ha.mono hw).grown hg hs1 (fun k hk => (hrow1.lt k hk).1)
  refine ⟨⟨?_, fun i q e => ?_⟩, hb2, fun k cs T fr hc hT => ?_⟩
  · rw [List.length_append, List.length_singleton, ← flat8_snoc]; exact ho
  · rw [List.getElem?_append] at e
    split at e
    · rename_i hi
      unfold snocV
      rw [if_neg (by omega)]
      exact (h.each i q e).on hb2
    · rename_i hi
      have : i = rows.length := by
        have := (List.getElem?_eq_some_iff.1 e).1
        simp at this; omega
      subst this
      rw [Nat.sub_self] at e
      obtain rfl : r = q := by simpa using e
      unfold snocV
      rw [if_pos rfl]
      exact hr.on hb2
  · have h1 : w1.heap[k]? = some (.cells cs T fr) := (ha.block k (lt_of_block hc)).trans hc
    have hne : sv.ownBlock ≠ some k := by
      rcases hrow1.2 with ⟨rfl, _⟩ | ⟨g, cap, cur, rfl, _, hgg, _⟩
      · simp [Value.ownBlock]
      · intro e
        simp only [Value.ownBlock, Option.some.injEq] at e
        subst e
        rw [hgg] at h1
        simp only [Option.some.injEq, Obj.cells.injEq] at h1
        exact hT h1.2.1.symm
    rw [hg.block k (lt_of_block h1) (fun e => hne e.symm), h1, hc]
theorem FAt.get {B : Nat} {w : World} {a : Option Addr} {n cap : Nat} {rows : List FRow} {V : Nat → Nat → Value} (h : FAt B w (.slice a n cap) rows V) {i : Nat} {r : FRow} (hr : rows[i]? = some r) : n = rows.length ∧ ∃ g, a = some ⟨g, 0, none⟩ ∧ ∀ c, c < 8 → w.cell? ⟨g, i * 8 + c, none⟩ = some (V i c) := by
  have hi := (List.getElem?_eq_some_iff.1 hr).1
  rcases h.row.2 with ⟨_, h0⟩ | ⟨g, cap', cur, e1, _⟩
  · omega
  · injection e1 with e2 e3 e4
    refine ⟨e3, g, e2, fun c hc => ?_⟩
    have hrow := h.row
    rw [e2, e3] at hrow
    have h5 := hrow.cells (g := g) rfl (i * 8 + c) _ (flat8_get V rows.length i c hi hc)
    have h6 : (⟨g, 0, none⟩ : Addr).add (i * 8 + c) = ⟨g, i * 8 + c, none⟩ := by
      unfold Addr.add
      split
      · rename_i h0
        rw [h0]
      · simp
    rw [h6] at h5
    exact h5
theorem flatKs_app (d : Nat) (up : List It) : ∀ (a b : List It) (n : Nat), flatKs d n up (a ++ b) = flatKs d n up a ++ flatKs d (n + a.length) up b
  | [], b, n => by rw [flatKs]; rfl
  | t :: r, b, n => by
    rw [List.cons_append, flatKs, flatKs, flatKs_app d up r b (n + 1), List.append_assoc, List.length_cons, show n + 1 + r.length = n + (r.length + 1) by omega]
theorem flatKs_take (d : Nat) (l : List It) (i : Nat) (t : It) (h : l[i]? = some t) (up : List It) : flatKs d 0 up (l.take (i + 1)) = flatKs d 0 up (l.take i) ++ flatIt d i up t := by
  obtain ⟨hi, e⟩ := List.getElem?_eq_some_iff.1 h
  rw [List.take_succ_eq_append_getElem hi, e, flatKs_app, flatKs, flatKs, List.append_nil, List.length_take, Nat.min_eq_left (by omega), Nat.zero_add]
theorem flatIt_len : ∀ (N : Nat) (t : It), sizeIt t ≤ N → ∀ (d n : Nat) (up : List It), (flatIt d n up t).length ≤ sizeIt t
  | 0, t, h, d, n, up => by have := sizeIt_eq t; omega
  | N + 1, t, h, d, n, up => by
    have hks : ∀ (l all : List It) (j : Nat), (∀ x ∈ l, sizeIt x ≤ N) → (flatKs (d + 1) j all l).length ≤ sizeIts l := by
      intro l
      induction l with
      | nil => intro all j _; rw [flatKs]; simp
      | cons x r ih =>
        intro all j hx
        have h1 := ih all (j + 1) (fun y hy => hx y (List.mem_cons_of_mem _ hy))
        have h2 := flatIt_len N x (hx x (by simp)) (d + 1) j all
        rw [flatKs, List.length_append, sizeIts]
        omega
    have h1 := hks t.kids t.kids 0 (fun x hx => by have := kid_size hx; omega)
    have h2 := sizeIt_eq t
    rw [flatIt_eq, List.length_cons]
    omega
theorem flatKs_len (d : Nat) (up : List It) : ∀ (l : List It) (n : Nat), (flatKs d n up l).length ≤ sizeIts l
  | [], n => by rw [flatKs]; simp
  | x :: r, n => by
    have h1 := flatKs_len d up r (n + 1)
    have h2 := flatIt_len _ x (Nat.le_refl _) d n up
    rw [flatKs, List.length_append, sizeIts]
    omega
theorem sizeIts_take : ∀ (l : List It) (i : Nat) (t : It), l[i]? = some t → sizeIts (l.take (i + 1)) = sizeIts (l.take i) + sizeIt t
  | a :: r, 0, t, h => by
    obtain rfl : a = t := by simpa using h
    simp [sizeIts]
  | a :: r, i + 1, t, h => by
    have := sizeIts_take r i t (by simpa using h)
    rw [List.take_succ_cons, List.take_succ_cons, sizeIts, sizeIts, this]
    omega
theorem sizeIts_takeLe : ∀ (l : List It) (i : Nat), sizeIts (l.take i) ≤ sizeIts l
  | [], i => by simp
  | a :: r, 0 => by simp [sizeIts]
  | a :: r, i + 1 => by
    have := sizeIts_takeLe r i
    rw [List.take_succ_cons, sizeIts, sizeIts]
    omega
end Go.Proofs.YtpbolcjcmkmalaaGreatDoor
namespace Go.Proofs.YtpbolcjcmkmalaaGreatDoor
open Go.RowKit Go.Extern.Stop Go.Stop Go.Extern

theorem ones4 {V : Nat → Nat → Value} {n : Nat} (h : ∀ i c, i < n → c < 4 → (V i c).oneCell' = true) : ∀ u ∈ flat4 V n, u.oneCell' = true := by
  intro u hu
  unfold flat4 at hu
  obtain ⟨q, hq, rfl⟩ := List.mem_map.1 hu
  rw [List.mem_range] at hq
  exact h _ _ (by omega) (by omega)
theorem news4 {w : World} {b o n : Nat} {V : Nat → Nat → Value} (h : ∀ i c, i < n → c < 4 → w.cell? ⟨b, o + i * 4 + c, none⟩ = some (V i c)) : ∀ (j : Nat) (u : Value), (flat4 V n)[j]? = some u → w.cell? ((⟨b, o, none⟩ : Addr).add j) = some u := by
  intro j u hu
  have hj : j < n * 4 := by
    have := (List.getElem?_eq_some_iff.1 hu).1
    rw [flat4_len] at this
    exact this
  have e : j = j / 4 * 4 + j % 4 := by omega
  have h1 := flat4_get V n (j / 4) (j % 4) (by omega) (by omega)
  rw [← e, hu] at h1
  rw [addr_plus]
  have h2 := h (j / 4) (j % 4) (by omega) (by omega)
  rw [show o + j / 4 * 4 + j % 4 = o + j by omega] at h2
  rw [h2, h1]
set_option maxHeartbeats 2000000 in
set_option maxRecDepth 100000 in
theorem cloneI_any (a : Option Addr) (n c : Nat) (V : Nat → Nat → Value) (w : World) (hn : n ≤ 4194304) (hk : ∀ i, i < n → ∃ b o, a = some ⟨b, o, none⟩ ∧ ∀ q, q < 4 → w.cell? ⟨b, o + i * 4 + q, none⟩ = some (V i q)) (h1 : ∀ i q, i < n → q < 4 → (V i q).oneCell' = true) (ha : a = none → n = 0 ∧ c = 0) :
    Calls Tryz.prog 107 #[.slice a n c] w fun e w' => (∃ v, e = .returned v ∧ w'.ownsRow w.heap.size 25 4 v n (flat4 V n)) ∧ Below w.heap.size w w' := by
  obtain ⟨i0, iz, hI⟩ := Tryz.infoItem
  have HI := hidLL hI
  clear hI
  cases a with
  | none =>
    obtain ⟨rfl, rfl⟩ := ha rfl
    clear hk h1 ha
    have hnil := fun w => Lib.run_eql_slice_nil (P := Tryz.prog) w 23 25 none 0 0 0 0 Tryz.underlying23
    go_enter Tryz.func107, Tryz.ntmps107
    go_wp2
    go_ret
    exact ⟨⟨_, rfl, World.ownsRow_nil _ _ _ _⟩, Below.refl _ _⟩
  | some ad =>
    have HN : Hid (∀ (W : World), Below w.heap.size w W → ∀ (j : Nat) (u : Value), (flat4 V n)[j]? = some u → W.cell? (ad.add j) = some u) := fun W hW j u hu => by
      have hj : j < n * 4 := by
        have := (List.getElem?_eq_some_iff.1 hu).1
        rw [flat4_len] at this
        exact this
      obtain ⟨b, o, e, _⟩ := hk (j / 4) (by omega)
      injection e with e
      subst e
      refine news4 (w := W) (fun i q hi hq => ?_) j u hu
      obtain ⟨b', o', e', hc⟩ := hk i hi
      injection e' with e'
      injection e' with e1 e2
      subst e1 e2
      exact (hW.cell (p := ⟨b, o + i * 4 + q, none⟩) (cell_lt (hc q hq))).trans (hc q hq)
    have HOC := hidLL (ones4 h1)
    have HL4 := hidLL (flat4_len V n)
    clear hk h1 ha
    have hnil := fun w => Lib.run_eql_slice_nil (P := Tryz.prog) w 23 25 (some ad) n c 0 0 Tryz.underlying23
    go_enter Tryz.func107, Tryz.ntmps107
    have HA : Hid (Below w.heap.size w (w.alloc (.cells #[] 25))) := (Below.refl _ _).alloc (Nat.le_refl _) _
    have HO : Hid ((w.alloc (.cells #[] 25)).ownsRow w.heap.size 25 4 (.slice (some ⟨w.heap.size, 0, none⟩) 0 0) 0 []) := ⟨rfl, .inr ⟨w.heap.size, 0, #[], rfl, Nat.le_refl _, heap_alloc_new _ _, Nat.le_refl _, by decide, rfl, rfl⟩⟩
    go_wp2_with (at_builtin; go_loud (refine wpList_append_own _ rfl (.tmp 5) (.tmp 6) 23 rfl w.heap.size 25 i0 iz 4 80 Tryz.underlying23 HI.out.1 HI.out.2.1 HI.out.2.2.1 HI.out.2.2.2.1 HI.out.2.2.2.2 (by decide) (.slice (some ⟨w.heap.size, 0, none⟩) 0 0) 0 [] (by simp [Act.eval]) HO.out ad n c (flat4 V n) (by simp [Act.eval]) HL4.out (HN.out _ HA.out) HOC.out (by unfold maxLen; omega) (by omega) (by simp) ?_))
    intro v' w' ho' hg _
    obtain ⟨ga, ca, hv'⟩ := row_any ho'
    subst hv'
    have HH := hidLL (And.intro ho' hg)
    clear ho' hg
    go_wp2
    go_ret
    have h5 := HH.out.1
    exact ⟨⟨_, rfl, h5⟩, HA.out.grown HH.out.2 (by simp) (fun k hk => (HO.out.lt k hk).1)⟩
set_option maxHeartbeats 2000000 in
set_option maxRecDepth 100000 in
theorem cloneS_any (a : Option Addr) (c : Nat) (ls : List ByteArray) (w : World) (hn : ls.length ≤ 4194304) (hk : ∀ i s, ls[i]? = some s → ∃ b o, a = some ⟨b, o, none⟩ ∧ w.cell? ⟨b, o + i, none⟩ = some (.string s)) (ha : a = none → ls = [] ∧ c = 0) :
    Calls Tryz.prog 64 #[.slice a ls.length c] w fun e w' => (∃ v, e = .returned v ∧ w'.ownsRow w.heap.size 9 1 v ls.length (ls.map Value.string)) ∧ Below w.heap.size w w' := by
  obtain ⟨i0, iz, hI⟩ := Tryz.infoStr
  have HI := hidLL hI
  clear hI
  cases a with
  | none =>
    obtain ⟨rfl, rfl⟩ := ha rfl
    clear hk ha
    have hnil := fun w => Lib.run_eql_slice_nil (P := Tryz.prog) w 22 9 none 0 0 0 0 Tryz.underlying22
    show Calls _ _ #[.slice none 0 0] w _
    go_enter Tryz.func64, Tryz.ntmps64
    go_wp2
    go_ret
    exact ⟨⟨_, rfl, World.ownsRow_nil _ _ _ _⟩, Below.refl _ _⟩
  | some ad =>
    have HN : Hid (∀ (W : World), Below w.heap.size w W → ∀ (j : Nat) (u : Value), (ls.map Value.string)[j]? = some u → W.cell? (ad.add j) = some u) := fun W hW j u hu => by
      rw [List.getElem?_map] at hu
      obtain ⟨s, hs, rfl⟩ := Option.map_eq_some_iff.1 hu
      obtain ⟨b, o, e, hc⟩ := hk j s hs
      injection e with e
      subst e
      rw [addr_plus]
      exact (hW.cell (p := ⟨b, o + j, none⟩) (cell_lt hc)).trans hc
    have HOC : Hid (∀ u ∈ ls.map Value.string, u.oneCell' = true) := by
      intro u hu
      obtain ⟨s, _, rfl⟩ := List.mem_map.1 hu
      rfl
    have HL4 : Hid ((ls.map Value.string).length = ls.length * 1) := by show _ = _; rw [List.length_map, Nat.mul_one]
    obtain ⟨n, hnn⟩ : ∃ n, n = ls.length := ⟨_, rfl⟩
    rw [← hnn] at hn HL4
    rw [← hnn]
    generalize ls.map Value.string = xs at *
    clear hk ha hnn
    have hnil := fun w => Lib.run_eql_slice_nil (P := Tryz.prog) w 22 9 (some ad) n c 0 0 Tryz.underlying22
    go_enter Tryz.func64, Tryz.ntmps64
    have HA : Hid (Below w.heap.size w (w.alloc (.cells #[] 9))) := (Below.refl _ _).alloc (Nat.le_refl _) _
    have HO : Hid ((w.alloc (.cells #[] 9)).ownsRow w.heap.size 9 1 (.slice (some ⟨w.heap.size, 0, none⟩) 0 0) 0 []) := ⟨rfl, .inr ⟨w.heap.size, 0, #[], rfl, Nat.le_refl _, heap_alloc_new _ _, Nat.le_refl _, by decide, rfl, rfl⟩⟩
    go_wp2_with (at_builtin; go_loud (refine wpList_append_own _ rfl (.tmp 5) (.tmp 6) 22 rfl w.heap.size 9 i0 iz 1 16 Tryz.underlying22 HI.out.1 HI.out.2.1 HI.out.2.2.1 HI.out.2.2.2.1 HI.out.2.2.2.2 (by decide) (.slice (some ⟨w.heap.size, 0, none⟩) 0 0) 0 [] (by simp [Act.eval]) HO.out ad n c xs (by simp [Act.eval]) HL4.out (HN.out _ HA.out) HOC.out (by unfold maxLen; omega) (by omega) (by simp) ?_))
    intro v' w' ho' hg _
    obtain ⟨ga, ca, hv'⟩ := row_any ho'
    subst hv'
    have HH := hidLL (And.intro ho' hg)
    clear ho' hg
    go_wp2
    go_ret
    have h5 := HH.out.1
    exact ⟨⟨_, rfl, h5⟩, HA.out.grown HH.out.2 (by simp) (fun k hk => (HO.out.lt k hk).1)⟩
end Go.Proofs.YtpbolcjcmkmalaaGreatDoor
namespace Go.Proofs.YtpbolcjcmkmalaaGreatDoor
open Go.RowKit Go.Extern.Stop Go.Stop Go.Extern

set_option maxHeartbeats 4000000 in
set_option maxRecDepth 100000 in
/-- slices.Delete(s, i, i + 1) on a row of the call's own. -/
theorem delI_a {w : World} {B n i : Nat} {v : Value} {xs : List Value} (h : w.ownsRow B 25 4 v n xs) (h1 : ∀ u ∈ xs, u.oneCell' = true) (hi : i < n) (hn : n ≤ 1000000) :
    Calls Tryz.prog 79 #[v, .int .i64 i, .int .i64 ((i : Int) + 1)] w fun e w' => (∃ v', e = .returned v' ∧ v'.ownBlock = v.ownBlock ∧ w'.ownsRow B 25 4 v' (n - 1) (xs.take (i * 4) ++ xs.drop ((i + 1) * 4))) ∧ w.grownBy w' v.ownBlock := by
  obtain ⟨g, cap, cur, rfl, hr⟩ := row_b h (by omega)
  obtain ⟨i0, iz, hI0, hI1, hI2, hI3, hI4⟩ := Tryz.infoItem
  have hle := hr.le
  have hmx : cap ≤ 9223372036854775807 := by have := hr.mx; unfold maxLen at this; omega
  have hlen := hr.len
  obtain ⟨A, hA, hnews⟩ : ∃ A : Addr, (if cap = i + 1 then some (⟨g, 0, none⟩ : Addr) else some ⟨g, (i + 1) * 4, none⟩) = some A ∧ Hid (∀ j u, (xs.drop ((i + 1) * 4))[j]? = some u → w.drew.cell? (A.add j) = some u) := by
    by_cases hq : cap = i + 1
    · refine ⟨⟨g, 0, none⟩, by simp [hq], fun j u hu => ?_⟩
      have h0 : (xs.drop ((i + 1) * 4)).length = 0 := by rw [List.length_drop, hlen]; omega
      rw [List.length_eq_zero_iff.1 h0] at hu
      simp at hu
    · refine ⟨⟨g, (i + 1) * 4, none⟩, by simp [hq], fun j u hu => ?_⟩
      rw [List.getElem?_drop] at hu
      rw [Addr.add_lit]
      exact hr.cell hu
  have hml : (xs.drop ((i + 1) * 4)).length = (n - (i + 1)) * 4 := by rw [List.length_drop, hlen]; omega
  have s1 : Hid ((xs.drop ((i + 1) * 4)).length = (n - (i + 1)) * 4) := hml
  have s2 : Hid (∀ u ∈ xs.drop ((i + 1) * 4), u.oneCell' = true) := fun u hu => h1 u (List.mem_of_mem_drop hu)
  have s3 : Hid (∀ j, j < (xs.drop ((i + 1) * 4)).length → (w.drew.cell? ⟨g, 0 + i * 4 + j, none⟩).isSome = true ∧ w.drew.frozen? ⟨g, 0 + i * 4 + j, none⟩ = false) := by
    intro j hj
    rw [hml] at hj
    exact ⟨hr.some' (by omega), hr.frozen _⟩
  obtain ⟨W1, hW1⟩ : ∃ W1, W1 = w.drew.setCells g (i * 4) (xs.drop ((i + 1) * 4)) := ⟨_, rfl⟩
  have hrd : RowB w.drew B 25 4 g cap n cur xs := ⟨hr.hB, hr.blk, hr.le, hr.mx, hr.sz, hr.is, hr.len⟩
  have hcl : cur.toList.length = cap * 4 := by simp [hr.sz]
  obtain ⟨cur1, hr1, hcur1⟩ := hrd.set (i * 4) (xs.drop ((i + 1) * 4)) (by rw [hml]; omega) (m := n - 1) (by omega) (ys := xs.take (i * 4) ++ xs.drop ((i + 1) * 4)) (by
      rw [List.take_append_of_le_length (by rw [List.length_append, List.length_take, hml, hcl]; omega), List.take_of_length_le (by rw [List.length_append, List.length_take, hml, hcl]; omega)]
      congr 1
      rw [← hr.is, List.take_take, Nat.min_eq_left (by omega)]) (by rw [List.length_append, List.length_take, hml, hlen]; omega)
  rw [← hW1] at hr1
  obtain ⟨zs, hzl, hclr⟩ := run_clear_k (P := Tryz.prog) W1 23 25 0 (.agg #[.string ⟨#[]⟩, .string ⟨#[]⟩, .slice none 0 0, .slice none 0 0]) 4 Tryz.underlying23 Tryz.zeroValue25 rfl (by intro i hi; match i, hi with | 0, _ => rfl | 1, _ => rfl | 2, _ => rfl | 3, _ => rfl) g ((i + (n - (i + 1))) * 4) (n - (i + (n - (i + 1)))) (cap - (i + (n - (i + 1)))) (by omega) (fun j hj => hr1.some' (by omega)) (fun j hj => hr1.frozen _)
  obtain ⟨cur2, hr2, _⟩ := hr1.set ((i + (n - (i + 1))) * 4) zs (by rw [hzl]; omega) (m := n - 1) (by omega) (ys := xs.take (i * 4) ++ xs.drop ((i + 1) * 4)) (by
      have e : (i + (n - (i + 1))) * 4 = (n - 1) * 4 := by omega
      rw [e, List.append_assoc, List.take_append_of_le_length (by rw [List.length_take]; simp [hr1.sz]; omega), List.take_of_length_le (by rw [List.length_take]; omega)]
      exact hr1.is) (by rw [List.length_append, List.length_take, hml, hlen]; omega)
  have HR2 := hidLL hr2
  have HG : Hid (w.grownBy (W1.setCells g ((i + (n - (i + 1))) * 4) zs) (some g)) := by
    rw [hW1]
    exact grown_set (grown_set (grown_drew (grown_refl w _)) _ _) _ _
  have hic : i ≤ cap := by omega
  have hic1 : i + 1 ≤ cap := by omega
  have hwr : IntKind.i64.wrap ((i : Int) + 1) = (i : Int) + 1 := by rw [IntKind.wrap_i64]; omega
  have hp0 : (0 : Int) ≤ (i : Int) + 1 := by omega
  have hp1 : (i : Int) + 1 ≤ (n : Int) := by omega
  have hp2 : ((i : Int) + 1).toNat = i + 1 := by omega
  have hp3 : (i : Int) ≤ (i : Int) + 1 := by omega
  have hp4 : ((i : Int) == (i : Int) + 1) = false := by rw [beq_eq_false_iff_ne]; omega
  have hp5 : ¬ ((i : Int) = (i : Int) + 1) := by omega
  have hp6 : (n : Int) ≤ (cap : Int) := by omega
  have hm1 : i + (n - (i + 1)) ≤ n := by omega
  have hm2 : ¬ (cap = i + (n - (i + 1))) := by omega
  have hm4 : ((i : Int) + ((n - (i + 1) : Nat) : Int)) ≤ (n : Int) := by omega
  have HN1 : Hid (i + (n - (i + 1)) = n - 1) := by show _ = _; omega
  clear h hr hrd hr1 hr2 hcur1 hcl hzl hml hlen
  go_enter Tryz.func79, Tryz.ntmps79
  go_wp2_with fail
  go_region_law (refine step_append_room rfl (.tmp 22) (.tmp 25) 23 rfl 25 i0 4 Tryz.underlying23 hI0 hI2 g 0 i cap (by simp [Act.eval, Act.put]) A (n - (i + 1)) (cap - (i + 1)) (xs.drop ((i + 1) * 4)) (by simp [Act.eval, Act.put]) s1.out hnews.out s2.out (by omega) s3.out ?_)
  rw [← hW1]
  have HCl := hidLL hclr
  have HW := hidLL hW1
  clear hclr hW1
  go_wp2_with (refine wpList_clear_r _ rfl (.tmp 31) 23 rfl _ rfl HCl.out ?_)
  go_ret
  refine ⟨⟨_, rfl, rfl, ?_⟩, HG.out⟩
  have h9 := HR2.out.row
  rw [← HN1.out] at h9 ⊢
  exact h9

set_option maxHeartbeats 4000000 in
set_option maxRecDepth 100000 in
/-- slices.Delete(s, i, i + 1) on a row of the call's own. -/
theorem delS_a {w : World} {B n i : Nat} {v : Value} {xs : List Value} (h : w.ownsRow B 9 1 v n xs) (h1 : ∀ u ∈ xs, u.oneCell' = true) (hi : i < n) (hn : n ≤ 1000000) :
    Calls Tryz.prog 113 #[v, .int .i64 i, .int .i64 ((i : Int) + 1)] w fun e w' => (∃ v', e = .returned v' ∧ v'.ownBlock = v.ownBlock ∧ w'.ownsRow B 9 1 v' (n - 1) (xs.take (i) ++ xs.drop (i + 1))) ∧ w.grownBy w' v.ownBlock := by
  obtain ⟨g, cap, cur, rfl, hr⟩ := row_b h (by omega)
  obtain ⟨i0, iz, hI0, hI1, hI2, hI3, hI4⟩ := Tryz.infoStr
  have hle := hr.le
  have hmx : cap ≤ 9223372036854775807 := by have := hr.mx; unfold maxLen at this; omega
  have hlen := hr.len
  obtain ⟨A, hA, hnews⟩ : ∃ A : Addr, (if cap = i + 1 then some (⟨g, 0, none⟩ : Addr) else some ⟨g, i + 1, none⟩) = some A ∧ Hid (∀ j u, (xs.drop (i + 1))[j]? = some u → w.drew.cell? (A.add j) = some u) := by
    by_cases hq : cap = i + 1
    · refine ⟨⟨g, 0, none⟩, by simp [hq], fun j u hu => ?_⟩
      have h0 : (xs.drop (i + 1)).length = 0 := by rw [List.length_drop, hlen]; omega
      rw [List.length_eq_zero_iff.1 h0] at hu
      simp at hu
    · refine ⟨⟨g, i + 1, none⟩, by simp [hq], fun j u hu => ?_⟩
      rw [List.getElem?_drop] at hu
      rw [Addr.add_lit]
      exact hr.cell hu
  have hml : (xs.drop (i + 1)).length = (n - (i + 1)) * 1 := by rw [List.length_drop, hlen]; omega
  have s1 : Hid ((xs.drop (i + 1)).length = (n - (i + 1)) * 1) := hml
  have s2 : Hid (∀ u ∈ xs.drop (i + 1), u.oneCell' = true) := fun u hu => h1 u (List.mem_of_mem_drop hu)
  have s3 : Hid (∀ j, j < (xs.drop (i + 1)).length → (w.drew.cell? ⟨g, 0 + i * 1 + j, none⟩).isSome = true ∧ w.drew.frozen? ⟨g, 0 + i * 1 + j, none⟩ = false) := by
    intro j hj
    rw [hml] at hj
    exact ⟨hr.some' (by omega), hr.frozen _⟩
  obtain ⟨W1, hW1⟩ : ∃ W1, W1 = w.drew.setCells g (i) (xs.drop (i + 1)) := ⟨_, rfl⟩
  have hrd : RowB w.drew B 9 1 g cap n cur xs := ⟨hr.hB, hr.blk, hr.le, hr.mx, hr.sz, hr.is, hr.len⟩
  have hcl : cur.toList.length = cap * 1 := by simp [hr.sz]
  obtain ⟨cur1, hr1, hcur1⟩ := hrd.set (i) (xs.drop (i + 1)) (by rw [hml]; omega) (m := n - 1) (by omega) (ys := xs.take (i) ++ xs.drop (i + 1)) (by
      rw [List.take_append_of_le_length (by rw [List.length_append, List.length_take, hml, hcl]; omega), List.take_of_length_le (by rw [List.length_append, List.length_take, hml, hcl]; omega)]
      congr 1
      rw [← hr.is, List.take_take, Nat.min_eq_left (by omega)]) (by rw [List.length_append, List.length_take, hml, hlen]; omega)
  rw [← hW1] at hr1
  obtain ⟨zs, hzl, hclr⟩ := run_clear_k (P := Tryz.prog) W1 22 9 0 (.string ⟨#[]⟩) 1 Tryz.underlying22 Tryz.zeroValue9 rfl (by intro i hi; match i, hi with | 0, _ => rfl) g (i + (n - (i + 1))) (n - (i + (n - (i + 1)))) (cap - (i + (n - (i + 1)))) (by omega) (fun j hj => hr1.some' (by omega)) (fun j hj => hr1.frozen _)
  obtain ⟨cur2, hr2, _⟩ := hr1.set (i + (n - (i + 1))) zs (by rw [hzl]; omega) (m := n - 1) (by omega) (ys := xs.take (i) ++ xs.drop (i + 1)) (by
      have e : i + (n - (i + 1)) = (n - 1) * 1 := by omega
      rw [e, List.append_assoc, List.take_append_of_le_length (by rw [List.length_take]; simp [hr1.sz]; omega), List.take_of_length_le (by rw [List.length_take]; omega)]
      exact hr1.is) (by rw [List.length_append, List.length_take, hml, hlen]; omega)
  have HR2 := hidLL hr2
  have HG : Hid (w.grownBy (W1.setCells g (i + (n - (i + 1))) zs) (some g)) := by
    rw [hW1]
    exact grown_set (grown_set (grown_drew (grown_refl w _)) _ _) _ _
  have hic : i ≤ cap := by omega
  have hic1 : i + 1 ≤ cap := by omega
  have hwr : IntKind.i64.wrap ((i : Int) + 1) = (i : Int) + 1 := by rw [IntKind.wrap_i64]; omega
  have hp0 : (0 : Int) ≤ (i : Int) + 1 := by omega
  have hp1 : (i : Int) + 1 ≤ (n : Int) := by omega
  have hp2 : ((i : Int) + 1).toNat = i + 1 := by omega
  have hp3 : (i : Int) ≤ (i : Int) + 1 := by omega
  have hp4 : ((i : Int) == (i : Int) + 1) = false := by rw [beq_eq_false_iff_ne]; omega
  have hp5 : ¬ ((i : Int) = (i : Int) + 1) := by omega
  have hp6 : (n : Int) ≤ (cap : Int) := by omega
  have hm1 : i + (n - (i + 1)) ≤ n := by omega
  have hm2 : ¬ (cap = i + (n - (i + 1))) := by omega
  have hm4 : ((i : Int) + ((n - (i + 1) : Nat) : Int)) ≤ (n : Int) := by omega
  have HN1 : Hid (i + (n - (i + 1)) = n - 1) := by show _ = _; omega
  clear h hr hrd hr1 hr2 hcur1 hcl hzl hml hlen
  go_enter Tryz.func113, Tryz.ntmps113
  go_wp2_with fail
  go_region_law (refine step_append_room rfl (.tmp 22) (.tmp 25) 22 rfl 9 i0 1 Tryz.underlying22 hI0 hI2 g 0 i cap (by simp [Act.eval, Act.put]) A (n - (i + 1)) (cap - (i + 1)) (xs.drop (i + 1)) (by simp [Act.eval, Act.put]) s1.out hnews.out s2.out (by omega) s3.out ?_)
  rw [← hW1]
  have HCl := hidLL hclr
  have HW := hidLL hW1
  clear hclr hW1
  go_wp2_with (refine wpList_clear_r _ rfl (.tmp 31) 22 rfl _ rfl HCl.out ?_)
  go_ret
  refine ⟨⟨_, rfl, rfl, ?_⟩, HG.out⟩
  have h9 := HR2.out.row
  rw [← HN1.out] at h9 ⊢
  exact h9
end Go.Proofs.YtpbolcjcmkmalaaGreatDoor

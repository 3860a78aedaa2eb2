/-
  Operations one by one, of this program: fields, loads, tests.
-/
import Derived.Test.YtpbolcjcmkmalaaGreatDoorFo18
import Derived.Test.YtpbolcjcmkmalaaGreatDoorFo19
import Derived.OrdersHeld
import Derived.Test.YtpbolcjcmkmalaaGreatDoorFo08
import Derived.Laws.IdiomCopy
import Derived.Lib.Overlaps
import Derived.Lib.AppendZerosOnto
import Derived.Lib.SliceRun
import Derived.Deep.RegionLaw
import Derived.Deep.OwnRows
namespace Go.Proofs.YtpbolcjcmkmalaaGreatDoor
open Go.RowKit
section
variable {ρ : Operand → Value} {dst : Option Tmp} {ty : TypeId} {ps : String} {af : Array Go.Edge} {g : Option (Nat × Bool)} {w : World} {x y z : Operand}
set_option maxRecDepth 20000
theorem x_kids {b o : Nat} (h : ρ x = .pointer (some ⟨b, o, none⟩)) : (execOp ρ ⟨dst, .fieldAddr 25 x 3, ty, ps, af, g⟩).run Tryz.prog w = .ok (.value (.pointer (some ⟨b, o + 3, none⟩))) w := by
  simp only [execOp, h]
  go_simp
theorem x_label {b o : Nat} (h : ρ x = .pointer (some ⟨b, o, none⟩)) : (execOp ρ ⟨dst, .fieldAddr 25 x 0, ty, ps, af, g⟩).run Tryz.prog w = .ok (.value (.pointer (some ⟨b, o, none⟩))) w := by
  simp only [execOp, h]
  go_simp
theorem x_opAt {b : Nat} (h : ρ x = .pointer (some ⟨b, 0, none⟩)) : (execOp ρ ⟨dst, .fieldAddr 46 x 2, ty, ps, af, g⟩).run Tryz.prog w = .ok (.value (.pointer (some ⟨b, 2, none⟩))) w := by
  simp only [execOp, h]
  go_simp
theorem x_ldS {a : Addr} {s : ByteArray} (h : ρ x = .pointer (some a)) (hc : w.cell? a = some (.string s)) : (execOp ρ ⟨dst, .load 9 x, ty, ps, af, g⟩).run Tryz.prog w = .ok (.value (.string s)) w := by
  simp only [execOp, h]
  go_simp
theorem x_ldK {a : Addr} {p : Option Addr} {n c : Nat} (h : ρ x = .pointer (some a)) (hc : w.cell? a = some (.slice p n c)) : (execOp ρ ⟨dst, .load 23 x, ty, ps, af, g⟩).run Tryz.prog w = .ok (.value (.slice p n c)) w := by
  simp only [execOp, h]
  go_simp
theorem x_lss {n : Int} {r : Bool} (h : ρ x = .int .i64 n) (hz : ρ y = .int .i64 0) (hr : decide (n < 0) = r) : (execOp ρ ⟨dst, .binOp .lss 3 x y 3, ty, ps, af, g⟩).run Tryz.prog w = .ok (.value (.bool r)) w := by
  subst hr
  simp only [execOp, h, hz]
  go_simp
theorem x_geq {n : Int} {r : Bool} (h : ρ x = .int .i64 n) (hz : ρ y = .int .i64 0) (hr : decide (0 ≤ n) = r) : (execOp ρ ⟨dst, .binOp .geq 3 x y 3, ty, ps, af, g⟩).run Tryz.prog w = .ok (.value (.bool r)) w := by
  subst hr
  simp only [execOp, h, hz]
  go_simp
theorem x_eqS {s t : ByteArray} {r : Bool} (h : ρ x = .string s) (h2 : ρ y = .string t) (hr : (s.toList == t.toList) = r) : (execOp ρ ⟨dst, .binOp .eql 9 x y 9, ty, ps, af, g⟩).run Tryz.prog w = .ok (.value (.bool r)) w := by
  subst hr
  simp only [execOp, h, h2]
  go_simp
theorem x_bin {op : BinOp} {t u : TypeId} {a b v : Value} (h : ρ x = a) (h2 : ρ y = b) (hg : (eqGuard op t x y a b).run Tryz.prog w = .ok () w) (hr : (binOp op t a b).run Tryz.prog w = .ok v w) : (execOp ρ ⟨dst, .binOp op t x y u, ty, ps, af, g⟩).run Tryz.prog w = .ok (.value v) w := by
  simp only [execOp, h, h2]
  simp only [Sem.run_bind, hg]
  show Result.andThen ((binOp op t a b).run Tryz.prog w) _ = _
  rw [hr]
  rfl
end
end Go.Proofs.YtpbolcjcmkmalaaGreatDoor
namespace Go.Proofs.YtpbolcjcmkmalaaGreatDoor
open Go.RowKit
set_option linter.unusedVariables false

def mvA0 : Oper := { dst := some 45, op := Op.move (Operand.tmp 9), type := 51, pos := "amend.go:104", after := #[], guard := none }
def mvA1 : Oper := { dst := some 46, op := Op.nilCheck (Operand.tmp 45), type := 0, pos := "amend.go:104", after := #[{ on := 0, ground := Ground.data }], guard := none }
def mvA2 : Oper := { dst := some 47, op := Op.fieldAddr 25 (Operand.tmp 46) 3, type := 0, pos := "amend.go:104", after := #[{ on := 1, ground := Ground.data }], guard := none }
def mvA3 : Oper := { dst := some 48, op := Op.load 23 (Operand.tmp 47), type := 23, pos := "amend.go:104", after := #[{ on := 2, ground := Ground.data }], guard := none }
def mvA4 : Oper := { dst := some 49, op := Op.fieldAddr 46 (Operand.tmp 3) 2, type := 0, pos := "amend.go:104", after := #[], guard := none }
def mvA5 : Oper := { dst := some 50, op := Op.load 9 (Operand.tmp 49), type := 9, pos := "amend.go:104", after := #[{ on := 4, ground := Ground.data }], guard := none }
def mvA6 : Oper := { dst := some 51, op := Op.call { callee := Callee.value (Operand.func 76), args := #[Operand.tmp 48, Operand.tmp 50], argTypes := #[23, 9] }, type := 3, pos := "amend.go:104", after := #[{ on := 3, ground := Ground.data }, { on := 5, ground := Ground.data }], guard := none }
def mvA7 : Oper := { dst := some 52, op := Op.binOp BinOp.lss 3 (Operand.tmp 51) (Operand.const (Value.int IntKind.i64 0)) 3, type := 4, pos := "amend.go:104", after := #[{ on := 6, ground := Ground.data }], guard := none }
def mvA8 : Oper := { dst := some 53, op := Op.move (Operand.tmp 52), type := 4, pos := "amend.go:104", after := #[{ on := 7, ground := Ground.data }, { on := 6, ground := Ground.chain }], guard := none }
def mvA9 : Oper := { dst := some 54, op := Op.move (Operand.tmp 9), type := 51, pos := "amend.go:104", after := #[{ on := 8, ground := Ground.guard }], guard := some (8, false) }
def mvA10 : Oper := { dst := some 55, op := Op.move (Operand.tmp 7), type := 51, pos := "amend.go:104", after := #[{ on := 8, ground := Ground.guard }], guard := some (8, false) }
def mvA11 : Oper := { dst := some 56, op := Op.binOp BinOp.eql 51 (Operand.tmp 54) (Operand.tmp 55) 51, type := 4, pos := "amend.go:104", after := #[{ on := 9, ground := Ground.data }, { on := 10, ground := Ground.data }, { on := 8, ground := Ground.guard }], guard := some (8, false) }
def mvA12 : Oper := { dst := some 57, op := Op.move (Operand.tmp 56), type := 4, pos := "amend.go:104", after := #[{ on := 11, ground := Ground.data }, { on := 8, ground := Ground.chain }, { on := 8, ground := Ground.guard }], guard := some (8, false) }
def mvA13 : Oper := { dst := some 58, op := Op.fieldAddr 46 (Operand.tmp 3) 2, type := 0, pos := "amend.go:104", after := #[{ on := 12, ground := Ground.guard }], guard := some (12, true) }
def mvA14 : Oper := { dst := some 59, op := Op.load 9 (Operand.tmp 58), type := 9, pos := "amend.go:104", after := #[{ on := 13, ground := Ground.data }, { on := 12, ground := Ground.guard }], guard := some (12, true) }
def mvA15 : Oper := { dst := some 60, op := Op.fieldAddr 25 (Operand.tmp 10) 0, type := 0, pos := "amend.go:104", after := #[{ on := 12, ground := Ground.guard }], guard := some (12, true) }
def mvA16 : Oper := { dst := some 61, op := Op.load 9 (Operand.tmp 60), type := 9, pos := "amend.go:104", after := #[{ on := 15, ground := Ground.data }, { on := 12, ground := Ground.guard }], guard := some (12, true) }
def mvA17 : Oper := { dst := some 62, op := Op.binOp BinOp.eql 9 (Operand.tmp 59) (Operand.tmp 61) 9, type := 4, pos := "amend.go:104", after := #[{ on := 14, ground := Ground.data }, { on := 16, ground := Ground.data }, { on := 12, ground := Ground.guard }], guard := some (12, true) }
def mvA18 : Oper := { dst := some 63, op := Op.pick (Operand.tmp 57) (Operand.tmp 62) (Operand.const (Value.bool false)), type := 4, pos := "amend.go:104", after := #[{ on := 12, ground := Ground.data }, { on := 17, ground := Ground.data }, { on := 8, ground := Ground.guard }], guard := some (8, false) }
def mvA19 : Oper := { dst := some 64, op := Op.pick (Operand.tmp 53) (Operand.const (Value.bool true)) (Operand.tmp 63), type := 4, pos := "amend.go:104", after := #[{ on := 8, ground := Ground.data }, { on := 18, ground := Ground.data }], guard := none }
def mvAL : List Oper := [mvA0, mvA1, mvA2, mvA3, mvA4, mvA5, mvA6, mvA7, mvA8, mvA9, mvA10, mvA11, mvA12, mvA13, mvA14, mvA15, mvA16, mvA17, mvA18, mvA19]
theorem twenty {mid : List Value} (h : mid.length = 20) : ∃ u0 u1 u2 u3 u4 u5 u6 u7 u8 u9 u10 u11 u12 u13 u14 u15 u16 u17 u18 u19 : Value, mid = [u0, u1, u2, u3, u4, u5, u6, u7, u8, u9, u10, u11, u12, u13, u14, u15, u16, u17, u18, u19] := by
  match mid, h with
  | [u0, u1, u2, u3, u4, u5, u6, u7, u8, u9, u10, u11, u12, u13, u14, u15, u16, u17, u18, u19], _ => exact ⟨_, _, _, _, _, _, _, _, _, _, _, _, _, _, _, _, _, _, _, _, rfl⟩
theorem x_behind {ρ : Operand → Value} {dst : Option Tmp} {ty ta tb : TypeId} {ps : String} {af : Array Go.Edge} {g : Option (Nat × Bool)} {w : World} {x y : Operand} {a b : Value} (h : ρ x = a) (h2 : ρ y = b) (hf : ρ (.func 76) = .func (.func 76) #[] #[]) : (execOp ρ ⟨dst, .call { callee := .value (.func 76), args := #[x, y], argTypes := #[ta, tb] }, ty, ps, af, g⟩).run Tryz.prog w = .ok (.enter 76 #[a, b]) w := by
  simp [execOp, go_sem, h, h2, hf]
theorem x_labld {ρ : Operand → Value} {dst : Option Tmp} {ty ta tb : TypeId} {ps : String} {af : Array Go.Edge} {g : Option (Nat × Bool)} {w : World} {x y : Operand} {a b : Value} (h : ρ x = a) (h2 : ρ y = b) (hf : ρ (.func 69) = .func (.func 69) #[] #[]) : (execOp ρ ⟨dst, .call { callee := .value (.func 69), args := #[x, y], argTypes := #[ta, tb] }, ty, ps, af, g⟩).run Tryz.prog w = .ok (.enter 69 #[a, b]) w := by
  simp [execOp, go_sem, h, h2, hf]
set_option maxRecDepth 20000 in
theorem mvA_neg {C : World → Prop} {Q : Act → Prop} {pre mid suf : List Value} {d : List Deferred} (hk : pre.length = 45) (hm : mid.length = 20) {b1 o1 b2 o2 g0 g1 : Nat} {ka2 : Option Addr} {yn kc2 : Nat} {at' lab : ByteArray} {n1 : Int} {same : Bool}
    (p9 : pre[9]? = some (.pointer (some ⟨b2, o2, none⟩))) (p7 : pre[7]? = some (.pointer (some ⟨b1, o1, none⟩))) (p3 : pre[3]? = some (.pointer (some ⟨g0, 0, none⟩))) (p10 : pre[10]? = some (.pointer (some ⟨g1, 0, none⟩)))
    (h3 : ∀ W, C W → W.cell? ⟨b2, o2 + 3, none⟩ = some (.slice ka2 yn kc2)) (hA : ∀ W, C W → W.cell? ⟨g0, 2, none⟩ = some (.string at')) (hL : ∀ W, C W → W.cell? ⟨g1, 0, none⟩ = some (.string lab))
    (hB : ∀ W, C W → Calls Tryz.prog 76 #[.slice ka2 yn kc2, .string at'] W fun e w' => e = .returned (.int .i64 n1) ∧ C w') (hn : n1 < 0)
    (hQ : ∀ m : List Value, m.length = 20 → m[19]? = some (.bool true) → Q (MA pre m suf d)) : wpQuiet Tryz.prog mvAL.toArray C Q mvAL (MA pre mid suf d) := by
  obtain ⟨u0, u1, u2, u3, u4, u5, u6, u7, u8, u9, u10, u11, u12, u13, u14, u15, u16, u17, u18, u19, rfl⟩ := twenty hm
  refine mq_val (.pointer (some ⟨b2, o2, none⟩)) hk rfl (by decide) (by simp) (want0 rfl) (fun W hW => x_move (MA.lo p9)) ?_
  show wpQuiet _ _ C Q _ (MA pre [.pointer (some ⟨b2, o2, none⟩), u1, u2, u3, u4, u5, u6, u7, u8, u9, u10, u11, u12, u13, u14, u15, u16, u17, u18, u19] suf d)
  refine mq_val (.pointer (some ⟨b2, o2, none⟩)) hk rfl (by decide) (by simp) (want0 rfl) (fun W hW => x_nil (MA.hi hk (by decide) rfl)) ?_
  show wpQuiet _ _ C Q _ (MA pre [.pointer (some ⟨b2, o2, none⟩), .pointer (some ⟨b2, o2, none⟩), u2, u3, u4, u5, u6, u7, u8, u9, u10, u11, u12, u13, u14, u15, u16, u17, u18, u19] suf d)
  refine mq_val (.pointer (some ⟨b2, o2 + 3, none⟩)) hk rfl (by decide) (by simp) (want0 rfl) (fun W hW => x_kids (MA.hi hk (by decide) rfl)) ?_
  show wpQuiet _ _ C Q _ (MA pre [.pointer (some ⟨b2, o2, none⟩), .pointer (some ⟨b2, o2, none⟩), .pointer (some ⟨b2, o2 + 3, none⟩), u3, u4, u5, u6, u7, u8, u9, u10, u11, u12, u13, u14, u15, u16, u17, u18, u19] suf d)
  refine mq_val (.slice ka2 yn kc2) hk rfl (by decide) (by simp) (want0 rfl) (fun W hW => x_ldK (MA.hi hk (by decide) rfl) (h3 W hW)) ?_
  show wpQuiet _ _ C Q _ (MA pre [.pointer (some ⟨b2, o2, none⟩), .pointer (some ⟨b2, o2, none⟩), .pointer (some ⟨b2, o2 + 3, none⟩), .slice ka2 yn kc2, u4, u5, u6, u7, u8, u9, u10, u11, u12, u13, u14, u15, u16, u17, u18, u19] suf d)
  refine mq_val (.pointer (some ⟨g0, 2, none⟩)) hk rfl (by decide) (by simp) (want0 rfl) (fun W hW => x_opAt (MA.lo p3)) ?_
  show wpQuiet _ _ C Q _ (MA pre [.pointer (some ⟨b2, o2, none⟩), .pointer (some ⟨b2, o2, none⟩), .pointer (some ⟨b2, o2 + 3, none⟩), .slice ka2 yn kc2, .pointer (some ⟨g0, 2, none⟩), u5, u6, u7, u8, u9, u10, u11, u12, u13, u14, u15, u16, u17, u18, u19] suf d)
  refine mq_val (.string at') hk rfl (by decide) (by simp) (want0 rfl) (fun W hW => x_ldS (MA.hi hk (by decide) rfl) (hA W hW)) ?_
  show wpQuiet _ _ C Q _ (MA pre [.pointer (some ⟨b2, o2, none⟩), .pointer (some ⟨b2, o2, none⟩), .pointer (some ⟨b2, o2 + 3, none⟩), .slice ka2 yn kc2, .pointer (some ⟨g0, 2, none⟩), .string at', u6, u7, u8, u9, u10, u11, u12, u13, u14, u15, u16, u17, u18, u19] suf d)
  refine mq_call 76 #[.slice ka2 yn kc2, .string at'] (.int .i64 n1) hk rfl (by decide) (by simp) (want0 rfl) (fun W hW => x_behind (MA.hi hk (by decide) rfl) (MA.hi hk (by decide) rfl) rfl) (fun W hW => hB W hW) ?_
  show wpQuiet _ _ C Q _ (MA pre [.pointer (some ⟨b2, o2, none⟩), .pointer (some ⟨b2, o2, none⟩), .pointer (some ⟨b2, o2 + 3, none⟩), .slice ka2 yn kc2, .pointer (some ⟨g0, 2, none⟩), .string at', .int .i64 n1, u7, u8, u9, u10, u11, u12, u13, u14, u15, u16, u17, u18, u19] suf d)
  refine mq_val (.bool true) hk rfl (by decide) (by simp) (want0 rfl) (fun W hW => x_lss (MA.hi hk (by decide) rfl) rfl (by simp [hn])) ?_
  show wpQuiet _ _ C Q _ (MA pre [.pointer (some ⟨b2, o2, none⟩), .pointer (some ⟨b2, o2, none⟩), .pointer (some ⟨b2, o2 + 3, none⟩), .slice ka2 yn kc2, .pointer (some ⟨g0, 2, none⟩), .string at', .int .i64 n1, .bool true, u8, u9, u10, u11, u12, u13, u14, u15, u16, u17, u18, u19] suf d)
  refine mq_val (.bool true) hk rfl (by decide) (by simp) (want0 rfl) (fun W hW => x_move (MA.hi hk (by decide) rfl)) ?_
  show wpQuiet _ _ C Q _ (MA pre [.pointer (some ⟨b2, o2, none⟩), .pointer (some ⟨b2, o2, none⟩), .pointer (some ⟨b2, o2 + 3, none⟩), .slice ka2 yn kc2, .pointer (some ⟨g0, 2, none⟩), .string at', .int .i64 n1, .bool true, .bool true, u9, u10, u11, u12, u13, u14, u15, u16, u17, u18, u19] suf d)
  refine mq_off hk rfl (by decide) (by simp) (wantG (n := 8) (j := 53) rfl rfl hk (by decide) rfl (by decide)) ?_
  show wpQuiet _ _ C Q _ (MA pre [.pointer (some ⟨b2, o2, none⟩), .pointer (some ⟨b2, o2, none⟩), .pointer (some ⟨b2, o2 + 3, none⟩), .slice ka2 yn kc2, .pointer (some ⟨g0, 2, none⟩), .string at', .int .i64 n1, .bool true, .bool true, undef, u10, u11, u12, u13, u14, u15, u16, u17, u18, u19] suf d)
  refine mq_off hk rfl (by decide) (by simp) (wantG (n := 8) (j := 53) rfl rfl hk (by decide) rfl (by decide)) ?_
  show wpQuiet _ _ C Q _ (MA pre [.pointer (some ⟨b2, o2, none⟩), .pointer (some ⟨b2, o2, none⟩), .pointer (some ⟨b2, o2 + 3, none⟩), .slice ka2 yn kc2, .pointer (some ⟨g0, 2, none⟩), .string at', .int .i64 n1, .bool true, .bool true, undef, undef, u11, u12, u13, u14, u15, u16, u17, u18, u19] suf d)
  refine mq_off hk rfl (by decide) (by simp) (wantG (n := 8) (j := 53) rfl rfl hk (by decide) rfl (by decide)) ?_
  show wpQuiet _ _ C Q _ (MA pre [.pointer (some ⟨b2, o2, none⟩), .pointer (some ⟨b2, o2, none⟩), .pointer (some ⟨b2, o2 + 3, none⟩), .slice ka2 yn kc2, .pointer (some ⟨g0, 2, none⟩), .string at', .int .i64 n1, .bool true, .bool true, undef, undef, undef, u12, u13, u14, u15, u16, u17, u18, u19] suf d)
  refine mq_off hk rfl (by decide) (by simp) (wantG (n := 8) (j := 53) rfl rfl hk (by decide) rfl (by decide)) ?_
  show wpQuiet _ _ C Q _ (MA pre [.pointer (some ⟨b2, o2, none⟩), .pointer (some ⟨b2, o2, none⟩), .pointer (some ⟨b2, o2 + 3, none⟩), .slice ka2 yn kc2, .pointer (some ⟨g0, 2, none⟩), .string at', .int .i64 n1, .bool true, .bool true, undef, undef, undef, undef, u13, u14, u15, u16, u17, u18, u19] suf d)
  refine mq_off hk rfl (by decide) (by simp) (wantU (n := 12) (j := 57) rfl rfl hk (by decide) rfl) ?_
  show wpQuiet _ _ C Q _ (MA pre [.pointer (some ⟨b2, o2, none⟩), .pointer (some ⟨b2, o2, none⟩), .pointer (some ⟨b2, o2 + 3, none⟩), .slice ka2 yn kc2, .pointer (some ⟨g0, 2, none⟩), .string at', .int .i64 n1, .bool true, .bool true, undef, undef, undef, undef, undef, u14, u15, u16, u17, u18, u19] suf d)
  refine mq_off hk rfl (by decide) (by simp) (wantU (n := 12) (j := 57) rfl rfl hk (by decide) rfl) ?_
  show wpQuiet _ _ C Q _ (MA pre [.pointer (some ⟨b2, o2, none⟩), .pointer (some ⟨b2, o2, none⟩), .pointer (some ⟨b2, o2 + 3, none⟩), .slice ka2 yn kc2, .pointer (some ⟨g0, 2, none⟩), .string at', .int .i64 n1, .bool true, .bool true, undef, undef, undef, undef, undef, undef, u15, u16, u17, u18, u19] suf d)
  refine mq_off hk rfl (by decide) (by simp) (wantU (n := 12) (j := 57) rfl rfl hk (by decide) rfl) ?_
  show wpQuiet _ _ C Q _ (MA pre [.pointer (some ⟨b2, o2, none⟩), .pointer (some ⟨b2, o2, none⟩), .pointer (some ⟨b2, o2 + 3, none⟩), .slice ka2 yn kc2, .pointer (some ⟨g0, 2, none⟩), .string at', .int .i64 n1, .bool true, .bool true, undef, undef, undef, undef, undef, undef, undef, u16, u17, u18, u19] suf d)
  refine mq_off hk rfl (by decide) (by simp) (wantU (n := 12) (j := 57) rfl rfl hk (by decide) rfl) ?_
  show wpQuiet _ _ C Q _ (MA pre [.pointer (some ⟨b2, o2, none⟩), .pointer (some ⟨b2, o2, none⟩), .pointer (some ⟨b2, o2 + 3, none⟩), .slice ka2 yn kc2, .pointer (some ⟨g0, 2, none⟩), .string at', .int .i64 n1, .bool true, .bool true, undef, undef, undef, undef, undef, undef, undef, undef, u17, u18, u19] suf d)
  refine mq_off hk rfl (by decide) (by simp) (wantU (n := 12) (j := 57) rfl rfl hk (by decide) rfl) ?_
  show wpQuiet _ _ C Q _ (MA pre [.pointer (some ⟨b2, o2, none⟩), .pointer (some ⟨b2, o2, none⟩), .pointer (some ⟨b2, o2 + 3, none⟩), .slice ka2 yn kc2, .pointer (some ⟨g0, 2, none⟩), .string at', .int .i64 n1, .bool true, .bool true, undef, undef, undef, undef, undef, undef, undef, undef, undef, u18, u19] suf d)
  refine mq_off hk rfl (by decide) (by simp) (wantG (n := 8) (j := 53) rfl rfl hk (by decide) rfl (by decide)) ?_
  show wpQuiet _ _ C Q _ (MA pre [.pointer (some ⟨b2, o2, none⟩), .pointer (some ⟨b2, o2, none⟩), .pointer (some ⟨b2, o2 + 3, none⟩), .slice ka2 yn kc2, .pointer (some ⟨g0, 2, none⟩), .string at', .int .i64 n1, .bool true, .bool true, undef, undef, undef, undef, undef, undef, undef, undef, undef, undef, u19] suf d)
  refine mq_val (.bool true) hk rfl (by decide) (by simp) (want0 rfl) (fun W hW => x_pick (c := true) (u := .bool true) (v := undef) (MA.hi hk (by decide) rfl) rfl (MA.hi hk (by decide) rfl) rfl) ?_
  show wpQuiet _ _ C Q _ (MA pre [.pointer (some ⟨b2, o2, none⟩), .pointer (some ⟨b2, o2, none⟩), .pointer (some ⟨b2, o2 + 3, none⟩), .slice ka2 yn kc2, .pointer (some ⟨g0, 2, none⟩), .string at', .int .i64 n1, .bool true, .bool true, undef, undef, undef, undef, undef, undef, undef, undef, undef, undef, .bool true] suf d)
  exact wpQuiet_nil (hQ _ rfl rfl)
set_option maxRecDepth 20000 in
theorem mvA_other {C : World → Prop} {Q : Act → Prop} {pre mid suf : List Value} {d : List Deferred} (hk : pre.length = 45) (hm : mid.length = 20) {b1 o1 b2 o2 g0 g1 : Nat} {ka2 : Option Addr} {yn kc2 : Nat} {at' lab : ByteArray} {n1 : Int} {same : Bool}
    (p9 : pre[9]? = some (.pointer (some ⟨b2, o2, none⟩))) (p7 : pre[7]? = some (.pointer (some ⟨b1, o1, none⟩))) (p3 : pre[3]? = some (.pointer (some ⟨g0, 0, none⟩))) (p10 : pre[10]? = some (.pointer (some ⟨g1, 0, none⟩)))
    (h3 : ∀ W, C W → W.cell? ⟨b2, o2 + 3, none⟩ = some (.slice ka2 yn kc2)) (hA : ∀ W, C W → W.cell? ⟨g0, 2, none⟩ = some (.string at')) (hL : ∀ W, C W → W.cell? ⟨g1, 0, none⟩ = some (.string lab))
    (hB : ∀ W, C W → Calls Tryz.prog 76 #[.slice ka2 yn kc2, .string at'] W fun e w' => e = .returned (.int .i64 n1) ∧ C w') (hn : ¬ n1 < 0) (hE : ∀ W, C W → (binOp .eql 51 (.pointer (some ⟨b2, o2, none⟩)) (.pointer (some ⟨b1, o1, none⟩))).run Tryz.prog W = .ok (.bool false) W)
    (hQ : ∀ m : List Value, m.length = 20 → m[19]? = some (.bool false) → Q (MA pre m suf d)) : wpQuiet Tryz.prog mvAL.toArray C Q mvAL (MA pre mid suf d) := by
  obtain ⟨u0, u1, u2, u3, u4, u5, u6, u7, u8, u9, u10, u11, u12, u13, u14, u15, u16, u17, u18, u19, rfl⟩ := twenty hm
  refine mq_val (.pointer (some ⟨b2, o2, none⟩)) hk rfl (by decide) (by simp) (want0 rfl) (fun W hW => x_move (MA.lo p9)) ?_
  show wpQuiet _ _ C Q _ (MA pre [.pointer (some ⟨b2, o2, none⟩), u1, u2, u3, u4, u5, u6, u7, u8, u9, u10, u11, u12, u13, u14, u15, u16, u17, u18, u19] suf d)
  refine mq_val (.pointer (some ⟨b2, o2, none⟩)) hk rfl (by decide) (by simp) (want0 rfl) (fun W hW => x_nil (MA.hi hk (by decide) rfl)) ?_
  show wpQuiet _ _ C Q _ (MA pre [.pointer (some ⟨b2, o2, none⟩), .pointer (some ⟨b2, o2, none⟩), u2, u3, u4, u5, u6, u7, u8, u9, u10, u11, u12, u13, u14, u15, u16, u17, u18, u19] suf d)
  refine mq_val (.pointer (some ⟨b2, o2 + 3, none⟩)) hk rfl (by decide) (by simp) (want0 rfl) (fun W hW => x_kids (MA.hi hk (by decide) rfl)) ?_
  show wpQuiet _ _ C Q _ (MA pre [.pointer (some ⟨b2, o2, none⟩), .pointer (some ⟨b2, o2, none⟩), .pointer (some ⟨b2, o2 + 3, none⟩), u3, u4, u5, u6, u7, u8, u9, u10, u11, u12, u13, u14, u15, u16, u17, u18, u19] suf d)
  refine mq_val (.slice ka2 yn kc2) hk rfl (by decide) (by simp) (want0 rfl) (fun W hW => x_ldK (MA.hi hk (by decide) rfl) (h3 W hW)) ?_
  show wpQuiet _ _ C Q _ (MA pre [.pointer (some ⟨b2, o2, none⟩), .pointer (some ⟨b2, o2, none⟩), .pointer (some ⟨b2, o2 + 3, none⟩), .slice ka2 yn kc2, u4, u5, u6, u7, u8, u9, u10, u11, u12, u13, u14, u15, u16, u17, u18, u19] suf d)
  refine mq_val (.pointer (some ⟨g0, 2, none⟩)) hk rfl (by decide) (by simp) (want0 rfl) (fun W hW => x_opAt (MA.lo p3)) ?_
  show wpQuiet _ _ C Q _ (MA pre [.pointer (some ⟨b2, o2, none⟩), .pointer (some ⟨b2, o2, none⟩), .pointer (some ⟨b2, o2 + 3, none⟩), .slice ka2 yn kc2, .pointer (some ⟨g0, 2, none⟩), u5, u6, u7, u8, u9, u10, u11, u12, u13, u14, u15, u16, u17, u18, u19] suf d)
  refine mq_val (.string at') hk rfl (by decide) (by simp) (want0 rfl) (fun W hW => x_ldS (MA.hi hk (by decide) rfl) (hA W hW)) ?_
  show wpQuiet _ _ C Q _ (MA pre [.pointer (some ⟨b2, o2, none⟩), .pointer (some ⟨b2, o2, none⟩), .pointer (some ⟨b2, o2 + 3, none⟩), .slice ka2 yn kc2, .pointer (some ⟨g0, 2, none⟩), .string at', u6, u7, u8, u9, u10, u11, u12, u13, u14, u15, u16, u17, u18, u19] suf d)
  refine mq_call 76 #[.slice ka2 yn kc2, .string at'] (.int .i64 n1) hk rfl (by decide) (by simp) (want0 rfl) (fun W hW => x_behind (MA.hi hk (by decide) rfl) (MA.hi hk (by decide) rfl) rfl) (fun W hW => hB W hW) ?_
  show wpQuiet _ _ C Q _ (MA pre [.pointer (some ⟨b2, o2, none⟩), .pointer (some ⟨b2, o2, none⟩), .pointer (some ⟨b2, o2 + 3, none⟩), .slice ka2 yn kc2, .pointer (some ⟨g0, 2, none⟩), .string at', .int .i64 n1, u7, u8, u9, u10, u11, u12, u13, u14, u15, u16, u17, u18, u19] suf d)
  refine mq_val (.bool false) hk rfl (by decide) (by simp) (want0 rfl) (fun W hW => x_lss (MA.hi hk (by decide) rfl) rfl (by simp [hn])) ?_
  show wpQuiet _ _ C Q _ (MA pre [.pointer (some ⟨b2, o2, none⟩), .pointer (some ⟨b2, o2, none⟩), .pointer (some ⟨b2, o2 + 3, none⟩), .slice ka2 yn kc2, .pointer (some ⟨g0, 2, none⟩), .string at', .int .i64 n1, .bool false, u8, u9, u10, u11, u12, u13, u14, u15, u16, u17, u18, u19] suf d)
  refine mq_val (.bool false) hk rfl (by decide) (by simp) (want0 rfl) (fun W hW => x_move (MA.hi hk (by decide) rfl)) ?_
  show wpQuiet _ _ C Q _ (MA pre [.pointer (some ⟨b2, o2, none⟩), .pointer (some ⟨b2, o2, none⟩), .pointer (some ⟨b2, o2 + 3, none⟩), .slice ka2 yn kc2, .pointer (some ⟨g0, 2, none⟩), .string at', .int .i64 n1, .bool false, .bool false, u9, u10, u11, u12, u13, u14, u15, u16, u17, u18, u19] suf d)
  refine mq_val (.pointer (some ⟨b2, o2, none⟩)) hk rfl (by decide) (by simp) (wantG (n := 8) (j := 53) rfl rfl hk (by decide) rfl (by decide)) (fun W hW => x_move (MA.lo p9)) ?_
  show wpQuiet _ _ C Q _ (MA pre [.pointer (some ⟨b2, o2, none⟩), .pointer (some ⟨b2, o2, none⟩), .pointer (some ⟨b2, o2 + 3, none⟩), .slice ka2 yn kc2, .pointer (some ⟨g0, 2, none⟩), .string at', .int .i64 n1, .bool false, .bool false, .pointer (some ⟨b2, o2, none⟩), u10, u11, u12, u13, u14, u15, u16, u17, u18, u19] suf d)
  refine mq_val (.pointer (some ⟨b1, o1, none⟩)) hk rfl (by decide) (by simp) (wantG (n := 8) (j := 53) rfl rfl hk (by decide) rfl (by decide)) (fun W hW => x_move (MA.lo p7)) ?_
  show wpQuiet _ _ C Q _ (MA pre [.pointer (some ⟨b2, o2, none⟩), .pointer (some ⟨b2, o2, none⟩), .pointer (some ⟨b2, o2 + 3, none⟩), .slice ka2 yn kc2, .pointer (some ⟨g0, 2, none⟩), .string at', .int .i64 n1, .bool false, .bool false, .pointer (some ⟨b2, o2, none⟩), .pointer (some ⟨b1, o1, none⟩), u11, u12, u13, u14, u15, u16, u17, u18, u19] suf d)
  refine mq_val (.bool false) hk rfl (by decide) (by simp) (wantG (n := 8) (j := 53) rfl rfl hk (by decide) rfl (by decide)) (fun W hW => x_bin (MA.hi hk (by decide) rfl) (MA.hi hk (by decide) rfl) rfl (hE W hW)) ?_
  show wpQuiet _ _ C Q _ (MA pre [.pointer (some ⟨b2, o2, none⟩), .pointer (some ⟨b2, o2, none⟩), .pointer (some ⟨b2, o2 + 3, none⟩), .slice ka2 yn kc2, .pointer (some ⟨g0, 2, none⟩), .string at', .int .i64 n1, .bool false, .bool false, .pointer (some ⟨b2, o2, none⟩), .pointer (some ⟨b1, o1, none⟩), .bool false, u12, u13, u14, u15, u16, u17, u18, u19] suf d)
  refine mq_val (.bool false) hk rfl (by decide) (by simp) (wantG (n := 8) (j := 53) rfl rfl hk (by decide) rfl (by decide)) (fun W hW => x_move (MA.hi hk (by decide) rfl)) ?_
  show wpQuiet _ _ C Q _ (MA pre [.pointer (some ⟨b2, o2, none⟩), .pointer (some ⟨b2, o2, none⟩), .pointer (some ⟨b2, o2 + 3, none⟩), .slice ka2 yn kc2, .pointer (some ⟨g0, 2, none⟩), .string at', .int .i64 n1, .bool false, .bool false, .pointer (some ⟨b2, o2, none⟩), .pointer (some ⟨b1, o1, none⟩), .bool false, .bool false, u13, u14, u15, u16, u17, u18, u19] suf d)
  refine mq_off hk rfl (by decide) (by simp) (wantG (n := 12) (j := 57) rfl rfl hk (by decide) rfl (by decide)) ?_
  show wpQuiet _ _ C Q _ (MA pre [.pointer (some ⟨b2, o2, none⟩), .pointer (some ⟨b2, o2, none⟩), .pointer (some ⟨b2, o2 + 3, none⟩), .slice ka2 yn kc2, .pointer (some ⟨g0, 2, none⟩), .string at', .int .i64 n1, .bool false, .bool false, .pointer (some ⟨b2, o2, none⟩), .pointer (some ⟨b1, o1, none⟩), .bool false, .bool false, undef, u14, u15, u16, u17, u18, u19] suf d)
  refine mq_off hk rfl (by decide) (by simp) (wantG (n := 12) (j := 57) rfl rfl hk (by decide) rfl (by decide)) ?_
  show wpQuiet _ _ C Q _ (MA pre [.pointer (some ⟨b2, o2, none⟩), .pointer (some ⟨b2, o2, none⟩), .pointer (some ⟨b2, o2 + 3, none⟩), .slice ka2 yn kc2, .pointer (some ⟨g0, 2, none⟩), .string at', .int .i64 n1, .bool false, .bool false, .pointer (some ⟨b2, o2, none⟩), .pointer (some ⟨b1, o1, none⟩), .bool false, .bool false, undef, undef, u15, u16, u17, u18, u19] suf d)
  refine mq_off hk rfl (by decide) (by simp) (wantG (n := 12) (j := 57) rfl rfl hk (by decide) rfl (by decide)) ?_
  show wpQuiet _ _ C Q _ (MA pre [.pointer (some ⟨b2, o2, none⟩), .pointer (some ⟨b2, o2, none⟩), .pointer (some ⟨b2, o2 + 3, none⟩), .slice ka2 yn kc2, .pointer (some ⟨g0, 2, none⟩), .string at', .int .i64 n1, .bool false, .bool false, .pointer (some ⟨b2, o2, none⟩), .pointer (some ⟨b1, o1, none⟩), .bool false, .bool false, undef, undef, undef, u16, u17, u18, u19] suf d)
  refine mq_off hk rfl (by decide) (by simp) (wantG (n := 12) (j := 57) rfl rfl hk (by decide) rfl (by decide)) ?_
  show wpQuiet _ _ C Q _ (MA pre [.pointer (some ⟨b2, o2, none⟩), .pointer (some ⟨b2, o2, none⟩), .pointer (some ⟨b2, o2 + 3, none⟩), .slice ka2 yn kc2, .pointer (some ⟨g0, 2, none⟩), .string at', .int .i64 n1, .bool false, .bool false, .pointer (some ⟨b2, o2, none⟩), .pointer (some ⟨b1, o1, none⟩), .bool false, .bool false, undef, undef, undef, undef, u17, u18, u19] suf d)
  refine mq_off hk rfl (by decide) (by simp) (wantG (n := 12) (j := 57) rfl rfl hk (by decide) rfl (by decide)) ?_
  show wpQuiet _ _ C Q _ (MA pre [.pointer (some ⟨b2, o2, none⟩), .pointer (some ⟨b2, o2, none⟩), .pointer (some ⟨b2, o2 + 3, none⟩), .slice ka2 yn kc2, .pointer (some ⟨g0, 2, none⟩), .string at', .int .i64 n1, .bool false, .bool false, .pointer (some ⟨b2, o2, none⟩), .pointer (some ⟨b1, o1, none⟩), .bool false, .bool false, undef, undef, undef, undef, undef, u18, u19] suf d)
  refine mq_val (.bool false) hk rfl (by decide) (by simp) (wantG (n := 8) (j := 53) rfl rfl hk (by decide) rfl (by decide)) (fun W hW => x_pick (c := false) (u := undef) (MA.hi hk (by decide) rfl) (MA.hi hk (by decide) rfl) rfl rfl) ?_
  show wpQuiet _ _ C Q _ (MA pre [.pointer (some ⟨b2, o2, none⟩), .pointer (some ⟨b2, o2, none⟩), .pointer (some ⟨b2, o2 + 3, none⟩), .slice ka2 yn kc2, .pointer (some ⟨g0, 2, none⟩), .string at', .int .i64 n1, .bool false, .bool false, .pointer (some ⟨b2, o2, none⟩), .pointer (some ⟨b1, o1, none⟩), .bool false, .bool false, undef, undef, undef, undef, undef, .bool false, u19] suf d)
  refine mq_val (.bool false) hk rfl (by decide) (by simp) (want0 rfl) (fun W hW => x_pick (c := false) (MA.hi hk (by decide) rfl) rfl (MA.hi hk (by decide) rfl) rfl) ?_
  show wpQuiet _ _ C Q _ (MA pre [.pointer (some ⟨b2, o2, none⟩), .pointer (some ⟨b2, o2, none⟩), .pointer (some ⟨b2, o2 + 3, none⟩), .slice ka2 yn kc2, .pointer (some ⟨g0, 2, none⟩), .string at', .int .i64 n1, .bool false, .bool false, .pointer (some ⟨b2, o2, none⟩), .pointer (some ⟨b1, o1, none⟩), .bool false, .bool false, undef, undef, undef, undef, undef, .bool false, .bool false] suf d)
  exact wpQuiet_nil (hQ _ rfl rfl)
set_option maxRecDepth 20000 in
theorem mvA_same {C : World → Prop} {Q : Act → Prop} {pre mid suf : List Value} {d : List Deferred} (hk : pre.length = 45) (hm : mid.length = 20) {b1 o1 b2 o2 g0 g1 : Nat} {ka2 : Option Addr} {yn kc2 : Nat} {at' lab : ByteArray} {n1 : Int} {same : Bool}
    (p9 : pre[9]? = some (.pointer (some ⟨b2, o2, none⟩))) (p7 : pre[7]? = some (.pointer (some ⟨b1, o1, none⟩))) (p3 : pre[3]? = some (.pointer (some ⟨g0, 0, none⟩))) (p10 : pre[10]? = some (.pointer (some ⟨g1, 0, none⟩)))
    (h3 : ∀ W, C W → W.cell? ⟨b2, o2 + 3, none⟩ = some (.slice ka2 yn kc2)) (hA : ∀ W, C W → W.cell? ⟨g0, 2, none⟩ = some (.string at')) (hL : ∀ W, C W → W.cell? ⟨g1, 0, none⟩ = some (.string lab))
    (hB : ∀ W, C W → Calls Tryz.prog 76 #[.slice ka2 yn kc2, .string at'] W fun e w' => e = .returned (.int .i64 n1) ∧ C w') (hn : ¬ n1 < 0) (hE : ∀ W, C W → (binOp .eql 51 (.pointer (some ⟨b2, o2, none⟩)) (.pointer (some ⟨b1, o1, none⟩))).run Tryz.prog W = .ok (.bool true) W) (hs : (at'.toList == lab.toList) = same)
    (hQ : ∀ m : List Value, m.length = 20 → m[19]? = some (.bool same) → Q (MA pre m suf d)) : wpQuiet Tryz.prog mvAL.toArray C Q mvAL (MA pre mid suf d) := by
  obtain ⟨u0, u1, u2, u3, u4, u5, u6, u7, u8, u9, u10, u11, u12, u13, u14, u15, u16, u17, u18, u19, rfl⟩ := twenty hm
  refine mq_val (.pointer (some ⟨b2, o2, none⟩)) hk rfl (by decide) (by simp) (want0 rfl) (fun W hW => x_move (MA.lo p9)) ?_
  show wpQuiet _ _ C Q _ (MA pre [.pointer (some ⟨b2, o2, none⟩), u1, u2, u3, u4, u5, u6, u7, u8, u9, u10, u11, u12, u13, u14, u15, u16, u17, u18, u19] suf d)
  refine mq_val (.pointer (some ⟨b2, o2, none⟩)) hk rfl (by decide) (by simp) (want0 rfl) (fun W hW => x_nil (MA.hi hk (by decide) rfl)) ?_
  show wpQuiet _ _ C Q _ (MA pre [.pointer (some ⟨b2, o2, none⟩), .pointer (some ⟨b2, o2, none⟩), u2, u3, u4, u5, u6, u7, u8, u9, u10, u11, u12, u13, u14, u15, u16, u17, u18, u19] suf d)
  refine mq_val (.pointer (some ⟨b2, o2 + 3, none⟩)) hk rfl (by decide) (by simp) (want0 rfl) (fun W hW => x_kids (MA.hi hk (by decide) rfl)) ?_
  show wpQuiet _ _ C Q _ (MA pre [.pointer (some ⟨b2, o2, none⟩), .pointer (some ⟨b2, o2, none⟩), .pointer (some ⟨b2, o2 + 3, none⟩), u3, u4, u5, u6, u7, u8, u9, u10, u11, u12, u13, u14, u15, u16, u17, u18, u19] suf d)
  refine mq_val (.slice ka2 yn kc2) hk rfl (by decide) (by simp) (want0 rfl) (fun W hW => x_ldK (MA.hi hk (by decide) rfl) (h3 W hW)) ?_
  show wpQuiet _ _ C Q _ (MA pre [.pointer (some ⟨b2, o2, none⟩), .pointer (some ⟨b2, o2, none⟩), .pointer (some ⟨b2, o2 + 3, none⟩), .slice ka2 yn kc2, u4, u5, u6, u7, u8, u9, u10, u11, u12, u13, u14, u15, u16, u17, u18, u19] suf d)
  refine mq_val (.pointer (some ⟨g0, 2, none⟩)) hk rfl (by decide) (by simp) (want0 rfl) (fun W hW => x_opAt (MA.lo p3)) ?_
  show wpQuiet _ _ C Q _ (MA pre [.pointer (some ⟨b2, o2, none⟩), .pointer (some ⟨b2, o2, none⟩), .pointer (some ⟨b2, o2 + 3, none⟩), .slice ka2 yn kc2, .pointer (some ⟨g0, 2, none⟩), u5, u6, u7, u8, u9, u10, u11, u12, u13, u14, u15, u16, u17, u18, u19] suf d)
  refine mq_val (.string at') hk rfl (by decide) (by simp) (want0 rfl) (fun W hW => x_ldS (MA.hi hk (by decide) rfl) (hA W hW)) ?_
  show wpQuiet _ _ C Q _ (MA pre [.pointer (some ⟨b2, o2, none⟩), .pointer (some ⟨b2, o2, none⟩), .pointer (some ⟨b2, o2 + 3, none⟩), .slice ka2 yn kc2, .pointer (some ⟨g0, 2, none⟩), .string at', u6, u7, u8, u9, u10, u11, u12, u13, u14, u15, u16, u17, u18, u19] suf d)
  refine mq_call 76 #[.slice ka2 yn kc2, .string at'] (.int .i64 n1) hk rfl (by decide) (by simp) (want0 rfl) (fun W hW => x_behind (MA.hi hk (by decide) rfl) (MA.hi hk (by decide) rfl) rfl) (fun W hW => hB W hW) ?_
  show wpQuiet _ _ C Q _ (MA pre [.pointer (some ⟨b2, o2, none⟩), .pointer (some ⟨b2, o2, none⟩), .pointer (some ⟨b2, o2 + 3, none⟩), .slice ka2 yn kc2, .pointer (some ⟨g0, 2, none⟩), .string at', .int .i64 n1, u7, u8, u9, u10, u11, u12, u13, u14, u15, u16, u17, u18, u19] suf d)
  refine mq_val (.bool false) hk rfl (by decide) (by simp) (want0 rfl) (fun W hW => x_lss (MA.hi hk (by decide) rfl) rfl (by simp [hn])) ?_
  show wpQuiet _ _ C Q _ (MA pre [.pointer (some ⟨b2, o2, none⟩), .pointer (some ⟨b2, o2, none⟩), .pointer (some ⟨b2, o2 + 3, none⟩), .slice ka2 yn kc2, .pointer (some ⟨g0, 2, none⟩), .string at', .int .i64 n1, .bool false, u8, u9, u10, u11, u12, u13, u14, u15, u16, u17, u18, u19] suf d)
  refine mq_val (.bool false) hk rfl (by decide) (by simp) (want0 rfl) (fun W hW => x_move (MA.hi hk (by decide) rfl)) ?_
  show wpQuiet _ _ C Q _ (MA pre [.pointer (some ⟨b2, o2, none⟩), .pointer (some ⟨b2, o2, none⟩), .pointer (some ⟨b2, o2 + 3, none⟩), .slice ka2 yn kc2, .pointer (some ⟨g0, 2, none⟩), .string at', .int .i64 n1, .bool false, .bool false, u9, u10, u11, u12, u13, u14, u15, u16, u17, u18, u19] suf d)
  refine mq_val (.pointer (some ⟨b2, o2, none⟩)) hk rfl (by decide) (by simp) (wantG (n := 8) (j := 53) rfl rfl hk (by decide) rfl (by decide)) (fun W hW => x_move (MA.lo p9)) ?_
  show wpQuiet _ _ C Q _ (MA pre [.pointer (some ⟨b2, o2, none⟩), .pointer (some ⟨b2, o2, none⟩), .pointer (some ⟨b2, o2 + 3, none⟩), .slice ka2 yn kc2, .pointer (some ⟨g0, 2, none⟩), .string at', .int .i64 n1, .bool false, .bool false, .pointer (some ⟨b2, o2, none⟩), u10, u11, u12, u13, u14, u15, u16, u17, u18, u19] suf d)
  refine mq_val (.pointer (some ⟨b1, o1, none⟩)) hk rfl (by decide) (by simp) (wantG (n := 8) (j := 53) rfl rfl hk (by decide) rfl (by decide)) (fun W hW => x_move (MA.lo p7)) ?_
  show wpQuiet _ _ C Q _ (MA pre [.pointer (some ⟨b2, o2, none⟩), .pointer (some ⟨b2, o2, none⟩), .pointer (some ⟨b2, o2 + 3, none⟩), .slice ka2 yn kc2, .pointer (some ⟨g0, 2, none⟩), .string at', .int .i64 n1, .bool false, .bool false, .pointer (some ⟨b2, o2, none⟩), .pointer (some ⟨b1, o1, none⟩), u11, u12, u13, u14, u15, u16, u17, u18, u19] suf d)
  refine mq_val (.bool true) hk rfl (by decide) (by simp) (wantG (n := 8) (j := 53) rfl rfl hk (by decide) rfl (by decide)) (fun W hW => x_bin (MA.hi hk (by decide) rfl) (MA.hi hk (by decide) rfl) rfl (hE W hW)) ?_
  show wpQuiet _ _ C Q _ (MA pre [.pointer (some ⟨b2, o2, none⟩), .pointer (some ⟨b2, o2, none⟩), .pointer (some ⟨b2, o2 + 3, none⟩), .slice ka2 yn kc2, .pointer (some ⟨g0, 2, none⟩), .string at', .int .i64 n1, .bool false, .bool false, .pointer (some ⟨b2, o2, none⟩), .pointer (some ⟨b1, o1, none⟩), .bool true, u12, u13, u14, u15, u16, u17, u18, u19] suf d)
  refine mq_val (.bool true) hk rfl (by decide) (by simp) (wantG (n := 8) (j := 53) rfl rfl hk (by decide) rfl (by decide)) (fun W hW => x_move (MA.hi hk (by decide) rfl)) ?_
  show wpQuiet _ _ C Q _ (MA pre [.pointer (some ⟨b2, o2, none⟩), .pointer (some ⟨b2, o2, none⟩), .pointer (some ⟨b2, o2 + 3, none⟩), .slice ka2 yn kc2, .pointer (some ⟨g0, 2, none⟩), .string at', .int .i64 n1, .bool false, .bool false, .pointer (some ⟨b2, o2, none⟩), .pointer (some ⟨b1, o1, none⟩), .bool true, .bool true, u13, u14, u15, u16, u17, u18, u19] suf d)
  refine mq_val (.pointer (some ⟨g0, 2, none⟩)) hk rfl (by decide) (by simp) (wantG (n := 12) (j := 57) rfl rfl hk (by decide) rfl (by decide)) (fun W hW => x_opAt (MA.lo p3)) ?_
  show wpQuiet _ _ C Q _ (MA pre [.pointer (some ⟨b2, o2, none⟩), .pointer (some ⟨b2, o2, none⟩), .pointer (some ⟨b2, o2 + 3, none⟩), .slice ka2 yn kc2, .pointer (some ⟨g0, 2, none⟩), .string at', .int .i64 n1, .bool false, .bool false, .pointer (some ⟨b2, o2, none⟩), .pointer (some ⟨b1, o1, none⟩), .bool true, .bool true, .pointer (some ⟨g0, 2, none⟩), u14, u15, u16, u17, u18, u19] suf d)
  refine mq_val (.string at') hk rfl (by decide) (by simp) (wantG (n := 12) (j := 57) rfl rfl hk (by decide) rfl (by decide)) (fun W hW => x_ldS (MA.hi hk (by decide) rfl) (hA W hW)) ?_
  show wpQuiet _ _ C Q _ (MA pre [.pointer (some ⟨b2, o2, none⟩), .pointer (some ⟨b2, o2, none⟩), .pointer (some ⟨b2, o2 + 3, none⟩), .slice ka2 yn kc2, .pointer (some ⟨g0, 2, none⟩), .string at', .int .i64 n1, .bool false, .bool false, .pointer (some ⟨b2, o2, none⟩), .pointer (some ⟨b1, o1, none⟩), .bool true, .bool true, .pointer (some ⟨g0, 2, none⟩), .string at', u15, u16, u17, u18, u19] suf d)
  refine mq_val (.pointer (some ⟨g1, 0, none⟩)) hk rfl (by decide) (by simp) (wantG (n := 12) (j := 57) rfl rfl hk (by decide) rfl (by decide)) (fun W hW => x_label (MA.lo p10)) ?_
  show wpQuiet _ _ C Q _ (MA pre [.pointer (some ⟨b2, o2, none⟩), .pointer (some ⟨b2, o2, none⟩), .pointer (some ⟨b2, o2 + 3, none⟩), .slice ka2 yn kc2, .pointer (some ⟨g0, 2, none⟩), .string at', .int .i64 n1, .bool false, .bool false, .pointer (some ⟨b2, o2, none⟩), .pointer (some ⟨b1, o1, none⟩), .bool true, .bool true, .pointer (some ⟨g0, 2, none⟩), .string at', .pointer (some ⟨g1, 0, none⟩), u16, u17, u18, u19] suf d)
  refine mq_val (.string lab) hk rfl (by decide) (by simp) (wantG (n := 12) (j := 57) rfl rfl hk (by decide) rfl (by decide)) (fun W hW => x_ldS (MA.hi hk (by decide) rfl) (hL W hW)) ?_
  show wpQuiet _ _ C Q _ (MA pre [.pointer (some ⟨b2, o2, none⟩), .pointer (some ⟨b2, o2, none⟩), .pointer (some ⟨b2, o2 + 3, none⟩), .slice ka2 yn kc2, .pointer (some ⟨g0, 2, none⟩), .string at', .int .i64 n1, .bool false, .bool false, .pointer (some ⟨b2, o2, none⟩), .pointer (some ⟨b1, o1, none⟩), .bool true, .bool true, .pointer (some ⟨g0, 2, none⟩), .string at', .pointer (some ⟨g1, 0, none⟩), .string lab, u17, u18, u19] suf d)
  refine mq_val (.bool same) hk rfl (by decide) (by simp) (wantG (n := 12) (j := 57) rfl rfl hk (by decide) rfl (by decide)) (fun W hW => x_eqS (MA.hi hk (by decide) rfl) (MA.hi hk (by decide) rfl) hs) ?_
  show wpQuiet _ _ C Q _ (MA pre [.pointer (some ⟨b2, o2, none⟩), .pointer (some ⟨b2, o2, none⟩), .pointer (some ⟨b2, o2 + 3, none⟩), .slice ka2 yn kc2, .pointer (some ⟨g0, 2, none⟩), .string at', .int .i64 n1, .bool false, .bool false, .pointer (some ⟨b2, o2, none⟩), .pointer (some ⟨b1, o1, none⟩), .bool true, .bool true, .pointer (some ⟨g0, 2, none⟩), .string at', .pointer (some ⟨g1, 0, none⟩), .string lab, .bool same, u18, u19] suf d)
  refine mq_val (.bool same) hk rfl (by decide) (by simp) (wantG (n := 8) (j := 53) rfl rfl hk (by decide) rfl (by decide)) (fun W hW => x_pick (c := true) (MA.hi hk (by decide) rfl) (MA.hi hk (by decide) rfl) rfl rfl) ?_
  show wpQuiet _ _ C Q _ (MA pre [.pointer (some ⟨b2, o2, none⟩), .pointer (some ⟨b2, o2, none⟩), .pointer (some ⟨b2, o2 + 3, none⟩), .slice ka2 yn kc2, .pointer (some ⟨g0, 2, none⟩), .string at', .int .i64 n1, .bool false, .bool false, .pointer (some ⟨b2, o2, none⟩), .pointer (some ⟨b1, o1, none⟩), .bool true, .bool true, .pointer (some ⟨g0, 2, none⟩), .string at', .pointer (some ⟨g1, 0, none⟩), .string lab, .bool same, .bool same, u19] suf d)
  refine mq_val (.bool same) hk rfl (by decide) (by simp) (want0 rfl) (fun W hW => x_pick (c := false) (MA.hi hk (by decide) rfl) rfl (MA.hi hk (by decide) rfl) rfl) ?_
  show wpQuiet _ _ C Q _ (MA pre [.pointer (some ⟨b2, o2, none⟩), .pointer (some ⟨b2, o2, none⟩), .pointer (some ⟨b2, o2 + 3, none⟩), .slice ka2 yn kc2, .pointer (some ⟨g0, 2, none⟩), .string at', .int .i64 n1, .bool false, .bool false, .pointer (some ⟨b2, o2, none⟩), .pointer (some ⟨b1, o1, none⟩), .bool true, .bool true, .pointer (some ⟨g0, 2, none⟩), .string at', .pointer (some ⟨g1, 0, none⟩), .string lab, .bool same, .bool same, .bool same] suf d)
  exact wpQuiet_nil (hQ _ rfl rfl)
def mvB0 : Oper := { dst := some 66, op := Op.move (Operand.tmp 9), type := 51, pos := "amend.go:107", after := #[], guard := none }
def mvB1 : Oper := { dst := some 67, op := Op.move (Operand.tmp 7), type := 51, pos := "amend.go:107", after := #[], guard := none }
def mvB2 : Oper := { dst := some 68, op := Op.binOp BinOp.neq 51 (Operand.tmp 66) (Operand.tmp 67) 51, type := 4, pos := "amend.go:107", after := #[{ on := 0, ground := Ground.data }, { on := 1, ground := Ground.data }], guard := none }
def mvB3 : Oper := { dst := some 69, op := Op.move (Operand.tmp 68), type := 4, pos := "amend.go:107", after := #[{ on := 2, ground := Ground.data }], guard := none }
def mvB4 : Oper := { dst := some 70, op := Op.move (Operand.tmp 9), type := 51, pos := "amend.go:107", after := #[{ on := 3, ground := Ground.guard }], guard := some (3, true) }
def mvB5 : Oper := { dst := some 71, op := Op.nilCheck (Operand.tmp 70), type := 0, pos := "amend.go:107", after := #[{ on := 4, ground := Ground.data }, { on := 3, ground := Ground.guard }], guard := some (3, true) }
def mvB6 : Oper := { dst := some 72, op := Op.fieldAddr 25 (Operand.tmp 71) 3, type := 0, pos := "amend.go:107", after := #[{ on := 5, ground := Ground.data }, { on := 3, ground := Ground.guard }], guard := some (3, true) }
def mvB7 : Oper := { dst := some 73, op := Op.load 23 (Operand.tmp 72), type := 23, pos := "amend.go:107", after := #[{ on := 6, ground := Ground.data }, { on := 3, ground := Ground.guard }], guard := some (3, true) }
def mvB8 : Oper := { dst := some 74, op := Op.fieldAddr 25 (Operand.tmp 10) 0, type := 0, pos := "amend.go:107", after := #[{ on := 3, ground := Ground.guard }], guard := some (3, true) }
def mvB9 : Oper := { dst := some 75, op := Op.load 9 (Operand.tmp 74), type := 9, pos := "amend.go:107", after := #[{ on := 8, ground := Ground.data }, { on := 3, ground := Ground.guard }], guard := some (3, true) }
def mvB10 : Oper := { dst := some 76, op := Op.call { callee := Callee.value (Operand.func 69), args := #[Operand.tmp 73, Operand.tmp 75], argTypes := #[23, 9] }, type := 3, pos := "amend.go:107", after := #[{ on := 7, ground := Ground.data }, { on := 9, ground := Ground.data }, { on := 3, ground := Ground.chain }, { on := 3, ground := Ground.guard }], guard := some (3, true) }
def mvB11 : Oper := { dst := some 77, op := Op.binOp BinOp.geq 3 (Operand.tmp 76) (Operand.const (Value.int IntKind.i64 0)) 3, type := 4, pos := "amend.go:107", after := #[{ on := 10, ground := Ground.data }, { on := 3, ground := Ground.guard }], guard := some (3, true) }
def mvB12 : Oper := { dst := some 78, op := Op.pick (Operand.tmp 69) (Operand.tmp 77) (Operand.const (Value.bool false)), type := 4, pos := "amend.go:107", after := #[{ on := 3, ground := Ground.data }, { on := 11, ground := Ground.data }], guard := none }
def mvBL : List Oper := [mvB0, mvB1, mvB2, mvB3, mvB4, mvB5, mvB6, mvB7, mvB8, mvB9, mvB10, mvB11, mvB12]
theorem thirteen {mid : List Value} (h : mid.length = 13) : ∃ u0 u1 u2 u3 u4 u5 u6 u7 u8 u9 u10 u11 u12 : Value, mid = [u0, u1, u2, u3, u4, u5, u6, u7, u8, u9, u10, u11, u12] := by
  match mid, h with
  | [u0, u1, u2, u3, u4, u5, u6, u7, u8, u9, u10, u11, u12], _ => exact ⟨_, _, _, _, _, _, _, _, _, _, _, _, _, rfl⟩
set_option maxRecDepth 20000 in
theorem mvB_same {C : World → Prop} {Q : Act → Prop} {pre mid suf : List Value} {d : List Deferred} (hk : pre.length = 66) (hm : mid.length = 13) {b1 o1 b2 o2 g1 : Nat} {ka2 : Option Addr} {yn kc2 : Nat} {lab : ByteArray} {n1 : Int} {same : Bool}
    (p9 : pre[9]? = some (.pointer (some ⟨b2, o2, none⟩))) (p7 : pre[7]? = some (.pointer (some ⟨b1, o1, none⟩))) (p10 : pre[10]? = some (.pointer (some ⟨g1, 0, none⟩)))
    (h3 : ∀ W, C W → W.cell? ⟨b2, o2 + 3, none⟩ = some (.slice ka2 yn kc2)) (hL : ∀ W, C W → W.cell? ⟨g1, 0, none⟩ = some (.string lab))
    (hB : ∀ W, C W → Calls Tryz.prog 69 #[.slice ka2 yn kc2, .string lab] W fun e w' => e = .returned (.int .i64 n1) ∧ C w') (hE : ∀ W, C W → (binOp .neq 51 (.pointer (some ⟨b2, o2, none⟩)) (.pointer (some ⟨b1, o1, none⟩))).run Tryz.prog W = .ok (.bool false) W)
    (hQ : ∀ m : List Value, m.length = 13 → m[12]? = some (.bool false) → Q (MA pre m suf d)) : wpQuiet Tryz.prog mvBL.toArray C Q mvBL (MA pre mid suf d) := by
  obtain ⟨u0, u1, u2, u3, u4, u5, u6, u7, u8, u9, u10, u11, u12, rfl⟩ := thirteen hm
  refine mq_val (.pointer (some ⟨b2, o2, none⟩)) hk rfl (by decide) (by simp) (want0 rfl) (fun W hW => x_move (MA.lo p9)) ?_
  show wpQuiet _ _ C Q _ (MA pre [.pointer (some ⟨b2, o2, none⟩), u1, u2, u3, u4, u5, u6, u7, u8, u9, u10, u11, u12] suf d)
  refine mq_val (.pointer (some ⟨b1, o1, none⟩)) hk rfl (by decide) (by simp) (want0 rfl) (fun W hW => x_move (MA.lo p7)) ?_
  show wpQuiet _ _ C Q _ (MA pre [.pointer (some ⟨b2, o2, none⟩), .pointer (some ⟨b1, o1, none⟩), u2, u3, u4, u5, u6, u7, u8, u9, u10, u11, u12] suf d)
  refine mq_val (.bool false) hk rfl (by decide) (by simp) (want0 rfl) (fun W hW => x_bin (MA.hi hk (by decide) rfl) (MA.hi hk (by decide) rfl) rfl (hE W hW)) ?_
  show wpQuiet _ _ C Q _ (MA pre [.pointer (some ⟨b2, o2, none⟩), .pointer (some ⟨b1, o1, none⟩), .bool false, u3, u4, u5, u6, u7, u8, u9, u10, u11, u12] suf d)
  refine mq_val (.bool false) hk rfl (by decide) (by simp) (want0 rfl) (fun W hW => x_move (MA.hi hk (by decide) rfl)) ?_
  show wpQuiet _ _ C Q _ (MA pre [.pointer (some ⟨b2, o2, none⟩), .pointer (some ⟨b1, o1, none⟩), .bool false, .bool false, u4, u5, u6, u7, u8, u9, u10, u11, u12] suf d)
  refine mq_off hk rfl (by decide) (by simp) (wantG (n := 3) (j := 69) rfl rfl hk (by decide) rfl (by decide)) ?_
  show wpQuiet _ _ C Q _ (MA pre [.pointer (some ⟨b2, o2, none⟩), .pointer (some ⟨b1, o1, none⟩), .bool false, .bool false, undef, u5, u6, u7, u8, u9, u10, u11, u12] suf d)
  refine mq_off hk rfl (by decide) (by simp) (wantG (n := 3) (j := 69) rfl rfl hk (by decide) rfl (by decide)) ?_
  show wpQuiet _ _ C Q _ (MA pre [.pointer (some ⟨b2, o2, none⟩), .pointer (some ⟨b1, o1, none⟩), .bool false, .bool false, undef, undef, u6, u7, u8, u9, u10, u11, u12] suf d)
  refine mq_off hk rfl (by decide) (by simp) (wantG (n := 3) (j := 69) rfl rfl hk (by decide) rfl (by decide)) ?_
  show wpQuiet _ _ C Q _ (MA pre [.pointer (some ⟨b2, o2, none⟩), .pointer (some ⟨b1, o1, none⟩), .bool false, .bool false, undef, undef, undef, u7, u8, u9, u10, u11, u12] suf d)
  refine mq_off hk rfl (by decide) (by simp) (wantG (n := 3) (j := 69) rfl rfl hk (by decide) rfl (by decide)) ?_
  show wpQuiet _ _ C Q _ (MA pre [.pointer (some ⟨b2, o2, none⟩), .pointer (some ⟨b1, o1, none⟩), .bool false, .bool false, undef, undef, undef, undef, u8, u9, u10, u11, u12] suf d)
  refine mq_off hk rfl (by decide) (by simp) (wantG (n := 3) (j := 69) rfl rfl hk (by decide) rfl (by decide)) ?_
  show wpQuiet _ _ C Q _ (MA pre [.pointer (some ⟨b2, o2, none⟩), .pointer (some ⟨b1, o1, none⟩), .bool false, .bool false, undef, undef, undef, undef, undef, u9, u10, u11, u12] suf d)
  refine mq_off hk rfl (by decide) (by simp) (wantG (n := 3) (j := 69) rfl rfl hk (by decide) rfl (by decide)) ?_
  show wpQuiet _ _ C Q _ (MA pre [.pointer (some ⟨b2, o2, none⟩), .pointer (some ⟨b1, o1, none⟩), .bool false, .bool false, undef, undef, undef, undef, undef, undef, u10, u11, u12] suf d)
  refine mq_off hk rfl (by decide) (by simp) (wantG (n := 3) (j := 69) rfl rfl hk (by decide) rfl (by decide)) ?_
  show wpQuiet _ _ C Q _ (MA pre [.pointer (some ⟨b2, o2, none⟩), .pointer (some ⟨b1, o1, none⟩), .bool false, .bool false, undef, undef, undef, undef, undef, undef, undef, u11, u12] suf d)
  refine mq_off hk rfl (by decide) (by simp) (wantG (n := 3) (j := 69) rfl rfl hk (by decide) rfl (by decide)) ?_
  show wpQuiet _ _ C Q _ (MA pre [.pointer (some ⟨b2, o2, none⟩), .pointer (some ⟨b1, o1, none⟩), .bool false, .bool false, undef, undef, undef, undef, undef, undef, undef, undef, u12] suf d)
  refine mq_val (.bool false) hk rfl (by decide) (by simp) (want0 rfl) (fun W hW => x_pick (c := false) (u := undef) (MA.hi hk (by decide) rfl) (MA.hi hk (by decide) rfl) rfl rfl) ?_
  show wpQuiet _ _ C Q _ (MA pre [.pointer (some ⟨b2, o2, none⟩), .pointer (some ⟨b1, o1, none⟩), .bool false, .bool false, undef, undef, undef, undef, undef, undef, undef, undef, .bool false] suf d)
  exact wpQuiet_nil (hQ _ rfl rfl)
set_option maxRecDepth 20000 in
theorem mvB_other {C : World → Prop} {Q : Act → Prop} {pre mid suf : List Value} {d : List Deferred} (hk : pre.length = 66) (hm : mid.length = 13) {b1 o1 b2 o2 g1 : Nat} {ka2 : Option Addr} {yn kc2 : Nat} {lab : ByteArray} {n1 : Int} {same : Bool}
    (p9 : pre[9]? = some (.pointer (some ⟨b2, o2, none⟩))) (p7 : pre[7]? = some (.pointer (some ⟨b1, o1, none⟩))) (p10 : pre[10]? = some (.pointer (some ⟨g1, 0, none⟩)))
    (h3 : ∀ W, C W → W.cell? ⟨b2, o2 + 3, none⟩ = some (.slice ka2 yn kc2)) (hL : ∀ W, C W → W.cell? ⟨g1, 0, none⟩ = some (.string lab))
    (hB : ∀ W, C W → Calls Tryz.prog 69 #[.slice ka2 yn kc2, .string lab] W fun e w' => e = .returned (.int .i64 n1) ∧ C w') (hE : ∀ W, C W → (binOp .neq 51 (.pointer (some ⟨b2, o2, none⟩)) (.pointer (some ⟨b1, o1, none⟩))).run Tryz.prog W = .ok (.bool true) W) (hs : decide (0 ≤ n1) = same)
    (hQ : ∀ m : List Value, m.length = 13 → m[12]? = some (.bool same) → Q (MA pre m suf d)) : wpQuiet Tryz.prog mvBL.toArray C Q mvBL (MA pre mid suf d) := by
  obtain ⟨u0, u1, u2, u3, u4, u5, u6, u7, u8, u9, u10, u11, u12, rfl⟩ := thirteen hm
  refine mq_val (.pointer (some ⟨b2, o2, none⟩)) hk rfl (by decide) (by simp) (want0 rfl) (fun W hW => x_move (MA.lo p9)) ?_
  show wpQuiet _ _ C Q _ (MA pre [.pointer (some ⟨b2, o2, none⟩), u1, u2, u3, u4, u5, u6, u7, u8, u9, u10, u11, u12] suf d)
  refine mq_val (.pointer (some ⟨b1, o1, none⟩)) hk rfl (by decide) (by simp) (want0 rfl) (fun W hW => x_move (MA.lo p7)) ?_
  show wpQuiet _ _ C Q _ (MA pre [.pointer (some ⟨b2, o2, none⟩), .pointer (some ⟨b1, o1, none⟩), u2, u3, u4, u5, u6, u7, u8, u9, u10, u11, u12] suf d)
  refine mq_val (.bool true) hk rfl (by decide) (by simp) (want0 rfl) (fun W hW => x_bin (MA.hi hk (by decide) rfl) (MA.hi hk (by decide) rfl) rfl (hE W hW)) ?_
  show wpQuiet _ _ C Q _ (MA pre [.pointer (some ⟨b2, o2, none⟩), .pointer (some ⟨b1, o1, none⟩), .bool true, u3, u4, u5, u6, u7, u8, u9, u10, u11, u12] suf d)
  refine mq_val (.bool true) hk rfl (by decide) (by simp) (want0 rfl) (fun W hW => x_move (MA.hi hk (by decide) rfl)) ?_
  show wpQuiet _ _ C Q _ (MA pre [.pointer (some ⟨b2, o2, none⟩), .pointer (some ⟨b1, o1, none⟩), .bool true, .bool true, u4, u5, u6, u7, u8, u9, u10, u11, u12] suf d)
  refine mq_val (.pointer (some ⟨b2, o2, none⟩)) hk rfl (by decide) (by simp) (wantG (n := 3) (j := 69) rfl rfl hk (by decide) rfl (by decide)) (fun W hW => x_move (MA.lo p9)) ?_
  show wpQuiet _ _ C Q _ (MA pre [.pointer (some ⟨b2, o2, none⟩), .pointer (some ⟨b1, o1, none⟩), .bool true, .bool true, .pointer (some ⟨b2, o2, none⟩), u5, u6, u7, u8, u9, u10, u11, u12] suf d)
  refine mq_val (.pointer (some ⟨b2, o2, none⟩)) hk rfl (by decide) (by simp) (wantG (n := 3) (j := 69) rfl rfl hk (by decide) rfl (by decide)) (fun W hW => x_nil (MA.hi hk (by decide) rfl)) ?_
  show wpQuiet _ _ C Q _ (MA pre [.pointer (some ⟨b2, o2, none⟩), .pointer (some ⟨b1, o1, none⟩), .bool true, .bool true, .pointer (some ⟨b2, o2, none⟩), .pointer (some ⟨b2, o2, none⟩), u6, u7, u8, u9, u10, u11, u12] suf d)
  refine mq_val (.pointer (some ⟨b2, o2 + 3, none⟩)) hk rfl (by decide) (by simp) (wantG (n := 3) (j := 69) rfl rfl hk (by decide) rfl (by decide)) (fun W hW => x_kids (MA.hi hk (by decide) rfl)) ?_
  show wpQuiet _ _ C Q _ (MA pre [.pointer (some ⟨b2, o2, none⟩), .pointer (some ⟨b1, o1, none⟩), .bool true, .bool true, .pointer (some ⟨b2, o2, none⟩), .pointer (some ⟨b2, o2, none⟩), .pointer (some ⟨b2, o2 + 3, none⟩), u7, u8, u9, u10, u11, u12] suf d)
  refine mq_val (.slice ka2 yn kc2) hk rfl (by decide) (by simp) (wantG (n := 3) (j := 69) rfl rfl hk (by decide) rfl (by decide)) (fun W hW => x_ldK (MA.hi hk (by decide) rfl) (h3 W hW)) ?_
  show wpQuiet _ _ C Q _ (MA pre [.pointer (some ⟨b2, o2, none⟩), .pointer (some ⟨b1, o1, none⟩), .bool true, .bool true, .pointer (some ⟨b2, o2, none⟩), .pointer (some ⟨b2, o2, none⟩), .pointer (some ⟨b2, o2 + 3, none⟩), .slice ka2 yn kc2, u8, u9, u10, u11, u12] suf d)
  refine mq_val (.pointer (some ⟨g1, 0, none⟩)) hk rfl (by decide) (by simp) (wantG (n := 3) (j := 69) rfl rfl hk (by decide) rfl (by decide)) (fun W hW => x_label (MA.lo p10)) ?_
  show wpQuiet _ _ C Q _ (MA pre [.pointer (some ⟨b2, o2, none⟩), .pointer (some ⟨b1, o1, none⟩), .bool true, .bool true, .pointer (some ⟨b2, o2, none⟩), .pointer (some ⟨b2, o2, none⟩), .pointer (some ⟨b2, o2 + 3, none⟩), .slice ka2 yn kc2, .pointer (some ⟨g1, 0, none⟩), u9, u10, u11, u12] suf d)
  refine mq_val (.string lab) hk rfl (by decide) (by simp) (wantG (n := 3) (j := 69) rfl rfl hk (by decide) rfl (by decide)) (fun W hW => x_ldS (MA.hi hk (by decide) rfl) (hL W hW)) ?_
  show wpQuiet _ _ C Q _ (MA pre [.pointer (some ⟨b2, o2, none⟩), .pointer (some ⟨b1, o1, none⟩), .bool true, .bool true, .pointer (some ⟨b2, o2, none⟩), .pointer (some ⟨b2, o2, none⟩), .pointer (some ⟨b2, o2 + 3, none⟩), .slice ka2 yn kc2, .pointer (some ⟨g1, 0, none⟩), .string lab, u10, u11, u12] suf d)
  refine mq_call 69 #[.slice ka2 yn kc2, .string lab] (.int .i64 n1) hk rfl (by decide) (by simp) (wantG (n := 3) (j := 69) rfl rfl hk (by decide) rfl (by decide)) (fun W hW => x_labld (MA.hi hk (by decide) rfl) (MA.hi hk (by decide) rfl) rfl) (fun W hW => hB W hW) ?_
  show wpQuiet _ _ C Q _ (MA pre [.pointer (some ⟨b2, o2, none⟩), .pointer (some ⟨b1, o1, none⟩), .bool true, .bool true, .pointer (some ⟨b2, o2, none⟩), .pointer (some ⟨b2, o2, none⟩), .pointer (some ⟨b2, o2 + 3, none⟩), .slice ka2 yn kc2, .pointer (some ⟨g1, 0, none⟩), .string lab, .int .i64 n1, u11, u12] suf d)
  refine mq_val (.bool same) hk rfl (by decide) (by simp) (wantG (n := 3) (j := 69) rfl rfl hk (by decide) rfl (by decide)) (fun W hW => x_geq (MA.hi hk (by decide) rfl) rfl hs) ?_
  show wpQuiet _ _ C Q _ (MA pre [.pointer (some ⟨b2, o2, none⟩), .pointer (some ⟨b1, o1, none⟩), .bool true, .bool true, .pointer (some ⟨b2, o2, none⟩), .pointer (some ⟨b2, o2, none⟩), .pointer (some ⟨b2, o2 + 3, none⟩), .slice ka2 yn kc2, .pointer (some ⟨g1, 0, none⟩), .string lab, .int .i64 n1, .bool same, u12] suf d)
  refine mq_val (.bool same) hk rfl (by decide) (by simp) (want0 rfl) (fun W hW => x_pick (c := true) (MA.hi hk (by decide) rfl) (MA.hi hk (by decide) rfl) rfl rfl) ?_
  show wpQuiet _ _ C Q _ (MA pre [.pointer (some ⟨b2, o2, none⟩), .pointer (some ⟨b1, o1, none⟩), .bool true, .bool true, .pointer (some ⟨b2, o2, none⟩), .pointer (some ⟨b2, o2, none⟩), .pointer (some ⟨b2, o2 + 3, none⟩), .slice ka2 yn kc2, .pointer (some ⟨g1, 0, none⟩), .string lab, .int .i64 n1, .bool same, .bool same] suf d)
  exact wpQuiet_nil (hQ _ rfl rfl)
end Go.Proofs.YtpbolcjcmkmalaaGreatDoor
namespace Go.Proofs.YtpbolcjcmkmalaaGreatDoor
open Go.RowKit

section
variable {P : Program} {ops : Array Oper} {Q : Exit → Act → World → Prop} {md : Region.Mode} {S : World → Prop} {L : List Nat}
/-- Whatever order is picked: behind each operation but those of 'L' the world is one of 'S'. -/
def wpLast (P : Program) (md : Region.Mode) (ops : Array Oper) (Q : Exit → Act → World → Prop) (S : World → Prop) (L : List Nat) : Nat → Array Bool → Act → World → Prop
  | 0, done, a, w => Region.ready md ops done = [] ∧ Q .normal a w
  | n + 1, done, a, w => (Region.ready md ops done = [] → Q .normal a w) ∧ ∀ j, j ∈ Region.ready md ops done → wpOp P ops Q j (fun a' w' => (S w → j ∈ L ∨ S w') ∧ wpLast P md ops Q S L n (done.setIfInBounds j true) a' w') a w
theorem wpLast.any : ∀ {n : Nat} {done : Array Bool} {a : Act} {w : World}, wpLast P md ops Q S L n done a w → wpAny P md ops Q n done a w
  | 0, _, _, _, h => h
  | _ + 1, _, _, _, h => ⟨h.1, fun j hj => wpOp_mono (fun _ _ h' => h'.2.any) (h.2 j hj)⟩
/-- Number 'l' waits for number 'i', be it by way of others. -/
def waitsT (md : Region.Mode) (ops : Array Oper) (i : Nat) : Nat → Nat → Bool
  | 0, _ => false
  | n + 1, l => match ops[l]? with
    | none => false
    | some o => o.after.any fun e => Region.binds md e && (e.on == i || waitsT md ops i n e.on)
/-- What is done has been done behind what it waits for. -/
def closedB (md : Region.Mode) (ops : Array Oper) (done : Array Bool) : Bool := (List.range ops.size).all fun k => match ops[k]? with
  | none => true
  | some o => !done.getD k false || o.after.all fun e => !Region.binds md e || done.getD e.on false
def Closed (md : Region.Mode) (ops : Array Oper) (done : Array Bool) : Prop := ∀ k o, ops[k]? = some o → done.getD k false = true → ∀ e ∈ o.after, Region.binds md e = true → done.getD e.on false = true
theorem closedB_spec {done : Array Bool} (h : closedB md ops done = true) : Closed md ops done := by
  intro k o hk hd e he hb
  unfold closedB at h
  rw [List.all_eq_true] at h
  have h1 := h k (List.mem_range.2 (Array.getElem?_eq_some_iff.1 hk).1)
  rw [hk] at h1
  simp only [hd, Bool.not_true, Bool.false_or, Array.all_eq_true'] at h1
  have h2 := h1 e he
  simpa [hb] using h2
theorem done_both {done : Array Bool} {i : Nat} (h1 : done.getD i false = true) (h2 : done.getD i true = false) : False := by
  rcases Nat.lt_or_ge i done.size with hl | hl
  · rw [Array.getD_eq_getD_getElem?, Array.getElem?_eq_getElem hl] at h1 h2
    simp only [Option.getD_some] at h1 h2
    rw [h1] at h2; cases h2
  · rw [Array.getD_eq_getD_getElem?, Array.getElem?_eq_none hl] at h1; cases h1
theorem Closed.step {done : Array Bool} (h : Closed md ops done) {j : Nat} (hj : j ∈ Region.ready md ops done) : Closed md ops (done.setIfInBounds j true) := by
  intro k o hk hd e he hb
  rcases Nat.decEq j k with hjk | hjk
  · exact getD_set_true (h k o hk (by rwa [getD_set_ne false hjk] at hd) e he hb)
  · subst hjk
    obtain ⟨_, oj, hoj, hall⟩ := mem_ready.1 hj
    rw [hk] at hoj
    injection hoj with hoj
    subst hoj
    exact getD_set_true (hall e he hb)
theorem waits_done {done : Array Bool} (hc : Closed md ops done) {i : Nat} (hi : done.getD i true = false) : ∀ (n l : Nat), waitsT md ops i n l = true → ∀ o, ops[l]? = some o → ¬ ∀ e ∈ o.after, Region.binds md e = true → done.getD e.on false = true
  | 0, _, h, _, _, _ => by cases h
  | n + 1, l, h, o, ho, hall => by
    unfold waitsT at h
    rw [ho] at h
    simp only [Array.any_eq_true', Bool.and_eq_true, Bool.or_eq_true, beq_iff_eq] at h
    obtain ⟨e, he, hb, hon⟩ := h
    have h1 := hall e he hb
    rcases hon with hon | hon
    · rw [hon] at h1
      exact done_both h1 hi
    · cases ho' : ops[e.on]? with
      | none => cases n with
        | zero => cases hon
        | succ n => unfold waitsT at hon; rw [ho'] at hon; cases hon
      | some o' => exact waits_done hc hi n e.on hon o' ho' (hc e.on o' ho' h1)
theorem waits_ne {i n l : Nat} {done : Array Bool} (hc : Closed md ops done) (h : waitsT md ops i n l = true) (hi : i ∈ Region.ready md ops done) : l ∉ Region.ready md ops done := by
  intro hl
  obtain ⟨_, o, ho, hall⟩ := mem_ready.1 hl
  exact waits_done hc (mem_ready.1 hi).1 n l h o ho hall
theorem wpLast_first {i : Nat} {oi : Oper} {v : Value} {S0 : World → Prop} (hi : ops[i]? = some oi) (hsel : Region.noSelect ops = true) (hQ : ∀ c a w, Q (.panic c) (a.put oi.dst v) w → Q (.panic c) a w) (n : Nat) :
    ∀ (done : Array Bool) (a : Act) (w : World), Closed md ops done → (∀ j oj, ops[j]? = some oj → j ≠ i → done.getD j true = false → (∀ e ∈ oj.after, Region.binds md e = true → e.on ≠ i) → oi.apart ops oj = true) → i ∈ Region.ready md ops done → YieldsIf P ops S0 oi v a → ((∀ w, S0 w) ∨ ((∀ l, l ∈ L → waitsT md ops i ops.size l = true) ∧ (∀ w, S w → S0 w) ∧ S w)) → wpLast P md ops Q S L n (done.setIfInBounds i true) (a.put oi.dst v) w → wpLast P md ops Q S L (n + 1) done a w := by
  have sel := Region.noSelect_spec hsel
  have now : ∀ {w : World}, ((∀ w, S0 w) ∨ ((∀ l, l ∈ L → waitsT md ops i ops.size l = true) ∧ (∀ w, S w → S0 w) ∧ S w)) → S0 w := fun h => h.elim (fun h => h _) (fun h => h.2.1 _ h.2.2)
  induction n with
  | zero =>
    intro done a w _ _ hr hy hS H
    refine ⟨fun h0 => (by rw [h0] at hr; cases hr), fun j hj => ?_⟩
    rcases Nat.decEq j i with hji | hji
    · have := ready_mono hj hji
      rw [H.1] at this
      cases this
    · subst hji; exact hy.wpOp hi (now hS) ⟨fun h => .inr h, H⟩
  | succ n ih =>
    intro done a w hcl hfree hr hy hS H
    refine ⟨fun h0 => (by rw [h0] at hr; cases hr), fun j hj => ?_⟩
    rcases Nat.decEq j i with hji | hji
    rotate_left
    · subst hji; exact hy.wpOp hi (now hS) ⟨fun h => .inr h, H⟩
    · obtain ⟨hjd, oj, hoj, hall⟩ := mem_ready.1 hj
      have hi0 := (mem_ready.1 hr).1
      have hno : ∀ e ∈ oj.after, Region.binds md e = true → e.on ≠ i := fun e he hb heq => done_both (heq ▸ hall e he hb) hi0
      have step := wpOp_putIf hoj (hfree j oj hoj hji hjd hno) (fun cs b => sel i oi cs b hi) (fun cs b => sel j oj cs b hoj) hQ hy (H.2 j (ready_mono hj hji))
      refine wpOp_mono (fun a' w' h3 => ?_) step
      refine ⟨h3.2.1, ih (done.setIfInBounds j true) a' w' (hcl.step hj) (fun k ok hk hki hun hkn => hfree k ok hk hki ?_ hkn) (ready_mono hr (Ne.symm hji)) h3.1 ?_ ?_⟩
      · rcases Nat.decEq j k with hjk | hjk
        · rwa [getD_set_ne true hjk] at hun
        · exact hjk ▸ hjd
      · exact hS.imp (fun h => h) (fun h => ⟨h.1, h.2.1, (h3.2.1 h.2.2).resolve_left fun e => waits_ne hcl (h.1 j e) hr hj⟩)
      · rw [Array.setIfInBounds_comm _ _ hji]
        exact h3.2.2
/-- An operation that reads is taken first. -/
theorem wpLast_take {i : Nat} {oi : Oper} {v : Value} {n : Nat} {done : Array Bool} {a : Act} {w : World} (hi : ops[i]? = some oi) (hs : Region.noSelect ops = true) (hf : Region.free md ops done i = true) (hr : (Region.ready md ops done).contains i = true) (hL : (L.all fun l => waitsT md ops i ops.size l) = true) (hcl : closedB md ops done = true)
    (hQ : ∀ c a w, Q (.panic c) (a.put oi.dst v) w → Q (.panic c) a w) (hg : oi.guard = none) (hy : ∀ w, S w → (execOp a.eval oi).run P w = .ok (.value v) w) (hS : S w)
    (h : wpLast P md ops Q S L n (done.setIfInBounds i true) (a.put oi.dst v) w) : wpLast P md ops Q S L (n + 1) done a w :=
  wpLast_first (S0 := S) hi hs hQ n done a w (closedB_spec hcl) (Region.free_spec hi hf) (by simpa using hr) (.inl ⟨want0 hg, hy⟩) (.inr ⟨fun l hl => by rw [List.all_eq_true] at hL; exact hL l hl, fun _ h => h, hS⟩) h
/-- One that yields in whatever world. -/
theorem wpLast_free {i : Nat} {oi : Oper} {v : Value} {n : Nat} {done : Array Bool} {a : Act} {w : World} (hi : ops[i]? = some oi) (hs : Region.noSelect ops = true) (hf : Region.free md ops done i = true) (hr : (Region.ready md ops done).contains i = true) (hcl : closedB md ops done = true)
    (hQ : ∀ c a w, Q (.panic c) (a.put oi.dst v) w → Q (.panic c) a w) (hg : oi.guard = none) (hy : ∀ w, (execOp a.eval oi).run P w = .ok (.value v) w)
    (h : wpLast P md ops Q S L n (done.setIfInBounds i true) (a.put oi.dst v) w) : wpLast P md ops Q S L (n + 1) done a w :=
  wpLast_first (S0 := fun _ => True) hi hs hQ n done a w (closedB_spec hcl) (Region.free_spec hi hf) (by simpa using hr) (.inl ⟨want0 hg, fun w _ => hy w⟩) (.inl fun _ => trivial) h
theorem wpLast_all {rs : List Nat} {n : Nat} {done : Array Bool} {a : Act} {w : World} (hr : Region.ready md ops done = rs) (hne : rs ≠ []) (h : ∀ j, j ∈ rs → wpOp P ops Q j (fun a' w' => (S w → j ∈ L ∨ S w') ∧ wpLast P md ops Q S L n (done.setIfInBounds j true) a' w') a w) : wpLast P md ops Q S L (n + 1) done a w :=
  ⟨fun h0 => absurd (hr ▸ h0) hne, hr ▸ h⟩
theorem wpLast_done {done : Array Bool} {a : Act} {w : World} (hr : Region.ready md ops done = []) (h : Q .normal a w) : ∀ n, wpLast P md ops Q S L n done a w
  | 0 => ⟨hr, h⟩
  | _ + 1 => ⟨fun _ => h, by rw [hr]; simp⟩
theorem last_MA {A : Act} {n : Nat} {done : Array Bool} {w : World} (k m : Nat) (h : wpLast P md ops Q S L n done (MA (A.tmps.toList.take k) ((A.tmps.toList.drop k).take m) (A.tmps.toList.drop (k + m)) A.defers) w) : wpLast P md ops Q S L n done A w := by
  rw [MA.of A k m]; exact h
theorem wpOp_val {i : Nat} {o : Oper} {v : Value} {a : Act} {w w' : World} {K : Act → World → Prop} (hi : ops[i]? = some o) (hg : o.guard = none) (he : (execOp a.eval o).run P w = .ok (.value v) w') (h : K (a.put o.dst v) w') : wpOp P ops Q i K a w := by
  unfold wpOp
  simp only [hi, want0 hg, if_true]
  refine .inl ?_
  unfold Oper.wp
  rw [he]
  exact h
theorem wpOp_skip {i : Nat} {o : Oper} {a : Act} {w w' : World} {K : Act → World → Prop} (hi : ops[i]? = some o) (hg : o.guard = none) (he : (execOp a.eval o).run P w = .ok .skip w') (h : K (a.put o.dst undef) w') : wpOp P ops Q i K a w := by
  unfold wpOp
  simp only [hi, want0 hg, if_true]
  refine .inl ?_
  unfold Oper.wp
  rw [he]
  exact h
theorem wpOp_call {i : Nat} {o : Oper} {a : Act} {w : World} {K : Act → World → Prop} {f : FuncId} {args : Array Value} {R : Ending → World → Prop} (hi : ops[i]? = some o) (hg : o.guard = none) (he : (execOp a.eval o).run P w = .ok (.enter f args) w) (hc : Calls P f args w R) (h : ∀ e w', R e w' → ∃ v, e = .returned v ∧ K (a.put o.dst v) w') : wpOp P ops Q i K a w := by
  unfold wpOp
  simp only [hi, want0 hg, if_true]
  refine .inl ?_
  unfold Oper.wp
  rw [he]
  refine hc.mono ?_
  intro e w' hr
  obtain ⟨v, rfl, hk⟩ := h e w' hr
  exact hk
theorem wp_region_last {id : Nat} {a : Act} {w : World} {l : List Oper} (hm : P.follows .mixedOrders = true) (h : wpLast P .any l.toArray Q S L l.length (Array.replicate l.length false) a { w with drawn := w.drawn + 1 }) : (Code.region id l.toArray true).wp P Q a w :=
  wp_region_any hm (by simpa using h.any)
end
end Go.Proofs.YtpbolcjcmkmalaaGreatDoor
namespace Go.Proofs.YtpbolcjcmkmalaaGreatDoor
open Go.RowKit Go.Extern.Stop Go.Stop Go.Extern

theorem setCells_blk (b : Nat) : ∀ (vs : List Value) (o : Nat) (W : World) (k : Nat), k ≠ b → (W.setCells b o vs).heap[k]? = W.heap[k]?
  | [], _, _, _, _ => rfl
  | v :: r, o, W, k, hk => by
    rw [World.setCells, setCells_blk b r (o + 1) _ k hk]
    exact Below.heap_setCell _ _ _ _ hk
theorem setCells_rest (b : Nat) : ∀ (vs : List Value) (o : Nat) (W : World), (W.setCells b o vs).os = W.os ∧ (W.setCells b o vs).tape = W.tape ∧ (W.setCells b o vs).output = W.output ∧ (W.setCells b o vs).heap.size = W.heap.size
  | [], _, _ => ⟨rfl, rfl, rfl, rfl⟩
  | v :: r, o, W => by
    obtain ⟨h1, h2, h3, h4⟩ := setCells_rest b r (o + 1) (W.setCell ⟨b, o, none⟩ v)
    rw [World.setCells]
    exact ⟨h1, h2, h3, h4.trans (by simp)⟩
theorem setCells_heap (b : Nat) : ∀ (vs : List Value) (o : Nat) {W W' : World}, W.heap = W'.heap → (W.setCells b o vs).heap = (W'.setCells b o vs).heap
  | [], _, _, _, h => h
  | v :: r, o, W, W', h => by
    rw [World.setCells, World.setCells]
    refine setCells_heap b r (o + 1) ?_
    unfold World.setCell
    rw [h]
theorem setCell_row {w : World} {g o : Nat} {cur : Array Value} {T : TypeId} {fr : Nat × Nat} (v : Value) (h : w.heap[g]? = some (.cells cur T fr)) : (w.setCell ⟨g, o, none⟩ v).heap[g]? = some (.cells (cur.setIfInBounds o v) T fr) := by
  have hlt := (Array.getElem?_eq_some_iff.1 h).1
  simp [World.setCell, Array.getElem?_modify, h]
theorem setCells_row (g : Nat) (T : TypeId) (fr : Nat × Nat) : ∀ (vs : List Value) (o : Nat) (w : World) (cur : Array Value), w.heap[g]? = some (.cells cur T fr) → o + vs.length ≤ cur.size → ∃ cur', (w.setCells g o vs).heap[g]? = some (.cells cur' T fr) ∧ cur'.size = cur.size ∧ cur'.toList = cur.toList.take o ++ vs ++ cur.toList.drop (o + vs.length)
  | [], o, w, cur, h, hl => ⟨cur, h, rfl, by simp⟩
  | v :: r, o, w, cur, h, hl => by
    rw [List.length_cons] at hl
    obtain ⟨cur', h1, h2, h3⟩ := setCells_row g T fr r (o + 1) (w.setCell ⟨g, o, none⟩ v) (cur.setIfInBounds o v) (setCell_row v h) (by simp; omega)
    refine ⟨cur', by rw [World.setCells]; exact h1, by rw [h2]; simp, ?_⟩
    rw [h3, Array.toList_setIfInBounds]
    have ho : o < cur.toList.length := by simp; omega
    have e1 : (cur.toList.set o v).take (o + 1) = cur.toList.take o ++ [v] := by
      rw [List.take_succ_eq_append_getElem (by simpa using ho), List.getElem_set_self, List.take_set_of_le (Nat.le_refl _)]
    have e2 : (cur.toList.set o v).drop (o + 1 + r.length) = cur.toList.drop (o + 1 + r.length) := by
      rw [List.drop_set_of_lt (by omega)]
    rw [e1, e2, List.length_cons, show o + 1 + r.length = o + (r.length + 1) by omega]
    simp
variable {P : Program}
/-- ALL IS READ BEFORE ANYTHING IS WRITTEN. -/
theorem run_copy_k (w : World) (dT sT ty elem : TypeId) (b o dLen dCap : Nat) (a : Addr) (sLen sCap k : Nat) (cs : List Value)
    (hu : P.underlying dT = some (.slice elem)) (hs : (P.info? elem).map (·.size) = some k) (hn : cs.length = Nat.min sLen dLen * k)
    (hsrc : ∀ j v, cs[j]? = some v → w.cell? (a.add j) = some v) (hc : ∀ j, j < cs.length → (w.cell? ⟨b, o + j, none⟩).isSome = true) (hf : ∀ j, j < cs.length → w.frozen? ⟨b, o + j, none⟩ = false) (h1 : ∀ v ∈ cs, v.oneCell' = true) :
    (Builtin.copy_ #[dT, sT] ty #[.slice (some ⟨b, o, none⟩) dLen dCap, .slice (some a) sLen sCap]).run P w = .ok (goInt (Nat.min sLen dLen)) (w.setCells b o cs) := by
  have hl := run_loadCells_list (P := P) w a cs hsrc
  have hst := run_storeCells_cells (P := P) b o cs 0 w (by simpa using hc) (by simpa using hf) h1
  cases hq : P.info? elem with
  | none => simp [hq] at hs
  | some i =>
    have hi : i.size = k := by simpa [hq] using hs
    simp only [Nat.add_zero] at hst
    simp [Builtin.copy_, run_underlying hu, Builtin.lenOf, Builtin.firstCells, sizeOf, typeInfo, hq, hi, ← hn, hl, hst]
theorem wp_copy_r (w : World) {o : Oper} {a : Act} {K : Act → World → Prop} {Q : Exit → Act → World → Prop} (d s : Operand) (t t' : TypeId)
    (ho : o.op = .call { callee := .builtin .copy, args := #[d, s], argTypes := #[t, t'] }) (v u : Value) (hd : a.eval d = v) (hs : a.eval s = u) {v' : Value} {w' : World}
    (hr : (Builtin.copy_ #[t, t'] o.type #[v, u]).run P w = .ok v' w') (h : K (a.put o.dst v') w') : o.wp P a w K Q := by
  unfold Oper.wp execOp
  simp only [ho, resolve, invoke, builtin, Sem.run_bind, Sem.run_pure, Result.andThen_ok, List.map_toArray, List.map_cons, List.map_nil, hd, hs, hr]
  exact h
theorem wpList_copy_r (w : World) {ops : Array Oper} {rest : List Oper} {o : Oper} {a : Act} {Q : Exit → Act → World → Prop} (hgd : o.guard = none) (d s : Operand) (t t' : TypeId)
    (ho : o.op = .call { callee := .builtin .copy, args := #[d, s], argTypes := #[t, t'] }) (v u : Value) (hd : a.eval d = v) (hs : a.eval s = u) {v' : Value} {w' : World}
    (hr : (Builtin.copy_ #[t, t'] o.type #[v, u]).run P w = .ok v' w') (h : wpList P ops Q rest (a.put o.dst v') w') : wpList P ops Q (o :: rest) a w :=
  wpList_plain hgd fun _ hK => wp_copy_r w d s t t' ho v u hd hs hr (hK _ _ h)
theorem step_copy_r {ops : Array Oper} {o : Oper} {a : Act} {w : World} {K : Act → World → Prop} {Q : Exit → Act → World → Prop} {E : Prop}
    (hg : o.guard = none) (d x : Operand) (dT sT : TypeId) (hop : o.op = Op.call { callee := Callee.builtin Builtin.copy, args := #[d, x], argTypes := #[dT, sT] })
    (v u : Value) (hd : a.eval d = v) (hx : a.eval x = u) {v' : Value} {w' : World} (hr : (Builtin.copy_ #[dT, sT] o.type #[v, u]).run P w = .ok v' w') (hK : K (a.put o.dst v') w') :
    if Region.wanted o (yielded ops a.tmps) = true then Oper.wp P o a w K Q else E := by
  have hw : Region.wanted o (yielded ops a.tmps) = true := by simp [Region.wanted, hg]
  rw [if_pos hw]
  unfold Oper.wp
  simp [execOp, hop, resolve, invoke, builtin, hd, hx, hr, Result.andThen]
  exact hK
/-- What clear leaves. -/
theorem run_clear_k (w : World) (t e ty : TypeId) (z : Value) (k : Nat) (ht : P.underlying t = some (.slice e)) (hv : ∀ w, (zeroValue e).run P w = .ok z w) (hz : z.cells.size = k) (h1 : ∀ i (h : i < z.cells.size), (z.cells[i]).oneCell' = true) (b o n c : Nat) (hn : 0 < n) (hc : ∀ j, j < n * k → (w.cell? ⟨b, o + j, none⟩).isSome = true) (hf : ∀ j, j < n * k → w.frozen? ⟨b, o + j, none⟩ = false) :
    ∃ zs : List Value, zs.length = n * k ∧ (Builtin.clear_ #[t] ty #[.slice (some ⟨b, o, none⟩) n c]).run P w = .ok (.tuple #[]) (w.setCells b o zs) := by
  have hl : (Builtin.zeroCells z.cells n).toList.length = n * k := by simp [Builtin.zeroCells, hz]
  refine ⟨(Builtin.zeroCells z.cells n).toList, hl, ?_⟩
  have hone : ∀ v ∈ (Builtin.zeroCells z.cells n).toList, v.oneCell' = true := fun v hv' => by
    simp only [Builtin.zeroCells, Array.toList_map, List.mem_map] at hv'
    obtain ⟨i, hi, rfl⟩ := hv'
    have hpos : 0 < z.cells.size := by
      rcases Nat.eq_zero_or_pos z.cells.size with h0 | h0
      · rw [h0] at hi; simp at hi
      · exact h0
    have hlt := Nat.mod_lt i hpos
    rw [getElem!_pos z.cells (i % z.cells.size) hlt]
    exact h1 _ hlt
  have hst := run_storeCells_cells (P := P) b o (Builtin.zeroCells z.cells n).toList 0 w (fun j hj => by rw [Nat.add_zero]; exact hc j (by omega)) (fun j hj => by rw [Nat.add_zero]; exact hf j (by omega)) hone
  simp only [Nat.add_zero] at hst
  obtain ⟨m, rfl⟩ : ∃ m, n = m + 1 := ⟨n - 1, by omega⟩
  simp [Builtin.clear_, run_underlying ht, hv, hst]
theorem wpList_clear_r (w : World) {ops : Array Oper} {rest : List Oper} {o : Oper} {a : Act} {Q : Exit → Act → World → Prop} (hgd : o.guard = none) (d : Operand) (t : TypeId)
    (ho : o.op = .call { callee := .builtin .clear, args := #[d], argTypes := #[t] }) (v : Value) (hd : a.eval d = v) {v' : Value} {w' : World}
    (hr : (Builtin.clear_ #[t] o.type #[v]).run P w = .ok v' w') (h : wpList P ops Q rest (a.put o.dst v') w') : wpList P ops Q (o :: rest) a w := by
  refine wpList_plain hgd fun K hK => ?_
  unfold Oper.wp execOp
  simp only [ho, resolve, invoke, builtin, Sem.run_bind, Sem.run_pure, Result.andThen_ok, List.map_toArray, List.map_cons, List.map_nil, hd, hr]
  exact hK _ _ h
/-- A row of the call's own, its block written out. -/
structure RowB (w : World) (B : Nat) (T k : Nat) (g cap n : Nat) (cur : Array Value) (xs : List Value) : Prop where
  hB : B ≤ g
  blk : w.heap[g]? = some (.cells cur T (0, 0))
  le : n ≤ cap
  mx : cap ≤ maxLen
  sz : cur.size = cap * k
  is : cur.toList.take (n * k) = xs
  len : xs.length = n * k
theorem row_b {w : World} {B T k n : Nat} {v : Value} {xs : List Value} (h : w.ownsRow B T k v n xs) (hn : 0 < n) : ∃ g cap cur, v = .slice (some ⟨g, 0, none⟩) n cap ∧ RowB w B T k g cap n cur xs := by
  rcases h.2 with ⟨_, h0⟩ | ⟨g, cap, cur, e, h1, h2, h3, h4, h5, h6⟩
  · omega
  · exact ⟨g, cap, cur, e, h1, h2, h3, h4, h5, h6, h.1⟩
theorem RowB.row {w : World} {B T k g cap n : Nat} {cur : Array Value} {xs : List Value} (h : RowB w B T k g cap n cur xs) : w.ownsRow B T k (.slice (some ⟨g, 0, none⟩) n cap) n xs := ⟨h.len, .inr ⟨g, cap, cur, rfl, h.hB, h.blk, h.le, h.mx, h.sz, h.is⟩⟩
theorem RowB.lt {w : World} {B T k g cap n : Nat} {cur : Array Value} {xs : List Value} (h : RowB w B T k g cap n cur xs) : g < w.heap.size := (Array.getElem?_eq_some_iff.1 h.blk).1
theorem RowB.cell {w : World} {B T k g cap n : Nat} {cur : Array Value} {xs : List Value} (h : RowB w B T k g cap n cur xs) {j : Nat} {v : Value} (hj : xs[j]? = some v) : w.cell? ⟨g, j, none⟩ = some v := by
  have hlt := (List.getElem?_eq_some_iff.1 hj).1
  rw [← h.is, List.getElem?_take, if_pos (by rw [h.len] at hlt; exact hlt)] at hj
  simp only [World.cell?, h.blk]
  simpa using hj
theorem RowB.some' {w : World} {B T k g cap n : Nat} {cur : Array Value} {xs : List Value} (h : RowB w B T k g cap n cur xs) {j : Nat} (hj : j < cap * k) : (w.cell? ⟨g, j, none⟩).isSome = true := by
  simp only [World.cell?, h.blk]
  have : j < cur.size := by rw [h.sz]; exact hj
  simp [this]
theorem RowB.frozen {w : World} {B T k g cap n : Nat} {cur : Array Value} {xs : List Value} (h : RowB w B T k g cap n cur xs) (j : Nat) : w.frozen? ⟨g, j, none⟩ = false := by
  simp [World.frozen?, h.blk]
/-- Cells of the row are written. -/
theorem RowB.set {w : World} {B T k g cap n : Nat} {cur : Array Value} {xs : List Value} (h : RowB w B T k g cap n cur xs) (o : Nat) (vs : List Value) (ho : o + vs.length ≤ cap * k) {m : Nat} (hm : m ≤ cap) {ys : List Value} (hy : (cur.toList.take o ++ vs ++ cur.toList.drop (o + vs.length)).take (m * k) = ys) (hl : ys.length = m * k) : ∃ cur', RowB (w.setCells g o vs) B T k g cap m cur' ys ∧ cur'.toList = cur.toList.take o ++ vs ++ cur.toList.drop (o + vs.length) := by
  obtain ⟨cur', h1, h2, h3⟩ := setCells_row g T (0, 0) vs o w cur h.blk (by rw [h.sz]; exact ho)
  exact ⟨cur', ⟨h.hB, h1, hm, h.mx, by rw [h2, h.sz], by rw [h3]; exact hy, hl⟩, h3⟩
theorem grown_set {w w' : World} {g : Nat} (h : w.grownBy w' (some g)) (o : Nat) (vs : List Value) : w.grownBy (w'.setCells g o vs) (some g) := by
  obtain ⟨h1, h2, h3, h4⟩ := setCells_rest g vs o w'
  exact ⟨h1.trans h.os, h2.trans h.tape, h3.trans h.output, by rw [h4]; exact h.size, fun k hk hne => (setCells_blk g vs o w' k (fun e => hne (by rw [e]))).trans (h.block k hk hne)⟩
theorem grown_refl (w : World) (row : Option Nat) : w.grownBy w row := ⟨rfl, rfl, rfl, Nat.le_refl _, fun _ _ _ => rfl⟩
theorem grown_drew {w w' : World} {row : Option Nat} (h : w.grownBy w' row) : w.grownBy w'.drew row := ⟨h.os, h.tape, h.output, h.size, h.block⟩
theorem grown_alloc {w w' : World} {row : Option Nat} (h : w.grownBy w' row) (o : Obj) : w.grownBy (w'.alloc o) row := ⟨h.os, h.tape, h.output, by have := h.size; simp; omega, fun k hk hne => by rw [Go.Deep.blk_alloc_lt _ _ _ (by have := h.size; omega)]; exact h.block k hk hne⟩
/-- Writes to a new block alone. -/
theorem grown_new {w w' : World} {row : Option Nat} {g : Nat} (h : w.grownBy w' row) (hg : w.heap.size ≤ g) (o : Nat) (vs : List Value) : w.grownBy (w'.setCells g o vs) row := by
  obtain ⟨h1, h2, h3, h4⟩ := setCells_rest g vs o w'
  exact ⟨h1.trans h.os, h2.trans h.tape, h3.trans h.output, by rw [h4]; exact h.size, fun k hk hne => (setCells_blk g vs o w' k (by omega)).trans (h.block k hk hne)⟩
end Go.Proofs.YtpbolcjcmkmalaaGreatDoor

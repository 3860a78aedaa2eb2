/-
  errors.Is by its contracts at this seat's numbers: 23 error, 144 *errors.errorString, 163 errors.errorString, 59 *api.Fault, 80 rtype, 82 / 85 / 87 the three assertions of errors.is; 18 package-level variables; 275 = types and 100.
-/
import Derived.Test.YtcfeflkhmncmjaaGreatDoorProg
import Derived.WalkKit
import Derived.LaidEql
import Derived.Stop.Asserts
import Derived.RowKitTokens
import Derived.Below
import Derived.Outline
import Derived.Deep.QuietTactic
import Derived.BigQuiet
namespace Go.Proofs.YtcfeflkhmncmjaaGreatDoor
open Go.RowKit Go.Extern.Stop Go.Stop Go.Extern

theorem Tryz.isTypeOf (v : Value) (w : World) : (Extern.ReflectliteType.typeOf #[.iface 193 v]).run Tryz.prog w = .ok (.iface 137 (.agg #[.pointer (some ⟨12, 193, none⟩)])) w := by kernel_rfl
def cmpE : Array Value → Sem Value := Extern.ReflectliteType.method fun t => do Extern.Rtype.noPackHeld "Comparable" t; pure (.bool (← typeInfo t).comparable)
theorem Tryz.isComparable (w : World) : (cmpE #[.agg #[.pointer (some ⟨12, 193, none⟩)]]).run Tryz.prog w = .ok (.bool true) w := by kernel_rfl
theorem Tryz.isMethodComparable (v : Value) (w : World) : (Go.method 326 137 v "Comparable").run Tryz.prog w = .ok (141, v) w := by kernel_rfl
theorem Tryz.isComp : (Tryz.prog.info? 193).map (·.comparable) = some true := by kernel_rfl
theorem Tryz.isSize : (Tryz.prog.info? 214).map (·.size) = some 1 := by kernel_rfl

theorem Tryz.noIsE (v : Value) (xT : TypeId) (w : World) : (Instr.typeAssert (.iface 193 v) xT 147 true).run Tryz.prog w = .ok (.tuple #[.nilIface, .bool false]) w := run_typeAssert_lacksB Tryz.underlying147 (by kernel_rfl) (by kernel_rfl) v xT w
theorem Tryz.noUnwrapE (v : Value) (xT : TypeId) (w : World) : (Instr.typeAssert (.iface 193 v) xT 144 true).run Tryz.prog w = .ok (.tuple #[.nilIface, .bool false]) w := run_typeAssert_lacksB Tryz.underlying144 (by kernel_rfl) (by kernel_rfl) v xT w
theorem Tryz.noUnwrapsE (v : Value) (xT : TypeId) (w : World) : (Instr.typeAssert (.iface 193 v) xT 145 true).run Tryz.prog w = .ok (.tuple #[.nilIface, .bool false]) w := run_typeAssert_lacksB Tryz.underlying145 (by kernel_rfl) (by kernel_rfl) v xT w
theorem Tryz.noIsW (v : Value) (xT : TypeId) (w : World) : (Instr.typeAssert (.iface 91 v) xT 147 true).run Tryz.prog w = .ok (.tuple #[.nilIface, .bool false]) w := run_typeAssert_lacksB Tryz.underlying147 (by kernel_rfl) (by kernel_rfl) v xT w
theorem Tryz.hasUnwrapW (v : Value) (xT : TypeId) (w : World) : (Instr.typeAssert (.iface 91 v) xT 144 true).run Tryz.prog w = .ok (.tuple #[.iface 91 v, .bool true]) w := run_typeAssert_hasB Tryz.underlying144 (by kernel_rfl) v xT w
theorem Tryz.methodUnwrap (v : Value) (w : World) : (Go.method 326 91 v "Unwrap").run Tryz.prog w = .ok (135, v) w := by kernel_rfl

/-- errors.Is(x, x), x a pointer to an errors.errorString. -/
theorem is_same (a : Addr) (w : World) :
    Calls Tryz.prog 45 #[.iface 193 (.pointer (some a)), .iface 193 (.pointer (some a))] w fun e w' => e = .returned (.bool true) ∧ w' = w := by
  obtain ⟨i, hi, hcmp⟩ := Option.map_eq_some_iff.1 Tryz.isComp
  obtain ⟨j, hj, hjs⟩ := Option.map_eq_some_iff.1 Tryz.isSize
  have h8 := @run_callFunc_extern Tryz.prog 59 _ Extern.ReflectliteType.typeOf Tryz.func59 (by kernel_rfl) (by kernel_rfl) (by kernel_rfl) (by kernel_rfl)
  have h32 := @run_callFunc_extern Tryz.prog 141 _ cmpE Tryz.func141 (by kernel_rfl) (by kernel_rfl) (by kernel_rfl) (by kernel_rfl)
  have tT := Tryz.isTypeOf
  have cT := Tryz.isComparable
  have mR := Tryz.isMethodComparable
  have heq := run_eql_iface_ptr_same (P := Tryz.prog) w a Tryz.underlying39 Tryz.underlying193 hi hcmp hj
  go_enter Tryz.func45, Tryz.ntmps45
  go_wp2
  refine wp_loop_rounds 1 ?_
  rw [rounds_succ]
  go_wp2
  go_ret
  exact ⟨rfl, rfl⟩

/-- errors.Is(x, y), two different pointers to errors.errorString: neither has Is nor Unwrap: false. -/
theorem is_other (a b : Addr) (ca cb : Array Value) (ta tb : TypeId) (w : World) (hne : a ≠ b) (ha : w.heap[a.block]? = some (.cells ca ta (0, 0))) (hb : w.heap[b.block]? = some (.cells cb tb (0, 0))) :
    Calls Tryz.prog 45 #[.iface 193 (.pointer (some a)), .iface 193 (.pointer (some b))] w fun e w' => e = .returned (.bool false) ∧ w' = w := by
  obtain ⟨i, hi, hcmp⟩ := Option.map_eq_some_iff.1 Tryz.isComp
  obtain ⟨j, hj, hjs⟩ := Option.map_eq_some_iff.1 Tryz.isSize
  have h8 := @run_callFunc_extern Tryz.prog 59 _ Extern.ReflectliteType.typeOf Tryz.func59 (by kernel_rfl) (by kernel_rfl) (by kernel_rfl) (by kernel_rfl)
  have h32 := @run_callFunc_extern Tryz.prog 141 _ cmpE Tryz.func141 (by kernel_rfl) (by kernel_rfl) (by kernel_rfl) (by kernel_rfl)
  have tT := Tryz.isTypeOf
  have cT := Tryz.isComparable
  have mR := Tryz.isMethodComparable
  have nE := Tryz.noIsE
  have uE := Tryz.noUnwrapE
  have vE := Tryz.noUnwrapsE
  have heq := run_eql_iface_ptr_other (P := Tryz.prog) w Tryz.underlying39 Tryz.underlying193 hi hcmp hj (by rw [hjs]; decide) hne ha hb
  go_enter Tryz.func45, Tryz.ntmps45
  go_wp2
  refine wp_loop_rounds 1 ?_
  rw [rounds_succ]
  go_wp2
  go_ret
  exact ⟨rfl, rfl⟩

/-- errors.Is(f, x), f an *api.Fault whose Err is x itself: one Unwrap, then equal. -/
theorem is_wrap_same (pb po : Nat) (b : Addr) (w : World) (h1 : w.cell? ⟨pb, po + 1, none⟩ = some (.iface 193 (.pointer (some b)))) :
    Calls Tryz.prog 45 #[.iface 91 (.pointer (some ⟨pb, po, none⟩)), .iface 193 (.pointer (some b))] w fun e w' => e = .returned (.bool true) ∧ w' = w := by
  obtain ⟨i, hi, hcmp⟩ := Option.map_eq_some_iff.1 Tryz.isComp
  obtain ⟨j, hj, hjs⟩ := Option.map_eq_some_iff.1 Tryz.isSize
  have h8 := @run_callFunc_extern Tryz.prog 59 _ Extern.ReflectliteType.typeOf Tryz.func59 (by kernel_rfl) (by kernel_rfl) (by kernel_rfl) (by kernel_rfl)
  have h32 := @run_callFunc_extern Tryz.prog 141 _ cmpE Tryz.func141 (by kernel_rfl) (by kernel_rfl) (by kernel_rfl) (by kernel_rfl)
  have tT := Tryz.isTypeOf
  have cT := Tryz.isComparable
  have mR := Tryz.isMethodComparable
  have nW := Tryz.noIsW
  have uW := Tryz.hasUnwrapW
  have mU := Tryz.methodUnwrap
  have heq := run_eql_iface_ptr_same (P := Tryz.prog) w b Tryz.underlying39 Tryz.underlying193 hi hcmp hj
  have hty := run_eql_iface_types (P := Tryz.prog) 91 193 (.pointer (some ⟨pb, po, none⟩)) (.pointer (some b)) Tryz.underlying39 (by decide) w
  go_enter Tryz.func45, Tryz.ntmps45
  go_wp2
  refine wp_loop_rounds 2 ?_
  rw [rounds_succ]
  go_wp2
  rw [rounds_succ]
  go_wp2
  go_ret
  exact ⟨rfl, rfl⟩

/-- errors.Is(f, x), f an *api.Fault whose Err is another error of errors.New's make. -/
theorem is_wrap_other (pb po : Nat) (b a : Addr) (ca cb : Array Value) (ta tb : TypeId) (w : World) (h1 : w.cell? ⟨pb, po + 1, none⟩ = some (.iface 193 (.pointer (some a)))) (hne : a ≠ b) (ha : w.heap[a.block]? = some (.cells ca ta (0, 0))) (hb : w.heap[b.block]? = some (.cells cb tb (0, 0))) :
    Calls Tryz.prog 45 #[.iface 91 (.pointer (some ⟨pb, po, none⟩)), .iface 193 (.pointer (some b))] w fun e w' => e = .returned (.bool false) ∧ w' = w := by
  obtain ⟨i, hi, hcmp⟩ := Option.map_eq_some_iff.1 Tryz.isComp
  obtain ⟨j, hj, hjs⟩ := Option.map_eq_some_iff.1 Tryz.isSize
  have h8 := @run_callFunc_extern Tryz.prog 59 _ Extern.ReflectliteType.typeOf Tryz.func59 (by kernel_rfl) (by kernel_rfl) (by kernel_rfl) (by kernel_rfl)
  have h32 := @run_callFunc_extern Tryz.prog 141 _ cmpE Tryz.func141 (by kernel_rfl) (by kernel_rfl) (by kernel_rfl) (by kernel_rfl)
  have tT := Tryz.isTypeOf
  have cT := Tryz.isComparable
  have mR := Tryz.isMethodComparable
  have nE := Tryz.noIsE
  have uE := Tryz.noUnwrapE
  have vE := Tryz.noUnwrapsE
  have nW := Tryz.noIsW
  have uW := Tryz.hasUnwrapW
  have mU := Tryz.methodUnwrap
  have heq := run_eql_iface_ptr_other (P := Tryz.prog) w Tryz.underlying39 Tryz.underlying193 hi hcmp hj (by rw [hjs]; decide) hne ha hb
  have hty := run_eql_iface_types (P := Tryz.prog) 91 193 (.pointer (some ⟨pb, po, none⟩)) (.pointer (some b)) Tryz.underlying39 (by decide) w
  go_enter Tryz.func45, Tryz.ntmps45
  go_wp2
  refine wp_loop_rounds 2 ?_
  rw [rounds_succ]
  go_wp2
  rw [rounds_succ]
  go_wp2
  go_ret
  exact ⟨rfl, rfl⟩
end Go.Proofs.YtcfeflkhmncmjaaGreatDoor
namespace Go.Proofs.YtcfeflkhmncmjaaGreatDoor
open Go.RowKit Go.Extern.Stop Go.Stop Go.Extern

theorem Tryz.valueOf90 (t : Addr) (w : World) : (ReflectliteValue.unpack (.iface 93 (.pointer (some t)))).run Tryz.prog w
    = .ok (.agg #[.pointer (some ⟨12, 93, none⟩), .pointer (some ⟨w.heap.size, 0, none⟩), .int .u64 150]) (w.alloc (.cells #[.pointer (some t)] 93)) := by kernel_rfl
theorem Tryz.type90 (a : Addr) (w : World) : (ReflectliteValue.methodAny (ReflectliteValue.valueError "reflectlite.Value.Type" 0) (fun t _ _ _ => ReflectliteType.toType t) #[.agg #[.pointer (some ⟨12, 93, none⟩), .pointer (some a), .int .u64 150]]).run Tryz.prog w
    = .ok (.iface 137 (.agg #[.pointer (some ⟨12, 93, none⟩)])) w := by kernel_rfl
theorem Tryz.methodKind (h : Value) (w : World) : (Go.method 326 137 (.agg #[h]) "Kind").run Tryz.prog w = .ok (130, h) w := by kernel_rfl
theorem Tryz.kind90 (w : World) : ((ReflectliteType.abiMethod fun t => (fun a : Nat => Value.int IntKind.u8 (a : Int)) <$> Rtype.kind t) #[.pointer (some ⟨12, 93, none⟩)]).run Tryz.prog w = .ok (.int .u8 22) w := by kernel_rfl
theorem Tryz.kind59 (w : World) : ((ReflectliteType.abiMethod fun t => (fun a : Nat => Value.int IntKind.u8 (a : Int)) <$> Rtype.kind t) #[.pointer (some ⟨12, 91, none⟩)]).run Tryz.prog w = .ok (.int .u8 22) w := by kernel_rfl
theorem rlm (z : Sem Value) (f : TypeId → Addr → Nat → Nat → Sem Value) (v : Value) :
    ReflectliteValue.method z f #[v] = (do match ← ReflectliteValue.parts v with | none => z | some (t, a, fl) => f t a fl (fl % 32)) := rfl
theorem Tryz.parts90 (a : Addr) (w : World) : (ReflectliteValue.parts (.agg #[.pointer (some ⟨12, 93, none⟩), .pointer (some a), .int .u64 150])).run Tryz.prog w = .ok (some (93, a, 150)) w := by kernel_rfl
theorem Tryz.isNil90 (a p : Addr) (W : World) (ha : W.cell? a = some (.pointer (some p))) :
    (ReflectliteValue.method (ReflectliteValue.valueError "reflectlite.Value.IsNil" 0) ReflectliteValue.isNil #[.agg #[.pointer (some ⟨12, 93, none⟩), .pointer (some a), .int .u64 150]]).run Tryz.prog W = .ok (.bool false) W := by
  rw [rlm]
  simp only [Sem.run_bind, Tryz.parts90, Result.andThen]
  simp [ReflectliteValue.isNil, loadVar, isAgg, underlying, Tryz.underlying93, ha, Result.andThen]
theorem Tryz.methodElem (h : Value) (w : World) : (Go.method 326 137 (.agg #[h]) "Elem").run Tryz.prog w = .ok (142, .agg #[h]) w := by kernel_rfl
theorem Tryz.methodImplements (h : Value) (w : World) : (Go.method 326 137 (.agg #[h]) "Implements").run Tryz.prog w = .ok (143, .agg #[h]) w := by kernel_rfl
theorem Tryz.methodAssignableTo (h : Value) (w : World) : (Go.method 326 137 (.agg #[h]) "AssignableTo").run Tryz.prog w = .ok (140, .agg #[h]) w := by kernel_rfl
theorem Tryz.elem90 (w : World) : (ReflectliteType.method ReflectliteType.elem #[.agg #[.pointer (some ⟨12, 93, none⟩)]]).run Tryz.prog w = .ok (.iface 137 (.agg #[.pointer (some ⟨12, 91, none⟩)])) w := by kernel_rfl
theorem Tryz.implements59 (w : World) : (ReflectliteType.relation "Implements" ReflectliteType.implements_ #[.agg #[.pointer (some ⟨12, 91, none⟩)], .iface 137 (.agg #[.pointer (some ⟨12, 39, none⟩)])]).run Tryz.prog w = .ok (.bool true) w := by kernel_rfl
theorem Tryz.assignable144 (w : World) : (ReflectliteType.relation "AssignableTo" ReflectliteType.assignableTo #[.agg #[.pointer (some ⟨12, 193, none⟩)], .iface 137 (.agg #[.pointer (some ⟨12, 91, none⟩)])]).run Tryz.prog w = .ok (.bool false) w := by kernel_rfl
theorem Tryz.noAsE (v : Value) (xT : TypeId) (w : World) : (Instr.typeAssert (.iface 193 v) xT 141 true).run Tryz.prog w = .ok (.tuple #[.nilIface, .bool false]) w := run_typeAssert_lacksB Tryz.underlying141 (by kernel_rfl) (by kernel_rfl) v xT w

set_option maxHeartbeats 4000000 in
theorem as_miss (e t : Addr) (w : World) (hg : w.cell? ⟨11, 0, none⟩ = some (.iface 137 (.agg #[.pointer (some ⟨12, 39, none⟩)]))) :
    Calls Tryz.prog 44 #[.iface 193 (.pointer (some e)), .iface 93 (.pointer (some t))] w fun ev w' => ev = .returned (.bool false) ∧ w' = ((w.alloc (.cells #[.pointer (some t)] 93)).alloc (.cells #[.pointer (some ⟨12, 93, none⟩), .pointer (some ⟨w.heap.size, 0, none⟩), .int .u64 150] 112)).alloc (.cells #[.pointer (some ⟨12, 93, none⟩), .pointer (some ⟨w.heap.size, 0, none⟩), .int .u64 150] 112) := by
  have h6 := @run_callFunc_extern Tryz.prog 55 _ (fun args => ReflectliteValue.unpack (args.getD 0 (.tuple #[]))) Tryz.func55 (by kernel_rfl) (by kernel_rfl) (by kernel_rfl) (by kernel_rfl)
  have h7 := @run_callFunc_extern Tryz.prog 56 _ (ReflectliteValue.methodAny (ReflectliteValue.valueError "reflectlite.Value.Type" 0) (fun t _ _ _ => ReflectliteType.toType t)) Tryz.func56 (by kernel_rfl) (by kernel_rfl) (by kernel_rfl) (by kernel_rfl)
  have h8 := @run_callFunc_extern Tryz.prog 57 _ (ReflectliteValue.method (ReflectliteValue.valueError "reflectlite.Value.IsNil" 0) ReflectliteValue.isNil) Tryz.func57 (by kernel_rfl) (by kernel_rfl) (by kernel_rfl) (by kernel_rfl)
  have h27 := @run_callFunc_extern Tryz.prog 130 _ (ReflectliteType.abiMethod fun t => do pure (.int .u8 (← Rtype.kind t))) Tryz.func130 (by kernel_rfl) (by kernel_rfl) (by kernel_rfl) (by kernel_rfl)
  have h37 := @run_callFunc_extern Tryz.prog 142 _ (ReflectliteType.method ReflectliteType.elem) Tryz.func142 (by kernel_rfl) (by kernel_rfl) (by kernel_rfl) (by kernel_rfl)
  have h38 := @run_callFunc_extern Tryz.prog 143 _ (ReflectliteType.relation "Implements" ReflectliteType.implements_) Tryz.func143 (by kernel_rfl) (by kernel_rfl) (by kernel_rfl) (by kernel_rfl)
  have h10 := @run_callFunc_extern Tryz.prog 59 _ ReflectliteType.typeOf Tryz.func59 (by kernel_rfl) (by kernel_rfl) (by kernel_rfl) (by kernel_rfl)
  have h35 := @run_callFunc_extern Tryz.prog 140 _ (ReflectliteType.relation "AssignableTo" ReflectliteType.assignableTo) Tryz.func140 (by kernel_rfl) (by kernel_rfl) (by kernel_rfl) (by kernel_rfl)
  have tO := Tryz.isTypeOf
  have mA := Tryz.methodAssignableTo
  have a25 := Tryz.assignable144
  have f6 := Tryz.valueOf90
  have f7 := Tryz.type90
  have mK := Tryz.methodKind
  have mE := Tryz.methodElem
  have mI := Tryz.methodImplements
  have k27 := Tryz.kind90
  have k25 := Tryz.kind59
  have e27 := Tryz.elem90
  have i25 := Tryz.implements59
  have nA := Tryz.noAsE
  have uE := Tryz.noUnwrapE
  have vE := Tryz.noUnwrapsE
  have n8 := Tryz.isNil90 ⟨w.heap.size, 0, none⟩ t ((w.alloc (.cells #[.pointer (some t)] 93)).alloc (.cells #[.pointer (some ⟨12, 93, none⟩), .pointer (some ⟨w.heap.size, 0, none⟩), .int .u64 150] 112)) (by simp)
  have hlt : 11 < w.heap.size := by
    rcases Nat.lt_or_ge 11 w.heap.size with h | h
    · exact h
    · simp [World.cell?, Array.getElem?_eq_none h] at hg
  have hg2 : ((w.alloc (.cells #[.pointer (some t)] 93)).alloc (.cells #[.pointer (some ⟨12, 93, none⟩), .pointer (some ⟨w.heap.size, 0, none⟩), .int .u64 150] 112)).cell? ⟨11, 0, none⟩ = some (.iface 137 (.agg #[.pointer (some ⟨12, 39, none⟩)])) := by
    rw [World.cell?_alloc_lt _ _ ⟨11, 0, none⟩ (by simp; omega), World.cell?_alloc_lt _ _ ⟨11, 0, none⟩ hlt]; exact hg
  go_enter Tryz.func44, Tryz.ntmps44
  go_wp2
  refine wp_loop_rounds 1 ?_
  rw [rounds_succ]
  go_wp2
  go_ret
  exact ⟨rfl, rfl⟩
end Go.Proofs.YtcfeflkhmncmjaaGreatDoor
namespace Go.Proofs.YtcfeflkhmncmjaaGreatDoor
open Go.RowKit Go.Extern.Stop Go.Stop Go.Extern

theorem hidIt {p : Prop} (h : p) : Hid p := h

/-- Where the sentinel of a code lies. -/
def gi : Nat → Nat
  | 0 => 5 | 1 => 0 | 2 => 3 | 3 => 4 | 4 => 6 | 5 => 7 | 6 => 1 | 7 => 8 | 8 => 2 | 9 => 9 | 10 => 10 | n => n
theorem gi_lt {i : Nat} (h : i < 11) : gi i < 11 := by
  have h : i = 0 ∨ i = 1 ∨ i = 2 ∨ i = 3 ∨ i = 4 ∨ i = 5 ∨ i = 6 ∨ i = 7 ∨ i = 8 ∨ i = 9 ∨ i = 10 := by omega
  rcases h with rfl | rfl | rfl | rfl | rfl | rfl | rfl | rfl | rfl | rfl | rfl <;> decide

structure Laid (w : World) (p : Nat → Addr) : Prop where
  cell : ∀ i, i < 11 → w.cell? ⟨gi i, 0, none⟩ = some (.iface 193 (.pointer (some (p i))))
  ne : ∀ i j, i < 11 → j < 11 → i ≠ j → p i ≠ p j
  blk : ∀ i, i < 11 → ∃ c t, w.heap[(p i).block]? = some (.cells c t (0, 0))
  typ : w.cell? ⟨11, 0, none⟩ = some (.iface 137 (.agg #[.pointer (some ⟨12, 39, none⟩)]))

theorem Laid.lt {w : World} {p : Nat → Addr} (h : Laid w p) : 11 < w.heap.size := by
  rcases Nat.lt_or_ge 11 w.heap.size with k | k
  · exact k
  · have := h.typ; simp [World.cell?, Array.getElem?_eq_none k] at this

theorem Laid.below {w w' : World} {p : Nat → Addr} (h : Laid w p) (hb : Below w.heap.size w w') : Laid w' p := by
  have hl := h.lt
  refine ⟨fun i hi => ?_, h.ne, fun i hi => ?_, ?_⟩
  · rw [hb.cell (p := ⟨gi i, 0, none⟩) (show gi i < _ by have := gi_lt hi; omega)]; exact h.cell i hi
  · obtain ⟨c, t, hc⟩ := h.blk i hi
    have hlt : (p i).block < w.heap.size := by
      rcases Nat.lt_or_ge (p i).block w.heap.size with k | k
      · exact k
      · simp [Array.getElem?_eq_none k] at hc
    exact ⟨c, t, by rw [hb.block _ hlt]; exact hc⟩
  · rw [hb.cell (p := ⟨11, 0, none⟩) hl]; exact h.typ

theorem Laid.alloc {w : World} {p : Nat → Addr} (h : Laid w p) (o : Obj) : Laid (w.alloc o) p :=
  h.below ((Below.refl _ _).alloc (Nat.le_refl _) o)

theorem as_miss_b (e t : Addr) (w : World) (p : Nat → Addr) (L : Laid w p) :
    Calls Tryz.prog 44 #[.iface 193 (.pointer (some e)), .iface 93 (.pointer (some t))] w fun ev w' => ev = .returned (.bool false) ∧ Below w.heap.size w w' := by
  refine (as_miss e t w L.typ).mono ?_
  rintro ev w' ⟨rfl, rfl⟩
  exact ⟨rfl, (((Below.refl _ _).alloc (Nat.le_refl _) _).alloc (by simp) _).alloc (by simp; omega) _⟩

/-- The cells of the list of all sentinels. -/
theorem sent_cell (p : Nat → Addr) (w : World) (i : Nat) (hi : i < 11) :
    (w.alloc (.cells #[.iface 193 (.pointer (some (p 0))), .iface 193 (.pointer (some (p 1))), .iface 193 (.pointer (some (p 2))), .iface 193 (.pointer (some (p 3))), .iface 193 (.pointer (some (p 4))), .iface 193 (.pointer (some (p 5))), .iface 193 (.pointer (some (p 6))), .iface 193 (.pointer (some (p 7))), .iface 193 (.pointer (some (p 8))), .iface 193 (.pointer (some (p 9))), .iface 193 (.pointer (some (p 10)))] 39)).cell? ⟨w.heap.size, i, none⟩ = some (.iface 193 (.pointer (some (p i)))) := by
  have h : i = 0 ∨ i = 1 ∨ i = 2 ∨ i = 3 ∨ i = 4 ∨ i = 5 ∨ i = 6 ∨ i = 7 ∨ i = 8 ∨ i = 9 ∨ i = 10 := by omega
  rcases h with rfl | rfl | rfl | rfl | rfl | rfl | rfl | rfl | rfl | rfl | rfl <;> simp

theorem code_nil (w : World) : Calls Tryz.prog 27 #[.nilIface] w fun e w' => e = .returned (.tuple #[.int .i64 0, .int .i64 (-1)]) ∧ w' = w := by
  go_enter Tryz.func27, Tryz.ntmps27
  go_wp2
  go_ret2
  exact ⟨rfl, rfl⟩

set_option maxHeartbeats 1000000 in
theorem code_sent (k : Nat) (hk : k < 11) (p : Nat → Addr) (w : World) (L : Laid w p) :
    Calls Tryz.prog 27 #[.iface 193 (.pointer (some (p k)))] w fun e w' => e = .returned (.tuple #[.int .i64 (k + 1), .int .i64 (-1)]) ∧ Below w.heap.size w w' := by
  have La := L.alloc (.cells #[.pointer none] 91)
  go_enter Tryz.func27, Tryz.ntmps27
  go_wp2_with fail
  refine (as_miss_b _ _ _ p La).mono ?_
  rintro e w1 ⟨rfl, hb1⟩
  have L1 := La.below hb1
  have c0 : w1.cell? ⟨5, 0, none⟩ = some (.iface 193 (.pointer (some (p 0)))) := L1.cell 0 (by omega)
  have c1 : w1.cell? ⟨0, 0, none⟩ = some (.iface 193 (.pointer (some (p 1)))) := L1.cell 1 (by omega)
  have c2 : w1.cell? ⟨3, 0, none⟩ = some (.iface 193 (.pointer (some (p 2)))) := L1.cell 2 (by omega)
  have c3 : w1.cell? ⟨4, 0, none⟩ = some (.iface 193 (.pointer (some (p 3)))) := L1.cell 3 (by omega)
  have c4 : w1.cell? ⟨6, 0, none⟩ = some (.iface 193 (.pointer (some (p 4)))) := L1.cell 4 (by omega)
  have c5 : w1.cell? ⟨7, 0, none⟩ = some (.iface 193 (.pointer (some (p 5)))) := L1.cell 5 (by omega)
  have c6 : w1.cell? ⟨1, 0, none⟩ = some (.iface 193 (.pointer (some (p 6)))) := L1.cell 6 (by omega)
  have c7 : w1.cell? ⟨8, 0, none⟩ = some (.iface 193 (.pointer (some (p 7)))) := L1.cell 7 (by omega)
  have c8 : w1.cell? ⟨2, 0, none⟩ = some (.iface 193 (.pointer (some (p 8)))) := L1.cell 8 (by omega)
  have c9 : w1.cell? ⟨9, 0, none⟩ = some (.iface 193 (.pointer (some (p 9)))) := L1.cell 9 (by omega)
  have c10 : w1.cell? ⟨10, 0, none⟩ = some (.iface 193 (.pointer (some (p 10)))) := L1.cell 10 (by omega)
  have hS := sent_cell p w1
  have L2 := L1.alloc (.cells #[.iface 193 (.pointer (some (p 0))), .iface 193 (.pointer (some (p 1))), .iface 193 (.pointer (some (p 2))), .iface 193 (.pointer (some (p 3))), .iface 193 (.pointer (some (p 4))), .iface 193 (.pointer (some (p 5))), .iface 193 (.pointer (some (p 6))), .iface 193 (.pointer (some (p 7))), .iface 193 (.pointer (some (p 8))), .iface 193 (.pointer (some (p 9))), .iface 193 (.pointer (some (p 10)))] 39)
  have hfin : Below w.heap.size w (w1.alloc (.cells #[.iface 193 (.pointer (some (p 0))), .iface 193 (.pointer (some (p 1))), .iface 193 (.pointer (some (p 2))), .iface 193 (.pointer (some (p 3))), .iface 193 (.pointer (some (p 4))), .iface 193 (.pointer (some (p 5))), .iface 193 (.pointer (some (p 6))), .iface 193 (.pointer (some (p 7))), .iface 193 (.pointer (some (p 8))), .iface 193 (.pointer (some (p 9))), .iface 193 (.pointer (some (p 10)))] 39)) :=
    ((((Below.refl _ _).alloc (Nat.le_refl _) _).trans (hb1.mono (by simp))).alloc (by have := hb1.size; simp at this; omega) _)
  have HF := hidIt hfin
  have HL := hidIt L2
  clear hfin L2 hb1 L1 La
  go_wp2_with fail
  clear c0 c1 c2 c3 c4 c5 c6 c7 c8 c9 c10
  go_loop [3, 29] (fun a t => a = .int .i64 (-1) ∧ ∃ i : Nat, i ≤ k ∧ t = .int .i64 i) (fun _ t => 11 - (intOf t).toNat)
  case atStart => exact ⟨rfl, 0, Nat.zero_le _, rfl⟩
  case round =>
    obtain ⟨rfl, i, hik, rfl⟩ := hrel
    have hi : i < 11 := by omega
    have hSi := hS i hi
    by_cases hlt : i < k
    · obtain ⟨ca, ta, hca⟩ := HL.out.blk k hk
      obtain ⟨cb, tb, hcb⟩ := HL.out.blk i hi
      have hne := HL.out.ne k i hk hi (by omega)
      go_wp2_with fail
      refine (is_other (p k) (p i) ca cb ta tb _ hne hca hcb).mono ?_
      rintro e w' ⟨rfl, rfl⟩
      go_wp2
      go_round
      case rel => exact ⟨rfl, i + 1, by omega, by go_num⟩
      case measure => simp [intOf]; omega
    · obtain rfl : i = k := by omega
      go_wp2_with fail
      refine (is_same (p i) _).mono ?_
      rintro e w' ⟨rfl, rfl⟩
      go_wp2
      go_ret2
      exact ⟨rfl, HF.out⟩
end Go.Proofs.YtcfeflkhmncmjaaGreatDoor
namespace Go.Proofs.YtcfeflkhmncmjaaGreatDoor
open Go.RowKit Go.Extern.Stop Go.Stop Go.Extern

theorem bdrewN {B : Nat} {a w : World} (h : Below B a w) : ∀ n, Below B a (w.drewN n) := fun _ => ⟨h.os, h.tape, h.output, h.size, h.block⟩

end Go.Proofs.YtcfeflkhmncmjaaGreatDoor

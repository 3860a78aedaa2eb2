/-
  TermsBack: its last region, state by state (written by tools/genlbreg.py).
-/
import Derived.Test.YtehbinobohjadaaGreatDoorBk43
namespace Go.Proofs.YtehbinobohjadaaGreatDoor
open Go.RowKit Go.Sort Go.Extern.Stop Go.Stop Go.Extern

def opB0 : Oper := { dst := some 43, op := Op.move (Operand.tmp 6), type := 32, pos := "terms.go:90", after := #[], guard := none }
def opB1 : Oper := { dst := some 44, op := Op.binOp BinOp.eql 32 (Operand.tmp 43) (Operand.const Value.nilIface) 32, type := 4, pos := "terms.go:90", after := #[{ on := 0, ground := Ground.data }], guard := none }
def opB2 : Oper := { dst := some 45, op := Op.move (Operand.tmp 44), type := 4, pos := "terms.go:90", after := #[{ on := 1, ground := Ground.data }], guard := none }
def opB3 : Oper := { dst := some 46, op := Op.move (Operand.tmp 5), type := 4, pos := "terms.go:90", after := #[{ on := 2, ground := Ground.guard }], guard := some (2, true) }
def opB4 : Oper := { dst := some 47, op := Op.pick (Operand.tmp 45) (Operand.tmp 46) (Operand.const (Value.bool false)), type := 4, pos := "terms.go:90", after := #[{ on := 2, ground := Ground.data }, { on := 3, ground := Ground.data }], guard := none }
def opB5 : Oper := { dst := some 48, op := Op.move (Operand.tmp 47), type := 4, pos := "terms.go:90", after := #[{ on := 4, ground := Ground.data }, { on := 2, ground := Ground.chain }], guard := none }
def opB6 : Oper := { dst := some 49, op := Op.load 30 (Operand.tmp 4), type := 30, pos := "terms.go:90", after := #[{ on := 5, ground := Ground.guard }], guard := some (5, true) }
def opB7 : Oper := { dst := some 50, op := Op.call { callee := Callee.value (Operand.func 9), args := #[Operand.tmp 49], argTypes := #[30] }, type := 38, pos := "terms.go:90", after := #[{ on := 6, ground := Ground.data }, { on := 5, ground := Ground.chain }, { on := 5, ground := Ground.guard }], guard := some (5, true) }
def opB8 : Oper := { dst := some 51, op := Op.load 30 (Operand.tmp 8), type := 30, pos := "terms.go:90", after := #[{ on := 5, ground := Ground.guard }], guard := some (5, true) }
def opB9 : Oper := { dst := some 52, op := Op.call { callee := Callee.value (Operand.func 9), args := #[Operand.tmp 51], argTypes := #[30] }, type := 38, pos := "terms.go:90", after := #[{ on := 8, ground := Ground.data }, { on := 7, ground := Ground.chain }, { on := 5, ground := Ground.guard }], guard := some (5, true) }
def opB10 : Oper := { dst := some 53, op := Op.call { callee := Callee.value (Operand.func 8), args := #[Operand.tmp 50, Operand.tmp 52], argTypes := #[38, 38] }, type := 4, pos := "terms.go:90", after := #[{ on := 7, ground := Ground.data }, { on := 9, ground := Ground.data }, { on := 9, ground := Ground.chain }, { on := 5, ground := Ground.guard }], guard := some (5, true) }
def opB11 : Oper := { dst := some 54, op := Op.pick (Operand.tmp 48) (Operand.tmp 53) (Operand.const (Value.bool false)), type := 4, pos := "terms.go:90", after := #[{ on := 5, ground := Ground.data }, { on := 10, ground := Ground.data }], guard := none }
def opB12 : Oper := { dst := some 2, op := Op.assign (Operand.tmp 54), type := 4, pos := "terms.go:90", after := #[{ on := 11, ground := Ground.data }, { on := 10, ground := Ground.chain }, { on := 0, ground := Ground.phase }, { on := 1, ground := Ground.phase }, { on := 2, ground := Ground.phase }, { on := 3, ground := Ground.phase }, { on := 4, ground := Ground.phase }, { on := 5, ground := Ground.phase }, { on := 6, ground := Ground.phase }, { on := 7, ground := Ground.phase }, { on := 8, ground := Ground.phase }, { on := 9, ground := Ground.phase }, { on := 10, ground := Ground.phase }, { on := 11, ground := Ground.phase }], guard := none }
theorem At55.set {a : Act} {l : List (Nat × Value)} (h : At55 a l) (k : Nat) (v : Value) (hk : k < 55) (hn : (l.map (·.1)).all (fun j => j != k) = true) : At55 (a.put (some k) v) ((k, v) :: l) := h.put k v hk fun j u hj e => by
  rw [List.all_eq_true] at hn
  have := hn j (List.mem_map.2 ⟨(j, u), hj, rfl⟩)
  simp [e] at this
/-- What the region finds. -/
structure RG (V9 : World) (x : SentT) (cs ds : Array Value) (b4 b8 : Nat) : Prop where
  lx : ∀ V, Rc V9 V → V.heap[b4]? = some (.cells cs 30 (0, 0))
  ly : ∀ V, Rc V9 V → V.heap[b8]? = some (.cells ds 30 (0, 0))
  zx : cs.size = 19
  zy : ds.size = 19
  s1 : ∀ V, Rc V9 V → Calls Tryz.prog 9 #[.agg cs] V (FsR x V)
  s2 : ∀ V, Rc V9 V → Calls Tryz.prog 9 #[.agg ds] V (FsR x V)
section
variable {Q : Exit → Act → World → Prop} {V9 : World} {x : SentT} {cs ds : Array Value} {b4 b8 : Nat}
set_option maxHeartbeats 1000000 in
theorem rg_D (C : RG V9 x cs ds b4 b8) (HQ : ∀ a V, At55 a [(2, .bool true)] → Rc V9 V → Q .normal a V) {a : Act} {VA : World} {g1 : Nat} {a1 a2 : Option Addr} {a3 a4 : Nat} {a5 : Option Addr} {a6 : Nat} {cs1 : Array Value} (ha : At55 a [(48, .bool true), (50, .pointer (some ⟨g1, 0, none⟩)), (51, .agg ds)]) (hr : Rc V9 VA) (hk : VA.heap[g1]? = some (.cells cs1 47 (0, 0))) (hs : STc VA (· < VA.heap.size) x a1 a2 a3 a4 a5 a6 cs1) : wpAny Tryz.prog .any opsB Q 4 #[true, true, true, true, true, true, true, true, true, false, false, false, false] a VA := by
  have v51 := ha.2.2 51 (.agg ds) (by simp)
  refine wpAny_ready (rs := [9]) (by kernel_rfl) (by simp) (AllReady.cons (o := opB9) rfl (fun K hK => ?_) AllReady.nil)
  refine step_call9 (want5 (ha.2.2 48 _ (by simp)) _ _ _ _ _) (f := 9) (args := #[.agg ds]) (by simp [execOp, opB9, v51, go_sem]) (C.s2 VA hr) ?_
  rintro e VB ⟨hbB, g2, b1, b2, b3, b5, b6, b7, cs2, rfl, _, hk2, hs2⟩
  refine ⟨_, rfl, hK _ _ ?_⟩
  have ha2 := ha.set 52 (.pointer (some ⟨g2, 0, none⟩)) (by omega) rfl
  have hr2 : Rc V9 VB := hr.trans hbB
  have w50 := ha2.2.2 50 (.pointer (some ⟨g1, 0, none⟩)) (by simp)
  have w52 := ha2.2.2 52 (.pointer (some ⟨g2, 0, none⟩)) (by simp)
  show wpAny Tryz.prog .any opsB Q 3 #[true, true, true, true, true, true, true, true, true, true, false, false, false] (a.put (some 52) (.pointer (some ⟨g2, 0, none⟩))) VB
  generalize a.put (some 52) (.pointer (some ⟨g2, 0, none⟩)) = aa at *
  clear hK K
  refine wpAny_ready (rs := [10]) (by kernel_rfl) (by simp) (AllReady.cons (o := opB10) rfl (fun K hK => ?_) AllReady.nil)
  refine step_call9 (want5 (ha2.2.2 48 _ (by simp)) _ _ _ _ _) (f := 8) (args := #[.pointer (some ⟨g1, 0, none⟩), .pointer (some ⟨g2, 0, none⟩)]) (by simp [execOp, opB10, w50, w52, go_sem]) (sameS_l (hs.grow hbB) hs2 (box9 hk hbB) hk2) ?_
  rintro e VC ⟨rfl, hbC⟩
  refine ⟨_, rfl, hK _ _ ?_⟩
  have ha3 := ha2.set 53 (.bool true) (by omega) rfl
  have hr3 : Rc V9 VC := hr2.trans hbC
  have y48 := ha3.2.2 48 (.bool true) (by simp)
  have y53 := ha3.2.2 53 (.bool true) (by simp)
  show wpAny Tryz.prog .any opsB Q 2 #[true, true, true, true, true, true, true, true, true, true, true, false, false] (aa.put (some 53) (.bool true)) VC
  generalize aa.put (some 53) (.bool true) = ab at *
  clear hK K
  refine wpAny_ready (rs := [11]) (by kernel_rfl) (by simp) (AllReady.cons (o := opB11) rfl (fun K hK => ?_) AllReady.nil)
  refine step_val9 rfl (v := .bool true) (by simp [execOp, opB11, y48, y53, go_sem]) (hK _ _ ?_)
  have ha4 := ha3.set 54 (.bool true) (by omega) rfl
  have u54 := ha4.2.2 54 (.bool true) (by simp)
  show wpAny Tryz.prog .any opsB Q 1 #[true, true, true, true, true, true, true, true, true, true, true, true, false] (ab.put (some 54) (.bool true)) VC
  generalize ab.put (some 54) (.bool true) = ac at *
  clear hK K
  refine wpAny_ready (rs := [12]) (by kernel_rfl) (by simp) (AllReady.cons (o := opB12) rfl (fun K hK => ?_) AllReady.nil)
  refine step_val9 rfl (v := .bool true) (by simp [execOp, opB12, u54, go_sem]) (hK _ _ ?_)
  have ha5 := ha4.set 2 (.bool true) (by omega) rfl
  exact wpAny_done (by kernel_rfl) (HQ _ _ (ha5.less (by simp)) hr3) _
set_option maxHeartbeats 1000000 in
theorem rg_E (C : RG V9 x cs ds b4 b8) (HQ : ∀ a V, At55 a [(2, .bool true)] → Rc V9 V → Q .normal a V) {a : Act} {V : World} (ha : At55 a [(48, .bool true), (49, .agg cs), (51, .agg ds)]) (hr : Rc V9 V) : wpAny Tryz.prog .any opsB Q 5 #[true, true, true, true, true, true, true, false, true, false, false, false, false] a V := by
  have v49 := ha.2.2 49 (.agg cs) (by simp)
  refine wpAny_ready (rs := [7]) (by kernel_rfl) (by simp) (AllReady.cons (o := opB7) rfl (fun K hK => ?_) AllReady.nil)
  refine step_call9 (want5 (ha.2.2 48 _ (by simp)) _ _ _ _ _) (f := 9) (args := #[.agg cs]) (by simp [execOp, opB7, v49, go_sem]) (C.s1 V hr) ?_
  rintro e VA ⟨hbA, g1, a1, a2, a3, a4, a5, a6, cs1, rfl, _, hk1, hs1⟩
  refine ⟨_, rfl, hK _ _ ?_⟩
  have ha2 := ha.set 50 (.pointer (some ⟨g1, 0, none⟩)) (by omega) rfl
  exact rg_D C HQ (ha2.less (by simp)) (hr.trans hbA) hk1 hs1
set_option maxHeartbeats 1000000 in
theorem rg_C (C : RG V9 x cs ds b4 b8) (HQ : ∀ a V, At55 a [(2, .bool true)] → Rc V9 V → Q .normal a V) {a : Act} {V : World} {g1 : Nat} {a1 a2 : Option Addr} {a3 a4 : Nat} {a5 : Option Addr} {a6 : Nat} {cs1 : Array Value} (ha : At55 a [(8, .pointer (some ⟨b8, 0, none⟩)), (48, .bool true), (50, .pointer (some ⟨g1, 0, none⟩))]) (hr : Rc V9 V) (hk : V.heap[g1]? = some (.cells cs1 47 (0, 0))) (hs : STc V (· < V.heap.size) x a1 a2 a3 a4 a5 a6 cs1) : wpAny Tryz.prog .any opsB Q 5 #[true, true, true, true, true, true, true, true, false, false, false, false, false] a V := by
  have v8 := ha.eval (k := 8) (v := .pointer (some ⟨b8, 0, none⟩)) (by simp)
  refine wpAny_ready (rs := [8]) (by kernel_rfl) (by simp) (AllReady.cons (o := opB8) rfl (fun K hK => ?_) AllReady.nil)
  refine step_load_row (want5 (ha.2.2 48 _ (by simp)) _ _ _ _ _) 30 (.tmp 8) rfl b8 v8 30 ds (0, 0) _ (C.ly V hr) Tryz.underlying30 rfl (infoSent.trans (by rw [C.zy])) (hK _ _ ?_)
  have ha2 := ha.set 51 (.agg ds) (by omega) rfl
  exact rg_D C HQ (ha2.less (by simp)) hr hk hs
set_option maxHeartbeats 1000000 in
theorem rg_B (C : RG V9 x cs ds b4 b8) (HQ : ∀ a V, At55 a [(2, .bool true)] → Rc V9 V → Q .normal a V) {a : Act} {V : World} (ha : At55 a [(8, .pointer (some ⟨b8, 0, none⟩)), (48, .bool true), (49, .agg cs)]) (hr : Rc V9 V) : wpAny Tryz.prog .any opsB Q 6 #[true, true, true, true, true, true, true, false, false, false, false, false, false] a V := by
  have v8 := ha.eval (k := 8) (v := .pointer (some ⟨b8, 0, none⟩)) (by simp)
  have v49 := ha.2.2 49 (.agg cs) (by simp)
  refine wpAny_ready (rs := [7, 8]) (by kernel_rfl) (by simp) (AllReady.cons (o := opB7) rfl (fun K hK => ?_) (AllReady.cons (o := opB8) rfl (fun K hK => ?_) AllReady.nil))
  · refine step_call9 (want5 (ha.2.2 48 _ (by simp)) _ _ _ _ _) (f := 9) (args := #[.agg cs]) (by simp [execOp, opB7, v49, go_sem]) (C.s1 V hr) ?_
    rintro e VA ⟨hbA, g1, a1, a2, a3, a4, a5, a6, cs1, rfl, _, hk1, hs1⟩
    refine ⟨_, rfl, hK _ _ ?_⟩
    have ha2 := ha.set 50 (.pointer (some ⟨g1, 0, none⟩)) (by omega) rfl
    exact rg_C C HQ (ha2.less (by simp)) (hr.trans hbA) hk1 hs1
  · refine step_load_row (want5 (ha.2.2 48 _ (by simp)) _ _ _ _ _) 30 (.tmp 8) rfl b8 v8 30 ds (0, 0) _ (C.ly V hr) Tryz.underlying30 rfl (infoSent.trans (by rw [C.zy])) (hK _ _ ?_)
    have ha2 := ha.set 51 (.agg ds) (by omega) rfl
    exact rg_E C HQ (ha2.less (by simp)) hr
set_option maxHeartbeats 1000000 in
theorem rg_F (C : RG V9 x cs ds b4 b8) (HQ : ∀ a V, At55 a [(2, .bool true)] → Rc V9 V → Q .normal a V) {a : Act} {V : World} (ha : At55 a [(4, .pointer (some ⟨b4, 0, none⟩)), (48, .bool true), (51, .agg ds)]) (hr : Rc V9 V) : wpAny Tryz.prog .any opsB Q 6 #[true, true, true, true, true, true, false, false, true, false, false, false, false] a V := by
  have v4 := ha.eval (k := 4) (v := .pointer (some ⟨b4, 0, none⟩)) (by simp)
  refine wpAny_ready (rs := [6]) (by kernel_rfl) (by simp) (AllReady.cons (o := opB6) rfl (fun K hK => ?_) AllReady.nil)
  refine step_load_row (want5 (ha.2.2 48 _ (by simp)) _ _ _ _ _) 30 (.tmp 4) rfl b4 v4 30 cs (0, 0) _ (C.lx V hr) Tryz.underlying30 rfl (infoSent.trans (by rw [C.zx])) (hK _ _ ?_)
  have ha2 := ha.set 49 (.agg cs) (by omega) rfl
  exact rg_E C HQ (ha2.less (by simp)) hr
set_option maxHeartbeats 1000000 in
theorem rg_A (C : RG V9 x cs ds b4 b8) (HQ : ∀ a V, At55 a [(2, .bool true)] → Rc V9 V → Q .normal a V) {a : Act} {V : World} (ha : At55 a [(4, .pointer (some ⟨b4, 0, none⟩)), (8, .pointer (some ⟨b8, 0, none⟩)), (48, .bool true)]) (hr : Rc V9 V) : wpAny Tryz.prog .any opsB Q 7 #[true, true, true, true, true, true, false, false, false, false, false, false, false] a V := by
  have v4 := ha.eval (k := 4) (v := .pointer (some ⟨b4, 0, none⟩)) (by simp)
  have v8 := ha.eval (k := 8) (v := .pointer (some ⟨b8, 0, none⟩)) (by simp)
  refine wpAny_ready (rs := [6, 8]) (by kernel_rfl) (by simp) (AllReady.cons (o := opB6) rfl (fun K hK => ?_) (AllReady.cons (o := opB8) rfl (fun K hK => ?_) AllReady.nil))
  · refine step_load_row (want5 (ha.2.2 48 _ (by simp)) _ _ _ _ _) 30 (.tmp 4) rfl b4 v4 30 cs (0, 0) _ (C.lx V hr) Tryz.underlying30 rfl (infoSent.trans (by rw [C.zx])) (hK _ _ ?_)
    have ha2 := ha.set 49 (.agg cs) (by omega) rfl
    exact rg_B C HQ (ha2.less (by simp)) hr
  · refine step_load_row (want5 (ha.2.2 48 _ (by simp)) _ _ _ _ _) 30 (.tmp 8) rfl b8 v8 30 ds (0, 0) _ (C.ly V hr) Tryz.underlying30 rfl (infoSent.trans (by rw [C.zy])) (hK _ _ ?_)
    have ha2 := ha.set 51 (.agg ds) (by omega) rfl
    exact rg_F C HQ (ha2.less (by simp)) hr
set_option maxHeartbeats 1000000 in
theorem rg_0 (C : RG V9 x cs ds b4 b8) (HQ : ∀ a V, At55 a [(2, .bool true)] → Rc V9 V → Q .normal a V) {a : Act} {V : World} (ha : At55 a [(4, .pointer (some ⟨b4, 0, none⟩)), (5, .bool true), (6, .nilIface), (8, .pointer (some ⟨b8, 0, none⟩))]) (hr : Rc V9 V) : wpAny Tryz.prog .any opsB Q 13 #[false, false, false, false, false, false, false, false, false, false, false, false, false] a V := by
  have v6 := ha.2.2 6 (.nilIface) (by simp)
  refine wpAny_ready (rs := [0]) (by kernel_rfl) (by simp) (AllReady.cons (o := opB0) rfl (fun K hK => ?_) AllReady.nil)
  refine step_val9 rfl (v := .nilIface) (by simp [execOp, opB0, v6, go_sem]) (hK _ _ ?_)
  replace ha := ha.set 43 (.nilIface) (by omega) rfl
  show wpAny Tryz.prog .any opsB Q 12 #[true, false, false, false, false, false, false, false, false, false, false, false, false] (a.put (some 43) (.nilIface)) V
  clear hK K v6
  generalize a.put (some 43) (.nilIface) = a1 at *
  have v43 := ha.2.2 43 (.nilIface) (by simp)
  refine wpAny_ready (rs := [1]) (by kernel_rfl) (by simp) (AllReady.cons (o := opB1) rfl (fun K hK => ?_) AllReady.nil)
  refine step_val9 rfl (v := .bool true) (by simp [execOp, opB1, v43, go_sem]) (hK _ _ ?_)
  replace ha := ha.set 44 (.bool true) (by omega) rfl
  show wpAny Tryz.prog .any opsB Q 11 #[true, true, false, false, false, false, false, false, false, false, false, false, false] (a1.put (some 44) (.bool true)) V
  clear hK K v43
  generalize a1.put (some 44) (.bool true) = a2 at *
  have v44 := ha.2.2 44 (.bool true) (by simp)
  refine wpAny_ready (rs := [2]) (by kernel_rfl) (by simp) (AllReady.cons (o := opB2) rfl (fun K hK => ?_) AllReady.nil)
  refine step_val9 rfl (v := .bool true) (by simp [execOp, opB2, v44, go_sem]) (hK _ _ ?_)
  replace ha := ha.set 45 (.bool true) (by omega) rfl
  show wpAny Tryz.prog .any opsB Q 10 #[true, true, true, false, false, false, false, false, false, false, false, false, false] (a2.put (some 45) (.bool true)) V
  clear hK K v44
  generalize a2.put (some 45) (.bool true) = a3 at *
  have v5 := ha.2.2 5 (.bool true) (by simp)
  refine wpAny_ready (rs := [3]) (by kernel_rfl) (by simp) (AllReady.cons (o := opB3) rfl (fun K hK => ?_) AllReady.nil)
  refine step_val9 (want2 (ha.2.2 45 _ (by simp)) _ _ _ _ _) (v := .bool true) (by simp [execOp, opB3, v5, go_sem]) (hK _ _ ?_)
  replace ha := ha.set 46 (.bool true) (by omega) rfl
  show wpAny Tryz.prog .any opsB Q 9 #[true, true, true, true, false, false, false, false, false, false, false, false, false] (a3.put (some 46) (.bool true)) V
  clear hK K v5
  generalize a3.put (some 46) (.bool true) = a4 at *
  have v45 := ha.2.2 45 (.bool true) (by simp)
  have v46 := ha.2.2 46 (.bool true) (by simp)
  refine wpAny_ready (rs := [4]) (by kernel_rfl) (by simp) (AllReady.cons (o := opB4) rfl (fun K hK => ?_) AllReady.nil)
  refine step_val9 rfl (v := .bool true) (by simp [execOp, opB4, v45, v46, go_sem]) (hK _ _ ?_)
  replace ha := ha.set 47 (.bool true) (by omega) rfl
  show wpAny Tryz.prog .any opsB Q 8 #[true, true, true, true, true, false, false, false, false, false, false, false, false] (a4.put (some 47) (.bool true)) V
  clear hK K v45 v46
  generalize a4.put (some 47) (.bool true) = a5 at *
  have v47 := ha.2.2 47 (.bool true) (by simp)
  refine wpAny_ready (rs := [5]) (by kernel_rfl) (by simp) (AllReady.cons (o := opB5) rfl (fun K hK => ?_) AllReady.nil)
  refine step_val9 rfl (v := .bool true) (by simp [execOp, opB5, v47, go_sem]) (hK _ _ ?_)
  replace ha := ha.set 48 (.bool true) (by omega) rfl
  show wpAny Tryz.prog .any opsB Q 7 #[true, true, true, true, true, true, false, false, false, false, false, false, false] (a5.put (some 48) (.bool true)) V
  clear hK K v47
  generalize a5.put (some 48) (.bool true) = a6 at *
  exact rg_A C HQ (ha.less (by simp)) hr
end
end Go.Proofs.YtehbinobohjadaaGreatDoor
namespace Go.Proofs.YtehbinobohjadaaGreatDoor
open Go.RowKit Go.Sort Go.Extern.Stop Go.Stop Go.Extern

/-- A sentence that was read, as the law has it. -/
def RdX (x : SentT) (V : World) (e : Ending) (V' : World) : Prop := Below V.heap.size V V' ∧ ∃ ds ca sa cc sc oa oc, e = .returned (.tuple #[.agg ds, .bool true, .nilIface]) ∧ STc V' (· < V'.heap.size) x ca sa cc sc oa oc ds ∧ (oa = none → oc = 0)
set_option maxHeartbeats 4000000 in
set_option maxRecDepth 20000 in
theorem back_ok {s L : ByteArray} {x : SentT} {w : World} (hl : LawW w) (hs : s.size ≤ 3000) (hc : SmT x.cond) (hm : SmT x.sum) (ho : x.over.length ≤ 1000)
    (hrd : ∀ V, Below w.heap.size w V → Calls Tryz.prog 6 #[.string s] V (RdX x V))
    (hwr : ∀ V ca sa cc sc oa oc cs, Below w.heap.size w V → STc V (· < V.heap.size) x ca sa cc sc oa oc cs → Calls Tryz.prog 7 #[.agg cs] V fun e V' => Below V.heap.size V V' ∧ e = .returned (.tuple #[.string L, .nilIface]))
    (hrd2 : ∀ V, Below w.heap.size w V → Calls Tryz.prog 6 #[.string L] V (RdX x V)) :
    Calls Tryz.prog 3 #[.string s] w (TrueR w) := by
  have HL := hidLL (live_l hl.g)
  have HR := hidLL hrd
  have HWr := hidLL hwr
  have HR2 := hidLL hrd2
  have h3 : ¬ (3000 : Int) < s.size := by omega
  have HSe : Hid (∀ V ca sa cc sc oa oc cs, STc V (· < V.heap.size) x ca sa cc sc oa oc cs → (oa = none → oc = 0) → Calls Tryz.prog 9 #[.agg cs] V (FsR x V)) := fun V ca sa cc sc oa oc cs h h2 => sentence_l hc hm ho h h2
  clear hl hrd hwr hrd2 hc hm ho
  go_enter Tryz.func3, Tryz.ntmps3
  go_upto_region 5 with (first | (go_at_call 5; refine HL.out.mono ?_; rintro e V ⟨rfl, hb⟩; (have HB := hidLL hb); clear hb) | (go_at_call 6; refine (HR.out _ HB.out).mono ?_; rintro e V5 ⟨hb5, cs, ca, sa, cc, sc, oa, oc, rfl, hst, hno⟩; (have HB5 := hidLL (HB.out.trans (hb5.mono HB.out.size))); (have HS5 := hidLL (And.intro hst hno)); clear hb5 hst hno) | (refine wpList_store_row rfl 30 (.tmp 4) (.tmp 21) rfl V5.heap.size cs (by simp [Act.eval]) (by simp [Act.eval]) 30 zS (heap_alloc_new V5 (.cells zS 30)) (infoSent.trans (by rw [HS5.out.1.one.1])) (by rw [zS_size, HS5.out.1.one.1]) HS5.out.1.one.2 ?_))
  rw [World.setRow_alloc_new]
  have hb6 : Below V5.heap.size V5 (V5.alloc (.cells cs 30)) := (Below.refl _ _).alloc (Nat.le_refl _) _
  have HB6 := hidLL (HB5.out.trans (hb6.mono HB5.out.size))
  have HS6 := hidLL (HS5.out.1.grow hb6)
  have HX6 : Hid ((V5.alloc (.cells cs 30)).heap[V5.heap.size]? = some (.cells cs 30 (0, 0))) := heap_alloc_new _ _
  have HNo := hidLL HS5.out.2
  have HZ := hidLL HS5.out.1.one.1
  clear hb6 HS5 HB5 HB HL HR
  generalize V5.alloc (.cells cs 30) = V6 at *
  generalize V5.heap.size = b4 at *
  go_upto_region 8 with (first | (refine wpList_load_row rfl 30 (.tmp 4) rfl b4 (by first | (simp [Act.eval]; done) | simp [Act.eval, Act.put]) 30 cs (0, 0) _ HX6.out Tryz.underlying30 rfl (infoSent.trans (by rw [HZ.out])) ?_) | (go_at_call 7; refine (HWr.out _ _ _ _ _ _ _ _ HB6.out HS6.out).mono ?_; rintro e V7 ⟨hb7, rfl⟩; (have HB7 := hidLL (HB6.out.trans (hb7.mono HB6.out.size))); (have HS7 := hidLL (HS6.out.grow hb7)); (have HX7 := hidLL (box9 HX6.out hb7)); clear hb7))
  clear HB6 HS6 HX6 HWr
  go_upto_region 11 with (first | (go_at_call 6; refine (HR2.out _ HB7.out).mono ?_; rintro e V8 ⟨hb8, ds, da, ta, dc, tc, pa, pc, rfl, hst, hno⟩; (have HB8 := hidLL (HB7.out.trans (hb8.mono HB7.out.size))); (have HS8 := hidLL (HS7.out.grow hb8)); (have HX8 := hidLL (box9 HX7.out hb8)); (have HT8 := hidLL (And.intro hst hno)); clear hb8 hst hno) | (refine wpList_store_row rfl 30 (.tmp 8) (.tmp 40) rfl V8.heap.size ds (by simp [Act.eval]) (by simp [Act.eval]) 30 zS (heap_alloc_new V8 (.cells zS 30)) (infoSent.trans (by rw [HT8.out.1.one.1])) (by rw [zS_size, HT8.out.1.one.1]) HT8.out.1.one.2 ?_))
  rw [World.setRow_alloc_new]
  have hb9 : Below V8.heap.size V8 (V8.alloc (.cells ds 30)) := (Below.refl _ _).alloc (Nat.le_refl _) _
  have HB9 := hidLL (HB8.out.trans (hb9.mono HB8.out.size))
  have HS9 := hidLL (HS8.out.grow hb9)
  have HT9 := hidLL (HT8.out.1.grow hb9)
  have HX9 := hidLL (box9 HX8.out hb9)
  have HY9 : Hid ((V8.alloc (.cells ds 30)).heap[V8.heap.size]? = some (.cells ds 30 (0, 0))) := heap_alloc_new _ _
  have HNo2 := hidLL HT8.out.2
  have HZ2 := hidLL HT8.out.1.one.1
  clear hb9 HB8 HS8 HT8 HX8 HB7 HS7 HX7 HR2
  generalize V8.alloc (.cells ds 30) = V9 at *
  generalize V8.heap.size = b8 at *
  have HSe1 : Hid (∀ V, Rc V9 V → Calls Tryz.prog 9 #[.agg cs] V (FsR x V)) := fun V hV => HSe.out V _ _ _ _ _ _ _ (HS9.out.grow hV) HNo.out
  have HSe2 : Hid (∀ V, Rc V9 V → Calls Tryz.prog 9 #[.agg ds] V (FsR x V)) := fun V hV => HSe.out V _ _ _ _ _ _ _ (HT9.out.grow hV) HNo2.out
  have HLx : Hid (∀ V, Rc V9 V → V.heap[b4]? = some (.cells cs 30 (0, 0))) := fun V hV => box9 HX9.out hV
  have HLy : Hid (∀ V, Rc V9 V → V.heap[b8]? = some (.cells ds 30 (0, 0))) := fun V hV => box9 HY9.out hV
  clear HSe HS9 HT9 HX9 HY9
  refine wp_region_any (by kernel_rfl) ?_
  refine rg_0 (V := V9.drew) (x := x) (cs := cs) (ds := ds) (b4 := b4) (b8 := b8) ⟨HLx.out, HLy.out, HZ.out, HZ2.out, HSe1.out, HSe2.out⟩ ?_ ⟨rfl, rfl, ?_⟩ ((Rc.refl V9).drew)
  · intro a V ha hr
    have h2 := ha.2.2 2 (.bool true) (by simp)
    go_wp2
    refine bodyPost_ret (v := .bool true) (by simp [results, Tryz.results3, h2, go_sem]) ha.2.1 ?_
    exact ⟨rfl, HB9.out.trans (Below.mono hr HB9.out.size)⟩
  · intro k v hk
    simp only [List.mem_cons, List.not_mem_nil, or_false, Prod.mk.injEq] at hk
    rcases hk with ⟨rfl, rfl⟩ | ⟨rfl, rfl⟩ | ⟨rfl, rfl⟩ | ⟨rfl, rfl⟩ <;> rfl
end Go.Proofs.YtehbinobohjadaaGreatDoor

/-
  The law's sentence: the reference's, made of the program's.
-/
import Derived.Test.YtehbinobohjadaaGreatDoorBk40
import Derived.Deep.RegionHeld3
import Derived.Deep.RegionLaw
namespace Go.Proofs.YtehbinobohjadaaGreatDoor
open Go.RowKit

/-- A world that is reached. -/
def Rc (w V : World) : Prop := Below w.heap.size w V
theorem Rc.refl (w : World) : Rc w w := Below.refl _ _
theorem Rc.trans {a b c : World} (h : Rc a b) (k : Rc b c) : Rc a c := Below.trans h (Below.mono k h.size)
theorem Rc.drew {w V : World} (h : Rc w V) : Rc w V.drew := Below.drew h
theorem Rc.drewN {w V : World} (h : Rc w V) (n : Nat) : Rc w (V.drewN n) := h.trans (Below.drewN_ V n)
theorem Rc.alloc {w V : World} (h : Rc w V) (o : Obj) : Rc w (V.alloc o) := Below.alloc h h.size _
def fsC (xk xn : ByteArray) (xs : Int) (xp : Bool) (xh ck cw : ByteArray) (cn : Int) (kv : Value) (sk sw : ByteArray) (sn : Int) (sv : Value) (xw : Int) (xe : ByteArray) : Array Value := #[.string xk, .string xn, .int .i64 xs, .bool xp, .string xh, .string ck, .string cw, .int .i64 cn, kv, .string sk, .string sw, .int .i64 sn, sv, .int .i64 xw, .slice none 0 0, .int .i64 0, .int .i64 0, .int .i64 0, .string xe]
theorem fs_built (xk xn : ByteArray) (xs : Int) (xp : Bool) (xh ck cw : ByteArray) (cn : Int) (ka : Option Addr) (kl kc : Nat) (sk sw : ByteArray) (sn : Int) (ma : Option Addr) (ml mc : Nat) (xw : Int) (xe : ByteArray) : Tryz.prog.built 47 [(0, .string xk), (1, .string xn), (2, .int .i64 xs), (3, .bool xp), (4, .string xh), (5, .agg #[.string ck, .string cw, .int .i64 cn, .slice ka kl kc]), (6, .agg #[.string sk, .string sw, .int .i64 sn, .slice ma ml mc]), (7, .int .i64 xw), (10, .string xe)] = some (fsC xk xn xs xp xh ck cw cn (.slice ka kl kc) sk sw sn (.slice ma ml mc) xw xe) := by kernel_rfl
theorem step_build9 {P : Program} {ops : Array Oper} {o : Oper} {a : Act} {w : World} {K : Act → World → Prop} {Q : Exit → Act → World → Prop} {F : Prop} (hgd : o.guard = none) (t : TypeId) (parts : Array (Nat × Operand)) (ho : o.op = .build t parts) (l : List (Nat × Value)) {cells : Array Value} (hp : (parts.map fun (i, x) => (i, a.eval x)).toList = l) (hb : P.built t l = some cells) (h : K (a.put o.dst (.agg cells)) w) : if Region.wanted o (yielded ops a.tmps) = true then Oper.wp P o a w K Q else F := by
  have hw : Region.wanted o (yielded ops a.tmps) = true := by simp [Region.wanted, hgd]
  rw [if_pos hw]
  subst hp
  exact wp_build t parts ho (by rw [hb]; rfl) (by rw [hb]; exact h)
/-- What sentence makes. -/
def FsR (x : SentT) (w : World) (e : Ending) (w' : World) : Prop := Below w.heap.size w w' ∧ ∃ g ca sa cc sc oa oc cs, e = .returned (.pointer (some ⟨g, 0, none⟩)) ∧ w.heap.size ≤ g ∧ w'.heap[g]? = some (.cells cs 47 (0, 0)) ∧ STc w' (· < w'.heap.size) x ca sa cc sc oa oc cs
set_option maxRecDepth 20000 in
set_option maxHeartbeats 600000 in
theorem sentence_l {x : SentT} (hc : SmT x.cond) (hs : SmT x.sum) (ho : x.over.length ≤ 1000) {w : World} {ca sa : Option Addr} {cc sc : Nat} {oa : Option Addr} {oc : Nat} {cs : Array Value} (hT : STc w (· < w.heap.size) x ca sa cc sc oa oc cs) (hno : oa = none → oc = 0) :
    Calls Tryz.prog 9 #[.agg cs] w (FsR x w) := by
  obtain ⟨W, hW⟩ : ∃ W, W = w.alloc (.cells cs 30) := ⟨_, rfl⟩
  have hb : Rc w W := by rw [hW]; exact (Rc.refl w).alloc _
  have b1 : W.heap[w.heap.size]? = some (.cells cs 30 (0, 0)) := by rw [hW]; exact heap_alloc_new _ _
  have e1 := hT.eq
  have HTW := hidLL (hT.grow hb)
  have HCo : Hid (∀ V, Rc W V → Calls Tryz.prog 24 #[.agg #[.string x.cond.kind, .string x.cond.word, .int .i64 x.cond.num, .slice ca x.cond.kids.length cc]] V fun e w' => (∃ sa sc, e = .returned (.agg #[.string x.cond.kind, .string x.cond.word, .int .i64 x.cond.num, .slice sa x.cond.kids.length sc]) ∧ NT w' (fun k => V.heap.size ≤ k ∧ k < w'.heap.size) sa sc x.cond) ∧ Below V.heap.size V w') := fun V hV => to_l _ _ rfl hc V ca cc (HTW.out.grow hV).nc
  have HSu : Hid (∀ V, Rc W V → Calls Tryz.prog 24 #[.agg #[.string x.sum.kind, .string x.sum.word, .int .i64 x.sum.num, .slice sa x.sum.kids.length sc]] V fun e w' => (∃ da dc, e = .returned (.agg #[.string x.sum.kind, .string x.sum.word, .int .i64 x.sum.num, .slice da x.sum.kids.length dc]) ∧ NT w' (fun k => V.heap.size ≤ k ∧ k < w'.heap.size) da dc x.sum) ∧ Below V.heap.size V w') := fun V hV => to_l _ _ rfl hs V sa sc (HTW.out.grow hV).ns
  have HCl : Hid (∀ V, Rc W V → V.cell? ⟨w.heap.size, 0, none⟩ = some (.string x.kind) ∧ V.cell? ⟨w.heap.size, 1, none⟩ = some (.string x.name) ∧ V.cell? ⟨w.heap.size, 2, none⟩ = some (.int .i64 x.strength) ∧ V.cell? ⟨w.heap.size, 3, none⟩ = some (.bool x.positive) ∧ V.cell? ⟨w.heap.size, 4, none⟩ = some (.string x.head) ∧ V.cell? ⟨w.heap.size, 5, none⟩ = some (.string x.cond.kind) ∧ V.cell? ⟨w.heap.size, 6, none⟩ = some (.string x.cond.word) ∧ V.cell? ⟨w.heap.size, 7, none⟩ = some (.int .i64 x.cond.num) ∧ V.cell? ⟨w.heap.size, 8, none⟩ = some (.slice ca x.cond.kids.length cc) ∧ V.cell? ⟨w.heap.size, 9, none⟩ = some (.string x.sum.kind) ∧ V.cell? ⟨w.heap.size, 10, none⟩ = some (.string x.sum.word) ∧ V.cell? ⟨w.heap.size, 11, none⟩ = some (.int .i64 x.sum.num) ∧ V.cell? ⟨w.heap.size, 12, none⟩ = some (.slice sa x.sum.kids.length sc) ∧ V.cell? ⟨w.heap.size, 13, none⟩ = some (.int .i64 x.way) ∧ V.cell? ⟨w.heap.size, 14, none⟩ = some (.slice oa x.over.length oc) ∧ V.cell? ⟨w.heap.size, 15, none⟩ = some (.int .i64 x.tn) ∧ V.cell? ⟨w.heap.size, 16, none⟩ = some (.int .i64 x.tu) ∧ V.cell? ⟨w.heap.size, 17, none⟩ = some (.int .i64 x.tr) ∧ V.cell? ⟨w.heap.size, 18, none⟩ = some (.string x.els)) := fun V hV => by
    have h9 := box9 b1 hV
    exact ⟨cell_of9 h9 (i := 0) (by rw [e1]; rfl), cell_of9 h9 (i := 1) (by rw [e1]; rfl), cell_of9 h9 (i := 2) (by rw [e1]; rfl), cell_of9 h9 (i := 3) (by rw [e1]; rfl), cell_of9 h9 (i := 4) (by rw [e1]; rfl), cell_of9 h9 (i := 5) (by rw [e1]; rfl), cell_of9 h9 (i := 6) (by rw [e1]; rfl), cell_of9 h9 (i := 7) (by rw [e1]; rfl), cell_of9 h9 (i := 8) (by rw [e1]; rfl), cell_of9 h9 (i := 9) (by rw [e1]; rfl), cell_of9 h9 (i := 10) (by rw [e1]; rfl), cell_of9 h9 (i := 11) (by rw [e1]; rfl), cell_of9 h9 (i := 12) (by rw [e1]; rfl), cell_of9 h9 (i := 13) (by rw [e1]; rfl), cell_of9 h9 (i := 14) (by rw [e1]; rfl), cell_of9 h9 (i := 15) (by rw [e1]; rfl), cell_of9 h9 (i := 16) (by rw [e1]; rfl), cell_of9 h9 (i := 17) (by rw [e1]; rfl), cell_of9 h9 (i := 18) (by rw [e1]; rfl)⟩
  generalize hcl : x.cond.kids.length = cl at HCo HSu HCl
  generalize hsl : x.sum.kids.length = sl at HCo HSu HCl
  generalize hck : x.cond.kind = ck at HCo HSu HCl
  generalize hcw : x.cond.word = cw at HCo HSu HCl
  generalize hcn : x.cond.num = cn at HCo HSu HCl
  generalize hsk : x.sum.kind = sk at HCo HSu HCl
  generalize hsw : x.sum.word = sw at HCo HSu HCl
  generalize hsn : x.sum.num = sn at HCo HSu HCl
  have HGs := hidLL (And.intro hcl (And.intro hsl (And.intro hck (And.intro hcw (And.intro hcn (And.intro hsk (And.intro hsw hsn)))))))
  clear hcl hsl hck hcw hcn hsk hsw hsn
  have HO := hidLL ho
  have HNo := hidLL hno
  have HB := hidLL hb
  have HLt : Hid (w.heap.size < W.heap.size) := (Array.getElem?_eq_some_iff.1 b1).1
  have HW := hidLL hW
  have hbu : ∀ (V : World) (ka ma : Option Addr) (kc mc : Nat), (Instr.build 47 #[(0, .string x.kind), (1, .string x.name), (2, .int .i64 x.strength), (3, .bool x.positive), (4, .string x.head), (5, .agg #[.string ck, .string cw, .int .i64 cn, .slice ka cl kc]), (6, .agg #[.string sk, .string sw, .int .i64 sn, .slice ma sl mc]), (7, .int .i64 x.way), (10, .string x.els)]).run Tryz.prog V = .ok (.agg (fsC x.kind x.name x.strength x.positive x.head ck cw cn (.slice ka cl kc) sk sw sn (.slice ma sl mc) x.way x.els)) V := fun V ka ma kc mc => run_build V _ _ _ (fs_built _ _ _ _ _ _ _ _ _ _ _ _ _ _ _ _ _ _ _)
  clear hW hb b1 hT hc hs ho hno e1
  obtain ⟨b, hbe⟩ : ∃ b, b = w.heap.size := ⟨_, rfl⟩
  rw [← hbe] at HCl
  have HS15 : Hid (∀ V, Rc W V → (fun V => V.cell? ⟨b, 0, none⟩ = some (.string x.kind) ∧ V.cell? ⟨b, 1, none⟩ = some (.string x.name) ∧ V.cell? ⟨b, 2, none⟩ = some (.int .i64 x.strength) ∧ V.cell? ⟨b, 3, none⟩ = some (.bool x.positive) ∧ V.cell? ⟨b, 4, none⟩ = some (.string x.head) ∧ V.cell? ⟨b, 5, none⟩ = some (.string ck) ∧ V.cell? ⟨b, 6, none⟩ = some (.string cw) ∧ V.cell? ⟨b, 7, none⟩ = some (.int .i64 cn) ∧ V.cell? ⟨b, 8, none⟩ = some (.slice ca cl cc) ∧ V.cell? ⟨b, 9, none⟩ = some (.string sk) ∧ V.cell? ⟨b, 10, none⟩ = some (.string sw) ∧ V.cell? ⟨b, 11, none⟩ = some (.int .i64 sn) ∧ V.cell? ⟨b, 12, none⟩ = some (.slice sa sl sc) ∧ V.cell? ⟨b, 13, none⟩ = some (.int .i64 x.way) ∧ V.cell? ⟨b, 18, none⟩ = some (.string x.els)) V) := fun V hV => by
    obtain ⟨c0, c1, c2, c3, c4, c5, c6, c7, c8, c9, c10, c11, c12, c13, c14, c15, c16, c17, c18⟩ := HCl.out V hV
    exact ⟨c0, c1, c2, c3, c4, c5, c6, c7, c8, c9, c10, c11, c12, c13, c18⟩
  obtain ⟨c0, c1, c2, c3, c4, c5, c6, c7, c8, c9, c10, c11, c12, c13, c14, c15, c16, c17, c18⟩ := HCl.out W (Rc.refl W)
  go_enter Tryz.func9, Tryz.ntmps9
  go_upto_region 1 with fail
  rw [← HW.out, ← hbe]
  have HBe := hidLL hbe
  clear c14 c15 c16 c17 hbe
  go_region_held3 (fun V => V.cell? ⟨b, 0, none⟩ = some (.string x.kind) ∧ V.cell? ⟨b, 1, none⟩ = some (.string x.name) ∧ V.cell? ⟨b, 2, none⟩ = some (.int .i64 x.strength) ∧ V.cell? ⟨b, 3, none⟩ = some (.bool x.positive) ∧ V.cell? ⟨b, 4, none⟩ = some (.string x.head) ∧ V.cell? ⟨b, 5, none⟩ = some (.string ck) ∧ V.cell? ⟨b, 6, none⟩ = some (.string cw) ∧ V.cell? ⟨b, 7, none⟩ = some (.int .i64 cn) ∧ V.cell? ⟨b, 8, none⟩ = some (.slice ca cl cc) ∧ V.cell? ⟨b, 9, none⟩ = some (.string sk) ∧ V.cell? ⟨b, 10, none⟩ = some (.string sw) ∧ V.cell? ⟨b, 11, none⟩ = some (.int .i64 sn) ∧ V.cell? ⟨b, 12, none⟩ = some (.slice sa sl sc) ∧ V.cell? ⟨b, 13, none⟩ = some (.int .i64 x.way) ∧ V.cell? ⟨b, 18, none⟩ = some (.string x.els)) (first | exact ⟨c0, c1, c2, c3, c4, c5, c6, c7, c8, c9, c10, c11, c12, c13, c18⟩ | (refine HS15.out _ ?_; repeat (first | exact Rc.refl _ | refine Rc.drew ?_ | refine Rc.drewN ?_ _ | refine Rc.alloc ?_ _ | refine Rc.trans ?_ rA | refine Rc.trans ?_ rB))) (first
    | (go_simp; go_at_call 24; refine (HCo.out _ ?_).mono ?_; (· repeat (first | exact Rc.refl _ | refine Rc.drew ?_ | refine Rc.drewN ?_ _ | refine Rc.alloc ?_ _ | refine Rc.trans ?_ rA | refine Rc.trans ?_ rB)); rintro e VA ⟨⟨ka, kc, rfl, hnA⟩, hbA⟩; (have rA := (hbA : Rc _ VA)); (have HNA := hidLL hnA); clear hbA hnA HCo)
    | (refine step_build9 rfl 47 _ rfl _ (by simp [Act.eval]; rfl) (fs_built x.kind x.name x.strength x.positive x.head ck cw cn ka cl kc sk sw sn ma sl mc x.way x.els) ?_)
    | (go_simp; go_at_call 24; refine (HSu.out _ ?_).mono ?_; (· repeat (first | exact Rc.refl _ | refine Rc.drew ?_ | refine Rc.drewN ?_ _ | refine Rc.alloc ?_ _ | refine Rc.trans ?_ rA | refine Rc.trans ?_ rB)); rintro e VB ⟨⟨ma, mc, rfl, hnB⟩, hbB⟩; (have rB := (hbB : Rc _ VB)); (have HNB := hidLL hnB); clear hbB hnB))
  have r8 : Rc W (VB.alloc (.cells #[.string x.kind, .string x.name, .int .i64 x.strength, .bool x.positive, .string x.head, .string ck, .string cw, .int .i64 cn, .slice ka cl kc, .string sk, .string sw, .int .i64 sn, .slice ma sl mc, .int .i64 x.way, .slice none 0 0, .int .i64 0, .int .i64 0, .int .i64 0, .string x.els] 47)) := (by repeat (first | exact Rc.refl _ | refine Rc.drew ?_ | refine Rc.drewN ?_ _ | refine Rc.alloc ?_ _ | refine Rc.trans ?_ rA | refine Rc.trans ?_ rB))
  have r8A : Rc VA (VB.alloc (.cells #[.string x.kind, .string x.name, .int .i64 x.strength, .bool x.positive, .string x.head, .string ck, .string cw, .int .i64 cn, .slice ka cl kc, .string sk, .string sw, .int .i64 sn, .slice ma sl mc, .int .i64 x.way, .slice none 0 0, .int .i64 0, .int .i64 0, .int .i64 0, .string x.els] 47)) := (Rc.trans (Rc.refl VA) rB).alloc _
  have H8 : Hid ((VB.alloc (.cells #[.string x.kind, .string x.name, .int .i64 x.strength, .bool x.positive, .string x.head, .string ck, .string cw, .int .i64 cn, .slice ka cl kc, .string sk, .string sw, .int .i64 sn, .slice ma sl mc, .int .i64 x.way, .slice none 0 0, .int .i64 0, .int .i64 0, .int .i64 0, .string x.els] 47)).heap[VB.heap.size]? = some (.cells #[.string x.kind, .string x.name, .int .i64 x.strength, .bool x.positive, .string x.head, .string ck, .string cw, .int .i64 cn, .slice ka cl kc, .string sk, .string sw, .int .i64 sn, .slice ma sl mc, .int .i64 x.way, .slice none 0 0, .int .i64 0, .int .i64 0, .int .i64 0, .string x.els] 47 (0, 0))) := heap_alloc_new _ _
  have HNA8 := hidLL (HNA.out.step (w' := VB.alloc (.cells #[.string x.kind, .string x.name, .int .i64 x.strength, .bool x.positive, .string x.head, .string ck, .string cw, .int .i64 cn, .slice ka cl kc, .string sk, .string sw, .int .i64 sn, .slice ma sl mc, .int .i64 x.way, .slice none 0 0, .int .i64 0, .int .i64 0, .int .i64 0, .string x.els] 47)) (P' := fun k => k < VB.heap.size) fun k hk => ⟨r8A.block k hk.2, Nat.lt_of_lt_of_le hk.2 (Below.size rB)⟩)
  have HNB8 := hidLL (HNB.out.step (w' := VB.alloc (.cells #[.string x.kind, .string x.name, .int .i64 x.strength, .bool x.positive, .string x.head, .string ck, .string cw, .int .i64 cn, .slice ka cl kc, .string sk, .string sw, .int .i64 sn, .slice ma sl mc, .int .i64 x.way, .slice none 0 0, .int .i64 0, .int .i64 0, .int .i64 0, .string x.els] 47)) (P' := fun k => k < VB.heap.size) fun k hk => ⟨Go.Deep.blk_alloc_lt _ _ _ hk.2, hk.2⟩)
  have hg8 : VB.heap.size < (VB.alloc (.cells #[.string x.kind, .string x.name, .int .i64 x.strength, .bool x.positive, .string x.head, .string ck, .string cw, .int .i64 cn, .slice ka cl kc, .string sk, .string sw, .int .i64 sn, .slice ma sl mc, .int .i64 x.way, .slice none 0 0, .int .i64 0, .int .i64 0, .int .i64 0, .string x.els] 47)).heap.size := by simp
  have hgw : W.heap.size ≤ VB.heap.size := (show Rc W VB by repeat (first | exact Rc.refl _ | refine Rc.drew ?_ | refine Rc.drewN ?_ _ | refine Rc.alloc ?_ _ | refine Rc.trans ?_ rA | refine Rc.trans ?_ rB)).size
  have HR8 := hidLL r8
  clear r8 r8A HNA HNB rA rB HS15 HSu hbu c0 c1 c2 c3 c4 c5 c6 c7 c8 c9 c10 c11 c12 c13 c18
  generalize VB.alloc (.cells #[.string x.kind, .string x.name, .int .i64 x.strength, .bool x.positive, .string x.head, .string ck, .string cw, .int .i64 cn, .slice ka cl kc, .string sk, .string sw, .int .i64 sn, .slice ma sl mc, .int .i64 x.way, .slice none 0 0, .int .i64 0, .int .i64 0, .int .i64 0, .string x.els] 47) = V8 at *
  generalize VB.heap.size = g at *
  have HOv : Hid (∀ V, Rc W V → RdS stE V (· < V.heap.size) (.slice oa x.over.length oc) x.over) := fun V hV => (HTW.out.grow hV).ov
  have hbg : ¬ b = g := by have := HBe.out; have := HB.out.size; have := hgw; have h9 : w.heap.size < W.heap.size := HLt.out; omega
  obtain ⟨d0, d1, d2, d3, d4, d5, d6, d7, d8, d9, d10, d11, d12, d13, d14, d15, d16, d17, d18⟩ := HCl.out V8 HR8.out
  clear d0 d1 d2 d3 d4 d5 d6 d7 d8 d9 d10 d11 d12 d13 d18
  have k14 := cell_of9 H8.out (i := 14) rfl
  have kf : V8.frozen? ⟨g, 14, none⟩ = false := frozen_of_row _ g _ _ _ H8.out
  have HOl := hidLL HO.out
  have hol : (0 : Nat) + x.over.length ≤ 1000000 := by have := HO.out; omega
  go_upto_region 2 with fail
  go_region_law (first
    | (refine step_cat (E := stE) (T := 9) (S := 26) (bytes := 16) (a := oa) (n := x.over.length) (c := oc) Tryz.infoSt (by decide) Tryz.underlying26 rfl (.tmp 30) (.tmp 32) rfl V8.heap.size (.slice none 0 0) [] x.over (by first | (simp [Act.eval]; done) | simp [Act.eval, Act.put]) (RowG.nil _ _) (by first | (simp [Act.eval]; done) | simp [Act.eval, Act.put]) (HOv.out _ (by first | exact HR8.out | exact HR8.out.drew)) HNo.out (Nat.le_refl _) hol ?_
       intro v9 w9 hr9 hb9 hk9
       obtain ⟨pa, pn, pc, rfl, hp9⟩ := hr9.any3
       have q14 := (hb9.cell (p := ⟨g, 14, none⟩) hg8).trans k14
       have qf := (hb9.frozen (p := ⟨g, 14, none⟩) hg8).trans kf
       have H9 := hidLL (And.intro hr9 (And.intro hb9 hp9))
       clear hr9 hb9 hp9 hk9))
  all_goals (
    have G9 : w9.heap[g]? = some (.cells #[.string x.kind, .string x.name, .int .i64 x.strength, .bool x.positive, .string x.head, .string ck, .string cw, .int .i64 cn, .slice ka cl kc, .string sk, .string sw, .int .i64 sn, .slice ma sl mc, .int .i64 x.way, .slice none 0 0, .int .i64 0, .int .i64 0, .int .i64 0, .string x.els] 47 (0, 0)) := (H9.out.2.1.block g hg8).trans H8.out
    have G10 : (w9.setCell ⟨g, 14, none⟩ (.slice pa pn pc)).heap[g]? = some (.cells #[.string x.kind, .string x.name, .int .i64 x.strength, .bool x.positive, .string x.head, .string ck, .string cw, .int .i64 cn, .slice ka cl kc, .string sk, .string sw, .int .i64 sn, .slice ma sl mc, .int .i64 x.way, .slice pa pn pc, .int .i64 0, .int .i64 0, .int .i64 0, .string x.els] 47 (0, 0)) := by rw [heap_set G9]; rfl
    have hbl : b < V8.heap.size := cell_lt d15
    have f15 := (World.cell?_of_block (a := ⟨b, 15, none⟩) (Below.heap_setCell w9 ⟨g, 14, none⟩ (.slice pa pn pc) b hbg)).trans ((H9.out.2.1.cell (p := ⟨b, 15, none⟩) hbl).trans d15)
    have f16 := (World.cell?_of_block (a := ⟨b, 16, none⟩) (Below.heap_setCell w9 ⟨g, 14, none⟩ (.slice pa pn pc) b hbg)).trans ((H9.out.2.1.cell (p := ⟨b, 16, none⟩) hbl).trans d16)
    have f17 := (World.cell?_of_block (a := ⟨b, 17, none⟩) (Below.heap_setCell w9 ⟨g, 14, none⟩ (.slice pa pn pc) b hbg)).trans ((H9.out.2.1.cell (p := ⟨b, 17, none⟩) hbl).trans d17)
    have HU : Hid (∀ k, k ≠ g → (w9.setCell ⟨g, 14, none⟩ (.slice pa pn pc)).heap[k]? = w9.heap[k]?) := fun k hk => Below.heap_setCell _ _ _ _ hk
    have HUs : Hid (w9.heap.size = (w9.setCell ⟨g, 14, none⟩ (.slice pa pn pc)).heap.size ∧ (w9.setCell ⟨g, 14, none⟩ (.slice pa pn pc)).os = w9.os ∧ (w9.setCell ⟨g, 14, none⟩ (.slice pa pn pc)).tape = w9.tape ∧ (w9.setCell ⟨g, 14, none⟩ (.slice pa pn pc)).output = w9.output) := ⟨by simp, rfl, rfl, rfl⟩
    have g15 := cell_of9 G10 (i := 15) rfl
    have g16 := cell_of9 G10 (i := 16) rfl
    have g17 := cell_of9 G10 (i := 17) rfl
    have fz : ∀ j, (w9.setCell ⟨g, 14, none⟩ (.slice pa pn pc)).frozen? ⟨g, j, none⟩ = false := fun j => frozen_of_row _ g _ _ _ G10
    have fz15 := fz 15
    have fz16 := fz 16
    have fz17 := fz 17
    have HG10 := hidLL G10
    clear G9 G10 fz k14 kf d14 d15 d16 d17 q14 qf H8
    generalize w9.setCell ⟨g, 14, none⟩ (.slice pa pn pc) = U at *
    go_wp2
    go_ret
    have hF : (((U.setCell ⟨g, 15, none⟩ (.int .i64 x.tn)).setCell ⟨g, 16, none⟩ (.int .i64 x.tu)).setCell ⟨g, 17, none⟩ (.int .i64 x.tr)).heap[g]? = some (.cells #[.string x.kind, .string x.name, .int .i64 x.strength, .bool x.positive, .string x.head, .string ck, .string cw, .int .i64 cn, .slice ka cl kc, .string sk, .string sw, .int .i64 sn, .slice ma sl mc, .int .i64 x.way, .slice pa pn pc, .int .i64 x.tn, .int .i64 x.tu, .int .i64 x.tr, .string x.els] 47 (0, 0)) := by
      rw [heap_set (heap_set (heap_set HG10.out _) _)]; rfl
    have hFk : ∀ k, k ≠ g → (((U.setCell ⟨g, 15, none⟩ (.int .i64 x.tn)).setCell ⟨g, 16, none⟩ (.int .i64 x.tu)).setCell ⟨g, 17, none⟩ (.int .i64 x.tr)).heap[k]? = w9.heap[k]? := fun k hk => by
      rw [Below.heap_setCell _ _ _ _ hk, Below.heap_setCell _ _ _ _ hk, Below.heap_setCell _ _ _ _ hk]
      exact HU.out k hk
    have hFs : (((U.setCell ⟨g, 15, none⟩ (.int .i64 x.tn)).setCell ⟨g, 16, none⟩ (.int .i64 x.tu)).setCell ⟨g, 17, none⟩ (.int .i64 x.tr)).heap.size = w9.heap.size := by
      simp
      exact HUs.out.1.symm
    obtain ⟨p1, p2, p3, p4, p5, p6, p7, p8⟩ := HGs.out
    have hb9 := H9.out.2.1
    have hpn : pn = x.over.length := by have := H9.out.2.2; simpa using this
    have hsz1 := HB.out.size
    have hwg : w.heap.size ≤ g := by omega
    have hr8 : Below w.heap.size w V8 := HB.out.trans HR8.out
    refine ⟨⟨HUs.out.2.1.trans (hb9.os.trans hr8.os), HUs.out.2.2.1.trans (hb9.tape.trans hr8.tape), HUs.out.2.2.2.trans (hb9.output.trans hr8.output), by rw [hFs]; exact Nat.le_trans hr8.size hb9.size, fun k hk => (hFk k (by omega)).trans ((hb9.block k (Nat.lt_of_lt_of_le hk hr8.size)).trans (hr8.block k hk))⟩, g, ka, ma, kc, mc, pa, pc, _, rfl, hwg, hF, ?_, ?_, ?_, ?_⟩
    · rw [p1, p2, p3, p4, p5, p6, p7, p8, hpn]
    · exact HNA8.out.step fun k hk => (show _ ∧ k < _ by
        have h9 : k < g := hk
        have := hb9.size
        have hdr : V8.drew.heap.size = V8.heap.size := rfl
        rw [hFs]
        exact ⟨(hFk k (by omega)).trans (hb9.block k (by omega)), by omega⟩)
    · exact HNB8.out.step fun k hk => (show _ ∧ k < _ by
        have h9 : k < g := hk
        have := hb9.size
        have hdr : V8.drew.heap.size = V8.heap.size := rfl
        rw [hFs]
        exact ⟨(hFk k (by omega)).trans (hb9.block k (by omega)), by omega⟩)
    · have hrd := H9.out.1.rdS
      rw [List.nil_append, hpn] at hrd
      exact hrd.on fun k hk => ⟨by rw [hFs]; exact hk.2.1, hFk k (by have := hk.1; omega)⟩)
end Go.Proofs.YtehbinobohjadaaGreatDoor

/-
  Cases: a case that has just been opened, in memory.
-/
import Derived.Test.YtpijiglmjkdlgaaDoorCsCl
import Derived.Deep.RegionHeld3
namespace Go.Proofs.YtpijiglmjkdlgaaDoor
open Go.RowKit

/-- A world is reached where nothing that is there changes. -/
def Rch (w w' : World) : Prop := Below w.heap.size w w'
theorem Rch.refl (w : World) : Rch w w := Below.refl _ _
theorem Rch.trans {a b c : World} (h : Rch a b) (k : Rch b c) : Rch a c := Below.trans h (Below.mono k h.size)
theorem Rch.drew {a b : World} (h : Rch a b) : Rch a b.drew := Below.drew h
theorem Rch.drewN {a b : World} (h : Rch a b) (n : Nat) : Rch a (b.drewN n) := bdrewN h n
theorem Rch.alloc {a b : World} (h : Rch a b) (o : Obj) : Rch a (b.alloc o) := Below.alloc h h.size o
def Ty (w : World) (k t : Nat) : Prop := ∃ cs fz, w.heap[k]? = some (.cells cs t fz)
theorem Ty.lt {w : World} {k t : Nat} (h : Ty w k t) : k < w.heap.size := by
  obtain ⟨_, _, h⟩ := h
  exact (Array.getElem?_eq_some_iff.1 h).1
theorem Ty.on {w w' : World} {k t : Nat} (h : Ty w k t) (hb : w'.heap[k]? = w.heap[k]?) : Ty w' k t := by
  obtain ⟨cs, fz, h⟩ := h
  exact ⟨cs, fz, hb.trans h⟩
theorem Ty.one {w : World} {k t t' : Nat} (h : Ty w k t) (h' : Ty w k t') : t = t' := by
  obtain ⟨_, _, h⟩ := h
  obtain ⟨_, _, h'⟩ := h'
  rw [h] at h'
  injection h' with h'
  injection h'
/-- What is read of a row lies in blocks of its kind. -/
theorem RowG.rdTy {α : Type} {E : Enc α} {T : Nat} {w : World} {B : Nat} {v : Value} {l : List α} (h : RowG E T w B v l) : RdS E w (fun k => Ty w k T) v l := by
  obtain ⟨a, c, e, hl, hx⟩ := h.rdS
  refine ⟨a, c, e, hl, fun j x hj => ?_⟩
  obtain ⟨g, o, h1, h2, h3⟩ := hx j x hj
  refine ⟨g, o, h1, ?_, h3⟩
  rcases h.row.2 with ⟨e2, _⟩ | ⟨g', cap, cur, e2, _, hg, _⟩
  · rw [e2] at h2
    cases h2.2.2
  · rw [e2] at h2
    have h4 := h2.2.2
    injection h4 with h4
    have h4 : g' = g := h4
    subst h4
    exact ⟨_, _, hg⟩
theorem RdS.reach {α : Type} {E : Enc α} {T : Nat} {w w' : World} {v : Value} {l : List α} (h : RdS E w (fun k => Ty w k T) v l) (hr : Rch w w') : RdS E w' (fun k => Ty w' k T) v l :=
  h.on fun k hk => ⟨hk.on (hr.block k hk.lt), hr.block k hk.lt⟩
/-- THE CASE AS IT IS OPENED. -/
theorem opened {V : World} {p : Pn} {fv mv : SlV} {tb g : Nat} {on : Int} (hF : RdS strE V (fun k => Ty V k 9) (.slice fv.a fv.n fv.c) p.fin) (hM : RdS mvE V (fun k => Ty V k 57) (.slice mv.a mv.n mv.c) p.mvs)
    (hT : V.rowIs tb 3 p.mvs.length (fun _ => .int .i64 0)) (hG : V.heap[g]? = some (.cells #[.bool false, .bool false, .bool false, .bool false, .bool false, .bool false, .bool false, .int .i64 7, .slice none 0 0] 78 (0, 0))) :
    CaseAt (V.alloc (.cells #[.slice fv.a fv.n fv.c, .slice mv.a mv.n mv.c, .slice (some ⟨tb, 0, none⟩) p.mvs.length p.mvs.length, .pointer (some ⟨g, 0, none⟩), .string p.start, .int .i64 on, .slice none 0 0] 62)) ⟨V.heap.size, tb, g, V.heap.size + 1, p, fv, mv⟩ ⟨none, 0, 0⟩ (List.replicate p.mvs.length 0) p.start on [] := by
  have hTt : Ty V tb 3 := by
    obtain ⟨c, h, _⟩ := hT
    exact ⟨_, _, h⟩
  have hGt : Ty V g 78 := ⟨_, _, hG⟩
  have hlt := hTt.lt
  have hlg := hGt.lt
  have hold : ∀ (o : Obj) k, k < V.heap.size → (V.alloc o).heap[k]? = V.heap[k]? := fun o k hk => Below.heap_alloc V o k hk
  refine ⟨Go.Deep.blk_alloc_new V _, ?_, (hold _ g hlg).trans hG, hF.on fun k hk => ⟨⟨?_, ?_, ?_⟩, hold _ k hk.lt⟩, hM.on fun k hk => ⟨⟨?_, ?_, ?_⟩, hold _ k hk.lt⟩, RowG.nil _ _, by simp, ?_, ?_, ?_, ?_, ?_, ?_, by simp⟩
  · obtain ⟨c, h1, h2, h3⟩ := hT
    refine ⟨c, (hold _ tb hlt).trans h1, h2, fun i hi => ?_⟩
    rw [h3 i hi]
    simp [List.getD, hi]
  · show k < V.heap.size + 1
    have := hk.lt
    omega
  · show k ≠ V.heap.size
    have := hk.lt
    omega
  · show k ≠ tb
    rintro rfl
    exact absurd (hk.one hTt) (by decide)
  · show k < V.heap.size + 1
    have := hk.lt
    omega
  · show k ≠ V.heap.size
    have := hk.lt
    omega
  · show k ≠ tb
    rintro rfl
    exact absurd (hk.one hTt) (by decide)
  · show V.heap.size ≠ tb
    omega
  · show V.heap.size ≠ g
    omega
  · show tb ≠ g
    rintro rfl
    exact absurd (hTt.one hGt) (by decide)
  · show V.heap.size < V.heap.size + 1
    omega
  · show tb < V.heap.size + 1
    omega
  · show g < V.heap.size + 1
    omega
end Go.Proofs.YtpijiglmjkdlgaaDoor
namespace Go.Proofs.YtpijiglmjkdlgaaDoor
open Go.RowKit

section
variable {w : World} {S : Nat → Prop} {p : Pn} {pf pm : SlV}
/-- What Open answers. -/
def OpR (w : World) (p : Pn) (on : Int) (e : Ending) (w' : World) : Prop :=
  (∃ a, e = .returned (.tuple #[.pointer none, .iface 134 (.pointer (some a))]) ∧ ¬ (Bare p ∧ isDayB on = true) ∧ Below w.heap.size w w') ∨
  ∃ D : KD, e = .returned (.tuple #[.pointer (some ⟨D.kb, 0, none⟩), .nilIface]) ∧ D.p = p ∧ w.heap.size ≤ D.kb ∧ w.heap.size ≤ D.tb ∧ w.heap.size ≤ D.B ∧ Fit p ∧ isDayB on = true ∧ CaseAt w' D ⟨none, 0, 0⟩ (List.replicate p.mvs.length 0) p.start on [] ∧ Below w.heap.size w w'
theorem made_reach {Y X : World} {n : Nat} (h : Rch (Y.alloc (.cells (madeCells #[.int .i64 0] n) 3)) X) : X.rowIs Y.heap.size 3 n (fun _ => .int .i64 0) :=
  (World.rowIs_made Y (.int .i64 0) n 3).of_block (h.block _ (by simp))
theorem OpR.good {X : World} {on : Int} {fa ma : Option Addr} {fn fc mn mc tb g n kb : Nat} (hkb : kb = X.heap.size) (hb : Below w.heap.size w X) (hF : RdS strE X (fun k => Ty X k 9) (.slice fa fn fc) p.fin) (hM : RdS mvE X (fun k => Ty X k 57) (.slice ma mn mc) p.mvs)
    (hn : n = p.mvs.length) (hT : X.rowIs tb 3 n (fun _ => .int .i64 0)) (htb : w.heap.size ≤ tb) (hG : X.heap[g]? = some (.cells #[.bool false, .bool false, .bool false, .bool false, .bool false, .bool false, .bool false, .int .i64 7, .slice none 0 0] 78 (0, 0))) (hf : Fit p) (hd : isDayB on = true) :
    OpR w p on (.returned (.tuple #[.pointer (some ⟨kb, 0, none⟩), .nilIface])) (X.alloc (.cells #[.slice fa fn fc, .slice ma mn mc, .slice (some ⟨tb, 0, none⟩) n n, .pointer (some ⟨g, 0, none⟩), .string p.start, .int .i64 on, .slice none 0 0] 62)) := by
  subst hn hkb
  have hsz := hb.size
  exact .inr ⟨⟨X.heap.size, tb, g, X.heap.size + 1, p, ⟨fa, fn, fc⟩, ⟨ma, mn, mc⟩⟩, rfl, rfl, hsz, htb, Nat.le_succ_of_le hsz, hf, hd, opened (fv := ⟨fa, fn, fc⟩) (mv := ⟨ma, mn, mc⟩) hF hM hT hG, hb.alloc hsz _⟩
set_option maxHeartbeats 8000000 in
set_option maxRecDepth 20000 in
theorem open_p (h : PnAt w S p pf pm) (hsz : ∀ s, s ∈ p.names → s.size ≤ maxLen) (hf : pf.n ≤ 1000) {pp : Nat → Addr} (L : Laid w pp) (on : Int) : Calls Tryd.prog 6 #[.agg #[.string p.start, .slice pf.a pf.n pf.c, .slice pm.a pm.n pm.c], .int .i64 on, .pointer none] w (OpR w p on) := by
  obtain ⟨W, hW⟩ : ∃ W, W = w.alloc (.cells #[.string p.start, .slice pf.a pf.n pf.c, .slice pm.a pm.n pm.c] 33) := ⟨_, rfl⟩
  obtain ⟨ab, hab⟩ : ∃ ab, ab = w.heap.size := ⟨_, rfl⟩
  have H : Hid (PBx w W ab S p pf pm) := by rw [hab]; exact PBx.mk0 h hW
  have HW := hidLL (And.intro hW hab)
  have HL : Hid (∀ V, Below w.heap.size w V → Laid V pp) := fun V hV => L.below hV
  obtain ⟨hpn, hbig⟩ := h.mvs.len
  have HN := hidLL hpn
  obtain ⟨c0, c1, c2⟩ := H.out.cells
  have HC := hidLL (valid_p H.out.pn hsz (HL.out W H.out.bel))
  have HF := hidLL hf
  have HDy := hidLL (fun V => isDay_any on V)
  clear h L hW hab hpn hsz hf
  go_enter Tryd.func6, Tryd.ntmps6
  go_upto_region 1 with fail
  rw [← HW.out.1, ← HW.out.2]
  go_wp2_with fail
  refine HC.out.mono ?_
  rintro e V1 ⟨v, rfl, hv, hfit, hbare, hb1⟩
  have HP1 := hidLL (H.out.step hb1)
  have HV := hidLL (And.intro hfit hbare)
  clear hfit hbare hb1 HC c0 c1 c2 H HW
  rcases hv with rfl | ⟨a, rfl⟩
  case inr =>
    go_wp2
    go_ret2
    exact .inl ⟨a, rfl, fun h9 => (by have := HV.out.2 h9.1; cases this), HP1.out.bel⟩
  case inl =>
  obtain ⟨db, hdb⟩ : ∃ db, db = isDayB on := ⟨_, rfl⟩
  rw [← hdb] at HDy
  have HDb := hidLL hdb
  clear hdb
  obtain ⟨c0, c1, c2⟩ := HP1.out.cells
  go_wp2_with fail
  refine (HDy.out _).mono ?_
  rintro e w9 ⟨rfl, h9⟩
  subst w9
  cases db with
  | false =>
    have g0 : V1.cell? ⟨0, 0, none⟩ = _ := (HL.out V1 HP1.out.bel).cell 0 (by omega)
    go_wp2_with fail
    go_quiet (fail)
    go_wp2
    go_ret2
    exact .inl ⟨_, rfl, fun h9 => (by have := HDb.out; rw [h9.2] at this; cases this), bdrewN HP1.out.bel _⟩
  | true =>
  have HFit : Hid (Fit p) := HV.out.1 (by trivial)
  have hm120 : pm.n ≤ 120 := by have := HFit.out.mv; have := HN.out; omega
  have hmk : ∀ w : World, (Instr.makeSlice 58 (.int .i64 (pm.n : Int)) (.int .i64 (pm.n : Int))).run Tryd.prog w = .ok (.slice (some ⟨w.heap.size, 0, none⟩) pm.n pm.n) (w.alloc (.cells (madeCells #[.int .i64 0] pm.n) 3)) := fun w => make_ints pm.n (by omega) w
  have HCl : Hid (∀ V, Rch V1 V → V.cell? ⟨ab, 0, none⟩ = some (.string p.start) ∧ V.cell? ⟨ab, 1, none⟩ = some (.slice pf.a pf.n pf.c) ∧ V.cell? ⟨ab, 2, none⟩ = some (.slice pm.a pm.n pm.c)) := fun V hV => (HP1.out.step hV).cells
  have HA : Hid (∀ V, Rch V1 V → Calls Tryd.prog 15 #[.slice pf.a pf.n pf.c] V (CloR strE 9 V p.fin)) := fun V hV => clone_s ((HP1.out.step hV).pn.fin.mono fun k hk => (HP1.out.step hV).pn.lt k hk) (by have := HF.out; omega)
  have HB : Hid (∀ V, Rch V1 V → Calls Tryd.prog 16 #[.slice pm.a pm.n pm.c] V (CloR mvE 57 V p.mvs)) := fun V hV => clone_m ((HP1.out.step hV).pn.mvs.mono fun k hk => (HP1.out.step hV).pn.lt k hk) (by omega)
  go_wp2_with fail
  go_region_held3 (fun V => V.cell? ⟨ab, 0, none⟩ = some (.string p.start) ∧ V.cell? ⟨ab, 1, none⟩ = some (.slice pf.a pf.n pf.c) ∧ V.cell? ⟨ab, 2, none⟩ = some (.slice pm.a pm.n pm.c)) (first | exact ⟨c0, c1, c2⟩ | (refine HCl.out _ ?_; repeat (first | exact Rch.refl _ | refine Rch.drew ?_ | refine Rch.drewN ?_ _ | refine Rch.alloc ?_ _ | refine Rch.trans ?_ rD | refine Rch.trans ?_ rB | refine Rch.trans ?_ rA))) (first
    | (go_simp; go_at_call 15; refine (HA.out _ ?_).mono ?_; (· repeat (first | exact Rch.refl _ | refine Rch.drew ?_ | refine Rch.drewN ?_ _ | refine Rch.alloc ?_ _ | refine Rch.trans ?_ rD | refine Rch.trans ?_ rB | refine Rch.trans ?_ rA)); rintro e VA ⟨⟨fa, fn, fc, rfl, hrA⟩, hbA⟩; (have rA := (hbA : Rch _ VA)); (have HRA := hidLL hrA.rdTy); clear hbA hrA)
    | (go_simp; go_at_call 16; refine (HB.out _ ?_).mono ?_; (· repeat (first | exact Rch.refl _ | refine Rch.drew ?_ | refine Rch.drewN ?_ _ | refine Rch.alloc ?_ _ | refine Rch.trans ?_ rD | refine Rch.trans ?_ rB | refine Rch.trans ?_ rA)); rintro e VB ⟨⟨ma, mn, mc, rfl, hrB⟩, hbB⟩; (have rB := (hbB : Rch _ VB)); (have HRB := hidLL hrB.rdTy); clear hbB hrB)
    | (go_simp; go_at_call 17; refine (newPlan_none _).mono ?_; rintro e VD ⟨g, rfl, hgD, hrD, hbD⟩; (have rD := (hbD : Rch _ VD)); (have HRD := hidLL hrD); clear hbD hrD hgD))
  all_goals (
    go_wp2_with fail
    go_ret2
    refine OpR.good (hkb := ?_) (hb := ?_) (hF := HRA.out.reach ?_) (hM := HRB.out.reach ?_) HN.out (hT := made_reach ?_) (htb := ?_) (hG := ?_) HFit.out HDb.out.symm
    · simp
    · refine HP1.out.bel.trans (Below.mono (?_ : Rch V1 _) HP1.out.bel.size)
      repeat (first | exact Rch.refl _ | refine Rch.drew ?_ | refine Rch.drewN ?_ _ | refine Rch.alloc ?_ _ | refine Rch.trans ?_ rD | refine Rch.trans ?_ rB | refine Rch.trans ?_ rA)
    · repeat (first | exact Rch.refl _ | refine Rch.drew ?_ | refine Rch.drewN ?_ _ | refine Rch.alloc ?_ _ | refine Rch.trans ?_ rD | refine Rch.trans ?_ rB | refine Rch.trans ?_ rA)
    · repeat (first | exact Rch.refl _ | refine Rch.drew ?_ | refine Rch.drewN ?_ _ | refine Rch.alloc ?_ _ | refine Rch.trans ?_ rD | refine Rch.trans ?_ rB | refine Rch.trans ?_ rA)
    · repeat (first | exact Rch.refl _ | refine Rch.drew ?_ | refine Rch.drewN ?_ _ | refine Rch.alloc ?_ _ | refine Rch.trans ?_ rD | refine Rch.trans ?_ rB | refine Rch.trans ?_ rA)
    · refine Nat.le_trans HP1.out.bel.size (Below.size (B := V1.heap.size) (?_ : Rch V1 _))
      repeat (first | exact Rch.refl _ | refine Rch.drew ?_ | refine Rch.drewN ?_ _ | refine Rch.alloc ?_ _ | refine Rch.trans ?_ rD | refine Rch.trans ?_ rB | refine Rch.trans ?_ rA)
    · refine ((?_ : Rch VD _).block g (Array.getElem?_eq_some_iff.1 HRD.out).1).trans HRD.out
      repeat (first | exact Rch.refl _ | refine Rch.drew ?_ | refine Rch.drewN ?_ _ | refine Rch.alloc ?_ _ | refine Rch.trans ?_ rD | refine Rch.trans ?_ rB | refine Rch.trans ?_ rA))
end
end Go.Proofs.YtpijiglmjkdlgaaDoor

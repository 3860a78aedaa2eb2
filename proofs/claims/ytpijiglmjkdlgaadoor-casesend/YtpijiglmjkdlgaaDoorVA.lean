/-
  A nil calendar; terms that are none (written by tools/gencsv2.py).
-/
import Derived.Test.YtpijiglmjkdlgaaDoorCsV1
import Derived.Test.YtpijiglmjkdlgaaDoorDuA
namespace Go.Proofs.YtpijiglmjkdlgaaDoor
open Go.RowKit

set_option maxHeartbeats 1000000 in
theorem plan_none (w : World) : Calls Tryd.prog 32 #[.pointer none] w fun e w' => e = .returned (.agg #[.bool false, .bool false, .bool false, .bool false, .bool false, .bool false, .bool false, .int .i64 7, .slice none 0 0]) ∧ Below w.heap.size w w' := by
  have HB : Hid (∀ o v0 v1 v2 v3 v4 v5 v6 v7 v8, Below w.heap.size w ((((((((((w.alloc o).setCell ⟨w.heap.size, 0, none⟩ v0).setCell ⟨w.heap.size, 1, none⟩ v1).setCell ⟨w.heap.size, 2, none⟩ v2).setCell ⟨w.heap.size, 3, none⟩ v3).setCell ⟨w.heap.size, 4, none⟩ v4).setCell ⟨w.heap.size, 5, none⟩ v5).setCell ⟨w.heap.size, 6, none⟩ v6).setCell ⟨w.heap.size, 7, none⟩ v7).setCell ⟨w.heap.size, 8, none⟩ v8)) := fun o v0 v1 v2 v3 v4 v5 v6 v7 v8 => by
    have h0 : Below w.heap.size w (w.alloc o) := (Below.refl _ _).alloc (Nat.le_refl _) _
    exact ((((((((h0.setCell (p := ⟨w.heap.size, 0, none⟩) (Nat.le_refl _) _).setCell (p := ⟨w.heap.size, 1, none⟩) (Nat.le_refl _) _).setCell (p := ⟨w.heap.size, 2, none⟩) (Nat.le_refl _) _).setCell (p := ⟨w.heap.size, 3, none⟩) (Nat.le_refl _) _).setCell (p := ⟨w.heap.size, 4, none⟩) (Nat.le_refl _) _).setCell (p := ⟨w.heap.size, 5, none⟩) (Nat.le_refl _) _).setCell (p := ⟨w.heap.size, 6, none⟩) (Nat.le_refl _) _).setCell (p := ⟨w.heap.size, 7, none⟩) (Nat.le_refl _) _).setCell (p := ⟨w.heap.size, 8, none⟩) (Nat.le_refl _) _
  have HA : Hid (∀ o, Below w.heap.size w (w.alloc o)) := fun o => (Below.refl _ _).alloc (Nat.le_refl _) _
  go_enter Tryd.func32, Tryd.ntmps32
  go_wp2
  refine bodyPost_ret (v := .agg #[.bool false, .bool false, .bool false, .bool false, .bool false, .bool false, .bool false, .int .i64 7, .slice none 0 0]) (by simp [results, Tryd.results32, go_sem]) rfl ⟨rfl, ?_⟩
  first
    | exact HA.out _
    | exact HB.out _ _ _ _ _ _ _ _ _ _
theorem plan_noneR (w : World) : Calls Tryd.prog 32 #[.pointer none] w (PlanR (fun _ => false) [] w) := by
  refine (plan_none w).mono ?_
  rintro e w' ⟨rfl, hb⟩
  exact ⟨⟨_, rfl, fun _ => false, .slice none 0 0, fun _ => rfl, rfl, .inl ⟨rfl, by simp [hol, ready, Lib.compact]; rfl⟩, by simp⟩, hb⟩
set_option maxHeartbeats 1000000 in
theorem newPlan_none (w : World) : Calls Tryd.prog 17 #[.pointer none] w fun e w' => ∃ g, e = .returned (.pointer (some ⟨g, 0, none⟩)) ∧ w.heap.size ≤ g ∧ w'.heap[g]? = some (.cells #[.bool false, .bool false, .bool false, .bool false, .bool false, .bool false, .bool false, .int .i64 7, .slice none 0 0] 78 (0, 0)) ∧ Below w.heap.size w w' := by
  have HP := hidLL (plan_none w)
  go_enter Tryd.func17, Tryd.ntmps17
  go_wp2_with fail
  refine HP.out.mono ?_
  rintro e w1 ⟨rfl, hb⟩
  have HB := hidLL hb
  clear hb
  go_wp2
  go_ret
  exact ⟨w1.heap.size, rfl, HB.out.size, Go.Deep.blk_alloc_new w1 _, HB.out.trans ((bel1 _ _).mono HB.out.size)⟩
set_option maxHeartbeats 1000000 in
theorem calDue_p {w : World} {p : Nat → Addr} (L : Laid w p) (d N U R : Int) : ∃ r : DR, Calls Tryd.prog 45 #[.pointer none, .int .i64 d, .agg #[.int .i64 N, .int .i64 U, .int .i64 R]] w fun e w' => e = .returned (r.val p) ∧ Below w.heap.size w w' := by
  obtain ⟨r, hr, _⟩ := M.due_ex (fun _ => false) [] p d N U R
  refine ⟨r, ?_⟩
  obtain ⟨W, hW⟩ : ∃ W, W = w.alloc (.cells #[.int .i64 N, .int .i64 U, .int .i64 R] 55) := ⟨_, rfl⟩
  obtain ⟨ab, hab⟩ : ∃ ab, ab = w.heap.size := ⟨_, rfl⟩
  have hb : Below w.heap.size w W := by rw [hW]; exact (Below.refl _ _).alloc (Nat.le_refl _) _
  have hbk : W.heap[ab]? = some (.cells #[.int .i64 N, .int .i64 U, .int .i64 R] 55 (0, 0)) := by rw [hW, hab]; exact Go.Deep.blk_alloc_new w _
  have n0 : W.cell? ⟨ab, 0, none⟩ = some (.int .i64 N) := by rw [cell_of_row _ ab 0 _ _ _ hbk]; rfl
  have n1 : W.cell? ⟨ab, 1, none⟩ = some (.int .i64 U) := by rw [cell_of_row _ ab 1 _ _ _ hbk]; rfl
  have n2 : W.cell? ⟨ab, 2, none⟩ = some (.int .i64 R) := by rw [cell_of_row _ ab 2 _ _ _ hbk]; rfl
  have HC := hidLL (hr W none (L.below hb) fun V _ => plan_noneR V)
  have HW := hidLL (And.intro hW (And.intro hab hb))
  clear L hr hW hab hb hbk
  go_enter Tryd.func45, Tryd.ntmps45
  go_upto_region 1 with fail
  rw [← HW.out.1, ← HW.out.2.1]
  go_wp2_with fail
  refine HC.out.mono ?_
  rintro e w2 ⟨rfl, hb2⟩
  have HB2 := hidLL (HW.out.2.2.trans (hb2.mono HW.out.2.2.size))
  clear hb2
  cases r with
  | ok x =>
    simp only [DR.val]
    go_wp2
    go_ret2
    exact ⟨rfl, HB2.out⟩
  | er k =>
    simp only [DR.val]
    go_wp2
    go_ret2
    exact ⟨rfl, HB2.out⟩
/-- Nothing, or an error. -/
def ErrV (v : Value) : Prop := v = .nilIface ∨ ∃ a, v = .iface 134 (.pointer (some a))
section
variable {w : World} {S : Nat → Prop} {p : Pn} {pf pm : SlV}
/-- A plan in a block of its own. -/
structure PBx (w0 w : World) (ab : Nat) (S : Nat → Prop) (p : Pn) (pf pm : SlV) : Prop where
  pn : PnAt w S p pf pm
  blk : w.heap[ab]? = some (.cells #[.string p.start, .slice pf.a pf.n pf.c, .slice pm.a pm.n pm.c] 33 (0, 0))
  bel : Below w0.heap.size w0 w
theorem PBx.step {w0 w' : World} {ab : Nat} (h : PBx w0 w ab S p pf pm) (hb : Below w.heap.size w w') : PBx w0 w' ab S p pf pm :=
  ⟨h.pn.step hb, (hb.block ab (Array.getElem?_eq_some_iff.1 h.blk).1).trans h.blk, h.bel.trans (hb.mono h.bel.size)⟩
theorem PBx.mk0 {W : World} (h : PnAt w S p pf pm) (hW : W = w.alloc (.cells #[.string p.start, .slice pf.a pf.n pf.c, .slice pm.a pm.n pm.c] 33)) : PBx w W w.heap.size S p pf pm := by
  have hb : Below w.heap.size w W := by rw [hW]; exact (Below.refl _ _).alloc (Nat.le_refl _) _
  exact ⟨h.step hb, by rw [hW]; exact Go.Deep.blk_alloc_new w _, hb⟩
theorem PBx.cells {w0 : World} {ab : Nat} (h : PBx w0 w ab S p pf pm) : w.cell? ⟨ab, 0, none⟩ = some (.string p.start) ∧ w.cell? ⟨ab, 1, none⟩ = some (.slice pf.a pf.n pf.c) ∧ w.cell? ⟨ab, 2, none⟩ = some (.slice pm.a pm.n pm.c) := by
  refine ⟨?_, ?_, ?_⟩
  · rw [cell_of_row _ ab 0 _ _ _ h.blk]; rfl
  · rw [cell_of_row _ ab 1 _ _ _ h.blk]; rfl
  · rw [cell_of_row _ ab 2 _ _ _ h.blk]; rfl
set_option maxHeartbeats 4000000 in
theorem termErr_p (h : PnAt w S p pf pm) {pp : Nat → Addr} (L : Laid w pp) : Calls Tryd.prog 31 #[.agg #[.string p.start, .slice pf.a pf.n pf.c, .slice pm.a pm.n pm.c]] w fun e w' => ∃ v, e = .returned v ∧ ErrV v ∧ (p.mvs = [] → v = .nilIface) ∧ Below w.heap.size w w' := by
  obtain ⟨W, hW⟩ : ∃ W, W = w.alloc (.cells #[.string p.start, .slice pf.a pf.n pf.c, .slice pm.a pm.n pm.c] 33) := ⟨_, rfl⟩
  obtain ⟨ab, hab⟩ : ∃ ab, ab = w.heap.size := ⟨_, rfl⟩
  have H : Hid (PBx w W ab S p pf pm) := by rw [hab]; exact PBx.mk0 h hW
  have HW := hidLL (And.intro hW hab)
  have HL : Hid (∀ V, Below w.heap.size w V → Laid V pp) := fun V hV => L.below hV
  obtain ⟨hpn, hbig⟩ := h.mvs.len
  have HN := hidLL hpn
  obtain ⟨c0, c1, c2⟩ := H.out.cells
  clear h L hW hab hpn
  obtain ⟨mn, hmn⟩ : ∃ mn, mn = pm.n := ⟨_, rfl⟩
  rw [← hmn] at c2 hbig
  have HMn := hidLL hmn
  clear hmn
  go_enter Tryd.func31, Tryd.ntmps31
  go_upto_region 1 with fail
  rw [← HW.out.1, ← HW.out.2]
  go_wp2_with fail
  go_loopw [11] (fun i wr => ∃ j : Nat, j ≤ mn ∧ i = .int .i64 j ∧ PBx w wr ab S p pf pm) (fun i _ => mn - (RowKit.intOf i).toNat)
  case atStart => exact ⟨0, by omega, rfl, H.out⟩
  case round =>
    obtain ⟨j, hj, rfl, hp⟩ := hrel
    have HB := hidLL hp
    clear hp c0 c1 c2
    by_cases hlt : j < mn
    · have hjz : (j : Int) < mn := by omega
      obtain ⟨m, hm⟩ : ∃ m, p.mvs[j]? = some m := ⟨_, List.getElem?_eq_getElem (by have := HN.out; have := HMn.out; omega)⟩
      obtain ⟨g, o, hga, hg, hrg⟩ := HB.out.pn.mvs.at hm
      rw [show mvE.k = 8 from rfl] at hrg
      obtain ⟨y0, y1, y2, y3, y4, y5, y6, y7⟩ := mv_cells hrg
      obtain ⟨W3, hW3⟩ : ∃ W3, W3 = wr.alloc (.cells #[.string m.nm, .string m.fr, .string m.tt, .string m.wh, .int .i64 m.n, .int .i64 m.u, .int .i64 m.r, .int .i64 m.most] 57) := ⟨_, rfl⟩
      obtain ⟨mb, hmb⟩ : ∃ mb, mb = wr.heap.size := ⟨_, rfl⟩
      have hb3 : Below wr.heap.size wr W3 := by rw [hW3]; exact (Below.refl _ _).alloc (Nat.le_refl _) _
      have hbk : W3.heap[mb]? = some (.cells #[.string m.nm, .string m.fr, .string m.tt, .string m.wh, .int .i64 m.n, .int .i64 m.u, .int .i64 m.r, .int .i64 m.most] 57 (0, 0)) := by rw [hW3, hmb]; exact Go.Deep.blk_alloc_new wr _
      have n4 : W3.cell? ⟨mb, 4, none⟩ = some (.int .i64 m.n) := by rw [cell_of_row _ mb 4 _ _ _ hbk]; rfl
      have n5 : W3.cell? ⟨mb, 5, none⟩ = some (.int .i64 m.u) := by rw [cell_of_row _ mb 5 _ _ _ hbk]; rfl
      have n6 : W3.cell? ⟨mb, 6, none⟩ = some (.int .i64 m.r) := by rw [cell_of_row _ mb 6 _ _ _ hbk]; rfl
      have hP3 := HB.out.step hb3
      obtain ⟨r, hr⟩ := calDue_p (HL.out W3 hP3.bel) 1 m.n m.u m.r
      have HC := hidLL hr
      have HP3 := hidLL hP3
      have HW3 := hidLL (And.intro hW3 hmb)
      have HNe : Hid (¬ p.mvs = []) := fun h9 => by rw [h9] at hm; simp at hm
      rw [hga]
      clear hm hrg hg hga hW3 hmb hb3 hbk hP3 hr
      go_upto_region 5 with fail
      rw [← HW3.out.1, ← HW3.out.2]
      clear y0 y1 y2 y3 y4 y5 y6 y7
      go_wp2_with fail
      refine HC.out.mono ?_
      rintro e w4 ⟨rfl, hb4⟩
      have H4 := hidLL (HP3.out.step hb4)
      clear hb4
      cases r with
      | ok x =>
        simp only [DR.val]
        go_wp2
        go_roundw
        case rel => exact ⟨j + 1, by omega, by go_num, H4.out⟩
        case measure => simp [RowKit.intOf]; omega
      | er k =>
        simp only [DR.val]
        go_wp2
        go_ret
        exact ⟨_, rfl, .inr ⟨_, rfl⟩, fun h9 => absurd h9 HNe.out, H4.out.bel⟩
    · have hjz : ¬ (j : Int) < mn := by omega
      go_wp2
      go_ret
      exact ⟨_, rfl, .inl rfl, fun _ => rfl, HB.out.bel⟩
end
end Go.Proofs.YtpijiglmjkdlgaaDoor
namespace Go.Proofs.YtpijiglmjkdlgaaDoor
open Go.RowKit

section
variable {w : World} {S : Nat → Prop} {p : Pn} {pf pm : SlV}
theorem RdS.take {α : Type} {E : Enc α} {a : Option Addr} {n c : Nat} {l : List α} (h : RdS E w S (.slice a n c) l) (j : Nat) (hj : j ≤ l.length) : RdS E w S (.slice a j c) (l.take j) := by
  obtain ⟨a', c', e, hl, hx⟩ := h
  injection e with e1 e2 e3
  subst e1 e3
  refine ⟨a, c, by rw [List.length_take, Nat.min_eq_left hj], by rw [List.length_take]; omega, fun i x hi => hx i x ?_⟩
  rw [List.getElem?_take] at hi
  split at hi
  · exact hi
  · cases hi
/-- What hasTwice answers. -/
def TwR (w : World) (p : Pn) (e : Ending) (w' : World) : Prop := ∃ b : Bool, e = .returned (.bool b) ∧ (p.mvs = [] → b = false) ∧ Below w.heap.size w w'
set_option maxHeartbeats 4000000 in
theorem twice_p (h : PnAt w S p pf pm) : Calls Tryd.prog 27 #[.agg #[.string p.start, .slice pf.a pf.n pf.c, .slice pm.a pm.n pm.c]] w (TwR w p) := by
  obtain ⟨W, hW⟩ : ∃ W, W = w.alloc (.cells #[.string p.start, .slice pf.a pf.n pf.c, .slice pm.a pm.n pm.c] 33) := ⟨_, rfl⟩
  obtain ⟨ab, hab⟩ : ∃ ab, ab = w.heap.size := ⟨_, rfl⟩
  have H : Hid (PBx w W ab S p pf pm) := by rw [hab]; exact PBx.mk0 h hW
  have HW := hidLL (And.intro hW hab)
  obtain ⟨hpn, hbig⟩ := h.mvs.len
  have HN := hidLL hpn
  obtain ⟨c0, c1, c2⟩ := H.out.cells
  have hcap := h.cap
  clear h hW hab hpn
  obtain ⟨mn, hmn⟩ : ∃ mn, mn = pm.n := ⟨_, rfl⟩
  rw [← hmn] at c2 hbig hcap
  have HMn := hidLL hmn
  clear hmn
  go_enter Tryd.func27, Tryd.ntmps27
  go_upto_region 1 with fail
  rw [← HW.out.1, ← HW.out.2]
  go_wp2_with fail
  go_loopw [8] (fun i wr => ∃ j : Nat, j ≤ mn ∧ i = .int .i64 j ∧ PBx w wr ab S p pf pm) (fun i _ => mn - (RowKit.intOf i).toNat)
  case atStart => exact ⟨0, by omega, rfl, H.out⟩
  case round =>
    obtain ⟨j, hj, rfl, hp⟩ := hrel
    have HB := hidLL hp
    clear hp c0 c1 c2
    by_cases hlt : j < mn
    · have hjz : (j : Int) < mn := by omega
      obtain ⟨m, hm⟩ : ∃ m, p.mvs[j]? = some m := ⟨_, List.getElem?_eq_getElem (by have := HN.out; have := HMn.out; omega)⟩
      obtain ⟨g, o, hga, hg, hrg⟩ := HB.out.pn.mvs.at hm
      rw [show mvE.k = 8 from rfl] at hrg
      obtain ⟨y0, y1, y2, y3, y4, y5, y6, y7⟩ := mv_cells hrg
      obtain ⟨W3, hW3⟩ : ∃ W3, W3 = wr.alloc (.cells #[.string m.nm, .string m.fr, .string m.tt, .string m.wh, .int .i64 m.n, .int .i64 m.u, .int .i64 m.r, .int .i64 m.most] 57) := ⟨_, rfl⟩
      obtain ⟨mb, hmb⟩ : ∃ mb, mb = wr.heap.size := ⟨_, rfl⟩
      have hb3 : Below wr.heap.size wr W3 := by rw [hW3]; exact (Below.refl _ _).alloc (Nat.le_refl _) _
      have hbk : W3.heap[mb]? = some (.cells #[.string m.nm, .string m.fr, .string m.tt, .string m.wh, .int .i64 m.n, .int .i64 m.u, .int .i64 m.r, .int .i64 m.most] 57 (0, 0)) := by rw [hW3, hmb]; exact Go.Deep.blk_alloc_new wr _
      have n0 : W3.cell? ⟨mb, 0, none⟩ = some (.string m.nm) := by rw [cell_of_row _ mb 0 _ _ _ hbk]; rfl
      have n1 : W3.cell? ⟨mb, 1, none⟩ = some (.string m.fr) := by rw [cell_of_row _ mb 1 _ _ _ hbk]; rfl
      have hP3 := HB.out.step hb3
      obtain ⟨_, _, x2⟩ := hP3.cells
      rw [← HMn.out, hga] at x2
      have hrd := hP3.pn.mvs.take j (by have := HN.out; have := HMn.out; omega)
      rw [hga] at hrd
      have HC := hidLL (has_twice (c1 := some ⟨mb, 0, none⟩) (f := sameM m) hrd hP3.pn.lt fun V hV m' => tw1_p ((hV.cell (p := ⟨mb, 0, none⟩) (cell_lt n0)).trans n0) ((hV.cell (p := ⟨mb, 1, none⟩) (cell_lt n0)).trans n1) m')
      have HP3 := hidLL hP3
      have HW3 := hidLL (And.intro hW3 hmb)
      have HNe : Hid (¬ p.mvs = []) := fun h9 => by rw [h9] at hm; simp at hm
      rw [hga]
      have hjc : (j : Int) ≤ (pm.c : Int) := by omega
      generalize (p.mvs.take j).any (sameM m) = tw at *
      clear hm hrg hg hga hW3 hmb hb3 hbk hP3 hrd n0 n1
      go_upto_region 4 with fail
      rw [← HW3.out.1, ← HW3.out.2]
      clear y0 y1 y2 y3 y4 y5 y6 y7
      go_wp2_with fail
      refine HC.out.mono ?_
      rintro e w4 ⟨rfl, hb4⟩
      have H4 := hidLL (HP3.out.step hb4)
      clear hb4
      cases tw with
      | true =>
        go_wp2
        go_ret
        exact ⟨true, rfl, fun h9 => absurd h9 HNe.out, H4.out.bel⟩
      | false =>
        go_wp2
        go_roundw
        case rel => exact ⟨j + 1, by omega, by go_num, H4.out⟩
        case measure => simp [RowKit.intOf]; omega
    · have hjz : ¬ (j : Int) < mn := by omega
      go_wp2
      go_ret
      exact ⟨false, rfl, fun _ => rfl, HB.out.bel⟩
end
end Go.Proofs.YtpijiglmjkdlgaaDoor

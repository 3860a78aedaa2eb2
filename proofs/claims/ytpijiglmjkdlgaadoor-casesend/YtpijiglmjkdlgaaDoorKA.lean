/-
  Cases: move, isOver.
-/
import Derived.Test.YtpijiglmjkdlgaaDoorCsK1
import Derived.Test.YtpijiglmjkdlgaaDoorDuA
import Derived.Deep.RegionHeld3
import Derived.Test.YtpijiglmjkdlgaaDoorEncStep
namespace Go.Proofs.YtpijiglmjkdlgaaDoor
open Go.RowKit

def MVv (m : Mv) : Value := .agg #[.string m.nm, .string m.fr, .string m.tt, .string m.wh, .int .i64 m.n, .int .i64 m.u, .int .i64 m.r, .int .i64 m.most]
/-- Is it of that name, and from that stage? -/
def isMv (name stage : ByteArray) (m : Mv) : Bool := (m.nm.toList == name.toList) && (m.fr.toList == stage.toList)
set_option maxHeartbeats 2000000 in
theorem mv1_p {V : World} {b2 b3 kb : Nat} {name stage : ByteArray} (h3 : V.cell? ⟨b3, 0, none⟩ = some (.string name)) (h2 : V.cell? ⟨b2, 0, none⟩ = some (.pointer (some ⟨kb, 0, none⟩))) (h4 : V.cell? ⟨kb, 4, none⟩ = some (.string stage)) (m : Mv) :
    Calls Tryd.prog 35 #[.agg #[.string m.nm, .string m.fr, .string m.tt, .string m.wh, .int .i64 m.n, .int .i64 m.u, .int .i64 m.r, .int .i64 m.most], .pointer (some ⟨b3, 0, none⟩), .pointer (some ⟨b2, 0, none⟩)] V fun e w' => e = .returned (.bool (isMv name stage m)) ∧ Below V.heap.size V w' := by
  obtain ⟨W, hW⟩ : ∃ W, W = V.alloc (.cells #[.string m.nm, .string m.fr, .string m.tt, .string m.wh, .int .i64 m.n, .int .i64 m.u, .int .i64 m.r, .int .i64 m.most] 57) := ⟨_, rfl⟩
  obtain ⟨ab, hab⟩ : ∃ ab, ab = V.heap.size := ⟨_, rfl⟩
  have hb : Below V.heap.size V W := by rw [hW]; exact (Below.refl _ _).alloc (Nat.le_refl _) _
  have hbk : W.heap[ab]? = some (.cells #[.string m.nm, .string m.fr, .string m.tt, .string m.wh, .int .i64 m.n, .int .i64 m.u, .int .i64 m.r, .int .i64 m.most] 57 (0, 0)) := by rw [hW, hab]; exact Go.Deep.blk_alloc_new V _
  have n0 : W.cell? ⟨ab, 0, none⟩ = some (.string m.nm) := by rw [cell_of_row _ ab 0 _ _ _ hbk]; rfl
  have n1 : W.cell? ⟨ab, 1, none⟩ = some (.string m.fr) := by rw [cell_of_row _ ab 1 _ _ _ hbk]; rfl
  have k3 := (hb.cell (p := ⟨b3, 0, none⟩) (cell_lt h3)).trans h3
  have k2 := (hb.cell (p := ⟨b2, 0, none⟩) (cell_lt h2)).trans h2
  have k4 := (hb.cell (p := ⟨kb, 4, none⟩) (cell_lt h4)).trans h4
  have HW := hidLL (And.intro hW (And.intro hab hb))
  unfold isMv
  clear hW hab hb hbk h3 h2 h4
  cases hq : (m.nm.toList == name.toList)
  · go_enter Tryd.func35, Tryd.ntmps35
    go_upto_region 1 with fail
    rw [← HW.out.1, ← HW.out.2.1]
    go_quiet (fail)
    go_wp2
    go_ret
    exact ⟨rfl, bdrewN HW.out.2.2 _⟩
  · go_enter Tryd.func35, Tryd.ntmps35
    go_upto_region 1 with fail
    rw [← HW.out.1, ← HW.out.2.1]
    go_quiet (fail)
    go_wp2
    go_ret
    exact ⟨rfl, bdrewN HW.out.2.2 _⟩
section
variable {w : World} {D : KD} {sv : SlV} {ts : List Nat} {stage : ByteArray} {since : Int} {steps : List Stp}
set_option maxHeartbeats 2000000 in
theorem move_p (h : CaseAt w D sv ts stage since steps) (name : ByteArray) : Calls Tryd.prog 21 #[.pointer (some ⟨D.kb, 0, none⟩), .string name] w fun e w' => e = .returned (.int .i64 (ixI (isMv name stage) D.p.mvs)) ∧ Below w.heap.size w w' := by
  obtain ⟨W, hW⟩ : ∃ W, W = (w.alloc (.cells #[.pointer (some ⟨D.kb, 0, none⟩)] 26)).alloc (.cells #[.string name] 9) := ⟨_, rfl⟩
  obtain ⟨b2, hb2⟩ : ∃ b2, b2 = w.heap.size := ⟨_, rfl⟩
  obtain ⟨b3, hb3⟩ : ∃ b3, b3 = w.heap.size + 1 := ⟨_, rfl⟩
  have hb : Below w.heap.size w W := by rw [hW]; exact ((Below.refl _ _).alloc (Nat.le_refl _) _).alloc (by simp) _
  have k2 : W.cell? ⟨b2, 0, none⟩ = some (.pointer (some ⟨D.kb, 0, none⟩)) := by rw [hW, hb2]; simp
  have k3 : W.cell? ⟨b3, 0, none⟩ = some (.string name) := by rw [hW, hb3]; simp
  have H := hidLL (h.step hb)
  obtain ⟨c0, c1, c2, c3, c4, c5, c6⟩ := H.out.cells
  have HC := hidLL (ix_move (c1 := some ⟨b3, 0, none⟩) (c2 := some ⟨b2, 0, none⟩) (f := isMv name stage) H.out.mvs (fun k hk => by have := H.out.hB; have := hk.1; omega) fun V hV m => mv1_p ((hV.cell (p := ⟨b3, 0, none⟩) (cell_lt k3)).trans k3) ((hV.cell (p := ⟨b2, 0, none⟩) (cell_lt k2)).trans k2) ((hV.cell (p := ⟨D.kb, 4, none⟩) (cell_lt c4)).trans c4) m)
  have HW := hidLL (And.intro hW (And.intro hb2 (And.intro hb3 hb)))
  clear h hW hb2 hb3 hb c0 c2 c3 c5 c6
  generalize ixI (isMv name stage) D.p.mvs = ii at *
  go_enter Tryd.func21, Tryd.ntmps21
  go_upto_region 1 with fail
  rw [← HW.out.1, ← HW.out.2.2.1, ← HW.out.2.1]
  go_wp2_with fail
  refine HC.out.mono ?_
  rintro e w2 ⟨rfl, hb2⟩
  have HB2 := hidLL (HW.out.2.2.2.trans (hb2.mono HW.out.2.2.2.size))
  clear hb2
  go_wp2
  go_ret
  exact ⟨rfl, HB2.out⟩
theorem CaseAt.plan (h : CaseAt w D sv ts stage since steps) : PlanAt w D.g (fun _ => false) [] (fun _ => false) 7 none 0 0 := by
  refine ⟨fun j u hu => ?_, ⟨fun _ => false, .slice none 0 0, fun _ => rfl, rfl, .inl ⟨rfl, by simp [hol, ready, Lib.compact]; rfl⟩, by simp⟩, by have := h.lt3; have := h.hB; omega⟩
  rw [Nat.zero_add, cell_of_row _ _ j _ _ _ h.pln]
  simpa using hu
set_option maxHeartbeats 4000000 in
set_option maxRecDepth 20000 in
theorem over_p (h : CaseAt w D sv ts stage since steps) {p : Nat → Addr} (L : Laid w p) {i : Nat} {m : Mv} (hi : D.p.mvs[i]? = some m) (on : Int) : Calls Tryd.prog 23 #[.pointer (some ⟨D.kb, 0, none⟩), .int .i64 i, .int .i64 on] w fun e w' => SomeB e ∧ Below w.heap.size w w' := by
  obtain ⟨W, hW⟩ : ∃ W, W = w.alloc (.cells #[.int .i64 m.n, .int .i64 m.u, .int .i64 m.r] 55) := ⟨_, rfl⟩
  obtain ⟨ab, hab⟩ : ∃ ab, ab = w.heap.size := ⟨_, rfl⟩
  have hb : Below w.heap.size w W := by rw [hW]; exact (Below.refl _ _).alloc (Nat.le_refl _) _
  have hbk : W.heap[ab]? = some (.cells #[.int .i64 m.n, .int .i64 m.u, .int .i64 m.r] 55 (0, 0)) := by rw [hW, hab]; exact Go.Deep.blk_alloc_new w _
  have n0 : W.cell? ⟨ab, 0, none⟩ = some (.int .i64 m.n) := by rw [cell_of_row _ ab 0 _ _ _ hbk]; rfl
  have n1 : W.cell? ⟨ab, 1, none⟩ = some (.int .i64 m.u) := by rw [cell_of_row _ ab 1 _ _ _ hbk]; rfl
  have n2 : W.cell? ⟨ab, 2, none⟩ = some (.int .i64 m.r) := by rw [cell_of_row _ ab 2 _ _ _ hbk]; rfl
  obtain ⟨g, o, hga, hg, hrg⟩ := h.mvs.at hi
  rw [show mvE.k = 8 from rfl] at hrg
  obtain ⟨y0, y1, y2, y3, y4, y5, y6, y7⟩ := mv_cells hrg
  obtain ⟨c0, c1, c2, c3, c4, c5, c6⟩ := h.cells
  rw [hga] at c1
  have hil := (List.getElem?_eq_some_iff.1 hi).1
  obtain ⟨hm1, hm2⟩ := h.mlen
  have hiz : (i : Int) < (D.mv.n : Int) := by omega
  have H := hidLL (h.step hb)
  obtain ⟨r, hr, _⟩ := due_ex (fun _ => false) [] p since m.n m.u m.r
  have HD : Hid (∀ V, Below W.heap.size W V → Calls Tryd.prog 37 #[.pointer (some ⟨D.g, 0, none⟩), .int .i64 since, .agg #[.int .i64 m.n, .int .i64 m.u, .int .i64 m.r]] V fun e w' => e = .returned (r.val p) ∧ Below V.heap.size V w') := fun V hV => pdue_p (H.out.step hV).plan ((L.below hb).below hV) hr
  have HNo := hidLL (none_p m.n m.u m.r W)
  have HCl : Hid (∀ V, Below W.heap.size W V → V.cell? ⟨D.kb, 3, none⟩ = some (.pointer (some ⟨D.g, 0, none⟩)) ∧ V.cell? ⟨D.kb, 5, none⟩ = some (.int .i64 since) ∧ V.cell? ⟨ab, 0, none⟩ = some (.int .i64 m.n) ∧ V.cell? ⟨ab, 1, none⟩ = some (.int .i64 m.u) ∧ V.cell? ⟨ab, 2, none⟩ = some (.int .i64 m.r) ∧ Below w.heap.size w V) := fun V hV => by
    obtain ⟨_, _, _, d3, _, d5, _⟩ := (H.out.step hV).cells
    exact ⟨d3, d5, (hV.cell (p := ⟨ab, 0, none⟩) (cell_lt n0)).trans n0, (hV.cell (p := ⟨ab, 1, none⟩) (cell_lt n0)).trans n1, (hV.cell (p := ⟨ab, 2, none⟩) (cell_lt n0)).trans n2, hb.trans (hV.mono hb.size)⟩
  have HW := hidLL (And.intro hW hab)
  clear h L hi hW hab hb hbk hga hg hrg y0 y1 y2 y3 y7 c0 c2 c3 c4 c5 c6 hil hm1 hm2 hr
  generalize D.mv.n = mn at *
  go_enter Tryd.func23, Tryd.ntmps23
  go_upto_region 2 with fail
  rw [← HW.out.1, ← HW.out.2]
  clear c1 y4 y5 y6
  go_wp2_with fail
  refine HNo.out.mono ?_
  rintro e w2 ⟨⟨b, rfl⟩, hb2⟩
  have HB2 := hidLL hb2
  obtain ⟨d3, d5, x0, x1, x2, _⟩ := HCl.out w2 hb2
  clear hb2 n0 n1 n2
  cases b with
  | true =>
    go_wp2
    go_ret
    exact ⟨⟨_, rfl⟩, (HCl.out w2 HB2.out).2.2.2.2.2⟩
  | false =>
    go_upto_region 4 with fail
    cases r with
    | ok x =>
      by_cases hox : x < on
      all_goals (
        go_region_held3 (fun V => V.cell? ⟨D.kb, 3, none⟩ = some (.pointer (some ⟨D.g, 0, none⟩)) ∧ V.cell? ⟨D.kb, 5, none⟩ = some (.int .i64 since) ∧ V.cell? ⟨ab, 0, none⟩ = some (.int .i64 m.n) ∧ V.cell? ⟨ab, 1, none⟩ = some (.int .i64 m.u) ∧ V.cell? ⟨ab, 2, none⟩ = some (.int .i64 m.r)) (first | go_keep | exact ⟨z0, z1, z2, z3, z4⟩) ((go_simp; go_at_call 37; refine (HD.out _ ?_).mono ?_; (· exact HB2.out.drew); rintro e w3 ⟨rfl, hb3⟩; (have HB3 := hidLL (HCl.out w3 (HB2.out.drew.trans (hb3.mono HB2.out.size)))); (obtain ⟨z0, z1, z2, z3, z4, _⟩ := HB3.out); simp only [DR.val]; clear hb3))
        all_goals (go_wp2; go_ret; exact ⟨⟨_, rfl⟩, HB3.out.2.2.2.2.2⟩))
    | er k =>
      go_region_held3 (fun V => V.cell? ⟨D.kb, 3, none⟩ = some (.pointer (some ⟨D.g, 0, none⟩)) ∧ V.cell? ⟨D.kb, 5, none⟩ = some (.int .i64 since) ∧ V.cell? ⟨ab, 0, none⟩ = some (.int .i64 m.n) ∧ V.cell? ⟨ab, 1, none⟩ = some (.int .i64 m.u) ∧ V.cell? ⟨ab, 2, none⟩ = some (.int .i64 m.r)) (first | go_keep | exact ⟨z0, z1, z2, z3, z4⟩) ((go_simp; go_at_call 37; refine (HD.out _ ?_).mono ?_; (· exact HB2.out.drew); rintro e w3 ⟨rfl, hb3⟩; (have HB3 := hidLL (HCl.out w3 (HB2.out.drew.trans (hb3.mono HB2.out.size)))); (obtain ⟨z0, z1, z2, z3, z4, _⟩ := HB3.out); simp only [DR.val]; clear hb3))
      all_goals (go_wp2; go_ret; exact ⟨⟨_, rfl⟩, HB3.out.2.2.2.2.2⟩)
end
end Go.Proofs.YtpijiglmjkdlgaaDoor
namespace Go.Proofs.YtpijiglmjkdlgaaDoor
open Go.RowKit

theorem cellA {W : World} {b i : Nat} {v : Value} (h : W.cell? ⟨b, i, none⟩ = some v) (o : Obj) : (W.alloc o).cell? ⟨b, i, none⟩ = some v := (World.cell?_of_block (a := ⟨b, i, none⟩) (Go.Deep.blk_alloc_lt W _ _ (cell_lt h))).trans h
theorem beqB (a b : ByteArray) : (a.toList == b.toList) = decide (a = b) := by
  by_cases h : a = b
  · subst h; simp
  · have : ¬ a.toList = b.toList := fun e => h (by
      rw [ByteArray.toList_eq, ByteArray.toList_eq] at e
      exact ByteArray.ext (Array.toList_inj.1 e))
    simp [h, this]
theorem Tryd.infoSt : ∃ i z, Tryd.prog.info? 46 = some i ∧ i.zero = some z ∧ i.size = stE.k ∧ i.bytes = 40 ∧ z.cells.size = stE.k := by
  have h : (Tryd.prog.info? 46).map (fun i => (i.zero, i.size, i.bytes)) = some (some (.agg #[.string ⟨#[]⟩, .string ⟨#[]⟩, .int .i64 0]), 3, 40) := by kernel_rfl
  obtain ⟨i, h1, h2⟩ := Option.map_eq_some_iff.1 h
  simp only [Prod.mk.injEq] at h2
  exact ⟨i, _, h1, h2.1, h2.2.1, h2.2.2, rfl⟩
section
variable {w : World} {D : KD} {sv : SlV} {ts : List Nat} {stage : ByteArray} {since : Int} {steps : List Stp}
/-- A move was done once more. -/
theorem CaseAt.tick (h : CaseAt w D sv ts stage since steps) {i t : Nat} (hi : ts[i]? = some t) : CaseAt (w.setCell ⟨D.tb, i, none⟩ (.int .i64 ((t : Int) + 1))) D sv (ts.set i (t + 1)) stage since steps := by
  have h2 := h.lt2
  have hb : ∀ b, b ≠ D.tb → (w.setCell ⟨D.tb, i, none⟩ (.int .i64 ((t : Int) + 1))).heap[b]? = w.heap[b]? := fun b hb => Below.heap_setCell _ _ _ _ hb
  have hil := (List.getElem?_eq_some_iff.1 hi).1
  refine ⟨(hb _ h.ne1).trans h.blk, (h.tms.set i _).congr fun j hj => ?_, (hb _ (fun e => h.ne3 e.symm)).trans h.pln, h.fin.on fun k hk => ⟨hk, hb k hk.2.2⟩, h.mvs.on fun k hk => ⟨hk, hb k hk.2.2⟩, h.row.on fun k _ hge _ => hb k (by omega), by simp [h.tlen], h.ne1, h.ne2, h.ne3, h.lt1, h.lt2, h.lt3, by simp; exact h.hB⟩
  show (if j = i then Value.int .i64 ((t : Int) + 1) else .int .i64 ((ts.getD j 0 : Nat) : Int)) = .int .i64 (((ts.set i (t + 1)).getD j 0 : Nat) : Int)
  by_cases hji : j = i
  · subst hji
    rw [if_pos rfl, List.getD_eq_getElem?_getD, List.getElem?_set_self hil]
    simp
  · rw [if_neg hji, List.getD_eq_getElem?_getD, List.getD_eq_getElem?_getD, List.getElem?_set_ne (fun e => hji e.symm)]
/-- One step more. -/
theorem CaseAt.push (h : CaseAt w D sv ts stage since steps) {w6 : World} {sv' : SlV} {s : Stp} (hr : RowG stE 46 w6 D.B (.slice sv'.a sv'.n sv'.c) (steps ++ [s])) (hb : Below D.B w w6) :
    w6.cell? ⟨D.kb, 6, none⟩ = some (.slice sv.a sv.n sv.c) ∧ w6.frozen? ⟨D.kb, 6, none⟩ = false ∧ CaseAt (w6.setCell ⟨D.kb, 6, none⟩ (.slice sv'.a sv'.n sv'.c)) D sv' ts stage since (steps ++ [s]) := by
  have h1 := h.lt1
  have h2 := h.lt2
  have h3 := h.lt3
  have x := (hb.block D.kb h1).trans h.blk
  have hs : ∀ b, b ≠ D.kb → (w6.setCell ⟨D.kb, 6, none⟩ (.slice sv'.a sv'.n sv'.c)).heap[b]? = w6.heap[b]? := fun b hb => Below.heap_setCell _ _ _ _ hb
  have hs2 : ∀ b, b < D.B → b ≠ D.kb → (w6.setCell ⟨D.kb, 6, none⟩ (.slice sv'.a sv'.n sv'.c)).heap[b]? = w.heap[b]? := fun b hb1 hb2 => (hs b hb2).trans (hb.block b hb1)
  refine ⟨by rw [cell_of_row _ _ 6 _ _ _ x]; rfl, frozen_of_row _ _ _ _ _ x, ?_, h.tms.of_block (hs2 _ h2 (fun e => h.ne1 e.symm)), (hs2 _ h3 (fun e => h.ne2 e.symm)).trans h.pln, h.fin.on fun k hk => ⟨hk, hs2 k hk.1 hk.2.1⟩, h.mvs.on fun k hk => ⟨hk, hs2 k hk.1 hk.2.1⟩, hr.on fun k _ hge _ => hs k (by omega), h.tlen, h.ne1, h.ne2, h.ne3, h1, h2, h3, by simp; exact Nat.le_trans h.hB hb.size⟩
  rw [heap_setCell_same _ _ _ _ _ _ x]
  rfl
/-- Another stage is come to. -/
theorem CaseAt.come (h : CaseAt w D sv ts stage since steps) (tt : ByteArray) : CaseAt ((w.setCell ⟨D.kb, 4, none⟩ (.string tt)).setCell ⟨D.kb, 5, none⟩ (.int .i64 since)) D sv ts tt since steps := by
  have h1 := h.lt1
  have hs : ∀ b, b ≠ D.kb → ((w.setCell ⟨D.kb, 4, none⟩ (.string tt)).setCell ⟨D.kb, 5, none⟩ (.int .i64 since)).heap[b]? = w.heap[b]? := fun b hb => (Below.heap_setCell _ _ _ _ hb).trans (Below.heap_setCell _ _ _ _ hb)
  refine ⟨?_, h.tms.of_block (hs _ (fun e => h.ne1 e.symm)), (hs _ (fun e => h.ne2 e.symm)).trans h.pln, h.fin.on fun k hk => ⟨hk, hs k hk.2.1⟩, h.mvs.on fun k hk => ⟨hk, hs k hk.2.1⟩, h.row.on fun k _ hge _ => hs k (by omega), h.tlen, h.ne1, h.ne2, h.ne3, h1, h.lt2, h.lt3, by simp; exact h.hB⟩
  rw [heap_setCell_same _ _ _ _ _ _ (heap_setCell_same _ _ _ _ _ _ h.blk)]
  rfl
/-- What Do does. -/
def DoR (w : World) (D : KD) (ts : List Nat) (stage : ByteArray) (since : Int) (steps : List Stp) (s : Stp) (e : Ending) (w' : World) : Prop :=
  (∃ a, e = .returned (.iface 134 (.pointer (some a))) ∧ Below w.heap.size w w') ∨
  ∃ (i : Nat) (m : Mv) (t : Nat) (sv' : SlV), D.p.mvs[i]? = some m ∧ m.fr = stage ∧ ts[i]? = some t ∧ (m.most ≠ 0 → (t : Int) < m.most) ∧ e = .returned .nilIface ∧ CaseAt w' D sv' (ts.set i (t + 1)) m.tt since (steps ++ [s]) ∧ ∀ N, N ≤ D.kb → N ≤ D.tb → N ≤ D.B → Below N w w'
set_option maxHeartbeats 8000000 in
set_option maxRecDepth 20000 in
theorem do_p (h : CaseAt w D sv ts stage since steps) {p : Nat → Addr} (L : Laid w p) (hd : isDayB since = true) (hpos : ∀ m ∈ D.p.mvs, 0 ≤ m.most) (hst : steps.length ≤ 100000) (htb : ∀ t ∈ ts, t ≤ 1000000) (name who : ByteArray) :
    Calls Tryd.prog 11 #[.pointer (some ⟨D.kb, 0, none⟩), .agg #[.string name, .string who, .int .i64 since]] w (DoR w D ts stage since steps ⟨name, who, since⟩) := by
  obtain ⟨W, hW⟩ : ∃ W, W = w.alloc (.cells #[.string name, .string who, .int .i64 since] 46) := ⟨_, rfl⟩
  obtain ⟨sb, hsb⟩ : ∃ sb, sb = w.heap.size := ⟨_, rfl⟩
  have hb : Below w.heap.size w W := by rw [hW]; exact (Below.refl _ _).alloc (Nat.le_refl _) _
  have hbk : W.heap[sb]? = some (.cells #[.string name, .string who, .int .i64 since] 46 (0, 0)) := by rw [hW, hsb]; exact Go.Deep.blk_alloc_new w _
  have n2 : W.cell? ⟨sb, 2, none⟩ = some (.int .i64 since) := by rw [cell_of_row _ sb 2 _ _ _ hbk]; rfl
  have H := hidLL (h.step hb)
  have HSi := hidLL (fun k => since_p H.out k)
  have HDy := hidLL (fun V => isDay_any since V)
  rw [hd] at HDy
  have HSb : Hid (D.B ≤ sb) := by rw [hsb]; exact h.hB
  have HOwn : Hid (∀ g, (Value.slice sv.a sv.n sv.c).ownBlock = some g → g < sb) := fun g hg => by rw [hsb]; exact (h.row.blk hg).2
  have HL : Hid (∀ V, Below W.heap.size W V → Laid V p ∧ V.heap[sb]? = some (.cells #[.string name, .string who, .int .i64 since] 46 (0, 0)) ∧ CaseAt V D sv ts stage since steps ∧ Below w.heap.size w V) := fun V hV => ⟨(L.below hb).below hV, (hV.block sb (Array.getElem?_eq_some_iff.1 hbk).1).trans hbk, H.out.step hV, hb.trans (hV.mono hb.size)⟩
  have HW := hidLL (And.intro hW hsb)
  have HP := hidLL (And.intro hpos htb)
  clear h L hd hW hsb hb hbk hpos htb
  go_enter Tryd.func11, Tryd.ntmps11
  go_upto_region 1 with fail
  rw [← HW.out.1, ← HW.out.2]
  have hdd : decide (since < since) = false := by simp
  go_quiet ((first | (go_at_call 14; exact Calls.quiet_of_same (HDy.out _)) | (go_at_call 20; exact Calls.quiet_of_same (HSi.out _))))
  obtain ⟨V1, hV1⟩ : ∃ V1, V1 = W.drewN nq := ⟨_, rfl⟩
  rw [← hV1]
  have hbV : Below W.heap.size W V1 := by rw [hV1]; exact bdrewN (Below.refl _ _) _
  obtain ⟨L1, hbk1, h1, hw1⟩ := HL.out V1 hbV
  have m0 : V1.cell? ⟨sb, 0, none⟩ = some (.string name) := by rw [cell_of_row _ sb 0 _ _ _ hbk1]; rfl
  have HMv := hidLL (move_p h1 name)
  have HBV := hidLL hbV
  have HL1 := hidLL L1
  clear hV1 n2 HSi HDy hbk1 h1 L1 hbV hw1
  go_wp2_with fail
  refine HMv.out.mono ?_
  rintro e V2 ⟨rfl, hb2⟩
  have hbV2 := HBV.out.trans (hb2.mono HBV.out.size)
  obtain ⟨L2, hbk2, h2, hw2⟩ := HL.out V2 hbV2
  have HB2 := hidLL (And.intro hbV2 hw2)
  have q0 := L2.cell 10 (by decide)
  have q1 := L2.cell 8 (by decide)
  have q2 := L2.cell 7 (by decide)
  have q3 := L2.cell 3 (by decide)
  simp only [gi] at q0 q1 q2 q3
  clear hb2 m0
  rcases ixI_cases (isMv name stage) D.p.mvs with ⟨e1, _⟩ | ⟨i, m, e1, hi, hf, _⟩
  · rw [e1]
    clear hbk2 h2 L2 q1 q2 q3 hbV2 hw2
    go_wp2
    go_ret
    exact .inl ⟨_, rfl, HB2.out.2⟩
  · rw [e1]
    unfold isMv at hf
    rw [Bool.and_eq_true, beqB, beqB, decide_eq_true_eq, decide_eq_true_eq] at hf
    have HF := hidLL (And.intro hi hf)
    have hil := (List.getElem?_eq_some_iff.1 hi).1
    obtain ⟨t, ht⟩ : ∃ t, ts[i]? = some t := ⟨_, List.getElem?_eq_getElem (by have := h2.tlen; omega)⟩
    have HT := hidLL ht
    have htd : ts.getD i 0 = t := by rw [List.getD_eq_getElem?_getD, ht]; rfl
    obtain ⟨hm1, hm2⟩ := h2.mlen
    have hiz : (i : Int) < (D.mv.n : Int) := by omega
    have hiz0 : ¬ (i : Int) < 0 := by omega
    obtain ⟨g, o, hga, hg, hrg⟩ := h2.mvs.at hi
    rw [show mvE.k = 8 from rfl] at hrg
    obtain ⟨y0, y1, y2, y3, y4, y5, y6, y7⟩ := mv_cells hrg
    obtain ⟨c0, c1, c2, c3, c4, c5, c6⟩ := h2.cells
    rw [hga] at c1
    have m1 : V2.cell? ⟨sb, 1, none⟩ = some (.string who) := by rw [cell_of_row _ sb 1 _ _ _ hbk2]; rfl
    clear y0 y1 y2 y4 y5 y6 y7 c0 c2 c3 c4 c5 c6 hrg hbk2 hi hf ht
    have HUse := hidLL (fun V (hV : Below W.heap.size W V) => used_p (HL.out V hV).2.2.1 HF.out.1)
    rw [htd] at HUse
    have HOv := hidLL (fun V (hV : Below W.heap.size W V) => over_p (HL.out V hV).2.2.1 (HL.out V hV).1 HF.out.1 since)
    have HGa := hidLL (And.intro hga htd)
    clear hga htd h2 L2
    obtain ⟨mn, hmn⟩ : ∃ mn, mn = D.mv.n := ⟨_, rfl⟩
    rw [← hmn] at hiz c1 hm1 hm2
    have HMn := hidLL (And.intro hmn hm1)
    clear hmn hm1
    go_upto_region 6 with fail
    cases hwho : (who.toList == m.wh.toList) with
    | false =>
      go_quiet (fail)
      go_wp2
      go_ret
      exact .inl ⟨_, rfl, bdrewN HB2.out.2 _⟩
    | true =>
      go_quiet (fail)
      obtain ⟨V3, hV3⟩ : ∃ V3, V3 = V2.drewN nq := ⟨_, rfl⟩
      rw [← hV3]
      have hbV3 : Below W.heap.size W V3 := by rw [hV3]; exact bdrewN HB2.out.1 _
      have HU3 := hidLL (HUse.out V3 hbV3)
      have HBV3 := hidLL hbV3
      clear hV3 m1 y3 c1 q0 q1 hwho hbV3
      go_wp2_with fail
      refine HU3.out.mono ?_
      rintro e V4 ⟨rfl, k4, hV4⟩
      have hbV4 : Below W.heap.size W V4 := by rw [hV4]; exact bdrewN HBV3.out _
      obtain ⟨L4, hbk4, h4, hw4⟩ := HL.out V4 hbV4
      have q0 := L4.cell 7 (by decide)
      have q1 := L4.cell 3 (by decide)
      simp only [gi] at q0 q1
      have m2 : V4.cell? ⟨sb, 2, none⟩ = some (.int .i64 since) := by rw [cell_of_row _ sb 2 _ _ _ hbk4]; rfl
      have HBV4 := hidLL (And.intro hbV4 hw4)
      clear hV4 hbV4 L4 hbk4 h4 hw4 q2 q3
      cases hus : (decide (0 < m.most) && decide (m.most ≤ (t : Int))) with
      | true =>
        go_wp2
        go_ret
        exact .inl ⟨_, rfl, HBV4.out.2⟩
      | false =>
        have HO4 := hidLL (HOv.out V4 HBV4.out.1)
        have HUs := hidLL hus
        clear hus q0 q1
        go_wp2_with fail
        refine HO4.out.mono ?_
        rintro e V5 ⟨⟨ob, rfl⟩, hb5⟩
        have hbV5 := HBV4.out.1.trans (hb5.mono HBV4.out.1.size)
        obtain ⟨L5, hbk5, h5, hw5⟩ := HL.out V5 hbV5
        have q1 := L5.cell 3 (by decide)
        simp only [gi] at q1
        have HBV5 := hidLL (And.intro hbV5 hw5)
        cases ob with
        | true =>
          clear hb5 hbV5 L5 hbk5 h5 hw5 m2
          go_wp2
          go_ret
          exact .inl ⟨_, rfl, HBV5.out.2⟩
        | false =>
          have h6 := h5.tick HT.out
          have hbk6 : (V5.setCell ⟨D.tb, i, none⟩ (.int .i64 ((t : Int) + 1))).heap[sb]? = some (.cells #[.string name, .string who, .int .i64 since] 46 (0, 0)) := (Below.heap_setCell _ _ _ _ (by have := h5.lt2; have := HSb.out; show sb ≠ D.tb; omega)).trans hbk5
          obtain ⟨V6, hV6⟩ : ∃ V6, V6 = V5.setCell ⟨D.tb, i, none⟩ (.int .i64 ((t : Int) + 1)) := ⟨_, rfl⟩
          have HFr6 : Hid (∀ N, N ≤ D.kb → N ≤ D.tb → N ≤ D.B → Below N w V6) := fun N n1 n2 n3 => by
            rw [hV6]
            have hx1 := h5.lt1
            have hx2 := h5.hB
            have := hw5.size
            have hsz : N ≤ w.heap.size := by
              have := HSb.out
              rw [HW.out.2] at this
              omega
            exact (hw5.mono hsz).setCell (p := ⟨D.tb, i, none⟩) n2 _
          rw [← hV6] at h6 hbk6
          obtain ⟨c0, c1, c2, c3, c4, c5, c6⟩ := h5.cells
          have hil5 : i < D.p.mvs.length := hil
          have z0 := h5.tms.cell hil5
          have zf := h5.tms.frozen i
          rw [HGa.out.2] at z0
          have hiz2 : (i : Int) < (D.p.mvs.length : Int) := by omega
          have htm := HP.out.2 t (List.mem_of_getElem? HT.out)
          have hwr : IntKind.i64.wrap ((t : Int) + 1) = (t : Int) + 1 := by rw [IntKind.wrap_i64]; omega
          have H6 := hidLL (And.intro h6 hbk6)
          have HV6 := hidLL hV6
          obtain ⟨ml, hml9⟩ : ∃ ml, ml = D.p.mvs.length := ⟨_, rfl⟩
          rw [← hml9] at c2 hiz2
          clear hb5 hbV5 L5 hbk5 h5 hw5 m2 q1 h6 hbk6 hV6 c0 c1 c3 c4 c5 c6 hml9
          go_upto_region 13 with fail
          rw [← HV6.out]
          clear c2 z0 zf
          obtain ⟨c0, c1, c2, c3, c4, c5, c6⟩ := H6.out.1.cells
          have m0 : V6.cell? ⟨sb, 0, none⟩ = some (.string name) := by rw [cell_of_row _ sb 0 _ _ _ H6.out.2]; rfl
          have m1 : V6.cell? ⟨sb, 1, none⟩ = some (.string who) := by rw [cell_of_row _ sb 1 _ _ _ H6.out.2]; rfl
          have m2 : V6.cell? ⟨sb, 2, none⟩ = some (.int .i64 since) := by rw [cell_of_row _ sb 2 _ _ _ H6.out.2]; rfl
          have x6 := cellA c6 (.cells #[.string name, .string who, .int .i64 since] 46)
          have hne6 : ¬ D.kb = V6.heap.size := by have := cell_lt c6; omega
          have hBl : D.B ≤ V6.heap.size := H6.out.1.hB
          have HRD : Hid (RowG stE 46 V6.drew D.B (.slice sv.a sv.n sv.c) steps) := H6.out.1.row.below (Below.refl _ V6).drew
          have HPs : Hid (∀ w7 v7, RowG stE 46 w7 D.B v7 (steps ++ [⟨name, who, since⟩]) → Below D.B V6.drew w7 → (∀ k, (Value.slice sv.a sv.n sv.c).ownBlock ≠ some k → k < V6.drew.heap.size → w7.heap[k]? = V6.drew.heap[k]?) → ∃ sv' : SlV, v7 = .slice sv'.a sv'.n sv'.c ∧ w7.cell? ⟨D.kb, 6, none⟩ = some (.slice sv.a sv.n sv.c) ∧ w7.frozen? ⟨D.kb, 6, none⟩ = false ∧ CaseAt (w7.setCell ⟨D.kb, 6, none⟩ (.slice sv'.a sv'.n sv'.c)) D sv' (ts.set i (t + 1)) stage since (steps ++ [⟨name, who, since⟩]) ∧ (w7.setCell ⟨D.kb, 6, none⟩ (.slice sv'.a sv'.n sv'.c)).cell? ⟨sb, 2, none⟩ = some (.int .i64 since) ∧ ∀ N, N ≤ D.kb → N ≤ D.tb → N ≤ D.B → Below N w (w7.setCell ⟨D.kb, 6, none⟩ (.slice sv'.a sv'.n sv'.c))) := fun w7 v7 hr7 hb7 hk7 => by
            obtain ⟨a7, n7, c7, rfl, _⟩ := hr7.any3
            have hb8 : Below D.B V6 w7 := (Below.refl D.B V6).drew.trans hb7
            obtain ⟨g1, g2, g3⟩ := H6.out.1.push (sv' := ⟨a7, n7, c7⟩) hr7 hb8
            refine ⟨⟨a7, n7, c7⟩, rfl, g1, g2, g3, ?_, fun N n1 n2 n3 => ((HFr6.out N n1 n2 n3).trans (hb8.mono n3)).setCell (p := ⟨D.kb, 6, none⟩) n1 _⟩
            have hsl : sb < V6.heap.size := cell_lt m2
            have hx := H6.out.1.lt1
            have hy := HSb.out
            have e8 : (w7.setCell ⟨D.kb, 6, none⟩ (.slice a7 n7 c7)).heap[sb]? = V6.heap[sb]? := (Below.heap_setCell _ _ _ _ (by show sb ≠ D.kb; omega)).trans (hk7 sb (fun e => by have := HOwn.out sb e; omega) hsl)
            exact (World.cell?_of_block (a := ⟨sb, 2, none⟩) e8).trans m2
          clear c0 c1 c2 c3 c4 c5
          go_region_law (refine step_push_g (E := stE) Tryd.infoSt (by decide) Tryd.underlying47 rfl (.tmp 64) (.tmp 66) rfl D.B (.slice sv.a sv.n sv.c) steps (⟨name, who, since⟩ : Stp) _ rfl (by first | (simp [Act.eval]; done) | simp [Act.eval, Act.put]) HRD.out (by first | (simp [Act.eval]; done) | simp [Act.eval, Act.put]) hBl (by omega) ?_; intro v7 w7 hr7 hb7 hk7 _; (obtain ⟨sv', rfl, q0, q1, hc7, hs7, hf7⟩ := HPs.out w7 v7 hr7 hb7 hk7); (have H7 := hidLL (And.intro hc7 (And.intro hs7 hf7))); clear hr7 hb7 hk7 hc7 hs7 hf7)
          all_goals (
            obtain ⟨V8, hV8⟩ : ∃ V8, V8 = w7.setCell ⟨D.kb, 6, none⟩ (.slice sv'.a sv'.n sv'.c) := ⟨_, rfl⟩
            rw [← hV8] at H7
            go_upto_region 14 with fail
            rw [← hV8]
            clear hV8 x6 m0 m1 m2 c6 q0 q1
            obtain ⟨d0, d1, d2, d3, d4, d5, d6⟩ := H7.out.1.cells
            have s2 := H7.out.2.1
            obtain ⟨g', o', hga', _, hrg'⟩ := H7.out.1.mvs.at HF.out.1
            rw [HGa.out.1] at hga'
            injection hga' with hga'
            injection hga' with e8 e9
            subst e8 e9
            rw [show mvE.k = 8 from rfl] at hrg'
            obtain ⟨_, _, y2, _, _, _, _, _⟩ := mv_cells hrg'
            rw [HGa.out.1, ← HMn.out.1] at d1
            have f4 : V8.frozen? ⟨D.kb, 4, none⟩ = false := frozen_of_row _ _ _ _ _ H7.out.1.blk
            have f5 : V8.frozen? ⟨D.kb, 5, none⟩ = false := frozen_of_row _ _ _ _ _ H7.out.1.blk
            have HEnd : Hid (∀ V, Below V8.heap.size V8 V → CaseAt ((V.setCell ⟨D.kb, 4, none⟩ (.string m.tt)).setCell ⟨D.kb, 5, none⟩ (.int .i64 since)) D sv' (ts.set i (t + 1)) m.tt since (steps ++ [⟨name, who, since⟩]) ∧ ∀ N, N ≤ D.kb → N ≤ D.tb → N ≤ D.B → Below N w ((V.setCell ⟨D.kb, 4, none⟩ (.string m.tt)).setCell ⟨D.kb, 5, none⟩ (.int .i64 since))) := fun V hV => ⟨(H7.out.1.step hV).come m.tt, fun N n1 n2 n3 => (((H7.out.2.2 N n1 n2 n3).trans (hV.mono (Nat.le_trans n3 H7.out.1.hB))).setCell (p := ⟨D.kb, 4, none⟩) n1 _).setCell (p := ⟨D.kb, 5, none⟩) n1 _⟩
            clear d0 d2 d3 d6 hrg'
            have HMo : Hid (m.most ≠ 0 → (t : Int) < m.most) := fun h0 => by
              have h1 := HP.out.1 m (List.mem_of_getElem? HF.out.1)
              have h2 := HUs.out
              rw [Bool.and_eq_false_iff, decide_eq_false_iff_not, decide_eq_false_iff_not] at h2
              omega
            go_region
            all_goals (
              go_wp2
              go_ret
              refine .inr ⟨i, m, t, sv', HF.out.1, HF.out.2.2, HT.out, HMo.out, rfl, ?_⟩
              first
                | exact HEnd.out V8 (Below.refl _ _)
                | exact HEnd.out V8.drew (Below.refl _ _).drew
                | exact ⟨(HEnd.out V8 (Below.refl _ _)).1.step (Below.refl _ _).drew, fun N n1 n2 n3 => ((HEnd.out V8 (Below.refl _ _)).2 N n1 n2 n3).drew⟩))
end
end Go.Proofs.YtpijiglmjkdlgaaDoor

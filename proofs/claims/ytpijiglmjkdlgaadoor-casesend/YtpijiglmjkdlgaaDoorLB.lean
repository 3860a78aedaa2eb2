/-
  Cases, the law: a plan as the program has it.
-/
import Derived.Test.YtpijiglmjkdlgaaDoorCsL3
namespace Go.Proofs.YtpijiglmjkdlgaaDoor
open Go.RowKit

theorem set3 {w : World} {b : Nat} {v0 v1 v2 u0 u1 u2 : Value} {t : TypeId} (h : w.heap[b]? = some (.cells #[v0, v1, v2] t (0, 0))) : (((w.setCell ⟨b, 0, none⟩ u0).setCell ⟨b, 1, none⟩ u1).setCell ⟨b, 2, none⟩ u2).heap[b]? = some (.cells #[u0, u1, u2] t (0, 0)) := by
  rw [heap_setCell_same _ _ _ _ _ _ (heap_setCell_same _ _ _ _ _ _ (heap_setCell_same _ _ _ _ _ _ h))]
  rfl
theorem RowG.ty {α : Type} {E : Enc α} {T : Nat} {w : World} {B : Nat} {v : Value} {l : List α} (h : RowG E T w B v l) {k : Nat} (hk : v.ownBlock = some k) : Ty w k T := by
  rcases h.row.2 with ⟨e, _⟩ | ⟨g, cap, cur, e, hb, hg, _⟩
  · rw [e] at hk
    cases hk
  · rw [e] at hk
    injection hk with hk
    subst hk
    exact ⟨_, _, hg⟩
theorem RowG.cap {α : Type} {E : Enc α} {T : Nat} {w : World} {B : Nat} {a : Option Addr} {n c : Nat} {l : List α} (h : RowG E T w B (.slice a n c) l) : n ≤ c := by
  rcases h.row.2 with ⟨e, _⟩ | ⟨g, cap, cur, e, hb, hg, hle, _⟩
  · injection e with _ e1 e2
    omega
  · injection e with _ e1 e2
    omega
/-- The plan as it is made. -/
structure PLx (w V : World) (rb ob B : Nat) (p : Pn) (fv mv : SlV) (j : Nat) : Prop where
  blk : V.heap[ob]? = some (.cells #[.string p.start, .slice fv.a fv.n fv.c, .slice mv.a mv.n mv.c] 33 (0, 0))
  res : V.heap[rb]? = some (.cells #[.string ⟨#[]⟩, .slice none 0 0, .slice none 0 0] 33 (0, 0))
  fin : RowG strE 9 V B (.slice fv.a fv.n fv.c) p.fin
  mvs : RowG mvE 57 V B (.slice mv.a mv.n mv.c) (p.mvs.take j)
  bel : Below w.heap.size w V
  ge : w.heap.size ≤ ob
  ge2 : w.heap.size ≤ rb
  ne : ob ≠ rb
  lt : ob < B
  lt2 : rb < B
  hB : B ≤ V.heap.size
section
variable {w V V' : World} {rb ob B : Nat} {p : Pn} {fv mv : SlV} {j : Nat}
theorem PLx.step (h : PLx w V rb ob B p fv mv j) (hb : Below V.heap.size V V') : PLx w V' rb ob B p fv mv j := by
  have h1 := h.lt
  have h2 := h.lt2
  have h3 := h.hB
  exact ⟨(hb.block _ (by omega)).trans h.blk, (hb.block _ (by omega)).trans h.res, h.fin.below hb, h.mvs.below hb, h.bel.trans (hb.mono h.bel.size), h.ge, h.ge2, h.ne, h1, h2, Nat.le_trans h3 hb.size⟩
theorem PLx.cells (h : PLx w V rb ob B p fv mv j) : V.cell? ⟨ob, 0, none⟩ = some (.string p.start) ∧ V.cell? ⟨ob, 1, none⟩ = some (.slice fv.a fv.n fv.c) ∧ V.cell? ⟨ob, 2, none⟩ = some (.slice mv.a mv.n mv.c) := by
  refine ⟨?_, ?_, ?_⟩
  · rw [cell_of_row _ ob 0 _ _ _ h.blk]; rfl
  · rw [cell_of_row _ ob 1 _ _ _ h.blk]; rfl
  · rw [cell_of_row _ ob 2 _ _ _ h.blk]; rfl
theorem PLx.push (h : PLx w V rb ob B p fv mv j) {mv' : SlV} (hr : RowG mvE 57 V' B (.slice mv'.a mv'.n mv'.c) (p.mvs.take (j + 1))) (hb : Below B V V') (hk : ∀ k, (Value.slice mv.a mv.n mv.c).ownBlock ≠ some k → k < V.heap.size → V'.heap[k]? = V.heap[k]?) :
    V'.cell? ⟨ob, 2, none⟩ = some (.slice mv.a mv.n mv.c) ∧ V'.frozen? ⟨ob, 2, none⟩ = false ∧ PLx w (V'.setCell ⟨ob, 2, none⟩ (.slice mv'.a mv'.n mv'.c)) rb ob B p fv mv' (j + 1) := by
  have h1 := h.lt
  have h2 := h.lt2
  have h3 := h.hB
  have h4 := h.ge
  have h5 := h.bel.size
  have x := (hb.block ob h1).trans h.blk
  have hs : ∀ b, b ≠ ob → (V'.setCell ⟨ob, 2, none⟩ (.slice mv'.a mv'.n mv'.c)).heap[b]? = V'.heap[b]? := fun b hb => Below.heap_setCell _ _ _ _ hb
  have hf : ∀ g, (Value.slice fv.a fv.n fv.c).ownBlock = some g → B ≤ g → g < V.heap.size → (V'.setCell ⟨ob, 2, none⟩ (.slice mv'.a mv'.n mv'.c)).heap[g]? = V.heap[g]? := fun g hg hge hlt => by
    rw [hs g (by omega)]
    refine hk g (fun e => ?_) hlt
    exact absurd ((h.fin.ty hg).one (h.mvs.ty e)) (by decide)
  have hbb : Below w.heap.size w V' := h.bel.trans (hb.mono (by omega))
  refine ⟨by rw [cell_of_row _ _ 2 _ _ _ x]; rfl, frozen_of_row _ _ _ _ _ x, ?_, (hs _ (fun e => h.ne e.symm)).trans ((hb.block _ h2).trans h.res), h.fin.on hf, hr.on fun g _ hge _ => hs g (by omega), hbb.setCell (p := ⟨ob, 2, none⟩) h4 _, h4, h.ge2, h.ne, h1, h2, ?_⟩
  · rw [heap_setCell_same _ _ _ _ _ _ x]
    rfl
  · have := hb.size
    simp
    omega
/-- What plan answers. -/
def PlanLR (w : World) (p : Pn) (e : Ending) (w' : World) : Prop := ∃ pf' pm' : SlV, e = .returned (.agg #[.string p.start, .slice pf'.a pf'.n pf'.c, .slice pm'.a pm'.n pm'.c]) ∧ PnAt w' (fun k => w.heap.size ≤ k ∧ k < w'.heap.size) p pf' pm' ∧ Below w.heap.size w w'
theorem PLx.done (h : PLx w V rb ob B p fv mv j) (hj : p.mvs.length ≤ j) (u0 u1 u2 : Value) : PnAt (((V.setCell ⟨rb, 0, none⟩ u0).setCell ⟨rb, 1, none⟩ u1).setCell ⟨rb, 2, none⟩ u2) (fun k => w.heap.size ≤ k ∧ k < (((V.setCell ⟨rb, 0, none⟩ u0).setCell ⟨rb, 1, none⟩ u1).setCell ⟨rb, 2, none⟩ u2).heap.size) p fv mv ∧ Below w.heap.size w (((V.setCell ⟨rb, 0, none⟩ u0).setCell ⟨rb, 1, none⟩ u1).setCell ⟨rb, 2, none⟩ u2) := by
  have h2 := h.lt2
  have h3 := h.ge2
  have hs : ∀ b, b ≠ rb → (((V.setCell ⟨rb, 0, none⟩ u0).setCell ⟨rb, 1, none⟩ u1).setCell ⟨rb, 2, none⟩ u2).heap[b]? = V.heap[b]? := fun b hb => ((Below.heap_setCell _ _ _ _ hb).trans (Below.heap_setCell _ _ _ _ hb)).trans (Below.heap_setCell _ _ _ _ hb)
  have hz : (((V.setCell ⟨rb, 0, none⟩ u0).setCell ⟨rb, 1, none⟩ u1).setCell ⟨rb, 2, none⟩ u2).heap.size = V.heap.size := by simp
  have hm := h.mvs
  rw [List.take_of_length_le hj] at hm
  refine ⟨⟨h.fin.rdS.on fun k hk => ⟨⟨?_, ?_⟩, hs k ?_⟩, hm.rdS.on fun k hk => ⟨⟨?_, ?_⟩, hs k ?_⟩, fun k hk => hk.2, hm.cap⟩, ((h.bel.setCell (p := ⟨rb, 0, none⟩) h3 _).setCell (p := ⟨rb, 1, none⟩) h3 _).setCell (p := ⟨rb, 2, none⟩) h3 _⟩
  all_goals (have hk1 := hk.1; have hk2 := hk.2.1; omega)
end
end Go.Proofs.YtpijiglmjkdlgaaDoor
namespace Go.Proofs.YtpijiglmjkdlgaaDoor
open Go.RowKit

section
variable {w W V' : World} {rb ob B : Nat} {p : Pn} {S : Nat → Prop} {b o : Nat} {pf pm : SlV}
theorem PLx.start (hblk : W.heap[ob]? = some (.cells #[.string p.start, .slice none 0 0, .slice none 0 0] 33 (0, 0))) (hres : W.heap[rb]? = some (.cells #[.string ⟨#[]⟩, .slice none 0 0, .slice none 0 0] 33 (0, 0))) (hb0 : Below w.heap.size w W) (h4 : w.heap.size ≤ ob) (h5 : w.heap.size ≤ rb) (hne : ob ≠ rb) (h1 : ob < B) (h2 : rb < B) (h3 : B ≤ W.heap.size)
    {fv : SlV} (hr : RowG strE 9 V' B (.slice fv.a fv.n fv.c) p.fin) (hb : Below B W V') :
    V'.cell? ⟨ob, 1, none⟩ = some (.slice none 0 0) ∧ V'.frozen? ⟨ob, 1, none⟩ = false ∧ PLx w (V'.setCell ⟨ob, 1, none⟩ (.slice fv.a fv.n fv.c)) rb ob B p fv ⟨none, 0, 0⟩ 0 := by
  have x := (hb.block ob h1).trans hblk
  have hz := hb0.size
  have hs : ∀ b, b ≠ ob → (V'.setCell ⟨ob, 1, none⟩ (.slice fv.a fv.n fv.c)).heap[b]? = V'.heap[b]? := fun b hb => Below.heap_setCell _ _ _ _ hb
  have hbb : Below w.heap.size w V' := hb0.trans (hb.mono (by omega))
  refine ⟨by rw [cell_of_row _ _ 1 _ _ _ x]; rfl, frozen_of_row _ _ _ _ _ x, ?_, (hs _ (fun e => hne e.symm)).trans ((hb.block _ h2).trans hres), hr.on fun g _ hge _ => hs g (by omega), by rw [List.take_zero]; exact RowG.nil _ _, hbb.setCell (p := ⟨ob, 1, none⟩) h4 _, h4, h5, hne, h1, h2, ?_⟩
  · rw [heap_setCell_same _ _ _ _ _ _ x]
    rfl
  · have := hb.size
    simp
    omega
set_option maxHeartbeats 4000000 in
set_option maxRecDepth 20000 in
theorem plan_l (h : PlAt w S b o p pf pm) (hm : p.mvs.length ≤ 125) (hf : p.fin.length ≤ 125) : Calls Tryd.prog 7 #[.pointer (some ⟨b, o, none⟩)] w (PlanLR w p) := by
  obtain ⟨hpn, hbig⟩ := h.mvs.len
  have HN := hidLL hpn
  have HL := hidLL (And.intro hm hf)
  obtain ⟨rb, hrb⟩ : ∃ rb, rb = w.heap.size := ⟨_, rfl⟩
  obtain ⟨ob, hob⟩ : ∃ ob, ob = w.heap.size + 1 := ⟨_, rfl⟩
  obtain ⟨B, hB⟩ : ∃ B, B = w.heap.size + 2 := ⟨_, rfl⟩
  obtain ⟨W, hW⟩ : ∃ W, W = (w.alloc (.cells #[.string ⟨#[]⟩, .slice none 0 0, .slice none 0 0] 33)).alloc (.cells #[.string p.start, .slice none 0 0, .slice none 0 0] 33) := ⟨_, rfl⟩
  have hb1 : Below w.heap.size w W := by rw [hW]; exact ((Below.refl _ _).alloc (Nat.le_refl _) _).alloc (by simp) _
  have hzW : W.heap.size = B := by rw [hW, hB]; simp
  have hblk : W.heap[ob]? = some (.cells #[.string p.start, .slice none 0 0, .slice none 0 0] 33 (0, 0)) := by
    have h9 := Go.Deep.blk_alloc_new (w.alloc (.cells #[.string ⟨#[]⟩, .slice none 0 0, .slice none 0 0] 33)) (.cells #[.string p.start, .slice none 0 0, .slice none 0 0] 33)
    rw [hW, hob]
    simpa using h9
  have hres : W.heap[rb]? = some (.cells #[.string ⟨#[]⟩, .slice none 0 0, .slice none 0 0] 33 (0, 0)) := by
    rw [hW, hrb, Go.Deep.blk_alloc_lt _ _ _ (by simp)]
    exact Go.Deep.blk_alloc_new w _
  have HPl : Hid (∀ V, Below w.heap.size w V → PlAt V S b o p pf pm) := fun V hV => h.step hV
  have HSt : Hid (∀ V' fv', RowG strE 9 V' B (.slice fv'.a fv'.n fv'.c) p.fin → Below B W V' → V'.cell? ⟨ob, 1, none⟩ = some (.slice none 0 0) ∧ V'.frozen? ⟨ob, 1, none⟩ = false ∧ PLx w (V'.setCell ⟨ob, 1, none⟩ (.slice fv'.a fv'.n fv'.c)) rb ob B p fv' ⟨none, 0, 0⟩ 0) := fun V' fv' hr hb => PLx.start hblk hres hb1 (by omega) (by omega) (by omega) (by omega) (by omega) (by omega) hr hb
  have e1 : W.cell? ⟨ob, 1, none⟩ = some (.slice none 0 0) := by rw [cell_of_row _ ob 1 _ _ _ hblk]; rfl
  have f1 : W.frozen? ⟨ob, 1, none⟩ = false := frozen_of_row _ _ _ _ _ hblk
  have d1 := (HPl.out W hb1).c1
  have c0 := cellA h.c0 (.cells #[.string ⟨#[]⟩, .slice none 0 0, .slice none 0 0] 33)
  have HF : Hid (RdS strE W S (.slice pf.a pf.n pf.c) p.fin ∧ RdS strE W.drew S (.slice pf.a pf.n pf.c) p.fin ∧ (pf.a = none → pf.c = 0)) := ⟨(HPl.out W hb1).fin, (HPl.out W hb1).fin.on fun k hk => ⟨hk, rfl⟩, h.nf⟩
  have hB1 : B ≤ W.heap.size := by omega
  have hB2 : B ≤ W.drew.heap.size := by show B ≤ W.heap.size; omega
  have hfl : ([] : List ByteArray).length + p.fin.length ≤ 1000000 := by simp; omega
  have HW := hidLL (And.intro hW (And.intro hob (And.intro hrb (And.intro hB hb1))))
  clear h hm hf hpn hrb hob hB hW hb1 hzW hblk hres
  go_enter Tryd.func7, Tryd.ntmps7
  go_upto_region 2 with fail
  rw [← HW.out.1, ← HW.out.2.1, ← HW.out.2.2.1]
  clear c0
  go_region_law (first
    | (refine step_cat (E := strE) (a := pf.a) (n := pf.n) (c := pf.c) (Z := S) Tryd.infoSr (by decide) Tryd.underlying23 rfl (.tmp 12) (.tmp 16) rfl B (.slice none 0 0) [] p.fin (by first | (simp [Act.eval]; done) | simp [Act.eval, Act.put]) (RowG.nil _ _) (by first | (simp [Act.eval]; done) | simp [Act.eval, Act.put]) HF.out.2.1 HF.out.2.2 hB2 hfl ?_; intro v7 w7 hr7 hb7 hk7; (obtain ⟨fa, fn, fc, rfl, hp7⟩ := hr7.any3); (have hq := HSt.out w7 ⟨fa, fn, fc⟩ hr7 (by first | exact hb7 | exact (Below.refl B W).drew.trans hb7)); (obtain ⟨q0, q1, q2⟩ := hq); (have H7 := hidLL q2); clear hr7 hb7 hp7 hk7 q2)
    | (refine step_cat (E := strE) (a := pf.a) (n := pf.n) (c := pf.c) (Z := S) Tryd.infoSr (by decide) Tryd.underlying23 rfl (.tmp 12) (.tmp 16) rfl B (.slice none 0 0) [] p.fin (by first | (simp [Act.eval]; done) | simp [Act.eval, Act.put]) (RowG.nil _ _) (by first | (simp [Act.eval]; done) | simp [Act.eval, Act.put]) HF.out.1 HF.out.2.2 hB1 hfl ?_; intro v7 w7 hr7 hb7 hk7; (obtain ⟨fa, fn, fc, rfl, hp7⟩ := hr7.any3); (have hq := HSt.out w7 ⟨fa, fn, fc⟩ hr7 (by first | exact hb7 | exact (Below.refl B W).drew.trans hb7)); (obtain ⟨q0, q1, q2⟩ := hq); (have H7 := hidLL q2); clear hr7 hb7 hp7 hk7 q2))
  all_goals (
    obtain ⟨V0, hV0⟩ : ∃ V0, V0 = w7.setCell ⟨ob, 1, none⟩ (.slice fa fn fc) := ⟨_, rfl⟩
    simp only at H7
    rw [← hV0] at H7
    go_upto_region 3 with fail
    rw [← hV0]
    clear hV0 q0 q1 e1 f1 d1
    go_wp2_with fail
    go_loopw [4] (fun i wr => ∃ (j : Nat) (mv : SlV), j ≤ pm.n ∧ i = .int .i64 j ∧ PLx w wr rb ob B p ⟨fa, fn, fc⟩ mv j) (fun i _ => pm.n - (RowKit.intOf i).toNat)
    case atStart => exact ⟨0, _, by omega, rfl, H7.out⟩
    case round =>
      obtain ⟨j, mv, hj, rfl, hx⟩ := hrel
      have HX := hidLL hx
      have HP := hidLL (HPl.out wr hx.bel)
      clear hx H7
      have c2 := HP.out.c2
      by_cases hlt : j < pm.n
      · have hjz : (j : Int) < pm.n := by omega
        obtain ⟨m, hm⟩ : ∃ m, p.mvs[j]? = some m := ⟨_, List.getElem?_eq_getElem (by have := HN.out; omega)⟩
        obtain ⟨g, o2, hga, hg, hrg⟩ := HP.out.mvs.at hm
        rw [show mvE.k = 8 from rfl] at hrg
        obtain ⟨y0, y1, y2, y3, y4, y5, y6, y7⟩ := mv_cells hrg
        obtain ⟨W3, hW3⟩ : ∃ W3, W3 = wr.alloc (.cells #[.string m.nm, .string m.fr, .string m.tt, .string m.wh, .int .i64 m.n, .int .i64 m.u, .int .i64 m.r, .int .i64 m.most] 42) := ⟨_, rfl⟩
        obtain ⟨xb, hxb⟩ : ∃ xb, xb = wr.heap.size := ⟨_, rfl⟩
        have hb3 : Below wr.heap.size wr W3 := by rw [hW3]; exact (Below.refl _ _).alloc (Nat.le_refl _) _
        have hbk : W3.heap[xb]? = some (.cells #[.string m.nm, .string m.fr, .string m.tt, .string m.wh, .int .i64 m.n, .int .i64 m.u, .int .i64 m.r, .int .i64 m.most] 42 (0, 0)) := by rw [hW3, hxb]; exact Go.Deep.blk_alloc_new wr _
        have n0 : W3.cell? ⟨xb, 0, none⟩ = some (.string m.nm) := by rw [cell_of_row _ xb 0 _ _ _ hbk]; rfl
        have n1 : W3.cell? ⟨xb, 1, none⟩ = some (.string m.fr) := by rw [cell_of_row _ xb 1 _ _ _ hbk]; rfl
        have n2 : W3.cell? ⟨xb, 2, none⟩ = some (.string m.tt) := by rw [cell_of_row _ xb 2 _ _ _ hbk]; rfl
        have n3 : W3.cell? ⟨xb, 3, none⟩ = some (.string m.wh) := by rw [cell_of_row _ xb 3 _ _ _ hbk]; rfl
        have n4 : W3.cell? ⟨xb, 4, none⟩ = some (.int .i64 m.n) := by rw [cell_of_row _ xb 4 _ _ _ hbk]; rfl
        have n5 : W3.cell? ⟨xb, 5, none⟩ = some (.int .i64 m.u) := by rw [cell_of_row _ xb 5 _ _ _ hbk]; rfl
        have n6 : W3.cell? ⟨xb, 6, none⟩ = some (.int .i64 m.r) := by rw [cell_of_row _ xb 6 _ _ _ hbk]; rfl
        have n7 : W3.cell? ⟨xb, 7, none⟩ = some (.int .i64 m.most) := by rw [cell_of_row _ xb 7 _ _ _ hbk]; rfl
        have HX3 := hidLL (HX.out.step hb3)
        obtain ⟨_, _, x2⟩ := HX3.out.cells
        have hB3 : B ≤ W3.heap.size := HX3.out.hB
        have hl0 : (p.mvs.take j).length + 1 ≤ 1000000 := by
          rw [List.length_take]
          have := HL.out
          omega
        have HTk : Hid (p.mvs.take (j + 1) = p.mvs.take j ++ [m]) := by
          rw [List.take_add_one, hm]
          exact hidLL rfl
        have HW3 := hidLL (And.intro hW3 hxb)
        rw [hga] at c2
        clear hm hrg hg hga hW3 hxb hb3 hbk
        go_upto_region 7 with fail
        rw [← HW3.out.1, ← HW3.out.2]
        clear y0 y1 y2 y3 y4 y5 y6 y7
        go_wp2_with (at_builtin; refine wpList_push_g (E := mvE) Tryd.infoMv (by decide) Tryd.underlying31 rfl (.tmp 36) (.tmp 58) rfl B (.slice mv.a mv.n mv.c) (p.mvs.take j) m _ rfl rfl HX3.out.mvs (by first | (simp [Act.eval]; done) | simp [Act.eval, Act.put]) hB3 hl0 ?_; intro v' w5 hr5 hb5 hk5 hv5; obtain ⟨pa5, pn5, pc5, rfl, hp5⟩ := hr5.any3; have hq := HX3.out.push (mv' := ⟨pa5, pn5, pc5⟩) (by rw [HTk.out]; exact hr5) hb5 hk5; obtain ⟨q0, q1, q2⟩ := hq; have H5 := hidLL q2; clear hr5 hb5 hk5 hv5 hp5 q2)
        go_roundw
        case rel => exact ⟨j + 1, ⟨pa5, pn5, pc5⟩, by omega, by go_num, H5.out⟩
        case measure => simp [RowKit.intOf]; omega
      · have hjz : ¬ (j : Int) < pm.n := by omega
        obtain ⟨x0, x1, x2⟩ := HX.out.cells
        have r0 : wr.cell? ⟨rb, 0, none⟩ = some (.string ⟨#[]⟩) := by rw [cell_of_row _ rb 0 _ _ _ HX.out.res]; rfl
        have r1 : wr.cell? ⟨rb, 1, none⟩ = some (.slice none 0 0) := by rw [cell_of_row _ rb 1 _ _ _ HX.out.res]; rfl
        have r2 : wr.cell? ⟨rb, 2, none⟩ = some (.slice none 0 0) := by rw [cell_of_row _ rb 2 _ _ _ HX.out.res]; rfl
        have f0 : wr.frozen? ⟨rb, 0, none⟩ = false := frozen_of_row _ _ _ _ _ HX.out.res
        have f1 : wr.frozen? ⟨rb, 1, none⟩ = false := frozen_of_row _ _ _ _ _ HX.out.res
        have f2 : wr.frozen? ⟨rb, 2, none⟩ = false := frozen_of_row _ _ _ _ _ HX.out.res
        go_wp2
        refine bodyPost_ret (v := .agg #[.string p.start, .slice fa fn fc, .slice mv.a mv.n mv.c]) (results_cell_row Tryd.results7 _ _ rb 33 #[.string p.start, .slice fa fn fc, .slice mv.a mv.n mv.c] (0, 0) _ (by first | rfl | simp) (set3 HX.out.res) Tryd.underlying33 rfl rfl) rfl ?_
        obtain ⟨h8, h9⟩ := HX.out.done (by have := HN.out; omega) (.string p.start) (.slice fa fn fc) (.slice mv.a mv.n mv.c)
        exact ⟨⟨fa, fn, fc⟩, mv, rfl, h8, h9⟩)
end
end Go.Proofs.YtpijiglmjkdlgaaDoor

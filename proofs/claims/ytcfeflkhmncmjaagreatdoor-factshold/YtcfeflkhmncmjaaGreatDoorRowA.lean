/-
  slices.Repeat of one number, once or twice.
-/
import Derived.Test.YtcfeflkhmncmjaaGreatDoorValA
import Derived.Test.YtcfeflkhmncmjaaGreatDoorBel1
import Derived.Test.YtcfeflkhmncmjaaGreatDoorMemA
import Derived.Laws.CopyOwn
import Derived.Test.YtcfeflkhmncmjaaGreatDoorToldA
import Derived.Test.YtcfeflkhmncmjaaGreatDoorRightA
import Derived.Test.YtcfeflkhmncmjaaGreatDoorHearA
import Derived.WalkSmall
namespace Go.Proofs.YtcfeflkhmncmjaaGreatDoor
open Go.RowKit

set_option maxHeartbeats 4000000 in
set_option maxRecDepth 100000 in
theorem mul64_1 (c : Nat) (hc : c = 1 ∨ c = 2) (w : World) : Calls Tryz.prog 86 #[.int .u64 1, .int .u64 c] w fun e w' => e = .returned (.tuple #[.int .u64 0, .int .u64 c]) ∧ ∃ k, w' = w.drewN k := by
  rcases hc with rfl | rfl
  all_goals go_enter Tryz.func86, Tryz.ntmps86
  all_goals go_wp2
  all_goals go_ret2
  all_goals exact ⟨rfl, 0, rfl⟩
set_option maxHeartbeats 4000000 in
set_option maxRecDepth 100000 in
theorem mul_1 (c : Nat) (hc : c = 1 ∨ c = 2) (w : World) : Calls Tryz.prog 79 #[.int .u64 1, .int .u64 c] w fun e w' => e = .returned (.tuple #[.int .u64 0, .int .u64 c]) ∧ ∃ k, w' = w.drewN k := by
  have HM := hidLL (mul64_1 c hc)
  rcases hc with rfl | rfl
  all_goals go_enter Tryz.func79, Tryz.ntmps79
  all_goals go_wp2_with (go_at_call 86; refine (HM.out _).mono ?_; rintro e w' ⟨rfl, k, rfl⟩)
  all_goals go_ret2
  all_goals exact ⟨rfl, k, rfl⟩
theorem make_1 (w : World) : (Instr.makeSlice 35 (.int .i64 1) (.int .i64 1)).run Tryz.prog w = .ok (.slice (some ⟨w.heap.size, 0, none⟩) 1 1) (w.alloc (.cells #[.int .i64 0] 3)) := by kernel_rfl
theorem make_2 (w : World) : (Instr.makeSlice 35 (.int .i64 2) (.int .i64 2)).run Tryz.prog w = .ok (.slice (some ⟨w.heap.size, 0, none⟩) 2 2) (w.alloc (.cells #[.int .i64 0, .int .i64 0] 3)) := by kernel_rfl
theorem intSz : (Tryz.prog.info? 3).map (·.size) = some 1 := by kernel_rfl
theorem copyI {W : World} {b o dl dc : Nat} {a ao sl sc : Nat} {n : Int} {y : Value} (hn : Nat.min sl dl = 1) (hx : W.cell? ⟨a, ao, none⟩ = some (.int .i64 n)) (hy : W.cell? ⟨b, o, none⟩ = some y) (hf : W.frozen? ⟨b, o, none⟩ = false) (ty : Nat) :
    (Builtin.copy_ #[35, 35] ty #[.slice (some ⟨b, o, none⟩) dl dc, .slice (some ⟨a, ao, none⟩) sl sc]).run Tryz.prog W = .ok (.int .i64 1) (W.setCell ⟨b, o, none⟩ (.int .i64 n)) := by
  have h := run_copy_cells (P := Tryz.prog) W 35 35 ty 3 b o dl dc ⟨a, ao, none⟩ sl sc [.int .i64 n] Tryz.underlying35 intSz hn.symm (fun j v hv => by
      have hj : j < 1 := (List.getElem?_eq_some_iff.1 hv).1
      obtain rfl : j = 0 := by omega
      obtain rfl : Value.int .i64 n = v := by simpa using hv
      exact hx) (fun j hj => by
      have hj : j < 1 := hj
      obtain rfl : j = 0 := by omega
      rw [Nat.add_zero, hy]
      rfl) (fun j hj => by
      have hj : j < 1 := hj
      obtain rfl : j = 0 := by omega
      exact hf) (fun v hv => by
      obtain rfl : v = .int .i64 n := by simpa using hv
      rfl)
  exact h
set_option maxHeartbeats 4000000 in
set_option maxRecDepth 100000 in
theorem repeat_1 {w : World} {g : Nat} {x : Int} (hc : w.cell? ⟨g, 0, none⟩ = some (.int .i64 x)) :
    Calls Tryz.prog 67 #[.slice (some ⟨g, 0, none⟩) 1 1, .int .i64 1] w fun e w' => ∃ sv, e = .returned sv ∧ IOwn w.heap.size w' sv [x] ∧ Below w.heap.size w w' := by
  have HM := hidLL (mul_1 1 (.inl rfl))
  have hne : ¬ g = w.heap.size := by have := cell_lt hc; omega
  have hmk := make_1
  go_enter Tryz.func67, Tryz.ntmps67
  go_upto_region 6 with (go_at_call 79; refine (HM.out _).mono ?_; rintro e w' ⟨rfl, k, rfl⟩)
  go_upto_region 7 with fail
  obtain ⟨W, hW⟩ : ∃ W, W = (w.drewN k).alloc (.cells #[.int .i64 0] 3) := ⟨_, rfl⟩
  have hbk : W.heap[w.heap.size]? = some (.cells #[.int .i64 0] 3 (0, 0)) := by rw [hW]; exact Go.Deep.blk_alloc_new (w.drewN k) _
  have c0 : W.cell? ⟨w.heap.size, 0, none⟩ = some (.int .i64 0) := by rw [cell_of_row _ w.heap.size 0 _ _ _ hbk]; rfl
  have cf : W.frozen? ⟨w.heap.size, 0, none⟩ = false := by simp [World.frozen?, hbk]
  have cg : W.cell? ⟨g, 0, none⟩ = some (.int .i64 x) := by rw [hW]; exact cellA (W := w.drewN k) hc _
  have hbW : Below w.heap.size w W := by rw [hW]; exact (bdrewN (Below.refl _ _) k).alloc (Nat.le_refl _) _
  have hcp := copyI (dl := 1) (dc := 1) (sl := 1) (sc := 1) rfl cg c0 cf
  rw [← hW]
  have HW := hidLL (And.intro hbW hbk)
  clear hW hbW hbk
  go_wp2_with fail
  refine wp_loop_rounds 1 ?_
  rw [rounds_succ]
  go_wp2
  go_ret
  have hl := HW.out.1.size
  have hlt := (Array.getElem?_eq_some_iff.1 HW.out.2).1
  refine ⟨_, rfl, .inr ⟨w.heap.size, 1, rfl, Nat.le_refl _, by simp; exact hlt, Nat.le_refl _, fun j y hy => ?_⟩, HW.out.1.setCell (Nat.le_refl _) _⟩
  have hj : j < 1 := (List.getElem?_eq_some_iff.1 hy).1
  obtain rfl : j = 0 := by omega
  obtain rfl : x = y := by simpa using hy
  exact World.cell?_setCell_same _ _ _ c0
set_option maxHeartbeats 4000000 in
set_option maxRecDepth 100000 in
theorem repeat_2 {w : World} {g : Nat} {x : Int} (hc : w.cell? ⟨g, 0, none⟩ = some (.int .i64 x)) :
    Calls Tryz.prog 67 #[.slice (some ⟨g, 0, none⟩) 1 1, .int .i64 2] w fun e w' => ∃ sv, e = .returned sv ∧ IOwn w.heap.size w' sv [x, x] ∧ Below w.heap.size w w' := by
  have HM := hidLL (mul_1 2 (.inr rfl))
  have hne : ¬ g = w.heap.size := by have := cell_lt hc; omega
  have hmk := make_2
  go_enter Tryz.func67, Tryz.ntmps67
  go_upto_region 6 with (go_at_call 79; refine (HM.out _).mono ?_; rintro e w' ⟨rfl, k, rfl⟩)
  go_upto_region 7 with fail
  obtain ⟨W, hW⟩ : ∃ W, W = (w.drewN k).alloc (.cells #[.int .i64 0, .int .i64 0] 3) := ⟨_, rfl⟩
  have hbk : W.heap[w.heap.size]? = some (.cells #[.int .i64 0, .int .i64 0] 3 (0, 0)) := by rw [hW]; exact Go.Deep.blk_alloc_new (w.drewN k) _
  have c0 : W.cell? ⟨w.heap.size, 0, none⟩ = some (.int .i64 0) := by rw [cell_of_row _ w.heap.size 0 _ _ _ hbk]; rfl
  have c1 : W.cell? ⟨w.heap.size, 1, none⟩ = some (.int .i64 0) := by rw [cell_of_row _ w.heap.size 1 _ _ _ hbk]; rfl
  have cf : ∀ i, W.frozen? ⟨w.heap.size, i, none⟩ = false := fun i => by simp [World.frozen?, hbk]
  have cg : W.cell? ⟨g, 0, none⟩ = some (.int .i64 x) := by rw [hW]; exact cellA (W := w.drewN k) hc _
  have hbW : Below w.heap.size w W := by rw [hW]; exact (bdrewN (Below.refl _ _) k).alloc (Nat.le_refl _) _
  have hcp := copyI (dl := 2) (dc := 2) (sl := 1) (sc := 1) rfl cg c0 (cf 0)
  have e0 : (W.setCell ⟨w.heap.size, 0, none⟩ (.int .i64 x)).cell? ⟨w.heap.size, 0, none⟩ = some (.int .i64 x) := World.cell?_setCell_same _ _ _ c0
  have e1 : (W.setCell ⟨w.heap.size, 0, none⟩ (.int .i64 x)).cell? ⟨w.heap.size, 1, none⟩ = some (.int .i64 0) := by
    rw [cell_of_row _ w.heap.size 1 _ _ _ (heap_setCell_same _ _ _ _ _ _ hbk)]
    rfl
  have ef : (W.setCell ⟨w.heap.size, 0, none⟩ (.int .i64 x)).frozen? ⟨w.heap.size, 1, none⟩ = false := by rw [World.frozen?_setCell]; exact cf 1
  obtain ⟨W1, hW1⟩ : ∃ W1, W1 = W.setCell ⟨w.heap.size, 0, none⟩ (.int .i64 x) := ⟨_, rfl⟩
  rw [← hW1] at e0 e1 ef hcp
  have hcp2 := copyI (W := W1.drew) (dl := 1) (dc := 1) (sl := 1) (sc := 2) rfl e0 e1 ef
  rw [← hW]
  have HW : Hid (Below w.heap.size w W1 ∧ w.heap.size < W1.heap.size) := by
    rw [hW1]
    exact ⟨hbW.setCell (Nat.le_refl _) _, by simp; exact (Array.getElem?_eq_some_iff.1 hbk).1⟩
  clear hW hbW hbk hW1 c0 c1 cf cg
  go_wp2_with fail
  refine wp_loop_rounds 2 ?_
  rw [rounds_succ]
  go_wp2_with fail
  go_region
  go_wp2_with fail
  rw [rounds_succ]
  go_wp2
  go_ret
  refine ⟨_, rfl, .inr ⟨w.heap.size, 2, rfl, Nat.le_refl _, by simp; exact HW.out.2, Nat.le_refl _, fun j y hy => ?_⟩, (HW.out.1.drew.setCell (Nat.le_refl _) _)⟩
  have hj : j < 2 := (List.getElem?_eq_some_iff.1 hy).1
  rcases (show j = 0 ∨ j = 1 by omega) with rfl | rfl
  · obtain rfl : x = y := by simpa using hy
    show (W1.setCell ⟨w.heap.size, 1, none⟩ (.int .i64 x)).cell? ⟨w.heap.size, 0, none⟩ = _
    exact (World.cell?_setCell_other _ _ _ _ (by simp)).trans e0
  · obtain rfl : x = y := by simpa using hy
    exact World.cell?_setCell_same _ _ _ e1
end Go.Proofs.YtcfeflkhmncmjaaGreatDoor
namespace Go.Proofs.YtcfeflkhmncmjaaGreatDoor
open Go.RowKit

/-- A LOOK IN MEMORY: w0: ahead of the view; w1: at its beginning. -/
structure LK (w0 w1 w : World) (bl bx bm bv bvm bf : Nat) (L : List Fct) (on known : Int) (v : Value) (m : Met) (fs : List Fr) (Q : Nat → Prop) : Prop where
  fr : FrX (fun k => k = bl ∨ k = bm ∨ k = bvm) w1 w
  blk : ∃ c0 c1 c2 c3, w.heap[bl]? = some (.cells #[c0, c1, c2, c3, v] 104 (0, 0))
  lb : LB w bl bx bv
  l2 : w.cell? ⟨bl, 2, none⟩ = some (.int .i64 4)
  l3 : w.cell? ⟨bl, 3, none⟩ = some (.map (some bm))
  vw : VW w0 w w1.heap.size (fun k => v.ownBlock = some k ∨ Q k) bv bvm bf L on known
  met : MetIs w bm m
  row : NRow frN 129 (fun k => w1.heap.size ≤ k ∧ ¬ Q k) w w1.heap.size v fs
  qlo : ∀ k, Q k → w1.heap.size ≤ k
  qlt : ∀ k, Q k → k < w.heap.size
  qn : ∀ k, Q k → v.ownBlock ≠ some k
  lol : w0.heap.size ≤ bl
  lom : w0.heap.size ≤ bm
  ltl : bl < w1.heap.size
  ltm : bm < w1.heap.size
  ltx : bx < w1.heap.size
  n1 : bl ≠ bv
  n2 : bl ≠ bvm
  n3 : bl ≠ bx
  n4 : bm ≠ bvm
  n5 : bx ≠ bvm
  n6 : bm ≠ bl
  n7 : bm ≠ bx
  n8 : bm ≠ bv
  key : ∀ k x, m k = some x → PlainAt w1 k.1 ∧ k.1.block < w1.heap.size ∧ k.1.block ≠ bl ∧ k.1.block ≠ bm ∧ k.1.block ≠ bvm
section
variable {w0 w1 w w' : World} {bl bx bm bv bvm bf : Nat} {L : List Fct} {on known : Int} {v : Value} {m : Met} {fs : List Fr} {Q : Nat → Prop}
theorem LK.l4 (h : LK w0 w1 w bl bx bm bv bvm bf L on known v m fs Q) : w.cell? ⟨bl, 4, none⟩ = some v := by
  obtain ⟨c0, c1, c2, c3, hb⟩ := h.blk
  rw [cell_of_row _ bl 4 _ _ _ hb]
  rfl
theorem LK.frz (h : LK w0 w1 w bl bx bm bv bvm bf L on known v m fs Q) (i : Nat) : w.frozen? ⟨bl, i, none⟩ = false := by
  obtain ⟨c0, c1, c2, c3, hb⟩ := h.blk
  simp [World.frozen?, hb]
theorem LK.sz (h : LK w0 w1 w bl bx bm bv bvm bf L on known v m fs Q) : w1.heap.size ≤ w.heap.size := h.fr.size
theorem LK.zz (h : LK w0 w1 w bl bx bm bv bvm bf L on known v m fs Q) : ∀ k, (v.ownBlock = some k ∨ Q k) → k < w.heap.size := fun k hk => hk.elim (fun hk => (h.row.lt hk).2) (h.qlt k)
theorem LK.plain (h : LK w0 w1 w bl bx bm bv bvm bf L on known v m fs Q) {a : Addr} (hp : PlainAt w1 a) (h1 : a.block < w1.heap.size) (h2 : a.block ≠ bl) (h3 : a.block ≠ bm) (h4 : a.block ≠ bvm) : PlainAt w a :=
  hp.on (h.fr.block _ h1 (fun e => by rcases e with e | e | e <;> contradiction))
/-- What the nodes lie in. -/
def SN (w1 : World) (bl bm bvm : Nat) (k : Nat) : Prop := k < w1.heap.size ∧ k ≠ bl ∧ k ≠ bm ∧ k ≠ bvm
theorem LK.node (h : LK w0 w1 w bl bx bm bv bvm bf L on known v m fs Q) {a : Addr} {t : Tr} (hn : NdAt w1 (SN w1 bl bm bvm) a t) : NdAt w (SN w1 bl bm bvm) a t :=
  hn.step fun k hk hs => ⟨h.fr.block k hk (fun e => e.elim hs.2.1 (fun e => e.elim hs.2.2.1 hs.2.2.2)), hs⟩
/-- New memory alone. -/
theorem LK.fresh (h : LK w0 w1 w bl bx bm bv bvm bf L on known v m fs Q) (f : FrX (fun _ => False) w w') : LK w0 w1 w' bl bx bm bv bvm bf L on known v m fs Q := by
  have hb : ∀ k, k < w.heap.size → w'.heap[k]? = w.heap[k]? := fun k hk => f.block k hk id
  have hs := h.sz
  have hl := h.ltl
  have hm' := h.ltm
  have hx := h.ltx
  obtain ⟨c0, c1, c2, c3, hbl⟩ := h.blk
  refine ⟨h.fr.trans (f.mono fun _ e => e.elim), ⟨c0, c1, c2, c3, (hb bl (by omega)).trans hbl⟩, h.lb.on (hb bl (by omega)) (hb bx (by omega)), (World.cell?_of_block (a := ⟨bl, 2, none⟩) (hb bl (by omega))).trans h.l2, (World.cell?_of_block (a := ⟨bl, 3, none⟩) (hb bl (by omega))).trans h.l3, h.vw.step f (fun _ e => e.elim) (fun _ e => .inl e), h.met.on (hb bm (by omega)) (fun k x e => ?_), h.row.below ⟨f.os, f.tape, f.output, f.size, hb⟩, h.qlo, fun k hk => Nat.lt_of_lt_of_le (h.qlt k hk) f.size, h.qn, h.lol, h.lom, h.ltl, h.ltm, h.ltx, h.n1, h.n2, h.n3, h.n4, h.n5, h.n6, h.n7, h.n8, h.key⟩
  have hk := h.key k x e
  exact (h.plain hk.1 hk.2.1 hk.2.2.1 hk.2.2.2.1 hk.2.2.2.2).on (hb _ (by omega))
/-- The view has looked something up. -/
theorem LK.view (h : LK w0 w1 w bl bx bm bv bvm bf L on known v m fs Q) (hv : VS w0 w w1.heap.size (fun k => v.ownBlock = some k ∨ Q k) bv bvm bf L on known w') : LK w0 w1 w' bl bx bm bv bvm bf L on known v m fs Q := by
  have hb : ∀ k, k < w.heap.size → k ≠ bvm → w'.heap[k]? = w.heap[k]? := fun k hk hn => hv.fr.block k hk hn
  have hs := h.sz
  have hl := h.ltl
  have hm' := h.ltm
  have hx := h.ltx
  have hvm := h.vw.ltm
  obtain ⟨c0, c1, c2, c3, hbl⟩ := h.blk
  refine ⟨h.fr.trans (hv.fr.mono fun _ e => .inr (.inr e)), ⟨c0, c1, c2, c3, (hb bl (by omega) h.n2).trans hbl⟩, h.lb.on (hb bl (by omega) h.n2) (hb bx (by omega) h.n5), (World.cell?_of_block (a := ⟨bl, 2, none⟩) (hb bl (by omega) h.n2)).trans h.l2, (World.cell?_of_block (a := ⟨bl, 3, none⟩) (hb bl (by omega) h.n2)).trans h.l3, hv.vw, h.met.on (hb bm (by omega) h.n4) (fun k x e => ?_), ?_, h.qlo, fun k hk => Nat.lt_of_lt_of_le (h.qlt k hk) hv.fr.size, h.qn, h.lol, h.lom, h.ltl, h.ltm, h.ltx, h.n1, h.n2, h.n3, h.n4, h.n5, h.n6, h.n7, h.n8, h.key⟩
  · have hk := h.key k x e
    exact (h.plain hk.1 hk.2.1 hk.2.2.1 hk.2.2.2.1 hk.2.2.2.2).on (hb _ (by omega) hk.2.2.2.2)
  · obtain ⟨vs, h1, h2, h3⟩ := h.row
    refine ⟨vs, h1, h2.on fun g hg hB hl => hb g hl (by omega), fun i s x hs' hx' => (h3 i s x hs' hx').on fun k hk => ⟨⟨Nat.lt_of_lt_of_le hk.1 hv.fr.size, hk.2⟩, hb k hk.1 (by have := hk.2.2.1; omega)⟩⟩
/-- Something was met. -/
theorem LK.put (h : LK w0 w1 w bl bx bm bv bvm bf L on known v m fs Q) {k0 : Ky} {x0 : Int × Bool} (hk0 : PlainAt w1 k0.1 ∧ k0.1.block < w1.heap.size ∧ k0.1.block ≠ bl ∧ k0.1.block ≠ bm ∧ k0.1.block ≠ bvm) (hM : MetIs w' bm (m.put k0 x0)) (hg : w.grownBy w' (some bm)) : LK w0 w1 w' bl bx bm bv bvm bf L on known v (m.put k0 x0) fs Q := by
  have f : FrX (· = bm) w w' := ⟨hg.os, hg.tape, hg.output, hg.size, fun k hk hn => hg.block k hk (fun e => hn (by injection e))⟩
  have hb : ∀ k, k < w.heap.size → k ≠ bm → w'.heap[k]? = w.heap[k]? := fun k hk hn => f.block k hk hn
  have hs := h.sz
  have hl := h.ltl
  have hm' := h.ltm
  have hx := h.ltx
  obtain ⟨c0, c1, c2, c3, hbl⟩ := h.blk
  refine ⟨h.fr.trans (f.mono fun _ e => .inr (.inl e)), ⟨c0, c1, c2, c3, (hb bl (by omega) h.n6.symm).trans hbl⟩, h.lb.on (hb bl (by omega) h.n6.symm) (hb bx (by omega) h.n7.symm), (World.cell?_of_block (a := ⟨bl, 2, none⟩) (hb bl (by omega) h.n6.symm)).trans h.l2, (World.cell?_of_block (a := ⟨bl, 3, none⟩) (hb bl (by omega) h.n6.symm)).trans h.l3, h.vw.step f (fun k e => ?_) (fun _ e => .inl e), hM, ?_, h.qlo, fun k hk => Nat.lt_of_lt_of_le (h.qlt k hk) f.size, h.qn, h.lol, h.lom, h.ltl, h.ltm, h.ltx, h.n1, h.n2, h.n3, h.n4, h.n5, h.n6, h.n7, h.n8, fun k x e => ?_⟩
  · have e : k = bm := e
    subst e
    exact ⟨h.n8, h.n4, h.lom, .inl h.ltm⟩
  · obtain ⟨vs, h1, h2, h3⟩ := h.row
    refine ⟨vs, h1, h2.on fun g hg hB hl => hb g hl (by omega), fun i s x hs' hx' => (h3 i s x hs' hx').on fun k hk => ⟨⟨Nat.lt_of_lt_of_le hk.1 f.size, hk.2⟩, hb k hk.1 (by have := hk.2.2.1; omega)⟩⟩
  · by_cases ek : k = k0
    · subst ek
      exact hk0
    · rw [put_other _ _ ek] at e
      exact h.key k x e
/-- A block of its own is written. -/
theorem LK.write (h : LK w0 w1 w bl bx bm bv bvm bf L on known v m fs Q) {q0 i : Nat} (hq : Q q0) (u : Value) : LK w0 w1 (w.setCell ⟨q0, i, none⟩ u) bl bx bm bv bvm bf L on known v m fs Q := by
  have f : FrX (· = q0) w (w.setCell ⟨q0, i, none⟩ u) := (FrX.refl (· = q0) w).setCell rfl _
  have hb : ∀ k, k < w.heap.size → k ≠ q0 → (w.setCell ⟨q0, i, none⟩ u).heap[k]? = w.heap[k]? := fun k hk hn => f.block k hk hn
  have hs := h.sz
  have hl := h.ltl
  have hm' := h.ltm
  have hx := h.ltx
  have hqlo := h.qlo q0 hq
  have hb1 : ∀ k, k < w1.heap.size → (w.setCell ⟨q0, i, none⟩ u).heap[k]? = w.heap[k]? := fun k hk => hb k (by omega) (by omega)
  obtain ⟨c0, c1, c2, c3, hbl⟩ := h.blk
  refine ⟨⟨f.os.trans h.fr.os, f.tape.trans h.fr.tape, f.output.trans h.fr.output, Nat.le_trans h.fr.size f.size, fun k hk hn => (hb1 k hk).trans (h.fr.block k hk hn)⟩, ⟨c0, c1, c2, c3, (hb1 bl hl).trans hbl⟩, h.lb.on (hb1 bl hl) (hb1 bx hx), (World.cell?_of_block (a := ⟨bl, 2, none⟩) (hb1 bl hl)).trans h.l2, (World.cell?_of_block (a := ⟨bl, 3, none⟩) (hb1 bl hl)).trans h.l3, h.vw.step f (fun k e => ?_) (fun _ e => .inl e), h.met.on (hb1 bm hm') (fun k x e => ?_), ?_, h.qlo, fun k hk => Nat.lt_of_lt_of_le (h.qlt k hk) f.size, h.qn, h.lol, h.lom, h.ltl, h.ltm, h.ltx, h.n1, h.n2, h.n3, h.n4, h.n5, h.n6, h.n7, h.n8, h.key⟩
  · have e : k = q0 := e
    subst e
    have h2 := h.vw.ltv
    have h3 := h.vw.ltm
    have h4 := h.lol
    exact ⟨by omega, by omega, by omega, .inr (.inr hq)⟩
  · have hk := h.key k x e
    exact (h.plain hk.1 hk.2.1 hk.2.2.1 hk.2.2.2.1 hk.2.2.2.2).on (hb1 _ hk.2.1)
  · obtain ⟨vs, h1, h2, h3⟩ := h.row
    refine ⟨vs, h1, h2.on fun g hg hB hl => hb g hl (fun e => by subst e; exact h.qn g hq hg), fun i s x hs' hx' => (h3 i s x hs' hx').on fun k hk => ⟨⟨Nat.lt_of_lt_of_le hk.1 f.size, hk.2⟩, hb k hk.1 (fun e => by subst e; exact hk.2.2.2 hq)⟩⟩
/-- A new block becomes its own. -/
theorem LK.own (h : LK w0 w1 w bl bx bm bv bvm bf L on known v m fs (fun _ => False)) (o : Obj) : LK w0 w1 (w.alloc o) bl bx bm bv bvm bf L on known v m fs (fun k => k = w.heap.size) := by
  have h' := h.fresh ((FrX.refl (fun _ => False) w).alloc o)
  have hs := h.sz
  refine ⟨h'.fr, h'.blk, h'.lb, h'.l2, h'.l3, ?_, h'.met, ?_, fun k hk => by omega, fun k hk => by simp; omega, fun k hk e => by have := (h.row.lt e).2; omega, h'.lol, h'.lom, h'.ltl, h'.ltm, h'.ltx, h'.n1, h'.n2, h'.n3, h'.n4, h'.n5, h'.n6, h'.n7, h'.n8, h'.key⟩
  · exact h.vw.step ((FrX.refl (fun _ => False) w).alloc o) (fun _ e => e.elim) (fun k e => e.elim (fun e => .inl (.inl e)) (fun e => .inr (Nat.le_of_eq e.symm)))
  · obtain ⟨vs, h1, h2, h3⟩ := h.row
    have hal : ∀ k, k < w.heap.size → (w.alloc o).heap[k]? = w.heap[k]? := fun k hk => Go.Deep.blk_alloc_lt w _ _ hk
    exact ⟨vs, h1, h2.on fun g _ _ hl => hal g hl, fun i s x hs' hx' => (h3 i s x hs' hx').on fun k hk => ⟨⟨by have := hk.1; simp; omega, hk.2.1, hk.2.2.1, fun e => by have := hk.1; omega⟩, hal k hk.1⟩⟩
/-- None is its own any more. -/
theorem LK.free (h : LK w0 w1 w bl bx bm bv bvm bf L on known v m fs Q) : LK w0 w1 w bl bx bm bv bvm bf L on known v m fs (fun _ => False) := by
  refine ⟨h.fr, h.blk, h.lb, h.l2, h.l3, ?_, h.met, ?_, fun _ e => e.elim, fun _ e => e.elim, fun _ e => e.elim, h.lol, h.lom, h.ltl, h.ltm, h.ltx, h.n1, h.n2, h.n3, h.n4, h.n5, h.n6, h.n7, h.n8, h.key⟩
  · exact h.vw.step (FrX.refl (fun _ => False) w) (fun _ e => e.elim) (fun k e => .inl (e.elim .inl (fun e => e.elim)))
  · obtain ⟨vs, h1, h2, h3⟩ := h.row
    exact ⟨vs, h1, h2, fun i s x hs' hx' => (h3 i s x hs' hx').mono fun k hk => ⟨hk.1, hk.2.1, hk.2.2.1, id⟩⟩
end
end Go.Proofs.YtcfeflkhmncmjaaGreatDoor
namespace Go.Proofs.YtcfeflkhmncmjaaGreatDoor
open Go.RowKit

theorem Tryz.infoQu : ∃ i z, Tryz.prog.info? 129 = some i ∧ i.zero = some z ∧ i.size = frN.E.k ∧ i.bytes = 64 ∧ z.cells.size = frN.E.k := by
  have h : (Tryz.prog.info? 129).map (fun i => (i.zero.map (fun z => z.cells.size), i.size, i.bytes)) = some (some 6, 6, 64) := by kernel_rfl
  obtain ⟨i, hi, e⟩ := Option.map_eq_some_iff.1 h
  injection e with e1 e2
  injection e2 with e2 e3
  obtain ⟨z, hz, e4⟩ := Option.map_eq_some_iff.1 e1
  exact ⟨i, z, hi, hz, e2, e3, e4⟩
section
variable {w0 w1 w w' : World} {bl bx bm bv bvm bf : Nat} {L : List Fct} {on known : Int} {v : Value} {m : Met} {fs : List Fr} {Q : Nat → Prop}
/-- The slice of what is open is another one, and its row. -/
theorem LK.open {v5 : Value} {w5 : World} {gs : List Fr} (h : LK w0 w1 w bl bx bm bv bvm bf L on known v m fs Q) (hr : NRow frN 129 (fun k => w1.heap.size ≤ k ∧ ¬ Q k) w5 w1.heap.size v5 gs) (f : FrX (fun k => v.ownBlock = some k) w w5) (hv5 : ∀ k, v5.ownBlock = some k → v.ownBlock = some k ∨ w.heap.size ≤ k) :
    LK w0 w1 (w5.setCell ⟨bl, 4, none⟩ v5) bl bx bm bv bvm bf L on known v5 m gs Q := by
  have hs := h.sz
  have hl := h.ltl
  have hm' := h.ltm
  have hx := h.ltx
  have hown : ∀ k, v.ownBlock = some k → w1.heap.size ≤ k := fun k hk => (h.row.lt hk).1
  have hb : ∀ k, k < w.heap.size → k ≠ bl → v.ownBlock ≠ some k → (w5.setCell ⟨bl, 4, none⟩ v5).heap[k]? = w.heap[k]? := fun k hk h1 h2 => (heap_setCell_other _ _ _ _ h1).trans (f.block k hk h2)
  have hb1 : ∀ k, k < w1.heap.size → k ≠ bl → (w5.setCell ⟨bl, 4, none⟩ v5).heap[k]? = w.heap[k]? := fun k hk h1 => hb k (by omega) h1 (fun e => by have := hown k e; omega)
  have f' : FrX (fun k => k = bl ∨ v.ownBlock = some k) w (w5.setCell ⟨bl, 4, none⟩ v5) := FrX.setCell (X := fun k => k = bl ∨ v.ownBlock = some k) (p := ⟨bl, 4, none⟩) (f.mono fun k e => Or.inr e) (.inl rfl) _
  obtain ⟨c0, c1, c2, c3, hbl⟩ := h.blk
  have hbl5 : w5.heap[bl]? = some (.cells #[c0, c1, c2, c3, v] 104 (0, 0)) := (f.block bl (by omega) (fun e => by have := hown bl e; omega)).trans hbl
  have hbl6 : (w5.setCell ⟨bl, 4, none⟩ v5).heap[bl]? = some (.cells #[c0, c1, c2, c3, v5] 104 (0, 0)) := by rw [heap_setCell_same _ _ _ _ _ _ hbl5]; rfl
  have cc : ∀ i u, i < 4 → w.cell? ⟨bl, i, none⟩ = some u → (w5.setCell ⟨bl, 4, none⟩ v5).cell? ⟨bl, i, none⟩ = some u := fun i u hi hu => by
    rw [cell_of_row _ bl i _ _ _ hbl] at hu
    rw [cell_of_row _ bl i _ _ _ hbl6]
    rcases (show i = 0 ∨ i = 1 ∨ i = 2 ∨ i = 3 by omega) with rfl | rfl | rfl | rfl <;> exact hu
  refine ⟨⟨f'.os.trans h.fr.os, f'.tape.trans h.fr.tape, f'.output.trans h.fr.output, Nat.le_trans hs f'.size, fun k hk hn => (hb1 k hk (fun e => hn (.inl e))).trans (h.fr.block k hk hn)⟩, ⟨c0, c1, c2, c3, hbl6⟩, ⟨cc 0 _ (by omega) h.lb.l0, cc 1 _ (by omega) h.lb.l1, (World.cell?_of_block (a := ⟨bx, 0, none⟩) (hb1 bx hx h.n3.symm)).trans h.lb.x0⟩, cc 2 _ (by omega) h.l2, cc 3 _ (by omega) h.l3, h.vw.step f' (fun k e => ?_) (fun k e => e.elim (fun e => (hv5 k e).elim (fun e => .inl (.inl e)) .inr) (fun e => .inl (.inr e))), h.met.on (hb1 bm hm' h.n6) (fun k x e => ?_), ?_, h.qlo, fun k hk => Nat.lt_of_lt_of_le (h.qlt k hk) f'.size, fun k hk e => (hv5 k e).elim (h.qn k hk) (fun e => by have := h.qlt k hk; omega), h.lol, h.lom, h.ltl, h.ltm, h.ltx, h.n1, h.n2, h.n3, h.n4, h.n5, h.n6, h.n7, h.n8, h.key⟩
  · rcases e with e | e
    · subst e
      exact ⟨h.n1, h.n2, h.lol, .inl h.ltl⟩
    · have h1 := hown k e
      have h2 := h.vw.ltv
      have h3 := h.vw.ltm
      have h4 := h.lol
      exact ⟨by omega, by omega, by omega, .inr (.inl e)⟩
  · have hk := h.key k x e
    exact (h.plain hk.1 hk.2.1 hk.2.2.1 hk.2.2.2.1 hk.2.2.2.2).on (hb1 _ hk.2.1 hk.2.2.1)
  · obtain ⟨vs, h1, h2, h3⟩ := hr
    have hsz : (w5.setCell ⟨bl, 4, none⟩ v5).heap.size = w5.heap.size := by simp
    refine ⟨vs, h1, h2.on fun g hg hB _ => heap_setCell_other _ _ _ _ (by show g ≠ bl; omega), fun i s x hs' hx' => (h3 i s x hs' hx').on fun k hk => ⟨⟨by rw [hsz]; exact hk.1, hk.2⟩, heap_setCell_other _ _ _ _ (by show k ≠ bl; have := hk.2.2.1; omega)⟩⟩
theorem NRow.snoc {B : Nat} {K : Nat → Prop} {v5 : Value} {w5 : World} {vs : List SlV} {q : Fr} {s : SlV} (h1 : vs.length = fs.length) (hold : ∀ (i : Nat) s x, vs[i]? = some s → fs[i]? = some x → RdS intE w (fun k => k < w.heap.size ∧ v.ownBlock ≠ some k ∧ K k) s.v x.of)
    (hq : RdS intE w (fun k => k < w.heap.size ∧ v.ownBlock ≠ some k ∧ K k) s.v q.of) (hr : RowG frE 129 w5 B v5 (fs.zip vs ++ [(q, s)])) (hsz : w.heap.size ≤ w5.heap.size) (hk5 : ∀ k, v.ownBlock ≠ some k → k < w.heap.size → w5.heap[k]? = w.heap[k]?) (hv5 : ∀ k, v5.ownBlock = some k → v.ownBlock = some k ∨ w.heap.size ≤ k) :
    NRow frN 129 K w5 B v5 (fs ++ [q]) := by
  have hold2 : ∀ (sv : Value) (l : List Int), RdS intE w (fun k => k < w.heap.size ∧ v.ownBlock ≠ some k ∧ K k) sv l → RdS intE w5 (fun k => k < w5.heap.size ∧ v5.ownBlock ≠ some k ∧ K k) sv l := fun sv l hm => hm.on fun k hk => ⟨⟨Nat.lt_of_lt_of_le hk.1 hsz, fun e => by
      rcases hv5 k e with e1 | e1
      · exact hk.2.1 e1
      · have := hk.1; omega, hk.2.2⟩, hk5 k hk.2.1 hk.1⟩
  refine ⟨vs ++ [s], by simp [h1], ?_, fun i s' x' hs' hx' => ?_⟩
  · rw [List.zip_append h1.symm]
    exact hr
  · rcases Nat.lt_or_ge i fs.length with hi | hi
    · rw [List.getElem?_append_left (by omega)] at hs' hx'
      exact hold2 _ _ (hold i s' x' hs' hx')
    · have hin : i = fs.length := by
        have := (List.getElem?_eq_some_iff.1 hx').1
        simp at this
        omega
      subst hin
      rw [← h1] at hs'
      simp at hs' hx'
      subst hs' hx'
      exact hold2 _ _ hq
/-- The last question, in its row. -/
theorem LK.top {q : Fr} (h : LK w0 w1 w bl bx bm bv bvm bf L on known v m (fs ++ [q]) Q) : ∃ g cap cur s, v = .slice (some ⟨g, 0, none⟩) (fs.length + 1) cap ∧ w1.heap.size ≤ g ∧ g < w.heap.size ∧ QA w g (6 * fs.length) cur q.a q.who q.sum (SlV.v s) q.heard q.val ∧ RdS intE w (fun k => k < w.heap.size ∧ v.ownBlock ≠ some k ∧ w1.heap.size ≤ k ∧ ¬ Q k) s.v q.of ∧ cur.size = cap * 6 ∧
    ∀ (w' : World) (cur' : Array Value) (q' : Fr), FrX (· = g) w w' → q'.of = q.of → QA w' g (6 * fs.length) cur' q'.a q'.who q'.sum (SlV.v s) q'.heard q'.val → cur'.size = cur.size → (∀ j, j < 6 * fs.length ∨ 6 * fs.length + 5 < j → cur'[j]? = cur[j]?) → NRow frN 129 (fun k => w1.heap.size ≤ k ∧ ¬ Q k) w' w1.heap.size v (fs ++ [q']) := by
  obtain ⟨vs, h1, h2, h3⟩ := h.row
  have hlen : (fs ++ [q]).length = fs.length + 1 := by simp
  obtain ⟨s, hs, hz⟩ := zip_get h1 (i := fs.length) (x := q) (by simp)
  have hzl : ((fs ++ [q]).zip vs).length = fs.length + 1 := by rw [zip_len h1, hlen]
  rcases h2.row.2 with ⟨_, e⟩ | ⟨g, cap, cur, hv, hB, hg, hcap, hmx, hsz, htk⟩
  · omega
  · have hk6 : frN.E.k = 6 := rfl
    rw [hk6] at hsz htk
    rw [hzl] at htk hcap hv
    have hcell : ∀ i u, (frE.f (q, s))[i]? = some u → cur[6 * fs.length + i]? = some u := fun i u hu => by
      have h4 := Enc.all_get frE ((fs ++ [q]).zip vs) fs.length (q, s) hz i u hu
      have h5 : frE.all ((fs ++ [q]).zip vs) = cur.toList.take ((fs.length + 1) * 6) := htk.symm
      have hi : i < 6 := (List.getElem?_eq_some_iff.1 hu).1
      rw [h5, List.getElem?_take_of_lt (by show fs.length * 6 + i < _; omega), Array.getElem?_toList] at h4
      rw [← h4]
      show cur[_]? = cur[fs.length * 6 + i]?
      rw [Nat.mul_comm]
    have hgl := (Array.getElem?_eq_some_iff.1 hg).1
    refine ⟨g, cap, cur, s, hv, hB, hgl, ⟨hg, by rw [hsz]; omega, hcell 0 _ rfl, hcell 1 _ rfl, hcell 2 _ rfl, hcell 3 _ rfl, hcell 4 _ rfl, hcell 5 _ rfl⟩, h3 fs.length s q hs (by simp), hsz, fun w' cur' q' f hof hq hsz' hoth => ?_⟩
    have hvs : vs = vs.take fs.length ++ [s] := by
      have hl : vs.length = fs.length + 1 := by rw [h1, hlen]
      conv => lhs; rw [← List.take_append_drop fs.length vs]
      congr 1
      rw [List.drop_eq_getElem_cons (by omega), List.drop_eq_nil_of_le (by omega)]
      congr 1
      exact Option.some.inj ((List.getElem?_eq_getElem (by omega)).symm.trans hs)
    have hz1 : (fs ++ [q]).zip vs = fs.zip (vs.take fs.length) ++ [(q, s)] := by
      conv => lhs; rw [hvs]
      rw [List.zip_append (by rw [List.length_take]; omega)]
      rfl
    have hz2 : (fs ++ [q']).zip vs = fs.zip (vs.take fs.length) ++ [(q', s)] := by
      conv => lhs; rw [hvs]
      rw [List.zip_append (by rw [List.length_take]; omega)]
      rfl
    have hpl : (fs.zip (vs.take fs.length)).length = fs.length := by rw [List.length_zip, List.length_take]; omega
    refine ⟨vs, by rw [h1]; simp, ⟨⟨?_, .inr ⟨g, cap, cur', ?_, hB, hq.blk, ?_, hmx, by rw [hsz', hsz]; rfl, ?_⟩⟩, ?_⟩, fun i s' x' hs' hx' => ?_⟩
    · rw [Enc.all_len]
    · rw [hv, hz2, List.length_append, hpl]; rfl
    · rw [hz2, List.length_append, hpl]; simpa using hcap
    · rw [hz2]
      have hlen2 : (fs.zip (vs.take fs.length) ++ [(q', s)]).length = fs.length + 1 := by rw [List.length_append, hpl]; rfl
      rw [hlen2, hk6]
      rw [hz1, Enc.all_app] at htk
      rw [Enc.all_app]
      have hal : (frE.all (fs.zip (vs.take fs.length))).length = fs.length * 6 := by rw [Enc.all_len, hpl]; rfl
      refine List.ext_getElem? fun j => ?_
      have h9 := congrArg (fun l => l[j]?) htk
      rcases Nat.lt_or_ge j (fs.length * 6) with hj | hj
      · have hN : frN.E.all = frE.all := rfl
        rw [List.getElem?_append_left (by rw [hN, hal]; exact hj)]
        rw [List.getElem?_append_left (by rw [hN, hal]; exact hj)] at h9
        rw [← h9, List.getElem?_take_of_lt (by omega), List.getElem?_take_of_lt (by omega), Array.getElem?_toList, Array.getElem?_toList]
        exact hoth j (.inl (by omega))
      · have hN : frN.E.all = frE.all := rfl
        rw [List.getElem?_append_right (by rw [hN, hal]; exact hj), hN, hal]
        rw [show frE.all [(q', s)] = frE.f (q', s) by rw [Enc.all_cons, Enc.all_nil, List.append_nil]]
        rcases Nat.lt_or_ge j (fs.length * 6 + 6) with hj2 | hj2
        · rw [List.getElem?_take_of_lt (by omega), Array.getElem?_toList]
          rcases (show j - fs.length * 6 = 0 ∨ j - fs.length * 6 = 1 ∨ j - fs.length * 6 = 2 ∨ j - fs.length * 6 = 3 ∨ j - fs.length * 6 = 4 ∨ j - fs.length * 6 = 5 by omega) with e | e | e | e | e | e
          all_goals rw [e]
          · rw [show j = 6 * fs.length by omega]; exact hq.c0
          · rw [show j = 6 * fs.length + 1 by omega]; exact hq.c1
          · rw [show j = 6 * fs.length + 2 by omega]; exact hq.c2
          · rw [show j = 6 * fs.length + 3 by omega]; exact hq.c3
          · rw [show j = 6 * fs.length + 4 by omega]; exact hq.c4
          · rw [show j = 6 * fs.length + 5 by omega]; exact hq.c5
        · rw [List.getElem?_eq_none (by rw [List.length_take]; omega), List.getElem?_eq_none (by show 6 ≤ _; omega)]
    · rw [hz2, List.length_append, hpl]
      have := h2.len
      rw [hzl] at this
      simpa using this
    · have hx2 : ∃ y, (fs ++ [q])[i]? = some y ∧ y.of = x'.of := by
        rcases Nat.lt_or_ge i fs.length with hi | hi
        · rw [List.getElem?_append_left hi] at hx'
          exact ⟨x', by rw [List.getElem?_append_left hi]; exact hx', rfl⟩
        · have hin : i = fs.length := by
            have := (List.getElem?_eq_some_iff.1 hx').1
            simp at this
            omega
          subst hin
          simp at hx'
          subst hx'
          exact ⟨q, by simp, hof.symm⟩
      obtain ⟨y, hy, hyo⟩ := hx2
      have h8 := h3 i s' y hs' hy
      show RdS intE w' _ s'.v x'.of
      rw [← hyo]
      exact h8.on fun k hk => ⟨⟨Nat.lt_of_lt_of_le hk.1 f.size, hk.2⟩, f.block k hk.1 (fun e => by
        have e : k = g := e
        subst e
        exact hk.2.1 (by rw [hv]; rfl))⟩
end
end Go.Proofs.YtcfeflkhmncmjaaGreatDoor

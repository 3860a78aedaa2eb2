/-
  Package why: Check; the laws' steps.
-/
import Derived.Test.YtmbclnaenjcocaaGreatDoorWhRight
namespace Go.Proofs.YtmbclnaenjcocaaGreatDoor
open Go.RowKit
variable {w : World}

theorem SRd.mono {w : World} {B B' : Nat} {v : Value} {l : List Clm} (h : SRd w B v l) (hB : B ≤ B') : SRd w B' v l := by
  obtain ⟨a, c, e, hl, hx⟩ := h
  refine ⟨a, c, e, hl, fun j x hj => ?_⟩
  obtain ⟨g, o, h1, h2, h3⟩ := hx j x hj
  exact ⟨g, o, h1, by omega, h3⟩
set_option maxHeartbeats 2000000 in
set_option maxRecDepth 100000 in
theorem check_p {T : Thy} {rv ov : Value} {B : Nat} (hM : TM w B T rv ov) (hB : B ≤ w.heap.size) {p : Nat → Addr} (hE : Sent4 w p) (hO : Okt T → ∀ W, Below w.heap.size w W → OrdC T rv ov W) {ca : Option Addr} {cn cc : Nat} {l : List Clm} (hC : SRd w w.heap.size (.slice ca cn cc) l) (hcn : cn = l.length) (hfew : cn ≤ 1000) : Calls Tryz.prog 17 #[.agg #[.int .i64 T.names, rv, ov], .slice ca cn cc] w (RgtR T p l w) := by
  obtain ⟨ra, rc, hrv, hrl, _⟩ := hM.r
  obtain ⟨oa, oc, hov, hol, _⟩ := hM.o
  obtain ⟨W0, hW0, hb0, hX⟩ := box_v hM hB
  have hz0 : w.heap.size < W0.heap.size := by rw [hW0]; simp
  have HX := hidLL hX
  obtain ⟨f, hf⟩ : ∃ f : Nat → Clm, f = fun j => l.getD j (false, false, 0) := ⟨_, rfl⟩
  have hfj : ∀ j x, l[j]? = some x → f j = x := fun j x hj => by rw [hf]; show l.getD j _ = x; rw [List.getD_eq_getElem?_getD, hj]; rfl
  have HFJ := hidLL hfj
  obtain ⟨W1, hW1⟩ : ∃ W1 : World, W1 = W0.alloc (.cells (madeCells zClm (cn * 3)) 65) := ⟨_, rfl⟩
  have hb1 : Below W0.heap.size W0 W1 := by rw [hW1]; exact (Below.refl _ _).alloc (Nat.le_refl _) _
  have hr1 : W1.rowIs W0.heap.size 65 (cn * 3) (cF f 0) := by rw [hW1]; exact made_clm W0 f (cn * 3)
  obtain ⟨g0, hg0⟩ : ∃ g0, g0 = W0.heap.size := ⟨_, rfl⟩
  rw [← hg0] at hr1
  have HRt : Hid (∀ W, Below g0 W0 W → W.rowIs g0 65 (cn * 3) (cF f cn) → Calls Tryz.prog 27 #[.agg #[.int .i64 T.names, rv, ov], .slice (some ⟨g0, 0, none⟩) cn cn] W (RgtR T p l w)) := fun W hW hrow => by
    have hbW : Below w.heap.size w W := hb0.trans (hW.mono (by omega))
    have hs := hbW.size
    have hg := hrow.lt
    rw [hcn] at hrow
    have hsr := (srd_row hrow hfj (by omega)).mono (show g0 + 1 ≤ W.heap.size by omega)
    rw [← hcn] at hsr
    refine (right_p (hM.below hbW hB) (by omega) (hE.bel hbW) (fun h W' hW' => hO h W' (hbW.trans (hW'.mono hs))) hsr hcn).mono ?_
    rintro e w' ⟨h1, h2⟩
    exact ⟨hbW.trans (h1.mono hs), h2⟩
  have HCl := hidLL (And.intro hC hcn)
  have HB0 := hidLL hb0
  have HW0 := hidLL (And.intro hW0 (And.intro hW1 hg0))
  have H1 := hidLL (And.intro hb1 hr1)
  have hmk : ∀ w : World, (Instr.makeSlice 66 (.int .i64 (cn : Int)) (.int .i64 (cn : Int))).run Tryz.prog w = .ok (.slice (some ⟨w.heap.size, 0, none⟩) cn cn) (w.alloc (.cells (madeCells zClm (cn * 3)) 65)) := fun w => make_clm cn (by omega) w
  have hwg : w.heap.size < g0 := by omega
  subst hrv hov
  generalize T.names = nm at *
  generalize T.rules.length = R at *
  generalize T.over.length = OO at *
  clear hX hM hE hO hC hcn hb0 hW0 hb1 hr1 hW1 hf hfj hg0
  go_enter Tryz.func17, Tryz.ntmps17
  go_upto_region 1 with fail
  rw [← HW0.out.1]
  go_upto_region 2 with fail
  rw [← HW0.out.2.1, ← HW0.out.2.2]
  clear hmk
  go_wp2_with fail
  go_loopw [14] (fun t wr => ∃ j : Nat, j ≤ cn ∧ t = .int .i64 j ∧ Below g0 W0 wr ∧ wr.rowIs g0 65 (cn * 3) (cF f j)) (fun t _ => cn - (RowKit.intOf t).toNat)
  case atStart => exact ⟨0, by omega, rfl, by rw [HW0.out.2.2]; exact H1.out.1, H1.out.2⟩
  case round =>
    obtain ⟨j, hj, rfl, hbel, hrow⟩ := hrel
    by_cases hlt : j < cn
    · have hjz : (j : Int) < cn := by omega
      obtain ⟨x, hx⟩ : ∃ x, l[j]? = some x := ⟨_, List.getElem?_eq_getElem (by have := HCl.out.2; omega)⟩
      have hbw : Below w.heap.size w wr := HB0.out.trans (hbel.mono (by omega))
      obtain ⟨g, o, ea, hgB, y0, y1, y2⟩ := (HCl.out.1.on fun k hk => hbw.block k hk).at hx
      subst ea
      have HFX := hidLL (HFJ.out j x hx)
      obtain ⟨a, b, q⟩ := x
      simp only at y0 y1 y2
      obtain ⟨W6, bx, hW6, hbx, hb6, z0, z1, z2, hl6⟩ := rcopy3 wr (.bool a) (.bool b) (.int .i64 q) 37
      have hrow6 := hrow.of_block (hb6.block _ hrow.lt)
      have s0 := hrow6.cell (i := j * 3) (by omega)
      have s1 := hrow6.cell (i := j * 3 + 1) (by omega)
      have s2 := hrow6.cell (i := j * 3 + 2) (by omega)
      have sf := hrow6.frozen
      have hlg := hrow6.lt
      generalize cF f j (j * 3) = u0 at s0
      generalize cF f j (j * 3 + 1) = u1 at s1
      generalize cF f j (j * 3 + 2) = u2 at s2
      have HQ := hidLL (And.intro (hbel.trans (hb6.mono (by rw [HW0.out.2.2]; exact hbel.size))) hrow6)
      have HW6 := hidLL (And.intro hW6 hbx)
      clear hx hW6 hbx hb6 hrow6 hrow hbel hbw
      go_upto_region 5 with fail
      rw [← HW6.out.1, ← HW6.out.2]
      go_wp2
      go_roundw
      case rel =>
        refine ⟨j + 1, by omega, by go_num, ((HQ.out.1.setCell (p := ⟨g0, _, none⟩) (Nat.le_refl _) _).setCell (p := ⟨g0, _, none⟩) (Nat.le_refl _) _).setCell (p := ⟨g0, _, none⟩) (Nat.le_refl _) _, ?_⟩
        refine (((HQ.out.2.set _ _).set _ _).set _ _).congr fun x _ => ?_
        have e := cF_next f j x
        rw [HFX.out] at e
        exact e
      case measure => simp [RowKit.intOf]; omega
    · obtain rfl : j = cn := by omega
      have hge : ¬ (j : Int) < j := by omega
      obtain ⟨c0, c1, c2, _, _⟩ := HX.out wr (by rw [← HW0.out.2.2]; exact hbel)
      have HR := hidLL (HRt.out wr hbel hrow)
      clear hbel hrow
      go_wp2_with fail
      refine HR.out.mono ?_
      rintro e w9 ⟨h1, h2⟩
      rcases h2 with ⟨k, hk, rfl⟩ | ⟨hk, b, rfl, hg⟩
      · have H9 := hidLL (And.intro h1 hk)
        clear h1 hk
        unfold errV
        go_wp2
        go_ret2
        exact ⟨H9.out.1, .inl ⟨k, H9.out.2, rfl⟩⟩
      · have H9 := hidLL (And.intro h1 (And.intro hk hg))
        clear h1 hk hg
        go_wp2
        go_ret2
        exact ⟨H9.out.1, .inr ⟨H9.out.2.1, b, rfl, H9.out.2.2⟩⟩
set_option maxHeartbeats 1000000 in
theorem step_w (a b : Bool) (q : Int) (w : World) : Calls Tryz.prog 8 #[.agg #[.bool a, .bool b, .int .i64 q]] w fun e w' => e = .returned (.agg #[.bool a, .bool b, .int .i64 q]) ∧ Below w.heap.size w w' := by
  obtain ⟨W0, bx, hW0, hbx, hb0, z0, z1, z2, hl0⟩ := rcopy3 w (.bool a) (.bool b) (.int .i64 q) 24
  obtain ⟨W1, rb, hW1, hrb, hb1, r0, r1, r2, hl1⟩ := rcopy3 W0 (.bool false) (.bool false) (.int .i64 0) 37
  have x0 := (hb1.cell (p := ⟨bx, 0, none⟩) hl0).trans z0
  have x1 := (hb1.cell (p := ⟨bx, 1, none⟩) hl0).trans z1
  have x2 := (hb1.cell (p := ⟨bx, 2, none⟩) hl0).trans z2
  have hfz : ∀ i, W1.frozen? ⟨rb, i, none⟩ = false := fun i => by
    have h := Go.Deep.blk_alloc_new W0 (.cells #[.bool false, .bool false, .int .i64 0] 37)
    rw [← hW1, ← hrb] at h
    simp [World.frozen?, h]
  have hwb : w.heap.size ≤ rb := by rw [hrb]; exact hb0.size
  have hbw : Below w.heap.size w W1 := hb0.trans (hb1.mono hb0.size)
  have hne : bx ≠ rb := by rw [hrb]; omega
  have hrb2 : rb = w.heap.size + 1 := by rw [hrb, hW0]; simp
  have hW2 : W1 = (w.alloc (.cells #[.bool a, .bool b, .int .i64 q] 24)).alloc (.cells #[.bool false, .bool false, .int .i64 0] 37) := by rw [hW1, hW0]
  have HW := hidLL (And.intro hW2 (And.intro hrb2 hbx))
  have HB := hidLL hbw
  clear hW2 hrb2
  clear hW0 hbx hW1 hrb hb0 hb1 z0 z1 z2 hbw
  go_enter Tryz.func8, Tryz.ntmps8
  go_upto_region 1 with fail
  rw [← HW.out.1, ← HW.out.2.1, ← HW.out.2.2]
  go_wp2
  refine bodyPost_ret (v := .agg #[.bool a, .bool b, .int .i64 q]) (by simp [results, Tryz.results8, go_sem, r0, r1, r2]) rfl ?_
  · exact ⟨rfl, ((HB.out.setCell (p := ⟨rb, _, none⟩) hwb _).setCell (p := ⟨rb, _, none⟩) hwb _).setCell (p := ⟨rb, _, none⟩) hwb _⟩
end Go.Proofs.YtmbclnaenjcocaaGreatDoor

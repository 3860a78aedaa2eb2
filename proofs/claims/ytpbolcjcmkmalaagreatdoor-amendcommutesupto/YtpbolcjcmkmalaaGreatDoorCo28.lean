/-
  script.Copy: a copy of a tree that owns its memory.
-/
import Derived.Test.YtpbolcjcmkmalaaGreatDoorCo27
namespace Go.Proofs.YtpbolcjcmkmalaaGreatDoor
open Go.RowKit Go.Extern.Stop Go.Stop Go.Extern

theorem SrcT.mono {w : World} {N N' : Nat} {ex : Prop} {v : Nat → Value} {t : It} (h : SrcT w N ex v t) (hb : N ≤ N') : SrcT w N' ex v t := by
  induction h with
  | mk v t la ka lc kc V h0 h1 h2 h3 hl hk hr cl ck bl bk hlc hkc ih =>
    exact .mk v t la ka lc kc V h0 h1 h2 h3 (fun i s hs => (by obtain ⟨b, o, e, hN, hc⟩ := hl i s hs; exact ⟨b, o, e, by omega, hc⟩)) (fun i hi => (by obtain ⟨b, o, e, hN, r⟩ := hk i hi; exact ⟨b, o, e, by omega, r⟩)) ih cl ck bl bk hlc hkc
theorem fourN {W : World} {g : Nat} {v : Nat → Value} (h : W.heap[g]? = some (Obj.cells #[v 0, v 1, v 2, v 3] itT (0, 0))) : NodeAt W g 0 v := ⟨_, h, fun c hc => by
  match c, hc with
  | 0, _ => rfl
  | 1, _ => rfl
  | 2, _ => rfl
  | 3, _ => rfl⟩
theorem set4c {W : World} {b T : Nat} {x y z q u0 u1 u2 u3 : Value} (h : W.heap[b]? = some (.cells #[x, y, z, q] T (0, 0))) : ((((W.setCell ⟨b, 0, none⟩ u0).setCell ⟨b, 1, none⟩ u1).setCell ⟨b, 2, none⟩ u2).setCell ⟨b, 3, none⟩ u3).heap[b]? = some (.cells #[u0, u1, u2, u3] T (0, 0)) := by
  rw [heap_setCell_same _ _ _ _ _ _ (heap_setCell_same _ _ _ _ _ _ (heap_setCell_same _ _ _ _ _ _ (heap_setCell_same _ _ _ _ _ _ h)))]
  rfl
theorem set4_far {W : World} {b k : Nat} {u0 u1 u2 u3 : Value} (h : k ≠ b) : ((((W.setCell ⟨b, 0, none⟩ u0).setCell ⟨b, 1, none⟩ u1).setCell ⟨b, 2, none⟩ u2).setCell ⟨b, 3, none⟩ u3).heap[k]? = W.heap[k]? := by
  rw [Below.heap_setCell _ _ _ _ h, Below.heap_setCell _ _ _ _ h, Below.heap_setCell _ _ _ _ h, Below.heap_setCell _ _ _ _ h]
theorem Own.base {w : World} {B B' : Nat} {v : Nat → Value} {t : It} {S : Nat → Prop} (h : Own w B v t S) (hB : B' ≤ B) : Own w B' v t S := by
  induction h with
  | mk v t K T S h0 h1 ln kd sl sk hr hT hd hS ih => exact .mk v t K T S h0 h1 (row_base ln hB) (row_base kd hB) sl sk ih hT hd (fun g hg => by have := hS g hg; omega)
set_option maxHeartbeats 8000000 in
set_option maxRecDepth 20000 in
/-- (tree.Shape[Item]).Copy: of what is not too heavy, or whose places can be told apart. -/
theorem shCopy_a {w : World} {N : Nat} {ex : Prop} {t : It} {v : Nat → Value} (hv0 : SrcT w N ex v t) (hN : N ≤ w.heap.size) (hz : wtI t ≤ 400000) (hx : ex ∨ wtI t ≤ 600) :
    Calls Tryz.prog 28 #[.agg shpV, .agg #[v 0, v 1, v 2, v 3]] w fun e w' => ∃ v' S, e = .returned (.agg #[v' 0, v' 1, v' 2, v' 3]) ∧ Own w' w.heap.size v' t S ∧ Below w.heap.size w w' := by
  have hv := hv0.mono hN
  clear hv0
  obtain ⟨f0, f1, la, lc, f2, _⟩ := hv.texts
  obtain ⟨ka, kc, K, hfk⟩ := hv.fk
  have f3 := hfk.is
  have hv4 : #[v 0, v 1, v 2, v 3] = #[.string t.label, .string t.head, .slice la t.lines.length lc, .slice ka t.kids.length kc] := by rw [f0, f1, f2, f3]
  obtain ⟨W3, hW3⟩ : ∃ W3, W3 = ((w.alloc (.cells shpV 75)).alloc (.cells #[.string t.label, .string t.head, .slice la t.lines.length lc, .slice ka t.kids.length kc] itT)).alloc (.cells #[.string ⟨#[]⟩, .string ⟨#[]⟩, .slice none 0 0, .slice none 0 0] itT) := ⟨_, rfl⟩
  have hs3 : W3.heap.size = w.heap.size + 3 := by rw [hW3]; simp
  have hb3 : Below w.heap.size w W3 := by rw [hW3]; exact (((Below.refl _ _).alloc (Nat.le_refl _) _).alloc (by simp) _).alloc (by simp; omega) _
  have hg0 : W3.heap[w.heap.size]? = some (.cells shpV 75 (0, 0)) := by
    rw [hW3, Below.heap_alloc _ _ _ (by simp; omega), Below.heap_alloc _ _ _ (by simp)]
    exact heap_alloc_new _ _
  have hg1 : W3.heap[w.heap.size + 1]? = some (.cells #[v 0, v 1, v 2, v 3] itT (0, 0)) := by
    rw [hW3, Below.heap_alloc _ _ _ (by simp), hv4]
    have := heap_alloc_new (w.alloc (.cells shpV 75)) (.cells #[.string t.label, .string t.head, .slice la t.lines.length lc, .slice ka t.kids.length kc] itT)
    rw [show (w.alloc (.cells shpV 75)).heap.size = w.heap.size + 1 by simp] at this
    exact this
  have hg2 : W3.heap[w.heap.size + 2]? = some (.cells #[.string ⟨#[]⟩, .string ⟨#[]⟩, .slice none 0 0, .slice none 0 0] itT (0, 0)) := by
    rw [hW3]
    have := heap_alloc_new ((w.alloc (.cells shpV 75)).alloc (.cells #[.string t.label, .string t.head, .slice la t.lines.length lc, .slice ka t.kids.length kc] itT)) (.cells #[.string ⟨#[]⟩, .string ⟨#[]⟩, .slice none 0 0, .slice none 0 0] itT)
    rw [show ((w.alloc (.cells shpV 75)).alloc (.cells #[.string t.label, .string t.head, .slice la t.lines.length lc, .slice ka t.kids.length kc] itT)).heap.size = w.heap.size + 2 by simp] at this
    exact this
  rw [hv4]
  obtain ⟨y0, y1, y2, y3, y4⟩ := five hg0
  have hn1 : NodeAt W3 (w.heap.size + 1) 0 v := fourN hg1
  have HWg : Hid (∀ W sb mb, Below W3.heap.size W3 W → SC W sb mb ex (fun _ _ => False) → W3.heap.size ≤ sb → W3.heap.size ≤ mb → Calls Tryz.prog 67 #[.pointer (some ⟨sb, 0, none⟩), .pointer (some ⟨w.heap.size + 1, 0, none⟩)] W fun e w' => ∃ x : Int, e = .returned (.int .i64 x) ∧ (ex → x = wtI t) ∧ Below W3.heap.size W w') := fun W sb mb hW hS h1 h2 => by
    have hnW := hn1.on (hW.block _ (by omega))
    have hlw : ∀ q, q < w.heap.size → W.heap[q]? = w.heap[q]? := fun q hq => (hW.block q (by omega)).trans (hb3.block q hq)
    obtain ⟨cur, ec, hc⟩ := hnW
    refine weigh_a hS hW.size h1 h2 ((hv.on hlw).tree (N' := W3.heap.size) (by omega) (b := w.heap.size + 1) (o := 0) ?_ ?_ ⟨⟨v 0, ?_⟩, ?_⟩ (fun _ => ⟨cur, _, ec⟩) (by omega)) hz
    · exact (NodeAt.cell ⟨cur, ec, hc⟩ (c := 2) (by omega))
    · exact (NodeAt.cell ⟨cur, ec, hc⟩ (c := 3) (by omega))
    · exact (NodeAt.cell ⟨cur, ec, hc⟩ (c := 0) (by omega))
    · exact NodeAt.frozen ⟨cur, ec, hc⟩ 0
  have HRn : Hid (∀ W (most : Nat), Below W3.heap.size W3 W → wtK t.kids ≤ most → most ≤ 100000000 → Calls Tryz.prog 68 #[.agg shpV, .pointer (some ⟨w.heap.size + 1, 0, none⟩), .int .i64 most] W fun e w' => e = .returned (.tuple #[]) ∧ BelX W.heap.size (w.heap.size + 1) W w' ∧ ∃ v' S, NodeAt w' (w.heap.size + 1) 0 v' ∧ Own w' W.heap.size v' t S ∧ ¬ S (w.heap.size + 1)) := fun W most hW h1 h2 => by
    have hlw : ∀ q, q < w.heap.size → W.heap[q]? = w.heap[q]? := fun q hq => (hW.block q (by omega)).trans (hb3.block q hq)
    have := wtI_eq t
    exact renew_a (hv.on hlw) (hn1.on (hW.block _ (by omega))) (by omega) (by have := hW.size; omega) h1 h2 (by omega)
  have HX := hidLL hW3
  have HB := hidLL (And.intro hb3 (And.intro hg0 (And.intro hg2 hs3)))
  have HZ := hidLL (And.intro hx (And.intro hz (wtI_eq t)))
  have hr1 : w.heap.size < W3.heap.size := by omega
  clear hW3 hb3 hg0 hg1 hg2 hs3 hn1 hx hz hv hfk f0 f1 f2 f3 hv4
  go_enter Tryz.func28, Tryz.ntmps28
  go_upto_region 1 with fail
  rw [← HX.out]
  go_upto_region 2 with fail
  go_cut [13] (fun bb wx => ∃ x : Int, bb = .bool (decide (x ≤ 67108864)) ∧ (ex → x = wtI t) ∧ Below W3.heap.size W3 wx)
  case first =>
    have HCx : Hid (∀ W, Below W3.heap.size W3 W → (W.cell? ⟨w.heap.size, 0, none⟩ = some (.func (.func 62) #[] #[]) ∧ W.cell? ⟨w.heap.size, 1, none⟩ = some (.func (.func 63) #[] #[]) ∧ W.cell? ⟨w.heap.size, 2, none⟩ = some (.func (.func 65) #[] #[]) ∧ W.cell? ⟨w.heap.size, 3, none⟩ = some (.int .i64 67108864) ∧ W.cell? ⟨w.heap.size, 4, none⟩ = some (.int .i64 600))) := fun W hW => ⟨(hW.cell (p := ⟨w.heap.size, 0, none⟩) (cell_lt y0)).trans y0, (hW.cell (p := ⟨w.heap.size, 1, none⟩) (cell_lt y1)).trans y1, (hW.cell (p := ⟨w.heap.size, 2, none⟩) (cell_lt y2)).trans y2, (hW.cell (p := ⟨w.heap.size, 3, none⟩) (cell_lt y3)).trans y3, (hW.cell (p := ⟨w.heap.size, 4, none⟩) (cell_lt y4)).trans y4⟩
    go_region_held3 (fun V => V.cell? ⟨w.heap.size, 0, none⟩ = some (.func (.func 62) #[] #[]) ∧ V.cell? ⟨w.heap.size, 1, none⟩ = some (.func (.func 63) #[] #[]) ∧ V.cell? ⟨w.heap.size, 2, none⟩ = some (.func (.func 65) #[] #[]) ∧ V.cell? ⟨w.heap.size, 3, none⟩ = some (.int .i64 67108864) ∧ V.cell? ⟨w.heap.size, 4, none⟩ = some (.int .i64 600)) (first | exact ⟨y0, y1, y2, y3, y4⟩ | exact ⟨z0, z1, z2, z3, z4⟩ | go_keep) (first | (go_simp; go_at_call 66; refine (scale_a ex W3.drew).mono ?_; rintro e w4 ⟨sb, mb, rfl, hS4, hsb, hmb, hb4⟩; (have hb4' : Below W3.heap.size W3 w4 := ⟨hb4.os, hb4.tape, hb4.output, hb4.size, hb4.block⟩); (have HW4 := hidLL (HWg.out w4 sb mb hb4' hS4 hsb hmb)); (obtain ⟨z0, z1, z2, z3, z4⟩ := HCx.out w4 hb4'); (have H4 := hidLL hb4'); clear hS4 hsb hmb hb4 hb4') | (go_simp; go_at_call 67; refine HW4.out.mono ?_; rintro e w5 ⟨x, rfl, hxe, hb5⟩; (have hb5' := H4.out.trans hb5); clear z0 z1 z2 z3 z4; (obtain ⟨z0, z1, z2, z3, z4⟩ := HCx.out w5 hb5'); (have H5 := hidLL (And.intro hxe hb5')); clear hxe hb5 hb5'))
    all_goals go_wp2_with fail
    all_goals go_meet
    all_goals exact ⟨x, rfl, H5.out.1, H5.out.2⟩
  case rest =>
    obtain ⟨x, rfl, hxe, hbc⟩ := hcut
    have HC := hidLL (And.intro hxe hbc)
    have z0 := (hbc.cell (p := ⟨w.heap.size, 0, none⟩) (cell_lt y0)).trans y0
    have z1 := (hbc.cell (p := ⟨w.heap.size, 1, none⟩) (cell_lt y1)).trans y1
    have z2 := (hbc.cell (p := ⟨w.heap.size, 2, none⟩) (cell_lt y2)).trans y2
    have z3 := (hbc.cell (p := ⟨w.heap.size, 3, none⟩) (cell_lt y3)).trans y3
    have z4 := (hbc.cell (p := ⟨w.heap.size, 4, none⟩) (cell_lt y4)).trans y4
    have HFin : Hid (∀ w', BelX wc.heap.size (w.heap.size + 1) wc w' → ∀ v' S, Own w' wc.heap.size v' t S → w'.heap[w.heap.size + 2]? = some (.cells #[.string ⟨#[]⟩, .string ⟨#[]⟩, .slice none 0 0, .slice none 0 0] itT (0, 0)) ∧ Below w.heap.size w w' ∧ Own w' w.heap.size v' t S ∧ (∀ g, S g → g ≠ w.heap.size + 2)) := fun w' hx v' S ho => by
      have h3 := HB.out.2.2.2
      have hc := hbc.size
      refine ⟨?_, ?_, ho.base (by omega), fun g hg => by have := ho.in g hg; omega⟩
      · rw [hx.block _ (by omega) (by omega), hbc.block _ (by omega)]
        exact HB.out.2.2.1
      · exact HB.out.1.trans ((hbc.mono (by omega)).trans (BelX.down2 hx (by omega) (by omega)))
    have HEnd : Hid (∀ w6 v' S, w6.heap[w.heap.size + 2]? = some (.cells #[.string ⟨#[]⟩, .string ⟨#[]⟩, .slice none 0 0, .slice none 0 0] itT (0, 0)) → Below w.heap.size w w6 → Own w6 w.heap.size v' t S → (∀ g, S g → g ≠ w.heap.size + 2) → ∀ u0 u1 u2 u3, Own ((((w6.setCell ⟨w.heap.size + 2, 0, none⟩ u0).setCell ⟨w.heap.size + 2, 1, none⟩ u1).setCell ⟨w.heap.size + 2, 2, none⟩ u2).setCell ⟨w.heap.size + 2, 3, none⟩ u3) w.heap.size v' t S ∧ Below w.heap.size w ((((w6.setCell ⟨w.heap.size + 2, 0, none⟩ u0).setCell ⟨w.heap.size + 2, 1, none⟩ u1).setCell ⟨w.heap.size + 2, 2, none⟩ u2).setCell ⟨w.heap.size + 2, 3, none⟩ u3)) := fun w6 v' S _ hb ho hg u0 u1 u2 u3 =>
      ⟨ho.step (fun g hgS => set4_far (hg g hgS)) (by simp), ⟨hb.os, hb.tape, hb.output, by have := hb.size; simpa using this, fun k hk => (set4_far (by omega)).trans (hb.block k hk)⟩⟩
    clear hxe hbc y0 y1 y2 y3 y4
    by_cases hle : x ≤ 67108864
    · have hdl : decide (x ≤ 67108864) = true := decide_eq_true hle
      have HM := hidLL (HRn.out wc 67108864 HC.out.2 (by have := HZ.out.2.2; have := HZ.out.2.1; omega) (by omega))
      rw [hdl]
      clear hle hdl
      go_upto_region 5 with (go_at_call 68; refine HM.out.mono ?_; rintro e w6 ⟨rfl, hbx6, v', S, hn6, ho6, _⟩; (have H6 := hidLL (HFin.out w6 hbx6 v' S ho6)); (have HN6 := hidLL hn6); clear hbx6 ho6 hn6)
      obtain ⟨q0, q1, ⟨qa, qc, q2⟩, qka, qkc, q3⟩ := H6.out.2.2.1.lies.forms
      have m0 := HN6.out.cell (c := 0) (by omega)
      have m1 := HN6.out.cell (c := 1) (by omega)
      have m2 := HN6.out.cell (c := 2) (by omega)
      have m3 := HN6.out.cell (c := 3) (by omega)
      rw [q0] at m0
      rw [q1] at m1
      rw [q2] at m2
      rw [q3] at m3
      obtain ⟨r0, r1, r2, r3, rf⟩ := four H6.out.1
      have HQ := hidLL (And.intro q0 (And.intro q1 (And.intro q2 q3)))
      clear q0 q1 q2 q3 z0 z1 z2 z3 z4
      go_wp2
      refine bodyPost_ret (v := .agg #[.string t.label, .string t.head, .slice qa t.lines.length qc, .slice qka t.kids.length qkc]) (results_cell_row Tryz.results28 _ _ (w.heap.size + 2) itT #[.string t.label, .string t.head, .slice qa t.lines.length qc, .slice qka t.kids.length qkc] (0, 0) _ (by first | rfl | simp) (set4c H6.out.1) Tryz.underlying25 rfl rfl) rfl ?_
      refine ⟨v', S, ?_, HEnd.out w6 v' S H6.out.1 H6.out.2.1 H6.out.2.2.1 H6.out.2.2.2 _ _ _ _⟩
      rw [HQ.out.1, HQ.out.2.1, HQ.out.2.2.1, HQ.out.2.2.2]
    · have hdl : decide (x ≤ 67108864) = false := decide_eq_false hle
      have HM := hidLL (HRn.out wc 600 HC.out.2 (by
        have h1 := HZ.out.2.2
        have h2 := HZ.out.2.1
        rcases HZ.out.1 with h3 | h3
        · have := HC.out.1 h3
          omega
        · omega) (by omega))
      rw [hdl]
      clear hle hdl
      go_upto_region 5 with (go_at_call 68; refine HM.out.mono ?_; rintro e w6 ⟨rfl, hbx6, v', S, hn6, ho6, _⟩; (have H6 := hidLL (HFin.out w6 hbx6 v' S ho6)); (have HN6 := hidLL hn6); clear hbx6 ho6 hn6)
      obtain ⟨q0, q1, ⟨qa, qc, q2⟩, qka, qkc, q3⟩ := H6.out.2.2.1.lies.forms
      have m0 := HN6.out.cell (c := 0) (by omega)
      have m1 := HN6.out.cell (c := 1) (by omega)
      have m2 := HN6.out.cell (c := 2) (by omega)
      have m3 := HN6.out.cell (c := 3) (by omega)
      rw [q0] at m0
      rw [q1] at m1
      rw [q2] at m2
      rw [q3] at m3
      obtain ⟨r0, r1, r2, r3, rf⟩ := four H6.out.1
      have HQ := hidLL (And.intro q0 (And.intro q1 (And.intro q2 q3)))
      clear q0 q1 q2 q3 z0 z1 z2 z3 z4
      go_wp2
      refine bodyPost_ret (v := .agg #[.string t.label, .string t.head, .slice qa t.lines.length qc, .slice qka t.kids.length qkc]) (results_cell_row Tryz.results28 _ _ (w.heap.size + 2) itT #[.string t.label, .string t.head, .slice qa t.lines.length qc, .slice qka t.kids.length qkc] (0, 0) _ (by first | rfl | simp) (set4c H6.out.1) Tryz.underlying25 rfl rfl) rfl ?_
      refine ⟨v', S, ?_, HEnd.out w6 v' S H6.out.1 H6.out.2.1 H6.out.2.2.1 H6.out.2.2.2 _ _ _ _⟩
      rw [HQ.out.1, HQ.out.2.1, HQ.out.2.2.1, HQ.out.2.2.2]
end Go.Proofs.YtpbolcjcmkmalaaGreatDoor

/-
  Package amend: dropLine, addLine.
-/
import Derived.Test.YtpbolcjcmkmalaaGreatDoorCo19
namespace Go.Proofs.YtpbolcjcmkmalaaGreatDoor
open Go.RowKit Go.Extern.Stop Go.Stop Go.Extern

/-- What is left to be done: one cell of the item is written. -/
structure StO (W : World) (B b o c : Nat) (S : Nat → Prop) (y : It) (u : Value) (w' : World) : Prop where
  cell : ∃ old, w'.cell? ⟨b, o + c, none⟩ = some old
  frz : w'.frozen? ⟨b, o + c, none⟩ = false
  fin : ∀ w'', w''.heap = (w'.setCell ⟨b, o + c, none⟩ u).heap → w''.os = w'.os → w''.tape = w'.tape → w''.output = w'.output → ∃ S' v', ItAt w'' B b o y S' v' ∧ (∀ q, S' q → S q ∨ W.heap.size ≤ q) ∧ Upd W w'' b o S
theorem str_ones (l : List ByteArray) : ∀ u ∈ l.map Value.string, u.oneCell' = true := by
  intro u hu
  obtain ⟨s, _, rfl⟩ := List.mem_map.1 hu
  rfl
/-- Lines that come of a step in memory. -/
theorem ItAt.stL {W w' : World} {B b o : Nat} {x : It} {S : Nat → Prop} {v : Nat → Value} (h : ItAt W B b o x S v) (hB : B ≤ W.heap.size) {u : Value} {ls : List ByteArray} (hg : W.grownBy w' (v 2).ownBlock) (hr : w'.ownsRow B 9 1 u ls.length (ls.map Value.string)) (hu : u.ownBlock = (v 2).ownBlock ∨ ∃ g, u.ownBlock = some g ∧ W.heap.size ≤ g ∧ g < w'.heap.size) : StO W B b o 2 S (x.setLines ls) u w' := by
  obtain ⟨K, T, hk⟩ := h.own.parts
  have hbne : ∀ g, (v 2).ownBlock = some g → g ≠ b := fun g hg e => h.out (e ▸ hk.sl g hg)
  have hbb : w'.heap[b]? = W.heap[b]? := hg.block b h.lt (fun e => hbne b e.symm rfl)
  refine ⟨⟨v 2, (World.cell?_of_block (a := ⟨b, o + 2, none⟩) hbb).trans (h.cell (by omega))⟩, (World.frozen?_of_block (a := ⟨b, o + 2, none⟩) hbb).trans (h.frozen _), fun w'' h1 h2 h3 h4 => ?_⟩
  have hub : ∀ g, u.ownBlock = some g → g ≠ b := fun g hg' e => by
    rcases hu with e1 | ⟨g', e1, h5, _⟩
    · exact hbne g (by rw [← e1]; exact hg') e
    · rw [e1] at hg'; injection hg' with hg'; have := h.lt; omega
  have hsz : w''.heap.size = w'.heap.size := by rw [h1]; simp
  have hblk : ∀ k, k ≠ b → w''.heap[k]? = w'.heap[k]? := fun k hk => by rw [h1]; exact Below.heap_setCell _ _ _ _ hk
  refine h.setL (u := u) (ls := ls) ⟨h2.trans hg.os, h3.trans hg.tape, h4.trans hg.output, by rw [hsz]; exact hg.size, fun k hk hx => ?_⟩ ?_ ?_ ?_ hB
  · rw [hblk k (fun e => hx (.inl e)), hg.block k hk (fun e => hx (.inr e.symm))]
  · obtain ⟨cur, ty, e, _⟩ := h.here
    rw [h1, setCell_row u (hbb.trans e), setCell_row u e]
  · exact row_step hr fun g hg' hl => hblk g (hub g hg')
  · rcases hu with e1 | ⟨g', e1, h5, h6⟩
    · exact .inl e1
    · exact .inr ⟨g', e1, h5, by rw [hsz]; exact h6⟩
/-- A line goes. -/
theorem dropS_c {W : World} {B b o i : Nat} {x : It} {S : Nat → Prop} {v : Nat → Value} (h : ItAt W B b o x S v) (hB : B ≤ W.heap.size) (hi : i < x.lines.length) (hn : x.lines.length ≤ 1000000) {la : Option Addr} {lc : Nat} (e : v 2 = .slice la x.lines.length lc) :
    Calls Tryz.prog 113 #[.slice la x.lines.length lc, .int .i64 i, .int .i64 ((i : Int) + 1)] W fun e w' => ∃ a n c, e = .returned (.slice a n c) ∧ StO W B b o 2 S (x.setLines (x.lines.eraseIdx i)) (.slice a n c) w' := by
  obtain ⟨K, T, hk⟩ := h.own.parts
  have hln := hk.ln
  rw [e] at hln
  refine (delS_a hln (str_ones _) hi hn).mono ?_
  rintro e' w' ⟨⟨u, rfl, hu, hr⟩, hg⟩
  obtain ⟨a, c, rfl⟩ := row_any hr
  have hl : (x.lines.eraseIdx i).length = x.lines.length - 1 := by rw [List.length_eraseIdx, if_pos hi]
  refine ⟨a, _, c, rfl, h.stL hB (by rw [e]; exact hg) ?_ (.inl (by rw [hu, e]))⟩
  rw [hl, List.eraseIdx_eq_take_drop_succ, List.map_append, List.map_take, List.map_drop]
  exact hr
/-- One line more. -/
theorem addS_c {W : World} {B b o i vb : Nat} {x : It} {S : Nat → Prop} {v : Nat → Value} (h : ItAt W B b o x S v) (hB : B ≤ W.heap.size) (hi : i ≤ x.lines.length) (hn : x.lines.length ≤ 1000000) {la : Option Addr} {lc : Nat} (e : v 2 = .slice la x.lines.length lc) {s : ByteArray} (hv : W.heap[vb]? = some (.cells #[.string s] 9 (0, 0))) (hvb : ¬ S vb) :
    Calls Tryz.prog 112 #[.slice la x.lines.length lc, .int .i64 i, .slice (some ⟨vb, 0, none⟩) 1 1] W fun e w' => ∃ a n c, e = .returned (.slice a n c) ∧ StO W B b o 2 S (x.setLines (x.lines.insertIdx i s)) (.slice a n c) w' := by
  obtain ⟨K, T, hk⟩ := h.own.parts
  have hln := hk.ln
  rw [e] at hln
  refine (insS_a (ns := [.string s]) hln (str_ones _) hi hn hv rfl (fun u hu => by simp at hu; subst hu; rfl) (fun e2 => hvb (hk.sl vb (by rw [e]; exact e2))) hB).mono ?_
  rintro e' w' ⟨⟨u, rfl, hu, hr⟩, hg⟩
  obtain ⟨a, c, rfl⟩ := row_any hr
  have hl : (x.lines.insertIdx i s).length = x.lines.length + 1 := by rw [List.length_insertIdx, if_pos hi]
  refine ⟨a, _, c, rfl, h.stL hB (by rw [e]; exact hg) ?_ (by rw [e]; exact hu)⟩
  have hm : (x.lines.insertIdx i s).map Value.string = (x.lines.map Value.string).take i ++ [.string s] ++ (x.lines.map Value.string).drop i := by
    rw [map_insert, ins_take _ _ _ (by simpa using hi)]
    simp
  rw [hl, hm]
  exact hr
noncomputable def dropC (x : It) (line : Int) : COut := if hasL x line = false then .bad 8 else .ok (x.setLines (x.lines.eraseIdx line.toNat))
set_option maxHeartbeats 2000000 in
set_option maxRecDepth 20000 in
theorem dropLine_a {w : World} {B b o : Nat} {x : It} {S : Nat → Prop} {v : Nat → Value} (h : ItAt w B b o x S v) (hB : B ≤ w.heap.size) (hn : x.lines.length ≤ 1000000) {p : Nat → Addr} {m : Int} (hE : Env w p m) (op : OpW) (iv : Nat → Value) :
    Calls Tryz.prog 73 #[.pointer (some ⟨b, o, none⟩), .agg (opV op iv)] w (ChO w B b o S p (dropC x op.line)) := by
  cases op with
  | mk kind path at' text new line item =>
    show Calls Tryz.prog 73 #[.pointer (some ⟨b, o, none⟩), .agg #[.int .i64 kind, .string path, .string at', .string text, .string new, .int .i64 line, iv 0, iv 1, iv 2, iv 3]] w (ChO w B b o S p (dropC x line))
    generalize iv 0 = i0, iv 1 = i1, iv 2 = i2, iv 3 = i3
    obtain ⟨WB, hWB⟩ : ∃ WB, WB = w.alloc (.cells #[.int .i64 kind, .string path, .string at', .string text, .string new, .int .i64 line, i0, i1, i2, i3] 46) := ⟨_, rfl⟩
    have hb0 : Below w.heap.size w WB := by rw [hWB]; exact (Below.refl _ _).alloc (Nat.le_refl _) _
    have hbx : WB.heap[w.heap.size]? = some (.cells #[.int .i64 kind, .string path, .string at', .string text, .string new, .int .i64 line, i0, i1, i2, i3] 46 (0, 0)) := by rw [hWB]; exact heap_alloc_new _ _
    obtain ⟨y0, y1, y2, y3, y4, y5, y6, y7, y8, y9⟩ := ten hbx
    obtain ⟨la, lc, hv2, hc2⟩ := (h.on hb0).lines
    have HHas := hidLL (hasLine_a (n := line) hc2)
    have HX := hidLL hWB
    have H0 := hidLL h
    have HB0 := hidLL hb0
    have HEn := hidLL (fun w' (hb : Below w.heap.size w w') => hE.on hb)
    have HV2 := hidLL hv2
    clear hWB h hE y0 y1 y2 y3 y4 y6 y7 y8 y9 hv2
    cases hh : hasL x line
    · rw [hh] at HHas
      have HO : Hid (dropC x line = .bad 8) := by show _ = _; unfold dropC; rw [if_pos hh]
      have e1 : WB.cell? ⟨7, 0, none⟩ = some (.iface 214 (.pointer (some (p 7)))) := (HEn.out _ HB0.out).L.cell 7 (by omega)
      clear hh hc2 hb0 hbx
      generalize dropC x line = r at *
      go_enter Tryz.func73, Tryz.ntmps73
      go_upto_region 1 with fail
      rw [← HX.out]
      go_wp2_with fail
      refine HHas.out.mono ?_
      rintro e w1 ⟨rfl, ew⟩
      subst w1
      go_wp2
      go_ret
      rw [HO.out]
      exact ⟨by omega, EO.err 7 (by omega), HB0.out.mono hB⟩
    · rw [hh] at HHas
      obtain ⟨i, rfl, hil⟩ := hasL_iff hh
      have HO : Hid (dropC x (i : Int) = .ok (x.setLines (x.lines.eraseIdx i))) := by show _ = _; unfold dropC; rw [if_neg (by rw [hh]; simp)]; rfl
      have HD : Hid (∀ W, Below WB.heap.size WB W → Calls Tryz.prog 113 #[.slice la x.lines.length lc, .int .i64 i, .int .i64 ((i : Int) + 1)] W fun e w' => ∃ a n c, e = .returned (.slice a n c) ∧ StO W B b o 2 S (x.setLines (x.lines.eraseIdx i)) (.slice a n c) w' ∧ Below w.heap.size w W) := fun W hW => by
        have hbw := HB0.out.trans (hW.mono HB0.out.size)
        refine (dropS_c (H0.out.on hbw) (Nat.le_trans hB hbw.size) hil hn HV2.out).mono ?_
        rintro e w' ⟨a, n, c, h1, h2⟩
        exact ⟨a, n, c, h1, h2, hbw⟩
      have hwr : IntKind.i64.wrap ((i : Int) + 1) = (i : Int) + 1 := by rw [IntKind.wrap_i64]; omega
      clear hh hb0 hbx
      generalize x.lines.length = ln at *
      generalize x.setLines (x.lines.eraseIdx i) = y at *
      generalize dropC x (i : Int) = r at *
      go_enter Tryz.func73, Tryz.ntmps73
      go_upto_region 1 with fail
      rw [← HX.out]
      go_wp2_with fail
      refine HHas.out.mono ?_
      rintro e w1 ⟨rfl, ew⟩
      subst w1
      go_wp2
      go_region_with (go_at_call 113; refine (HD.out _ ?_).mono ?_; (· first | exact Below.refl _ _ | exact (Below.refl _ _).drew | exact bdrewN (Below.refl _ _) _); rintro e w2 ⟨ra, rn, rc, rfl, hst, hbw⟩; obtain ⟨old, hcl⟩ := hst.cell; have hfz := hst.frz; have HST := hidLL (And.intro hst.fin hbw); clear hst hbw)
      all_goals go_wp2
      all_goals go_ret
      all_goals rw [HO.out]
      all_goals (obtain ⟨S', v', q1, q2, q3⟩ := HST.out.1 _ rfl rfl rfl rfl; exact ChO.after HST.out.2 H0.out.lt hB ⟨rfl, S', v', q1, q2, q3⟩)
noncomputable def addC (x : It) (line : Int) (text : ByteArray) : COut := if line ≠ x.lines.length ∧ hasL x line = false then .bad 8 else if x.lines.length = 40 then .bad 2 else if chkB text = 0 then .ok (x.setLines (x.lines.insertIdx line.toNat text)) else .bad (chkB text)
set_option maxHeartbeats 4000000 in
set_option maxRecDepth 20000 in
theorem addLine_a {w : World} {B b o : Nat} {x : It} {S : Nat → Prop} {v : Nat → Value} (h : ItAt w B b o x S v) (hB : B ≤ w.heap.size) (hn : x.lines.length ≤ 1000000) {p : Nat → Addr} {m : Int} (hE : Env w p m) (op : OpW) (hok : OpOk op) (iv : Nat → Value) :
    Calls Tryz.prog 72 #[.pointer (some ⟨b, o, none⟩), .agg (opV op iv)] w (ChO w B b o S p (addC x op.line op.text)) := by
  have ht := hok.text
  clear hok
  cases op with
  | mk kind path at' text new line item =>
    have ht : text.size ≤ 6000 := ht
    show Calls Tryz.prog 72 #[.pointer (some ⟨b, o, none⟩), .agg #[.int .i64 kind, .string path, .string at', .string text, .string new, .int .i64 line, iv 0, iv 1, iv 2, iv 3]] w (ChO w B b o S p (addC x line text))
    generalize iv 0 = i0, iv 1 = i1, iv 2 = i2, iv 3 = i3
    obtain ⟨WB, hWB⟩ : ∃ WB, WB = w.alloc (.cells #[.int .i64 kind, .string path, .string at', .string text, .string new, .int .i64 line, i0, i1, i2, i3] 46) := ⟨_, rfl⟩
    have hb0 : Below w.heap.size w WB := by rw [hWB]; exact (Below.refl _ _).alloc (Nat.le_refl _) _
    have hbx : WB.heap[w.heap.size]? = some (.cells #[.int .i64 kind, .string path, .string at', .string text, .string new, .int .i64 line, i0, i1, i2, i3] 46 (0, 0)) := by rw [hWB]; exact heap_alloc_new _ _
    obtain ⟨y0, y1, y2, y3, y4, y5, y6, y7, y8, y9⟩ := ten hbx
    obtain ⟨la, lc, hv2, hc2⟩ := (h.on hb0).lines
    have HHas : Hid (∀ W, Below WB.heap.size WB W → Calls Tryz.prog 111 #[.pointer (some ⟨b, o, none⟩), .int .i64 line] W fun e w' => e = .returned (.bool (hasL x line)) ∧ w' = W) := fun W hW => hasLine_a ((hW.cell (p := ⟨b, o + 2, none⟩) (cell_lt hc2)).trans hc2)
    have HX := hidLL hWB
    have H0 := hidLL h
    have HB0 := hidLL hb0
    have HEn := hidLL (fun w' (hb : Below w.heap.size w w') => hE.on hb)
    have HV2 := hidLL hv2
    clear hWB h hE y0 y1 y2 y4 y6 y7 y8 y9 hv2
    by_cases hne : line = (x.lines.length : Int)
    · subst hne
      have hil : x.lines.length ≤ x.lines.length := Nat.le_refl _
      have HG : Hid (¬ ((x.lines.length : Int) ≠ x.lines.length ∧ hasL x (x.lines.length : Int) = false)) := fun e => e.1 rfl
      by_cases h40 : x.lines.length = 40
      · have HO : Hid (addC x (x.lines.length : Int) text = .bad 2) := by show _ = _; unfold addC; rw [if_neg HG.out, if_pos h40]
        have e1 : WB.cell? ⟨0, 0, none⟩ = some (.iface 214 (.pointer (some (p 1)))) := (HEn.out _ HB0.out).L.cell 1 (by omega)
        have z40 : ((x.lines.length : Int) == 40) = true := by rw [beq_iff_eq]; omega
        clear hb0 hbx h40
        generalize addC x (x.lines.length : Int) text = r at *
        generalize x.lines.length = ln at *
        go_enter Tryz.func72, Tryz.ntmps72
        go_upto_region 1 with fail
        rw [← HX.out]
        go_quiet (fail)
        go_wp2
        go_ret
        rw [HO.out]
        exact ⟨by omega, EO.err 1 (by omega), (bdrewN HB0.out _).mono hB⟩
      · have z40 : ¬ (x.lines.length : Int) = 40 := by omega
        have z41 : ((x.lines.length : Int) == 40) = false := by rw [beq_eq_false_iff_ne]; omega
        have HCk := hidLL (fun W (hW : Below WB.heap.size WB W) => checkLine_a text (by omega) W (hE := HEn.out _ (HB0.out.trans (hW.mono HB0.out.size))))
        by_cases hc : chkB text = 0
        · rw [hc] at HCk
          have HO : Hid (addC x (x.lines.length : Int) text = .ok (x.setLines (x.lines.insertIdx x.lines.length text))) := by show _ = _; unfold addC; rw [if_neg HG.out, if_neg h40, if_pos hc]; rfl
          have HD : Hid (∀ W vb, Below WB.heap.size WB W → W.heap[vb]? = some (.cells #[.string text] 9 (0, 0)) → WB.heap.size ≤ vb → Calls Tryz.prog 112 #[.slice la x.lines.length lc, .int .i64 x.lines.length, .slice (some ⟨vb, 0, none⟩) 1 1] W fun e w' => ∃ a n c, e = .returned (.slice a n c) ∧ StO W B b o 2 S (x.setLines (x.lines.insertIdx x.lines.length text)) (.slice a n c) w' ∧ Below w.heap.size w W) := fun W vb hW hv hvb => by
            have hbw := HB0.out.trans (hW.mono HB0.out.size)
            refine (addS_c (H0.out.on hbw) (Nat.le_trans hB hbw.size) hil hn HV2.out hv (fun e => by have := (H0.out.own.in vb e).2; have := HB0.out.size; omega)).mono ?_
            rintro e w' ⟨a, n, c, h1, h2⟩
            exact ⟨a, n, c, h1, h2, hbw⟩
          clear hc hb0 hbx
          generalize addC x (x.lines.length : Int) text = r at *
          generalize x.setLines (x.lines.insertIdx x.lines.length text) = y at *
          generalize x.lines.length = ln at *
          go_enter Tryz.func72, Tryz.ntmps72
          go_upto_region 1 with fail
          rw [← HX.out]
          go_quiet (fail)
          go_wp2_with fail
          refine (HCk.out _ (by first | exact Below.refl _ _ | exact bdrewN (Below.refl _ _) _)).mono ?_
          rintro e w1 ⟨he, hb1⟩
          unfold EO at he
          rw [if_pos rfl] at he
          subst he
          have hb2 : Below WB.heap.size WB w1 := (bdrewN (Below.refl _ _) _).trans hb1
          have z2 := (hb2.cell (p := ⟨b, o + 2, none⟩) (cell_lt hc2)).trans hc2
          have z3 := (hb2.cell (p := ⟨w.heap.size, 3, none⟩) (cell_lt y3)).trans y3
          have z5 := (hb2.cell (p := ⟨w.heap.size, 5, none⟩) (cell_lt y5)).trans y5
          have hba : Below WB.heap.size WB (w1.alloc (.cells #[.string text] 9)) := hb2.alloc hb2.size _
          have hnb := heap_alloc_new w1 (.cells #[.string text] 9)
          have hbs := hb2.size
          have x2 := (hba.cell (p := ⟨b, o + 2, none⟩) (cell_lt hc2)).trans hc2
          have x3 := (hba.cell (p := ⟨w.heap.size, 3, none⟩) (cell_lt y3)).trans y3
          have x5 := (hba.cell (p := ⟨w.heap.size, 5, none⟩) (cell_lt y5)).trans y5
          have HN := hidLL (And.intro hba (And.intro hnb hbs))
          have H2 := hidLL hb2
          clear hb1 hb2 y3 y5 hc2 hba hnb hbs
          go_wp2
          go_region_with (go_at_call 112; refine (HD.out _ w1.heap.size ?_ ?_ ?_).mono ?_; (· first | exact HN.out.1 | exact HN.out.1.drew | exact bdrewN HN.out.1 _); (· exact HN.out.2.1); (· exact HN.out.2.2); rintro e w2 ⟨ra, rn, rc, rfl, hst, hbw⟩; obtain ⟨old, hcl⟩ := hst.cell; have hfz := hst.frz; have HST := hidLL (And.intro hst.fin hbw); clear hst hbw)
          all_goals go_wp2
          all_goals go_ret
          all_goals rw [HO.out]
          all_goals (obtain ⟨S', v', q1, q2, q3⟩ := HST.out.1 _ rfl rfl rfl rfl; exact ChO.after HST.out.2 H0.out.lt hB ⟨rfl, S', v', q1, q2, q3⟩)
        · have HO : Hid (addC x (x.lines.length : Int) text = .bad (chkB text)) := by show _ = _; unfold addC; rw [if_neg HG.out, if_neg h40, if_neg hc]
          have HC := hidLL hc
          clear hb0 hbx hc
          generalize addC x (x.lines.length : Int) text = r at *
          generalize chkB text = c at *
          generalize x.lines.length = ln at *
          go_enter Tryz.func72, Tryz.ntmps72
          go_upto_region 1 with fail
          rw [← HX.out]
          go_quiet (fail)
          go_wp2_with fail
          refine (HCk.out _ (by first | exact Below.refl _ _ | exact bdrewN (Below.refl _ _) _)).mono ?_
          rintro e w1 ⟨he, hb1⟩
          unfold EO at he
          rw [if_neg HC.out] at he
          obtain ⟨k, hk1, hk2, rfl⟩ := he
          have hb2 : Below WB.heap.size WB w1 := (bdrewN (Below.refl _ _) _).trans hb1
          have H1 := hidLL hb2
          have HK := hidLL hk1
          clear hb1 hb2 hk1
          unfold errI
          go_wp2
          go_ret
          rw [HO.out, HK.out]
          exact ⟨by omega, EO.err k hk2, (HB0.out.trans (H1.out.mono HB0.out.size)).mono hB⟩
    · have n1 : (line == (x.lines.length : Int)) = false := by rw [beq_eq_false_iff_ne]; exact hne
      have n2 : (line != (x.lines.length : Int)) = true := by rw [bne_iff_ne]; exact hne
      cases hh : hasL x line
      · rw [hh] at HHas
        have HO : Hid (addC x line text = .bad 8) := by show _ = _; unfold addC; rw [if_pos ⟨hne, hh⟩]
        have e1 : WB.cell? ⟨7, 0, none⟩ = some (.iface 214 (.pointer (some (p 7)))) := (HEn.out _ HB0.out).L.cell 7 (by omega)
        clear hh hb0 hbx
        generalize addC x line text = r at *
        generalize x.lines.length = ln at *
        go_enter Tryz.func72, Tryz.ntmps72
        go_upto_region 1 with fail
        rw [← HX.out]
        go_quiet ((go_at_call 111; exact Calls.quiet_of_same (HHas.out _ (by first | exact Below.refl _ _ | exact bdrewN (Below.refl _ _) _ | exact (Below.refl _ _).drew))))
        go_wp2
        go_ret
        rw [HO.out]
        exact ⟨by omega, EO.err 7 (by omega), (bdrewN HB0.out _).mono hB⟩
      · rw [hh] at HHas
        obtain ⟨i, rfl, hil0⟩ := hasL_iff hh
        have hil : i ≤ x.lines.length := by omega
        have HG : Hid (¬ ((i : Int) ≠ x.lines.length ∧ hasL x (i : Int) = false)) := fun e => by rw [hh] at e; cases e.2
        clear hh
        by_cases h40 : x.lines.length = 40
        · have HO : Hid (addC x (i : Int) text = .bad 2) := by show _ = _; unfold addC; rw [if_neg HG.out, if_pos h40]
          have e1 : WB.cell? ⟨0, 0, none⟩ = some (.iface 214 (.pointer (some (p 1)))) := (HEn.out _ HB0.out).L.cell 1 (by omega)
          have z40 : ((x.lines.length : Int) == 40) = true := by rw [beq_iff_eq]; omega
          clear hb0 hbx h40
          generalize addC x (i : Int) text = r at *
          generalize x.lines.length = ln at *
          go_enter Tryz.func72, Tryz.ntmps72
          go_upto_region 1 with fail
          rw [← HX.out]
          go_quiet ((go_at_call 111; exact Calls.quiet_of_same (HHas.out _ (by first | exact Below.refl _ _ | exact bdrewN (Below.refl _ _) _ | exact (Below.refl _ _).drew))))
          go_wp2
          go_ret
          rw [HO.out]
          exact ⟨by omega, EO.err 1 (by omega), (bdrewN HB0.out _).mono hB⟩
        · have z40 : ¬ (x.lines.length : Int) = 40 := by omega
          have z41 : ((x.lines.length : Int) == 40) = false := by rw [beq_eq_false_iff_ne]; omega
          have HCk := hidLL (fun W (hW : Below WB.heap.size WB W) => checkLine_a text (by omega) W (hE := HEn.out _ (HB0.out.trans (hW.mono HB0.out.size))))
          by_cases hc : chkB text = 0
          · rw [hc] at HCk
            have HO : Hid (addC x (i : Int) text = .ok (x.setLines (x.lines.insertIdx i text))) := by show _ = _; unfold addC; rw [if_neg HG.out, if_neg h40, if_pos hc]; rfl
            have HD : Hid (∀ W vb, Below WB.heap.size WB W → W.heap[vb]? = some (.cells #[.string text] 9 (0, 0)) → WB.heap.size ≤ vb → Calls Tryz.prog 112 #[.slice la x.lines.length lc, .int .i64 i, .slice (some ⟨vb, 0, none⟩) 1 1] W fun e w' => ∃ a n c, e = .returned (.slice a n c) ∧ StO W B b o 2 S (x.setLines (x.lines.insertIdx i text)) (.slice a n c) w' ∧ Below w.heap.size w W) := fun W vb hW hv hvb => by
              have hbw := HB0.out.trans (hW.mono HB0.out.size)
              refine (addS_c (H0.out.on hbw) (Nat.le_trans hB hbw.size) hil hn HV2.out hv (fun e => by have := (H0.out.own.in vb e).2; have := HB0.out.size; omega)).mono ?_
              rintro e w' ⟨a, n, c, h1, h2⟩
              exact ⟨a, n, c, h1, h2, hbw⟩
            clear hc hb0 hbx
            generalize addC x (i : Int) text = r at *
            generalize x.setLines (x.lines.insertIdx i text) = y at *
            generalize x.lines.length = ln at *
            go_enter Tryz.func72, Tryz.ntmps72
            go_upto_region 1 with fail
            rw [← HX.out]
            go_quiet ((go_at_call 111; exact Calls.quiet_of_same (HHas.out _ (by first | exact Below.refl _ _ | exact bdrewN (Below.refl _ _) _ | exact (Below.refl _ _).drew))))
            go_wp2_with fail
            refine (HCk.out _ (by first | exact Below.refl _ _ | exact bdrewN (Below.refl _ _) _)).mono ?_
            rintro e w1 ⟨he, hb1⟩
            unfold EO at he
            rw [if_pos rfl] at he
            subst he
            have hb2 : Below WB.heap.size WB w1 := (bdrewN (Below.refl _ _) _).trans hb1
            have z2 := (hb2.cell (p := ⟨b, o + 2, none⟩) (cell_lt hc2)).trans hc2
            have z3 := (hb2.cell (p := ⟨w.heap.size, 3, none⟩) (cell_lt y3)).trans y3
            have z5 := (hb2.cell (p := ⟨w.heap.size, 5, none⟩) (cell_lt y5)).trans y5
            have hba : Below WB.heap.size WB (w1.alloc (.cells #[.string text] 9)) := hb2.alloc hb2.size _
            have hnb := heap_alloc_new w1 (.cells #[.string text] 9)
            have hbs := hb2.size
            have x2 := (hba.cell (p := ⟨b, o + 2, none⟩) (cell_lt hc2)).trans hc2
            have x3 := (hba.cell (p := ⟨w.heap.size, 3, none⟩) (cell_lt y3)).trans y3
            have x5 := (hba.cell (p := ⟨w.heap.size, 5, none⟩) (cell_lt y5)).trans y5
            have HN := hidLL (And.intro hba (And.intro hnb hbs))
            have H2 := hidLL hb2
            clear hb1 hb2 y3 y5 hc2 hba hnb hbs
            go_wp2
            go_region_with (go_at_call 112; refine (HD.out _ w1.heap.size ?_ ?_ ?_).mono ?_; (· first | exact HN.out.1 | exact HN.out.1.drew | exact bdrewN HN.out.1 _); (· exact HN.out.2.1); (· exact HN.out.2.2); rintro e w2 ⟨ra, rn, rc, rfl, hst, hbw⟩; obtain ⟨old, hcl⟩ := hst.cell; have hfz := hst.frz; have HST := hidLL (And.intro hst.fin hbw); clear hst hbw)
            all_goals go_wp2
            all_goals go_ret
            all_goals rw [HO.out]
            all_goals (obtain ⟨S', v', q1, q2, q3⟩ := HST.out.1 _ rfl rfl rfl rfl; exact ChO.after HST.out.2 H0.out.lt hB ⟨rfl, S', v', q1, q2, q3⟩)
          · have HO : Hid (addC x (i : Int) text = .bad (chkB text)) := by show _ = _; unfold addC; rw [if_neg HG.out, if_neg h40, if_neg hc]
            have HC := hidLL hc
            clear hb0 hbx hc
            generalize addC x (i : Int) text = r at *
            generalize chkB text = c at *
            generalize x.lines.length = ln at *
            go_enter Tryz.func72, Tryz.ntmps72
            go_upto_region 1 with fail
            rw [← HX.out]
            go_quiet ((go_at_call 111; exact Calls.quiet_of_same (HHas.out _ (by first | exact Below.refl _ _ | exact bdrewN (Below.refl _ _) _ | exact (Below.refl _ _).drew))))
            go_wp2_with fail
            refine (HCk.out _ (by first | exact Below.refl _ _ | exact bdrewN (Below.refl _ _) _)).mono ?_
            rintro e w1 ⟨he, hb1⟩
            unfold EO at he
            rw [if_neg HC.out] at he
            obtain ⟨k, hk1, hk2, rfl⟩ := he
            have hb2 : Below WB.heap.size WB w1 := (bdrewN (Below.refl _ _) _).trans hb1
            have H1 := hidLL hb2
            have HK := hidLL hk1
            clear hb1 hb2 hk1
            unfold errI
            go_wp2
            go_ret
            rw [HO.out, HK.out]
            exact ⟨by omega, EO.err k hk2, (HB0.out.trans (H1.out.mono HB0.out.size)).mono hB⟩
end Go.Proofs.YtpbolcjcmkmalaaGreatDoor

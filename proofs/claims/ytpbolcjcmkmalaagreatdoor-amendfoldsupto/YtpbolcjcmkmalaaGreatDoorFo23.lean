/-
  Package amend: checkLine, hasLine; an op in memory; changeLine, dropLine, addLine.
-/
import Derived.Test.YtpbolcjcmkmalaaGreatDoorFo21
import Derived.Test.YtpbolcjcmkmalaaGreatDoorFo22
import Derived.Test.YtpbolcjcmkmalaaGreatDoorFo10
namespace Go.Proofs.YtpbolcjcmkmalaaGreatDoor
open Go.RowKit Go.Extern.Stop Go.Stop Go.Extern

/-- An error by its number, or none. -/
def EO (p : Nat → Addr) (c : Nat) (e : Ending) : Prop := if c = 0 then e = .returned .nilIface else ∃ k, c = k + 1 ∧ k < 11 ∧ e = .returned (errI (p k))
theorem EO.nil {p : Nat → Addr} : EO p 0 (.returned .nilIface) := by unfold EO; rw [if_pos rfl]
theorem EO.err {p : Nat → Addr} (k : Nat) (hk : k < 11) : EO p (k + 1) (.returned (errI (p k))) := by unfold EO; rw [if_neg (by omega)]; exact ⟨k, rfl, hk, rfl⟩
set_option maxHeartbeats 1000000 in
theorem checkLine_a (s : ByteArray) (hs : s.size ≤ 1000000) {p : Nat → Addr} {m : Int} (w : World) (hE : Env w p m) :
    Calls Tryz.prog 75 #[.string s] w fun e w' => EO p (chkB s) e ∧ Below w.heap.size w w' := by
  by_cases h3 : 300 < s.size
  · have hz : (300 : Int) < (s.size : Int) := by omega
    have e1 : w.cell? ⟨0, 0, none⟩ = some (.iface 214 (.pointer (some (p 1)))) := hE.L.cell 1 (by omega)
    have HC : Hid (chkB s = 2) := by show _ = _; unfold chkB; rw [if_pos h3]
    clear h3 hE
    go_enter Tryz.func75, Tryz.ntmps75
    go_wp2
    go_ret
    rw [HC.out]
    exact ⟨EO.err 1 (by omega), Below.refl _ _⟩
  · have hz : ¬ (300 : Int) < (s.size : Int) := by omega
    have HI := hidLL (isLine_any s (by omega) w)
    have HEn := hidLL (fun w' (hb : Below w.heap.size w w') => hE.on hb)
    cases hl : lineB s
    · rw [hl] at HI
      have HC : Hid (chkB s = 1) := by show _ = _; unfold chkB; rw [if_neg h3, if_neg (by rw [hl]; simp)]
      clear hl h3 hE
      go_enter Tryz.func75, Tryz.ntmps75
      go_wp2_with fail
      refine HI.out.mono ?_
      rintro e w1 ⟨rfl, hb1⟩
      have e1 : w1.cell? ⟨1, 0, none⟩ = some (.iface 214 (.pointer (some (p 0)))) := (HEn.out w1 hb1).L.cell 0 (by omega)
      have H1 := hidLL hb1
      clear hb1
      go_wp2
      go_ret
      rw [HC.out]
      exact ⟨EO.err 0 (by omega), H1.out⟩
    · rw [hl] at HI
      have HC : Hid (chkB s = 0) := by show _ = _; unfold chkB; rw [if_neg h3, if_pos hl]
      clear hl h3 hE
      go_enter Tryz.func75, Tryz.ntmps75
      go_wp2_with fail
      refine HI.out.mono ?_
      rintro e w1 ⟨rfl, hb1⟩
      have H1 := hidLL hb1
      clear hb1
      go_wp2
      go_ret
      rw [HC.out]
      exact ⟨EO.nil, H1.out⟩
/-- The lines of an item, as they are read. -/
theorem ItAt.lines {w : World} {B b o : Nat} {x : It} {S : Nat → Prop} {v : Nat → Value} (h : ItAt w B b o x S v) : ∃ la lc, v 2 = .slice la x.lines.length lc ∧ w.cell? ⟨b, o + 2, none⟩ = some (.slice la x.lines.length lc) := by
  obtain ⟨_, _, ⟨la, lc, e⟩, _⟩ := h.own.lies.forms
  exact ⟨la, lc, e, by rw [← e]; exact h.cell (by omega)⟩
set_option maxHeartbeats 1000000 in
theorem hasLine_a {w : World} {b o la lc n : _} {x : It} (hc : w.cell? ⟨b, o + 2, none⟩ = some (.slice la x.lines.length lc)) :
    Calls Tryz.prog 111 #[.pointer (some ⟨b, o, none⟩), .int .i64 n] w fun e w' => e = .returned (.bool (hasL x n)) ∧ w' = w := by
  have HL : Hid (hasL x n = (decide (0 ≤ n) && decide (n < (x.lines.length : Int)))) := rfl
  generalize hasL x n = hh at *
  generalize x.lines.length = ln at *
  by_cases h0 : (0 : Int) ≤ n
  · have d0 : decide ((0 : Int) ≤ n) = true := decide_eq_true h0
    by_cases h1 : n < (ln : Int)
    · have d1 : decide (n < (ln : Int)) = true := decide_eq_true h1
      rw [d0, d1] at HL
      go_enter Tryz.func111, Tryz.ntmps111
      go_wp2
      go_ret
      rw [HL.out]
      exact ⟨rfl, rfl⟩
    · have d1 : decide (n < (ln : Int)) = false := decide_eq_false h1
      rw [d0, d1] at HL
      go_enter Tryz.func111, Tryz.ntmps111
      go_wp2
      go_ret
      rw [HL.out]
      exact ⟨rfl, rfl⟩
  · have d0 : decide ((0 : Int) ≤ n) = false := decide_eq_false h0
    rw [d0] at HL
    go_enter Tryz.func111, Tryz.ntmps111
    go_wp2
    go_ret
    rw [HL.out]
    exact ⟨rfl, rfl⟩
/-- A change as a value. -/
def opV (o : OpW) (iv : Nat → Value) : Array Value := #[.int .i64 o.kind, .string o.path, .string o.at', .string o.text, .string o.new, .int .i64 o.line, iv 0, iv 1, iv 2, iv 3]
/-- A change that is not too great, and numbers that are numbers. -/
structure OpOk (o : OpW) : Prop where
  path : o.path.size ≤ 6000
  at' : o.at'.size ≤ 6000
  text : o.text.size ≤ 6000
  new : o.new.size ≤ 6000
  line : -9223372036854775808 ≤ o.line ∧ o.line ≤ 9223372036854775807
/-- What a change of an item answers and leaves. -/
def ChO (w : World) (B b o : Nat) (S : Nat → Prop) (p : Nat → Addr) (r : COut) (e : Ending) (w' : World) : Prop := match r with
  | .bad c => c ≠ 0 ∧ EO p c e ∧ Below B w w'
  | .ok y => e = .returned .nilIface ∧ ∃ S' v', ItAt w' B b o y S' v' ∧ (∀ q, S' q → S q ∨ w.heap.size ≤ q) ∧ Upd w w' b o S
theorem Upd.after {w w1 w2 : World} {b o : Nat} {S : Nat → Prop} (hb : Below w.heap.size w w1) (hbl : b < w.heap.size) (hu : Upd w1 w2 b o S) : Upd w w2 b o S :=
  ⟨hu.os.trans hb.os, hu.tape.trans hb.tape, hu.output.trans hb.output, Nat.le_trans hb.size hu.size, fun k hk hn hne => (hu.block k (Nat.lt_of_lt_of_le hk hb.size) hn hne).trans (hb.block k hk), fun cur ty e => hu.here cur ty ((hb.block b hbl).trans e)⟩
/-- What is done behind new blocks alone. -/
theorem ChO.after {w w1 : World} {B b o : Nat} {S : Nat → Prop} {p : Nat → Addr} {r : COut} {e : Ending} {w' : World} (hb : Below w.heap.size w w1) (hbl : b < w.heap.size) (hB : B ≤ w.heap.size) (h : ChO w1 B b o S p r e w') : ChO w B b o S p r e w' := by
  cases r with
  | bad c => exact ⟨h.1, h.2.1, (hb.mono hB).trans h.2.2⟩
  | ok y =>
    obtain ⟨h1, S', v', h2, h3, h4⟩ := h
    exact ⟨h1, S', v', h2, fun q hq => (h3 q hq).imp (fun h => h) (fun h => Nat.le_trans hb.size h), h4.after hb hbl⟩
theorem ChO.drew {w : World} {B b o : Nat} {S : Nat → Prop} {p : Nat → Addr} {r : COut} {e : Ending} {w' : World} (h : ChO w B b o S p r e w') : ChO w B b o S p r e w'.drew := by
  cases r with
  | bad c => exact ⟨h.1, h.2.1, h.2.2.drew⟩
  | ok y =>
    obtain ⟨h1, S', v', h2, h3, h4⟩ := h
    exact ⟨h1, S', v', ⟨h2.here, h2.own.step (fun _ _ => rfl) (Nat.le_refl _), h2.out⟩, h3, ⟨h4.os, h4.tape, h4.output, h4.size, h4.block, h4.here⟩⟩
/-- The cells of a change that is boxed. -/
theorem ten {W : World} {g : Nat} {a b c d e f q r s t : Value} {T : TypeId} (h : W.heap[g]? = some (.cells #[a, b, c, d, e, f, q, r, s, t] T (0, 0))) : W.cell? ⟨g, 0, none⟩ = some a ∧ W.cell? ⟨g, 1, none⟩ = some b ∧ W.cell? ⟨g, 2, none⟩ = some c ∧ W.cell? ⟨g, 3, none⟩ = some d ∧ W.cell? ⟨g, 4, none⟩ = some e ∧ W.cell? ⟨g, 5, none⟩ = some f ∧ W.cell? ⟨g, 6, none⟩ = some q ∧ W.cell? ⟨g, 7, none⟩ = some r ∧ W.cell? ⟨g, 8, none⟩ = some s ∧ W.cell? ⟨g, 9, none⟩ = some t := by
  simp [World.cell?, h]
noncomputable def lineC (x : It) (line : Int) (text : ByteArray) : COut := if hasL x line = false then .bad 8 else if chkB text = 0 then .ok (x.setLines (x.lines.set line.toNat text)) else .bad (chkB text)
theorem hasL_iff {x : It} {n : Int} (h : hasL x n = true) : ∃ i : Nat, n = i ∧ i < x.lines.length := by
  unfold hasL at h
  simp only [Bool.and_eq_true, decide_eq_true_eq] at h
  exact ⟨n.toNat, by omega, by omega⟩
set_option maxHeartbeats 2000000 in
set_option maxRecDepth 20000 in
theorem changeLine_a {w : World} {B b o : Nat} {x : It} {S : Nat → Prop} {v : Nat → Value} (h : ItAt w B b o x S v) (hB : B ≤ w.heap.size) {p : Nat → Addr} {m : Int} (hE : Env w p m) (op : OpW) (hok : OpOk op) (iv : Nat → Value) :
    Calls Tryz.prog 71 #[.pointer (some ⟨b, o, none⟩), .agg (opV op iv)] w (ChO w B b o S p (lineC x op.line op.text)) := by
  have ht := hok.text
  clear hok
  cases op with
  | mk kind path at' text new line item =>
    have ht : text.size ≤ 6000 := ht
    show Calls Tryz.prog 71 #[.pointer (some ⟨b, o, none⟩), .agg #[.int .i64 kind, .string path, .string at', .string text, .string new, .int .i64 line, iv 0, iv 1, iv 2, iv 3]] w (ChO w B b o S p (lineC x line text))
    generalize iv 0 = i0, iv 1 = i1, iv 2 = i2, iv 3 = i3
    obtain ⟨WB, hWB⟩ : ∃ WB, WB = w.alloc (.cells #[.int .i64 kind, .string path, .string at', .string text, .string new, .int .i64 line, i0, i1, i2, i3] 46) := ⟨_, rfl⟩
    have hb0 : Below w.heap.size w WB := by rw [hWB]; exact (Below.refl _ _).alloc (Nat.le_refl _) _
    have hbx : WB.heap[w.heap.size]? = some (.cells #[.int .i64 kind, .string path, .string at', .string text, .string new, .int .i64 line, i0, i1, i2, i3] 46 (0, 0)) := by rw [hWB]; exact heap_alloc_new _ _
    obtain ⟨y0, y1, y2, y3, y4, y5, y6, y7, y8, y9⟩ := ten hbx
    obtain ⟨la, lc, hv2, hc2⟩ := (h.on hb0).lines
    have HHas := hidLL (hasLine_a (n := line) hc2)
    have HX := hidLL hWB
    have H0 := hidLL h
    have HB0 := hidLL hb0
    have HEn := hidLL (fun w' (hb : Below w.heap.size w w') => hE.on hb)
    clear hWB h hE y0 y1 y2 y4 y6 y7 y8 y9
    cases hh : hasL x line
    · rw [hh] at HHas
      have HO : Hid (lineC x line text = .bad 8) := by show _ = _; unfold lineC; rw [if_pos hh]
      have e1 : WB.cell? ⟨7, 0, none⟩ = some (.iface 214 (.pointer (some (p 7)))) := (HEn.out _ HB0.out).L.cell 7 (by omega)
      clear hh hc2 hv2 hb0 hbx
      generalize lineC x line text = r at *
      go_enter Tryz.func71, Tryz.ntmps71
      go_upto_region 1 with fail
      rw [← HX.out]
      go_wp2_with fail
      refine HHas.out.mono ?_
      rintro e w1 ⟨rfl, ew⟩
      subst w1
      go_wp2
      go_ret
      rw [HO.out]
      exact ⟨by omega, EO.err 7 (by omega), HB0.out.mono hB⟩
    · rw [hh] at HHas
      obtain ⟨i, rfl, hil⟩ := hasL_iff hh
      have HCk := hidLL (checkLine_a text (by omega) WB (hE := HEn.out _ HB0.out))
      by_cases hc : chkB text = 0
      · rw [hc] at HCk
        have HO : Hid (lineC x (i : Int) text = .ok (x.setLines (x.lines.set i text))) := by show _ = _; unfold lineC; rw [if_neg (by rw [hh]; simp), if_pos hc]; rfl
        clear hh hc hb0 hbx
        generalize lineC x (i : Int) text = r at *
        go_enter Tryz.func71, Tryz.ntmps71
        go_upto_region 1 with fail
        rw [← HX.out]
        go_wp2_with fail
        refine HHas.out.mono ?_
        rintro e w1 ⟨rfl, ew⟩
        subst w1
        go_wp2_with fail
        refine HCk.out.mono ?_
        rintro e w1 ⟨he, hb1⟩
        unfold EO at he
        rw [if_pos rfl] at he
        subst he
        have hbw := HB0.out.trans (hb1.mono HB0.out.size)
        obtain ⟨g, cap, hg2, hgc, hgf, hgo⟩ := (H0.out.on hbw).setLine hil text
        have z2 := (H0.out.on hbw).cell (c := 2) (by omega)
        rw [hg2] at z2
        have z3 := (hb1.cell (p := ⟨w.heap.size, 3, none⟩) (cell_lt y3)).trans y3
        have z5 := (hb1.cell (p := ⟨w.heap.size, 5, none⟩) (cell_lt y5)).trans y5
        have hiz : (i : Int) < (x.lines.length : Int) := by omega
        have HBw := hidLL hbw
        have HGo := hidLL hgo
        clear hb1 y3 y5 hgo hg2 hbw hc2 hv2
        generalize x.lines[i] = old at *
        generalize x.lines.length = ln at *
        go_wp2
        go_region
        all_goals go_wp2
        all_goals go_ret
        all_goals rw [HO.out]
        all_goals (refine ChO.after HBw.out H0.out.lt hB ⟨rfl, ?_⟩)
        all_goals (obtain ⟨q1, q2⟩ := HGo.out _ (Fr.setCell (X := (· = g)) (Fr.refl _ w1) (p := ⟨g, i, none⟩) (.inl rfl) (.string text)) rfl; exact ⟨S, v, ⟨q1.here, q1.own.step (fun _ _ => rfl) (Nat.le_refl _), q1.out⟩, fun q hq => .inl hq, ⟨q2.os, q2.tape, q2.output, q2.size, q2.block, q2.here⟩⟩)
      · have HO : Hid (lineC x (i : Int) text = .bad (chkB text)) := by show _ = _; unfold lineC; rw [if_neg (by rw [hh]; simp), if_neg hc]
        have HC := hidLL hc
        clear hh hb0 hbx hc2 hv2 hc
        generalize lineC x (i : Int) text = r at *
        generalize chkB text = c at *
        go_enter Tryz.func71, Tryz.ntmps71
        go_upto_region 1 with fail
        rw [← HX.out]
        go_wp2_with fail
        refine HHas.out.mono ?_
        rintro e w1 ⟨rfl, ew⟩
        subst w1
        go_wp2_with fail
        refine HCk.out.mono ?_
        rintro e w1 ⟨he, hb1⟩
        unfold EO at he
        rw [if_neg HC.out] at he
        obtain ⟨k, hk1, hk2, rfl⟩ := he
        have H1 := hidLL hb1
        have HK := hidLL hk1
        clear hb1 hk1
        unfold errI
        go_wp2
        go_ret
        rw [HO.out, HK.out]
        exact ⟨by omega, EO.err k hk2, (HB0.out.trans (H1.out.mono HB0.out.size)).mono hB⟩
end Go.Proofs.YtpbolcjcmkmalaaGreatDoor
namespace Go.Proofs.YtpbolcjcmkmalaaGreatDoor
open Go.RowKit Go.Extern.Stop Go.Stop Go.Extern

/-- What is left to be done: one cell of the item is written. -/
structure StO (W : World) (B b o c : Nat) (S : Nat → Prop) (y : It) (u : Value) (w' : World) : Prop where
  cell : ∃ old, w'.cell? ⟨b, o + c, none⟩ = some old
  frz : w'.frozen? ⟨b, o + c, none⟩ = false
  fin : ∀ w'', w''.heap = (w'.setCell ⟨b, o + c, none⟩ u).heap → w''.os = w'.os → w''.tape = w'.tape → w''.output = w'.output → ∃ S' v', ItAt w'' B b o y S' v' ∧ (∀ q, S' q → S q ∨ W.heap.size ≤ q) ∧ Upd W w'' b o S
theorem str_ones (l : List ByteArray) : ∀ u ∈ l.map Value.string, u.oneCell' = true := by
  intro u hu
  obtain ⟨s, _, rfl⟩ := List.mem_map.1 hu
  rfl
/-- Lines that come of a step in memory. -/
theorem ItAt.stL {W w' : World} {B b o : Nat} {x : It} {S : Nat → Prop} {v : Nat → Value} (h : ItAt W B b o x S v) (hB : B ≤ W.heap.size) {u : Value} {ls : List ByteArray} (hg : W.grownBy w' (v 2).ownBlock) (hr : w'.ownsRow B 9 1 u ls.length (ls.map Value.string)) (hu : u.ownBlock = (v 2).ownBlock ∨ ∃ g, u.ownBlock = some g ∧ W.heap.size ≤ g ∧ g < w'.heap.size) : StO W B b o 2 S (x.setLines ls) u w' := by
  obtain ⟨K, T, hk⟩ := h.own.parts
  have hbne : ∀ g, (v 2).ownBlock = some g → g ≠ b := fun g hg e => h.out (e ▸ hk.sl g hg)
  have hbb : w'.heap[b]? = W.heap[b]? := hg.block b h.lt (fun e => hbne b e.symm rfl)
  refine ⟨⟨v 2, (World.cell?_of_block (a := ⟨b, o + 2, none⟩) hbb).trans (h.cell (by omega))⟩, (World.frozen?_of_block (a := ⟨b, o + 2, none⟩) hbb).trans (h.frozen _), fun w'' h1 h2 h3 h4 => ?_⟩
  have hub : ∀ g, u.ownBlock = some g → g ≠ b := fun g hg' e => by
    rcases hu with e1 | ⟨g', e1, h5, _⟩
    · exact hbne g (by rw [← e1]; exact hg') e
    · rw [e1] at hg'; injection hg' with hg'; have := h.lt; omega
  have hsz : w''.heap.size = w'.heap.size := by rw [h1]; simp
  have hblk : ∀ k, k ≠ b → w''.heap[k]? = w'.heap[k]? := fun k hk => by rw [h1]; exact Below.heap_setCell _ _ _ _ hk
  refine h.setL (u := u) (ls := ls) ⟨h2.trans hg.os, h3.trans hg.tape, h4.trans hg.output, by rw [hsz]; exact hg.size, fun k hk hx => ?_⟩ ?_ ?_ ?_ hB
  · rw [hblk k (fun e => hx (.inl e)), hg.block k hk (fun e => hx (.inr e.symm))]
  · obtain ⟨cur, ty, e, _⟩ := h.here
    rw [h1, setCell_row u (hbb.trans e), setCell_row u e]
  · exact row_step hr fun g hg' hl => hblk g (hub g hg')
  · rcases hu with e1 | ⟨g', e1, h5, h6⟩
    · exact .inl e1
    · exact .inr ⟨g', e1, h5, by rw [hsz]; exact h6⟩
/-- A line goes. -/
theorem dropS_c {W : World} {B b o i : Nat} {x : It} {S : Nat → Prop} {v : Nat → Value} (h : ItAt W B b o x S v) (hB : B ≤ W.heap.size) (hi : i < x.lines.length) (hn : x.lines.length ≤ 1000000) {la : Option Addr} {lc : Nat} (e : v 2 = .slice la x.lines.length lc) :
    Calls Tryz.prog 113 #[.slice la x.lines.length lc, .int .i64 i, .int .i64 ((i : Int) + 1)] W fun e w' => ∃ a n c, e = .returned (.slice a n c) ∧ StO W B b o 2 S (x.setLines (x.lines.eraseIdx i)) (.slice a n c) w' := by
  obtain ⟨K, T, hk⟩ := h.own.parts
  have hln := hk.ln
  rw [e] at hln
  refine (delS_a hln (str_ones _) hi hn).mono ?_
  rintro e' w' ⟨⟨u, rfl, hu, hr⟩, hg⟩
  obtain ⟨a, c, rfl⟩ := row_any hr
  have hl : (x.lines.eraseIdx i).length = x.lines.length - 1 := by rw [List.length_eraseIdx, if_pos hi]
  refine ⟨a, _, c, rfl, h.stL hB (by rw [e]; exact hg) ?_ (.inl (by rw [hu, e]))⟩
  rw [hl, List.eraseIdx_eq_take_drop_succ, List.map_append, List.map_take, List.map_drop]
  exact hr
/-- One line more. -/
theorem addS_c {W : World} {B b o i vb : Nat} {x : It} {S : Nat → Prop} {v : Nat → Value} (h : ItAt W B b o x S v) (hB : B ≤ W.heap.size) (hi : i ≤ x.lines.length) (hn : x.lines.length ≤ 1000000) {la : Option Addr} {lc : Nat} (e : v 2 = .slice la x.lines.length lc) {s : ByteArray} (hv : W.heap[vb]? = some (.cells #[.string s] 9 (0, 0))) (hvb : ¬ S vb) :
    Calls Tryz.prog 112 #[.slice la x.lines.length lc, .int .i64 i, .slice (some ⟨vb, 0, none⟩) 1 1] W fun e w' => ∃ a n c, e = .returned (.slice a n c) ∧ StO W B b o 2 S (x.setLines (x.lines.insertIdx i s)) (.slice a n c) w' := by
  obtain ⟨K, T, hk⟩ := h.own.parts
  have hln := hk.ln
  rw [e] at hln
  refine (insS_a (ns := [.string s]) hln (str_ones _) hi hn hv rfl (fun u hu => by simp at hu; subst hu; rfl) (fun e2 => hvb (hk.sl vb (by rw [e]; exact e2))) hB).mono ?_
  rintro e' w' ⟨⟨u, rfl, hu, hr⟩, hg⟩
  obtain ⟨a, c, rfl⟩ := row_any hr
  have hl : (x.lines.insertIdx i s).length = x.lines.length + 1 := by rw [List.length_insertIdx, if_pos hi]
  refine ⟨a, _, c, rfl, h.stL hB (by rw [e]; exact hg) ?_ (by rw [e]; exact hu)⟩
  have hm : (x.lines.insertIdx i s).map Value.string = (x.lines.map Value.string).take i ++ [.string s] ++ (x.lines.map Value.string).drop i := by
    rw [map_insert, ins_take _ _ _ (by simpa using hi)]
    simp
  rw [hl, hm]
  exact hr
noncomputable def dropC (x : It) (line : Int) : COut := if hasL x line = false then .bad 8 else .ok (x.setLines (x.lines.eraseIdx line.toNat))
set_option maxHeartbeats 2000000 in
set_option maxRecDepth 20000 in
theorem dropLine_a {w : World} {B b o : Nat} {x : It} {S : Nat → Prop} {v : Nat → Value} (h : ItAt w B b o x S v) (hB : B ≤ w.heap.size) (hn : x.lines.length ≤ 1000000) {p : Nat → Addr} {m : Int} (hE : Env w p m) (op : OpW) (iv : Nat → Value) :
    Calls Tryz.prog 73 #[.pointer (some ⟨b, o, none⟩), .agg (opV op iv)] w (ChO w B b o S p (dropC x op.line)) := by
  cases op with
  | mk kind path at' text new line item =>
    show Calls Tryz.prog 73 #[.pointer (some ⟨b, o, none⟩), .agg #[.int .i64 kind, .string path, .string at', .string text, .string new, .int .i64 line, iv 0, iv 1, iv 2, iv 3]] w (ChO w B b o S p (dropC x line))
    generalize iv 0 = i0, iv 1 = i1, iv 2 = i2, iv 3 = i3
    obtain ⟨WB, hWB⟩ : ∃ WB, WB = w.alloc (.cells #[.int .i64 kind, .string path, .string at', .string text, .string new, .int .i64 line, i0, i1, i2, i3] 46) := ⟨_, rfl⟩
    have hb0 : Below w.heap.size w WB := by rw [hWB]; exact (Below.refl _ _).alloc (Nat.le_refl _) _
    have hbx : WB.heap[w.heap.size]? = some (.cells #[.int .i64 kind, .string path, .string at', .string text, .string new, .int .i64 line, i0, i1, i2, i3] 46 (0, 0)) := by rw [hWB]; exact heap_alloc_new _ _
    obtain ⟨y0, y1, y2, y3, y4, y5, y6, y7, y8, y9⟩ := ten hbx
    obtain ⟨la, lc, hv2, hc2⟩ := (h.on hb0).lines
    have HHas := hidLL (hasLine_a (n := line) hc2)
    have HX := hidLL hWB
    have H0 := hidLL h
    have HB0 := hidLL hb0
    have HEn := hidLL (fun w' (hb : Below w.heap.size w w') => hE.on hb)
    have HV2 := hidLL hv2
    clear hWB h hE y0 y1 y2 y3 y4 y6 y7 y8 y9 hv2
    cases hh : hasL x line
    · rw [hh] at HHas
      have HO : Hid (dropC x line = .bad 8) := by show _ = _; unfold dropC; rw [if_pos hh]
      have e1 : WB.cell? ⟨7, 0, none⟩ = some (.iface 214 (.pointer (some (p 7)))) := (HEn.out _ HB0.out).L.cell 7 (by omega)
      clear hh hc2 hb0 hbx
      generalize dropC x line = r at *
      go_enter Tryz.func73, Tryz.ntmps73
      go_upto_region 1 with fail
      rw [← HX.out]
      go_wp2_with fail
      refine HHas.out.mono ?_
      rintro e w1 ⟨rfl, ew⟩
      subst w1
      go_wp2
      go_ret
      rw [HO.out]
      exact ⟨by omega, EO.err 7 (by omega), HB0.out.mono hB⟩
    · rw [hh] at HHas
      obtain ⟨i, rfl, hil⟩ := hasL_iff hh
      have HO : Hid (dropC x (i : Int) = .ok (x.setLines (x.lines.eraseIdx i))) := by show _ = _; unfold dropC; rw [if_neg (by rw [hh]; simp)]; rfl
      have HD : Hid (∀ W, Below WB.heap.size WB W → Calls Tryz.prog 113 #[.slice la x.lines.length lc, .int .i64 i, .int .i64 ((i : Int) + 1)] W fun e w' => ∃ a n c, e = .returned (.slice a n c) ∧ StO W B b o 2 S (x.setLines (x.lines.eraseIdx i)) (.slice a n c) w' ∧ Below w.heap.size w W) := fun W hW => by
        have hbw := HB0.out.trans (hW.mono HB0.out.size)
        refine (dropS_c (H0.out.on hbw) (Nat.le_trans hB hbw.size) hil hn HV2.out).mono ?_
        rintro e w' ⟨a, n, c, h1, h2⟩
        exact ⟨a, n, c, h1, h2, hbw⟩
      have hwr : IntKind.i64.wrap ((i : Int) + 1) = (i : Int) + 1 := by rw [IntKind.wrap_i64]; omega
      clear hh hb0 hbx
      generalize x.lines.length = ln at *
      generalize x.setLines (x.lines.eraseIdx i) = y at *
      generalize dropC x (i : Int) = r at *
      go_enter Tryz.func73, Tryz.ntmps73
      go_upto_region 1 with fail
      rw [← HX.out]
      go_wp2_with fail
      refine HHas.out.mono ?_
      rintro e w1 ⟨rfl, ew⟩
      subst w1
      go_wp2
      go_region_with (go_at_call 113; refine (HD.out _ ?_).mono ?_; (· first | exact Below.refl _ _ | exact (Below.refl _ _).drew | exact bdrewN (Below.refl _ _) _); rintro e w2 ⟨ra, rn, rc, rfl, hst, hbw⟩; obtain ⟨old, hcl⟩ := hst.cell; have hfz := hst.frz; have HST := hidLL (And.intro hst.fin hbw); clear hst hbw)
      all_goals go_wp2
      all_goals go_ret
      all_goals rw [HO.out]
      all_goals (obtain ⟨S', v', q1, q2, q3⟩ := HST.out.1 _ rfl rfl rfl rfl; exact ChO.after HST.out.2 H0.out.lt hB ⟨rfl, S', v', q1, q2, q3⟩)
noncomputable def addC (x : It) (line : Int) (text : ByteArray) : COut := if line ≠ x.lines.length ∧ hasL x line = false then .bad 8 else if x.lines.length = 40 then .bad 2 else if chkB text = 0 then .ok (x.setLines (x.lines.insertIdx line.toNat text)) else .bad (chkB text)
set_option maxHeartbeats 4000000 in
set_option maxRecDepth 20000 in
theorem addLine_a {w : World} {B b o : Nat} {x : It} {S : Nat → Prop} {v : Nat → Value} (h : ItAt w B b o x S v) (hB : B ≤ w.heap.size) (hn : x.lines.length ≤ 1000000) {p : Nat → Addr} {m : Int} (hE : Env w p m) (op : OpW) (hok : OpOk op) (iv : Nat → Value) :
    Calls Tryz.prog 72 #[.pointer (some ⟨b, o, none⟩), .agg (opV op iv)] w (ChO w B b o S p (addC x op.line op.text)) := by
  have ht := hok.text
  clear hok
  cases op with
  | mk kind path at' text new line item =>
    have ht : text.size ≤ 6000 := ht
    show Calls Tryz.prog 72 #[.pointer (some ⟨b, o, none⟩), .agg #[.int .i64 kind, .string path, .string at', .string text, .string new, .int .i64 line, iv 0, iv 1, iv 2, iv 3]] w (ChO w B b o S p (addC x line text))
    generalize iv 0 = i0, iv 1 = i1, iv 2 = i2, iv 3 = i3
    obtain ⟨WB, hWB⟩ : ∃ WB, WB = w.alloc (.cells #[.int .i64 kind, .string path, .string at', .string text, .string new, .int .i64 line, i0, i1, i2, i3] 46) := ⟨_, rfl⟩
    have hb0 : Below w.heap.size w WB := by rw [hWB]; exact (Below.refl _ _).alloc (Nat.le_refl _) _
    have hbx : WB.heap[w.heap.size]? = some (.cells #[.int .i64 kind, .string path, .string at', .string text, .string new, .int .i64 line, i0, i1, i2, i3] 46 (0, 0)) := by rw [hWB]; exact heap_alloc_new _ _
    obtain ⟨y0, y1, y2, y3, y4, y5, y6, y7, y8, y9⟩ := ten hbx
    obtain ⟨la, lc, hv2, hc2⟩ := (h.on hb0).lines
    have HHas : Hid (∀ W, Below WB.heap.size WB W → Calls Tryz.prog 111 #[.pointer (some ⟨b, o, none⟩), .int .i64 line] W fun e w' => e = .returned (.bool (hasL x line)) ∧ w' = W) := fun W hW => hasLine_a ((hW.cell (p := ⟨b, o + 2, none⟩) (cell_lt hc2)).trans hc2)
    have HX := hidLL hWB
    have H0 := hidLL h
    have HB0 := hidLL hb0
    have HEn := hidLL (fun w' (hb : Below w.heap.size w w') => hE.on hb)
    have HV2 := hidLL hv2
    clear hWB h hE y0 y1 y2 y4 y6 y7 y8 y9 hv2
    by_cases hne : line = (x.lines.length : Int)
    · subst hne
      have hil : x.lines.length ≤ x.lines.length := Nat.le_refl _
      have HG : Hid (¬ ((x.lines.length : Int) ≠ x.lines.length ∧ hasL x (x.lines.length : Int) = false)) := fun e => e.1 rfl
      by_cases h40 : x.lines.length = 40
      · have HO : Hid (addC x (x.lines.length : Int) text = .bad 2) := by show _ = _; unfold addC; rw [if_neg HG.out, if_pos h40]
        have e1 : WB.cell? ⟨0, 0, none⟩ = some (.iface 214 (.pointer (some (p 1)))) := (HEn.out _ HB0.out).L.cell 1 (by omega)
        have z40 : ((x.lines.length : Int) == 40) = true := by rw [beq_iff_eq]; omega
        clear hb0 hbx h40
        generalize addC x (x.lines.length : Int) text = r at *
        generalize x.lines.length = ln at *
        go_enter Tryz.func72, Tryz.ntmps72
        go_upto_region 1 with fail
        rw [← HX.out]
        go_quiet (fail)
        go_wp2
        go_ret
        rw [HO.out]
        exact ⟨by omega, EO.err 1 (by omega), (bdrewN HB0.out _).mono hB⟩
      · have z40 : ¬ (x.lines.length : Int) = 40 := by omega
        have z41 : ((x.lines.length : Int) == 40) = false := by rw [beq_eq_false_iff_ne]; omega
        have HCk := hidLL (fun W (hW : Below WB.heap.size WB W) => checkLine_a text (by omega) W (hE := HEn.out _ (HB0.out.trans (hW.mono HB0.out.size))))
        by_cases hc : chkB text = 0
        · rw [hc] at HCk
          have HO : Hid (addC x (x.lines.length : Int) text = .ok (x.setLines (x.lines.insertIdx x.lines.length text))) := by show _ = _; unfold addC; rw [if_neg HG.out, if_neg h40, if_pos hc]; rfl
          have HD : Hid (∀ W vb, Below WB.heap.size WB W → W.heap[vb]? = some (.cells #[.string text] 9 (0, 0)) → WB.heap.size ≤ vb → Calls Tryz.prog 112 #[.slice la x.lines.length lc, .int .i64 x.lines.length, .slice (some ⟨vb, 0, none⟩) 1 1] W fun e w' => ∃ a n c, e = .returned (.slice a n c) ∧ StO W B b o 2 S (x.setLines (x.lines.insertIdx x.lines.length text)) (.slice a n c) w' ∧ Below w.heap.size w W) := fun W vb hW hv hvb => by
            have hbw := HB0.out.trans (hW.mono HB0.out.size)
            refine (addS_c (H0.out.on hbw) (Nat.le_trans hB hbw.size) hil hn HV2.out hv (fun e => by have := (H0.out.own.in vb e).2; have := HB0.out.size; omega)).mono ?_
            rintro e w' ⟨a, n, c, h1, h2⟩
            exact ⟨a, n, c, h1, h2, hbw⟩
          clear hc hb0 hbx
          generalize addC x (x.lines.length : Int) text = r at *
          generalize x.setLines (x.lines.insertIdx x.lines.length text) = y at *
          generalize x.lines.length = ln at *
          go_enter Tryz.func72, Tryz.ntmps72
          go_upto_region 1 with fail
          rw [← HX.out]
          go_quiet (fail)
          go_wp2_with fail
          refine (HCk.out _ (by first | exact Below.refl _ _ | exact bdrewN (Below.refl _ _) _)).mono ?_
          rintro e w1 ⟨he, hb1⟩
          unfold EO at he
          rw [if_pos rfl] at he
          subst he
          have hb2 : Below WB.heap.size WB w1 := (bdrewN (Below.refl _ _) _).trans hb1
          have z2 := (hb2.cell (p := ⟨b, o + 2, none⟩) (cell_lt hc2)).trans hc2
          have z3 := (hb2.cell (p := ⟨w.heap.size, 3, none⟩) (cell_lt y3)).trans y3
          have z5 := (hb2.cell (p := ⟨w.heap.size, 5, none⟩) (cell_lt y5)).trans y5
          have hba : Below WB.heap.size WB (w1.alloc (.cells #[.string text] 9)) := hb2.alloc hb2.size _
          have hnb := heap_alloc_new w1 (.cells #[.string text] 9)
          have hbs := hb2.size
          have x2 := (hba.cell (p := ⟨b, o + 2, none⟩) (cell_lt hc2)).trans hc2
          have x3 := (hba.cell (p := ⟨w.heap.size, 3, none⟩) (cell_lt y3)).trans y3
          have x5 := (hba.cell (p := ⟨w.heap.size, 5, none⟩) (cell_lt y5)).trans y5
          have HN := hidLL (And.intro hba (And.intro hnb hbs))
          have H2 := hidLL hb2
          clear hb1 hb2 y3 y5 hc2 hba hnb hbs
          go_wp2
          go_region_with (go_at_call 112; refine (HD.out _ w1.heap.size ?_ ?_ ?_).mono ?_; (· first | exact HN.out.1 | exact HN.out.1.drew | exact bdrewN HN.out.1 _); (· exact HN.out.2.1); (· exact HN.out.2.2); rintro e w2 ⟨ra, rn, rc, rfl, hst, hbw⟩; obtain ⟨old, hcl⟩ := hst.cell; have hfz := hst.frz; have HST := hidLL (And.intro hst.fin hbw); clear hst hbw)
          all_goals go_wp2
          all_goals go_ret
          all_goals rw [HO.out]
          all_goals (obtain ⟨S', v', q1, q2, q3⟩ := HST.out.1 _ rfl rfl rfl rfl; exact ChO.after HST.out.2 H0.out.lt hB ⟨rfl, S', v', q1, q2, q3⟩)
        · have HO : Hid (addC x (x.lines.length : Int) text = .bad (chkB text)) := by show _ = _; unfold addC; rw [if_neg HG.out, if_neg h40, if_neg hc]
          have HC := hidLL hc
          clear hb0 hbx hc
          generalize addC x (x.lines.length : Int) text = r at *
          generalize chkB text = c at *
          generalize x.lines.length = ln at *
          go_enter Tryz.func72, Tryz.ntmps72
          go_upto_region 1 with fail
          rw [← HX.out]
          go_quiet (fail)
          go_wp2_with fail
          refine (HCk.out _ (by first | exact Below.refl _ _ | exact bdrewN (Below.refl _ _) _)).mono ?_
          rintro e w1 ⟨he, hb1⟩
          unfold EO at he
          rw [if_neg HC.out] at he
          obtain ⟨k, hk1, hk2, rfl⟩ := he
          have hb2 : Below WB.heap.size WB w1 := (bdrewN (Below.refl _ _) _).trans hb1
          have H1 := hidLL hb2
          have HK := hidLL hk1
          clear hb1 hb2 hk1
          unfold errI
          go_wp2
          go_ret
          rw [HO.out, HK.out]
          exact ⟨by omega, EO.err k hk2, (HB0.out.trans (H1.out.mono HB0.out.size)).mono hB⟩
    · have n1 : (line == (x.lines.length : Int)) = false := by rw [beq_eq_false_iff_ne]; exact hne
      have n2 : (line != (x.lines.length : Int)) = true := by rw [bne_iff_ne]; exact hne
      cases hh : hasL x line
      · rw [hh] at HHas
        have HO : Hid (addC x line text = .bad 8) := by show _ = _; unfold addC; rw [if_pos ⟨hne, hh⟩]
        have e1 : WB.cell? ⟨7, 0, none⟩ = some (.iface 214 (.pointer (some (p 7)))) := (HEn.out _ HB0.out).L.cell 7 (by omega)
        clear hh hb0 hbx
        generalize addC x line text = r at *
        generalize x.lines.length = ln at *
        go_enter Tryz.func72, Tryz.ntmps72
        go_upto_region 1 with fail
        rw [← HX.out]
        go_quiet ((go_at_call 111; exact Calls.quiet_of_same (HHas.out _ (by first | exact Below.refl _ _ | exact bdrewN (Below.refl _ _) _ | exact (Below.refl _ _).drew))))
        go_wp2
        go_ret
        rw [HO.out]
        exact ⟨by omega, EO.err 7 (by omega), (bdrewN HB0.out _).mono hB⟩
      · rw [hh] at HHas
        obtain ⟨i, rfl, hil0⟩ := hasL_iff hh
        have hil : i ≤ x.lines.length := by omega
        have HG : Hid (¬ ((i : Int) ≠ x.lines.length ∧ hasL x (i : Int) = false)) := fun e => by rw [hh] at e; cases e.2
        clear hh
        by_cases h40 : x.lines.length = 40
        · have HO : Hid (addC x (i : Int) text = .bad 2) := by show _ = _; unfold addC; rw [if_neg HG.out, if_pos h40]
          have e1 : WB.cell? ⟨0, 0, none⟩ = some (.iface 214 (.pointer (some (p 1)))) := (HEn.out _ HB0.out).L.cell 1 (by omega)
          have z40 : ((x.lines.length : Int) == 40) = true := by rw [beq_iff_eq]; omega
          clear hb0 hbx h40
          generalize addC x (i : Int) text = r at *
          generalize x.lines.length = ln at *
          go_enter Tryz.func72, Tryz.ntmps72
          go_upto_region 1 with fail
          rw [← HX.out]
          go_quiet ((go_at_call 111; exact Calls.quiet_of_same (HHas.out _ (by first | exact Below.refl _ _ | exact bdrewN (Below.refl _ _) _ | exact (Below.refl _ _).drew))))
          go_wp2
          go_ret
          rw [HO.out]
          exact ⟨by omega, EO.err 1 (by omega), (bdrewN HB0.out _).mono hB⟩
        · have z40 : ¬ (x.lines.length : Int) = 40 := by omega
          have z41 : ((x.lines.length : Int) == 40) = false := by rw [beq_eq_false_iff_ne]; omega
          have HCk := hidLL (fun W (hW : Below WB.heap.size WB W) => checkLine_a text (by omega) W (hE := HEn.out _ (HB0.out.trans (hW.mono HB0.out.size))))
          by_cases hc : chkB text = 0
          · rw [hc] at HCk
            have HO : Hid (addC x (i : Int) text = .ok (x.setLines (x.lines.insertIdx i text))) := by show _ = _; unfold addC; rw [if_neg HG.out, if_neg h40, if_pos hc]; rfl
            have HD : Hid (∀ W vb, Below WB.heap.size WB W → W.heap[vb]? = some (.cells #[.string text] 9 (0, 0)) → WB.heap.size ≤ vb → Calls Tryz.prog 112 #[.slice la x.lines.length lc, .int .i64 i, .slice (some ⟨vb, 0, none⟩) 1 1] W fun e w' => ∃ a n c, e = .returned (.slice a n c) ∧ StO W B b o 2 S (x.setLines (x.lines.insertIdx i text)) (.slice a n c) w' ∧ Below w.heap.size w W) := fun W vb hW hv hvb => by
              have hbw := HB0.out.trans (hW.mono HB0.out.size)
              refine (addS_c (H0.out.on hbw) (Nat.le_trans hB hbw.size) hil hn HV2.out hv (fun e => by have := (H0.out.own.in vb e).2; have := HB0.out.size; omega)).mono ?_
              rintro e w' ⟨a, n, c, h1, h2⟩
              exact ⟨a, n, c, h1, h2, hbw⟩
            clear hc hb0 hbx
            generalize addC x (i : Int) text = r at *
            generalize x.setLines (x.lines.insertIdx i text) = y at *
            generalize x.lines.length = ln at *
            go_enter Tryz.func72, Tryz.ntmps72
            go_upto_region 1 with fail
            rw [← HX.out]
            go_quiet ((go_at_call 111; exact Calls.quiet_of_same (HHas.out _ (by first | exact Below.refl _ _ | exact bdrewN (Below.refl _ _) _ | exact (Below.refl _ _).drew))))
            go_wp2_with fail
            refine (HCk.out _ (by first | exact Below.refl _ _ | exact bdrewN (Below.refl _ _) _)).mono ?_
            rintro e w1 ⟨he, hb1⟩
            unfold EO at he
            rw [if_pos rfl] at he
            subst he
            have hb2 : Below WB.heap.size WB w1 := (bdrewN (Below.refl _ _) _).trans hb1
            have z2 := (hb2.cell (p := ⟨b, o + 2, none⟩) (cell_lt hc2)).trans hc2
            have z3 := (hb2.cell (p := ⟨w.heap.size, 3, none⟩) (cell_lt y3)).trans y3
            have z5 := (hb2.cell (p := ⟨w.heap.size, 5, none⟩) (cell_lt y5)).trans y5
            have hba : Below WB.heap.size WB (w1.alloc (.cells #[.string text] 9)) := hb2.alloc hb2.size _
            have hnb := heap_alloc_new w1 (.cells #[.string text] 9)
            have hbs := hb2.size
            have x2 := (hba.cell (p := ⟨b, o + 2, none⟩) (cell_lt hc2)).trans hc2
            have x3 := (hba.cell (p := ⟨w.heap.size, 3, none⟩) (cell_lt y3)).trans y3
            have x5 := (hba.cell (p := ⟨w.heap.size, 5, none⟩) (cell_lt y5)).trans y5
            have HN := hidLL (And.intro hba (And.intro hnb hbs))
            have H2 := hidLL hb2
            clear hb1 hb2 y3 y5 hc2 hba hnb hbs
            go_wp2
            go_region_with (go_at_call 112; refine (HD.out _ w1.heap.size ?_ ?_ ?_).mono ?_; (· first | exact HN.out.1 | exact HN.out.1.drew | exact bdrewN HN.out.1 _); (· exact HN.out.2.1); (· exact HN.out.2.2); rintro e w2 ⟨ra, rn, rc, rfl, hst, hbw⟩; obtain ⟨old, hcl⟩ := hst.cell; have hfz := hst.frz; have HST := hidLL (And.intro hst.fin hbw); clear hst hbw)
            all_goals go_wp2
            all_goals go_ret
            all_goals rw [HO.out]
            all_goals (obtain ⟨S', v', q1, q2, q3⟩ := HST.out.1 _ rfl rfl rfl rfl; exact ChO.after HST.out.2 H0.out.lt hB ⟨rfl, S', v', q1, q2, q3⟩)
          · have HO : Hid (addC x (i : Int) text = .bad (chkB text)) := by show _ = _; unfold addC; rw [if_neg HG.out, if_neg h40, if_neg hc]
            have HC := hidLL hc
            clear hb0 hbx hc
            generalize addC x (i : Int) text = r at *
            generalize chkB text = c at *
            generalize x.lines.length = ln at *
            go_enter Tryz.func72, Tryz.ntmps72
            go_upto_region 1 with fail
            rw [← HX.out]
            go_quiet ((go_at_call 111; exact Calls.quiet_of_same (HHas.out _ (by first | exact Below.refl _ _ | exact bdrewN (Below.refl _ _) _ | exact (Below.refl _ _).drew))))
            go_wp2_with fail
            refine (HCk.out _ (by first | exact Below.refl _ _ | exact bdrewN (Below.refl _ _) _)).mono ?_
            rintro e w1 ⟨he, hb1⟩
            unfold EO at he
            rw [if_neg HC.out] at he
            obtain ⟨k, hk1, hk2, rfl⟩ := he
            have hb2 : Below WB.heap.size WB w1 := (bdrewN (Below.refl _ _) _).trans hb1
            have H1 := hidLL hb2
            have HK := hidLL hk1
            clear hb1 hb2 hk1
            unfold errI
            go_wp2
            go_ret
            rw [HO.out, HK.out]
            exact ⟨by omega, EO.err k hk2, (HB0.out.trans (H1.out.mono HB0.out.size)).mono hB⟩
end Go.Proofs.YtpbolcjcmkmalaaGreatDoor
namespace Go.Proofs.YtpbolcjcmkmalaaGreatDoor
open Go.RowKit Go.Extern.Stop Go.Stop Go.Extern

/-- Other kids. -/
theorem ItAt.setK {W w' : World} {B b o : Nat} {x : It} {S : Nat → Prop} {v : Nat → Value} (h : ItAt W B b o x S v) {u : Value} {ks : List It} {K' : Nat → Nat → Value} {T' : Nat → Nat → Prop} {S' : Nat → Prop} (hf : Fr (fun k => k = b ∨ (v 3).ownBlock = some k) W w') (hb : w'.heap[b]? = (W.setCell ⟨b, o + 3, none⟩ u).heap[b]?)
    (hr : w'.ownsRow B 25 4 u ks.length (flat4 K' ks.length)) (ho : ∀ i k, ks[i]? = some k → Own w' B (K' i) k (T' i)) (hS : ∀ q, S' q → B ≤ q ∧ q < w'.heap.size) (hsl : ∀ g, (v 2).ownBlock = some g → S' g) (hsk : ∀ g, u.ownBlock = some g → S' g)
    (hT : ∀ i q, i < ks.length → T' i q → S' q ∧ (v 2).ownBlock ≠ some q ∧ u.ownBlock ≠ some q) (hd : ∀ i j q, i < ks.length → j < ks.length → T' i q → T' j q → i = j) (hout : ¬ S' b) :
    ItAt w' B b o (x.setKids ks) S' (updV v 3 u) ∧ Upd W w' b o S := by
  obtain ⟨h1, h2⟩ := here_set (u := u) h.here (c := 3) (by omega) hb
  obtain ⟨K, T, hk⟩ := h.own.parts
  have hn : ∀ q, S q → q ≠ b := fun q hq e => h.out (e ▸ hq)
  refine ⟨⟨h1, ?_, hout⟩, ⟨hf.os, hf.tape, hf.output, hf.size, fun k hk' hs hne => hf.block k hk' (fun e => e.elim hne (fun e => hs (hk.sk k e))), h2⟩⟩
  refine .mk _ _ K' T' S' ((updV_ne v _ (by omega)).trans hk.h0) ((updV_ne v _ (by omega)).trans hk.h1) ?_ ?_ (fun g hg => hsl g (by rw [updV_ne v _ (by omega)] at hg; exact hg)) (fun g hg => hsk g (by rw [updV_same] at hg; exact hg)) ho (fun i q hi hq => ?_) hd hS
  · rw [updV_ne v _ (by omega)]
    exact row_step hk.ln fun g hg hl => hf.block g hl (fun e => e.elim (hn g (hk.sl g hg)) (fun e => rows_ne hk hg e))
  · rw [updV_same]; exact hr
  · rw [updV_ne v _ (by omega), updV_same]
    exact hT i q hi hq
def skV {α : Type} (K : Nat → α) (d : Nat) : Nat → α := fun i => if i < d then K i else K (i + 1)
def inV {α : Type} (K : Nat → α) (d : Nat) (y : α) : Nat → α := fun i => if i < d then K i else if i = d then y else K (i - 1)
theorem flat4_at (K : Nat → Nat → Value) {n q : Nat} (h : q < n * 4) : (flat4 K n)[q]? = some (K (q / 4) (q % 4)) := by
  have := flat4_get K n (q / 4) (q % 4) (by omega) (by omega)
  rwa [show q / 4 * 4 + q % 4 = q by omega] at this
theorem flat4_erase (K : Nat → Nat → Value) {n d : Nat} (h : d < n) : (flat4 K n).take (d * 4) ++ (flat4 K n).drop ((d + 1) * 4) = flat4 (skV K d) (n - 1) := by
  apply List.ext_getElem?
  intro q
  have hl : ((flat4 K n).take (d * 4)).length = d * 4 := by rw [List.length_take, flat4_len]; omega
  rcases Nat.lt_or_ge q ((n - 1) * 4) with hq | hq
  · rw [flat4_at _ hq]
    unfold skV
    rcases Nat.lt_or_ge q (d * 4) with h1 | h1
    · rw [List.getElem?_append_left (by omega), List.getElem?_take, if_pos h1, flat4_at K (by omega), if_pos (by omega)]
    · rw [List.getElem?_append_right (by omega), hl, List.getElem?_drop, flat4_at K (by omega), if_neg (by omega)]
      congr 2 <;> omega
  · rw [List.getElem?_eq_none (by rw [List.length_append, hl, List.length_drop, flat4_len]; omega), List.getElem?_eq_none (by rw [flat4_len]; omega)]
theorem flat4_insert (K : Nat → Nat → Value) {n d : Nat} (y : Nat → Value) (h : d ≤ n) : (flat4 K n).take (d * 4) ++ [y 0, y 1, y 2, y 3] ++ (flat4 K n).drop (d * 4) = flat4 (inV K d y) (n + 1) := by
  apply List.ext_getElem?
  intro q
  have hl : ((flat4 K n).take (d * 4)).length = d * 4 := by rw [List.length_take, flat4_len]; omega
  have hl2 : ((flat4 K n).take (d * 4) ++ [y 0, y 1, y 2, y 3]).length = d * 4 + 4 := by rw [List.length_append, hl]; rfl
  rcases Nat.lt_or_ge q ((n + 1) * 4) with hq | hq
  · rw [flat4_at _ hq]
    unfold inV
    rcases Nat.lt_or_ge q (d * 4) with h1 | h1
    · rw [List.getElem?_append_left (by omega), List.getElem?_append_left (by omega), List.getElem?_take, if_pos h1, flat4_at K (by omega), if_pos (by omega)]
    · rcases Nat.lt_or_ge q (d * 4 + 4) with h2 | h2
      · rw [List.getElem?_append_left (by omega), List.getElem?_append_right (by omega), hl, if_neg (by omega), if_pos (by omega)]
        obtain ⟨c, hc⟩ : ∃ c, c = q - d * 4 := ⟨_, rfl⟩
        have e : q % 4 = c := by omega
        rw [e, ← hc]
        have : c < 4 := by omega
        match c, this with
        | 0, _ => rfl
        | 1, _ => rfl
        | 2, _ => rfl
        | 3, _ => rfl
      · rw [List.getElem?_append_right (by omega), hl2, List.getElem?_drop, flat4_at K (by omega), if_neg (by omega), if_neg (by omega)]
        congr 2 <;> omega
  · rw [List.getElem?_eq_none (by rw [List.length_append, hl2, List.length_drop, flat4_len]; omega), List.getElem?_eq_none (by rw [flat4_len]; omega)]
theorem kid_ones {w : World} {B : Nat} {v : Nat → Value} {t : It} {S : Nat → Prop} {K : Nat → Nat → Value} {T : Nat → Nat → Prop} (h : OwnK w B v t S K T) : ∀ u ∈ flat4 K t.kids.length, u.oneCell' = true := by
  intro u hu
  obtain ⟨q, hq, e⟩ := List.getElem_of_mem hu
  have hq' : q < t.kids.length * 4 := by rwa [flat4_len] at hq
  have h1 := flat4_at K hq'
  rw [List.getElem?_eq_getElem hq, e] at h1
  injection h1 with h1
  obtain ⟨f0, f1, ⟨la, lc, f2⟩, ka, kc, f3⟩ := (h.hr (q / 4) _ (List.getElem?_eq_getElem (by omega))).lies.forms
  rw [h1]
  have hc : q % 4 < 4 := Nat.mod_lt _ (by omega)
  generalize q % 4 = c at *
  match c, hc with
  | 0, _ => rw [f0]; rfl
  | 1, _ => rw [f1]; rfl
  | 2, _ => rw [f2]; rfl
  | 3, _ => rw [f3]; rfl
/-- What is left to be done: one cell of the item is written. -/
structure StC (b o c : Nat) (u : Value) (w' : World) (Q : World → Prop) : Prop where
  cell : ∃ old, w'.cell? ⟨b, o + c, none⟩ = some old
  frz : w'.frozen? ⟨b, o + c, none⟩ = false
  fin : ∀ w'', w''.heap = (w'.setCell ⟨b, o + c, none⟩ u).heap → w''.os = w'.os → w''.tape = w'.tape → w''.output = w'.output → Q w''
/-- The kids' cell is to be written behind a step that wrote the kids' row alone. -/
theorem ItAt.stC {W w' : World} {B b o : Nat} {x : It} {S : Nat → Prop} {v : Nat → Value} (h : ItAt W B b o x S v) {K : Nat → Nat → Value} {T : Nat → Nat → Prop} (hk : OwnK W B v x S K T) {u : Value} (hg : W.grownBy w' (v 3).ownBlock) (hu : u.ownBlock = (v 3).ownBlock ∨ ∃ g, u.ownBlock = some g ∧ W.heap.size ≤ g ∧ g < w'.heap.size) {Q : World → Prop}
    (hQ : ∀ w'', Fr (fun k => k = b ∨ (v 3).ownBlock = some k) W w'' → w''.heap[b]? = (W.setCell ⟨b, o + 3, none⟩ u).heap[b]? → w''.heap.size = w'.heap.size → (∀ k, k ≠ b → w''.heap[k]? = w'.heap[k]?) → (∀ g, u.ownBlock = some g → g ≠ b) → Q w'') : StC b o 3 u w' Q := by
  have hbne : ∀ g, (v 3).ownBlock = some g → g ≠ b := fun g hg e => h.out (e ▸ hk.sk g hg)
  have hbb : w'.heap[b]? = W.heap[b]? := hg.block b h.lt (fun e => hbne b e.symm rfl)
  refine ⟨⟨v 3, (World.cell?_of_block (a := ⟨b, o + 3, none⟩) hbb).trans (h.cell (by omega))⟩, (World.frozen?_of_block (a := ⟨b, o + 3, none⟩) hbb).trans (h.frozen _), fun w'' h1 h2 h3 h4 => ?_⟩
  have hsz : w''.heap.size = w'.heap.size := by rw [h1]; simp
  have hblk : ∀ k, k ≠ b → w''.heap[k]? = w'.heap[k]? := fun k hk => by rw [h1]; exact Below.heap_setCell _ _ _ _ hk
  refine hQ w'' ⟨h2.trans hg.os, h3.trans hg.tape, h4.trans hg.output, by rw [hsz]; exact hg.size, fun k hk hx => ?_⟩ ?_ hsz hblk (fun g hg' e => ?_)
  · rw [hblk k (fun e => hx (.inl e)), hg.block k hk (fun e => hx (.inr e.symm))]
  · obtain ⟨cur, ty, e, _⟩ := h.here
    rw [h1, setCell_row u (hbb.trans e), setCell_row u e]
  · rcases hu with e1 | ⟨g', e1, h5, _⟩
    · exact hbne g (by rw [← e1]; exact hg') e
    · rw [e1] at hg'; injection hg' with hg'; have := h.lt; omega
/-- A kid goes. -/
theorem dropI_c {W : World} {B b o d : Nat} {x k : It} {S : Nat → Prop} {v : Nat → Value} {K : Nat → Nat → Value} {T : Nat → Nat → Prop} (h : ItAt W B b o x S v) (hk : OwnK W B v x S K T) (hd : x.kids[d]? = some k) (hn : x.kids.length ≤ 1000000) {ka : Option Addr} {kc : Nat} (e : v 3 = .slice ka x.kids.length kc) :
    Calls Tryz.prog 79 #[.slice ka x.kids.length kc, .int .i64 d, .int .i64 ((d : Int) + 1)] W fun e w' => ∃ a n c, e = .returned (.slice a n c) ∧ StC b o 3 (.slice a n c) w' (fun w'' => ∃ v', ItAt w'' B b o (x.setKids (x.kids.eraseIdx d)) (fun q => S q ∧ ¬ T d q) v' ∧ Own w'' B (K d) k (T d) ∧ Upd W w'' b o S) := by
  have hdl := (List.getElem?_eq_some_iff.1 hd).1
  have hkd := hk.kd
  rw [e] at hkd
  refine (delI_a hkd (kid_ones hk) hdl hn).mono ?_
  rintro e' w' ⟨⟨u, rfl, hu, hr⟩, hg⟩
  rw [flat4_erase K hdl] at hr
  obtain ⟨a, c, rfl⟩ := row_any hr
  refine ⟨a, _, c, rfl, h.stC hk (by rw [e]; exact hg) (.inl (by rw [hu, e])) fun w'' hf hb hsz hblk hub => ?_⟩
  have hl : (x.kids.eraseIdx d).length = x.kids.length - 1 := by rw [List.length_eraseIdx, if_pos hdl]
  have hn' : ∀ q, S q → q ≠ b := fun q hq e => h.out (e ▸ hq)
  have hu3 : ∀ g, (Value.slice a (x.kids.length - 1) c).ownBlock = some g → (v 3).ownBlock = some g := fun g hg => by rw [e, ← hu]; exact hg
  have hst := fun j k' (ej : x.kids[j]? = some k') => own_step2 (t := x) hk hf (fun i q hi hq e2 => e2.elim (hn' q (hk.hT i q hi hq).1) (hk.hT i q hi hq).2.2) j k' ej
  have hsk : ∀ i, i < x.kids.length - 1 → ∃ j, j < x.kids.length ∧ j ≠ d ∧ skV K d i = K j ∧ skV T d i = T j ∧ (j = if i < d then i else i + 1) := fun i hi => by
    unfold skV
    by_cases hid : i < d
    · exact ⟨i, by omega, by omega, by rw [if_pos hid], by rw [if_pos hid], by rw [if_pos hid]⟩
    · exact ⟨i + 1, by omega, by omega, by rw [if_neg hid], by rw [if_neg hid], by rw [if_neg hid]⟩
  have hset : ItAt w'' B b o (x.setKids (x.kids.eraseIdx d)) (fun q => S q ∧ ¬ T d q) (updV v 3 (.slice a (x.kids.length - 1) c)) ∧ Upd W w'' b o S := by
    refine h.setK (u := .slice a (x.kids.length - 1) c) (ks := x.kids.eraseIdx d) (K' := skV K d) (T' := skV T d) (S' := fun q => S q ∧ ¬ T d q) hf hb (by rw [hl]; exact row_step hr fun g hg' hl' => hblk g (hub g hg')) (fun i k' ei => ?_) (fun q hq => ⟨(hk.hS q hq.1).1, Nat.lt_of_lt_of_le (hk.hS q hq.1).2 hf.size⟩) (fun g hg' => ⟨hk.sl g hg', fun e2 => (hk.hT d g hdl e2).2.1 hg'⟩) (fun g hg' => ⟨hk.sk g (hu3 g hg'), fun e2 => (hk.hT d g hdl e2).2.2 (hu3 g hg')⟩) (fun i q hi hq => ?_) (fun i i' q hi hi' hq hq' => ?_) (fun hh => h.out hh.1)
    · have hi : i < x.kids.length - 1 := by rw [← hl]; exact (List.getElem?_eq_some_iff.1 ei).1
      obtain ⟨j, h1, h2, h3, h4, h5⟩ := hsk i hi
      rw [h3, h4]
      rw [List.getElem?_eraseIdx] at ei
      refine hst j k' ?_
      rw [h5]
      split at ei
      · rename_i hid; rw [if_pos hid]; exact ei
      · rename_i hid; rw [if_neg hid]; exact ei
    · rw [hl] at hi
      obtain ⟨j, h1, h2, h3, h4, h5⟩ := hsk i hi
      rw [h4] at hq
      have h9 := hk.hT j q h1 hq
      exact ⟨⟨h9.1, fun e2 => h2 (hk.hd j d q h1 hdl hq e2)⟩, h9.2.1, fun e2 => h9.2.2 (hu3 q e2)⟩
    · rw [hl] at hi hi'
      obtain ⟨j, h1, h2, h3, h4, h5⟩ := hsk i hi
      obtain ⟨j', h1', h2', h3', h4', h5'⟩ := hsk i' hi'
      rw [h4] at hq
      rw [h4'] at hq'
      have e9 := hk.hd j j' q h1 h1' hq hq'
      rw [h5, h5'] at e9
      split at e9 <;> split at e9 <;> omega
  exact ⟨_, hset.1, hst d k hd, hset.2⟩
theorem ins_get {l : List It} {d i : Nat} {k k' : It} (hd : d ≤ l.length) (h : (l.insertIdx d k)[i]? = some k') : (i < d ∧ l[i]? = some k') ∨ (i = d ∧ k' = k) ∨ (d < i ∧ l[i - 1]? = some k') := by
  rw [ins_take l d k hd] at h
  have hlt : (l.take d).length = d := by rw [List.length_take]; omega
  rcases Nat.lt_trichotomy i d with h1 | h1 | h1
  · rw [List.getElem?_append_left (by omega), List.getElem?_take, if_pos h1] at h
    exact .inl ⟨h1, h⟩
  · subst h1
    rw [List.getElem?_append_right (by omega), hlt, Nat.sub_self, List.getElem?_cons_zero] at h
    injection h with h
    exact .inr (.inl ⟨rfl, h.symm⟩)
  · rw [List.getElem?_append_right (by omega), hlt, show i - d = (i - d - 1) + 1 by omega, List.getElem?_cons_succ, List.getElem?_drop] at h
    exact .inr (.inr ⟨h1, by rw [← h]; congr 1; omega⟩)
/-- One kid more, with its blocks. -/
theorem putI_c {W : World} {B b o d vb : Nat} {x k : It} {S Ty : Nat → Prop} {v y : Nat → Value} (h : ItAt W B b o x S v) (hB : B ≤ W.heap.size) (hd : d ≤ x.kids.length) (hn : x.kids.length ≤ 1000000) {ka : Option Addr} {kc : Nat} (e : v 3 = .slice ka x.kids.length kc) (hy : Own W B y k Ty) (hTy : ∀ q, Ty q → ¬ S q ∧ q ≠ b) (hv : W.heap[vb]? = some (.cells #[y 0, y 1, y 2, y 3] 25 (0, 0))) (hvb : ¬ S vb) :
    Calls Tryz.prog 77 #[.slice ka x.kids.length kc, .int .i64 d, .slice (some ⟨vb, 0, none⟩) 1 1] W fun e w' => ∃ a n c, e = .returned (.slice a n c) ∧ StC b o 3 (.slice a n c) w' (fun w'' => ∃ S' v', ItAt w'' B b o (x.setKids (x.kids.insertIdx d k)) S' v' ∧ (∀ q, S' q → S q ∨ Ty q ∨ W.heap.size ≤ q) ∧ Upd W w'' b o S) := by
  obtain ⟨K, T, hk⟩ := h.own.parts
  have hkd := hk.kd
  rw [e] at hkd
  obtain ⟨f0, f1, ⟨fa, fc, f2⟩, fa', fc', f3⟩ := hy.lies.forms
  refine (insI_a (ns := [y 0, y 1, y 2, y 3]) hkd (kid_ones hk) hd hn hv rfl (fun u hu => by simp only [List.mem_cons, List.not_mem_nil, or_false] at hu; rcases hu with rfl | rfl | rfl | rfl; rw [f0]; rfl; rw [f1]; rfl; rw [f2]; rfl; rw [f3]; rfl) (fun e2 => hvb (hk.sk vb (by rw [e]; exact e2))) hB).mono ?_
  rintro e' w' ⟨⟨u, rfl, hu, hr⟩, hg⟩
  rw [flat4_insert K y hd] at hr
  obtain ⟨a, c, rfl⟩ := row_any hr
  refine ⟨a, _, c, rfl, h.stC hk (by rw [e]; exact hg) (by rw [e]; exact hu) fun w'' hf hb hsz hblk hub => ?_⟩
  have hl : (x.kids.insertIdx d k).length = x.kids.length + 1 := by rw [List.length_insertIdx, if_pos hd]
  have hn' : ∀ q, S q → q ≠ b := fun q hq e => h.out (e ▸ hq)
  have hlt := h.lt
  have hu3 : ∀ g, (Value.slice a (x.kids.length + 1) c).ownBlock = some g → (v 3).ownBlock = some g ∨ (W.heap.size ≤ g ∧ g < w''.heap.size) := fun g hg' => by
    rcases hu with e1 | ⟨g', e1, h5, h6⟩
    · exact .inl (by rw [e, ← e1]; exact hg')
    · rw [e1] at hg'; injection hg' with hg'; subst hg'; exact .inr ⟨h5, by rw [hsz]; exact h6⟩
  have hst := fun j k' (ej : x.kids[j]? = some k') => own_step2 (t := x) hk hf (fun i q hi hq e2 => e2.elim (hn' q (hk.hT i q hi hq).1) (hk.hT i q hi hq).2.2) j k' ej
  have hyt : Own w'' B y k Ty := hy.step (fun g hg' => hf.block g (hy.in g hg').2 (fun e2 => e2.elim (hTy g hg').2 (fun e2 => (hTy g hg').1 (hk.sk g e2)))) hf.size
  have hin : ∀ i, i < x.kids.length + 1 → (i = d ∧ inV K d y i = y ∧ inV T d Ty i = Ty) ∨ ∃ j, j < x.kids.length ∧ i ≠ d ∧ inV K d y i = K j ∧ inV T d Ty i = T j ∧ (j = if i < d then i else i - 1) := fun i hi => by
    unfold inV
    rcases Nat.lt_trichotomy i d with h1 | h1 | h1
    · exact .inr ⟨i, by omega, by omega, by rw [if_pos h1], by rw [if_pos h1], by rw [if_pos h1]⟩
    · exact .inl ⟨h1, by rw [if_neg (by omega), if_pos h1], by rw [if_neg (by omega), if_pos h1]⟩
    · exact .inr ⟨i - 1, by omega, by omega, by rw [if_neg (by omega), if_neg (by omega)], by rw [if_neg (by omega), if_neg (by omega)], by rw [if_neg (by omega)]⟩
  have hTS : ∀ j q, j < x.kids.length → T j q → q < W.heap.size := fun j q hj hq => (hk.hS q (hk.hT j q hj hq).1).2
  have hset : ItAt w'' B b o (x.setKids (x.kids.insertIdx d k)) (fun q => S q ∨ Ty q ∨ (W.heap.size ≤ q ∧ q < w''.heap.size)) (updV v 3 (.slice a (x.kids.length + 1) c)) ∧ Upd W w'' b o S := by
    refine h.setK (u := .slice a (x.kids.length + 1) c) (ks := x.kids.insertIdx d k) (K' := inV K d y) (T' := inV T d Ty) (S' := fun q => S q ∨ Ty q ∨ (W.heap.size ≤ q ∧ q < w''.heap.size)) hf hb (by rw [hl]; exact row_step hr fun g hg' hl' => hblk g (hub g hg')) (fun i k' ei => ?_) (fun q hq => ?_) (fun g hg' => .inl (hk.sl g hg')) (fun g hg' => ?_) (fun i q hi hq => ?_) (fun i i' q hi hi' hq hq' => ?_) (fun hh => ?_)
    · have hi : i < x.kids.length + 1 := by rw [← hl]; exact (List.getElem?_eq_some_iff.1 ei).1
      rcases hin i hi with ⟨h1, h2, h3⟩ | ⟨j, h1, h2, h3, h4, h5⟩
      · rw [h2, h3]
        rcases ins_get hd ei with ⟨h6, _⟩ | ⟨_, h7⟩ | ⟨h6, _⟩
        · omega
        · rw [h7]; exact hyt
        · omega
      · rw [h3, h4]
        refine hst j k' ?_
        rcases ins_get hd ei with ⟨h6, h7⟩ | ⟨h6, _⟩ | ⟨h6, h7⟩
        · rw [h5, if_pos h6]; exact h7
        · exact absurd h6 h2
        · rw [h5, if_neg (by omega)]; exact h7
    · rcases hq with hq | hq | hq
      · exact ⟨(hk.hS q hq).1, Nat.lt_of_lt_of_le (hk.hS q hq).2 hf.size⟩
      · exact ⟨(hy.in q hq).1, Nat.lt_of_lt_of_le (hy.in q hq).2 hf.size⟩
      · exact ⟨by omega, hq.2⟩
    · rcases hu3 g hg' with h1 | h1
      · exact .inl (hk.sk g h1)
      · exact .inr (.inr h1)
    · rw [hl] at hi
      rcases hin i hi with ⟨h1, h2, h3⟩ | ⟨j, h1, h2, h3, h4, h5⟩
      · rw [h3] at hq
        refine ⟨.inr (.inl hq), fun e2 => (hTy q hq).1 (hk.sl q e2), fun e2 => ?_⟩
        rcases hu3 q e2 with h6 | h6
        · exact (hTy q hq).1 (hk.sk q h6)
        · have := (hy.in q hq).2; omega
      · rw [h4] at hq
        have h9 := hk.hT j q h1 hq
        refine ⟨.inl h9.1, h9.2.1, fun e2 => ?_⟩
        rcases hu3 q e2 with h6 | h6
        · exact h9.2.2 h6
        · have := hTS j q h1 hq; omega
    · rw [hl] at hi hi'
      rcases hin i hi with ⟨h1, h2, h3⟩ | ⟨j, h1, h2, h3, h4, h5⟩ <;> rcases hin i' hi' with ⟨h1', h2', h3'⟩ | ⟨j', h1', h2', h3', h4', h5'⟩
      · omega
      · rw [h3] at hq
        rw [h4'] at hq'
        exact absurd (hk.hT j' q h1' hq').1 (hTy q hq).1
      · rw [h4] at hq
        rw [h3'] at hq'
        exact absurd (hk.hT j q h1 hq).1 (hTy q hq').1
      · rw [h4] at hq
        rw [h4'] at hq'
        have e9 := hk.hd j j' q h1 h1' hq hq'
        rw [h5, h5'] at e9
        split at e9 <;> split at e9 <;> omega
    · rcases hh with hh | hh | hh
      · exact h.out hh
      · exact (hTy b hh).2 rfl
      · omega
  exact ⟨_, _, hset.1, fun q hq => hq.imp (fun h => h) (fun h => h.imp (fun h => h) (fun h => h.1)), hset.2⟩
end Go.Proofs.YtpbolcjcmkmalaaGreatDoor

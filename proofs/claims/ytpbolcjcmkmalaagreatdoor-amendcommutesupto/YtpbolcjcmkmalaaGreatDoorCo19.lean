/-
  Package amend: checkLine, hasLine; an op in memory; changeLine, dropLine, addLine.
-/
import Derived.Test.YtpbolcjcmkmalaaGreatDoorCo17
import Derived.Test.YtpbolcjcmkmalaaGreatDoorCo18
import Derived.Test.YtpbolcjcmkmalaaGreatDoorCo12
namespace Go.Proofs.YtpbolcjcmkmalaaGreatDoor
open Go.RowKit Go.Extern.Stop Go.Stop Go.Extern

/-- An error by its number, or none. -/
def EO (p : Nat → Addr) (c : Nat) (e : Ending) : Prop := if c = 0 then e = .returned .nilIface else ∃ k, c = k + 1 ∧ k < 11 ∧ e = .returned (errI (p k))
theorem EO.nil {p : Nat → Addr} : EO p 0 (.returned .nilIface) := by unfold EO; rw [if_pos rfl]
theorem EO.err {p : Nat → Addr} (k : Nat) (hk : k < 11) : EO p (k + 1) (.returned (errI (p k))) := by unfold EO; rw [if_neg (by omega)]; exact ⟨k, rfl, hk, rfl⟩
set_option maxHeartbeats 1000000 in
theorem checkLine_a (s : ByteArray) (hs : s.size ≤ 1000000) {p : Nat → Addr} {m : Int} (w : World) (hE : Env w p m) :
    Calls Tryz.prog 75 #[.string s] w fun e w' => EO p (chkB s) e ∧ Below w.heap.size w w' := by
  by_cases h3 : 300 < s.size
  · have hz : (300 : Int) < (s.size : Int) := by omega
    have e1 : w.cell? ⟨0, 0, none⟩ = some (.iface 214 (.pointer (some (p 1)))) := hE.L.cell 1 (by omega)
    have HC : Hid (chkB s = 2) := by show _ = _; unfold chkB; rw [if_pos h3]
    clear h3 hE
    go_enter Tryz.func75, Tryz.ntmps75
    go_wp2
    go_ret
    rw [HC.out]
    exact ⟨EO.err 1 (by omega), Below.refl _ _⟩
  · have hz : ¬ (300 : Int) < (s.size : Int) := by omega
    have HI := hidLL (isLine_any s (by omega) w)
    have HEn := hidLL (fun w' (hb : Below w.heap.size w w') => hE.on hb)
    cases hl : lineB s
    · rw [hl] at HI
      have HC : Hid (chkB s = 1) := by show _ = _; unfold chkB; rw [if_neg h3, if_neg (by rw [hl]; simp)]
      clear hl h3 hE
      go_enter Tryz.func75, Tryz.ntmps75
      go_wp2_with fail
      refine HI.out.mono ?_
      rintro e w1 ⟨rfl, hb1⟩
      have e1 : w1.cell? ⟨1, 0, none⟩ = some (.iface 214 (.pointer (some (p 0)))) := (HEn.out w1 hb1).L.cell 0 (by omega)
      have H1 := hidLL hb1
      clear hb1
      go_wp2
      go_ret
      rw [HC.out]
      exact ⟨EO.err 0 (by omega), H1.out⟩
    · rw [hl] at HI
      have HC : Hid (chkB s = 0) := by show _ = _; unfold chkB; rw [if_neg h3, if_pos hl]
      clear hl h3 hE
      go_enter Tryz.func75, Tryz.ntmps75
      go_wp2_with fail
      refine HI.out.mono ?_
      rintro e w1 ⟨rfl, hb1⟩
      have H1 := hidLL hb1
      clear hb1
      go_wp2
      go_ret
      rw [HC.out]
      exact ⟨EO.nil, H1.out⟩
/-- The lines of an item, as they are read. -/
theorem ItAt.lines {w : World} {B b o : Nat} {x : It} {S : Nat → Prop} {v : Nat → Value} (h : ItAt w B b o x S v) : ∃ la lc, v 2 = .slice la x.lines.length lc ∧ w.cell? ⟨b, o + 2, none⟩ = some (.slice la x.lines.length lc) := by
  obtain ⟨_, _, ⟨la, lc, e⟩, _⟩ := h.own.lies.forms
  exact ⟨la, lc, e, by rw [← e]; exact h.cell (by omega)⟩
set_option maxHeartbeats 1000000 in
theorem hasLine_a {w : World} {b o la lc n : _} {x : It} (hc : w.cell? ⟨b, o + 2, none⟩ = some (.slice la x.lines.length lc)) :
    Calls Tryz.prog 111 #[.pointer (some ⟨b, o, none⟩), .int .i64 n] w fun e w' => e = .returned (.bool (hasL x n)) ∧ w' = w := by
  have HL : Hid (hasL x n = (decide (0 ≤ n) && decide (n < (x.lines.length : Int)))) := rfl
  generalize hasL x n = hh at *
  generalize x.lines.length = ln at *
  by_cases h0 : (0 : Int) ≤ n
  · have d0 : decide ((0 : Int) ≤ n) = true := decide_eq_true h0
    by_cases h1 : n < (ln : Int)
    · have d1 : decide (n < (ln : Int)) = true := decide_eq_true h1
      rw [d0, d1] at HL
      go_enter Tryz.func111, Tryz.ntmps111
      go_wp2
      go_ret
      rw [HL.out]
      exact ⟨rfl, rfl⟩
    · have d1 : decide (n < (ln : Int)) = false := decide_eq_false h1
      rw [d0, d1] at HL
      go_enter Tryz.func111, Tryz.ntmps111
      go_wp2
      go_ret
      rw [HL.out]
      exact ⟨rfl, rfl⟩
  · have d0 : decide ((0 : Int) ≤ n) = false := decide_eq_false h0
    rw [d0] at HL
    go_enter Tryz.func111, Tryz.ntmps111
    go_wp2
    go_ret
    rw [HL.out]
    exact ⟨rfl, rfl⟩
/-- A change as a value. -/
def opV (o : OpW) (iv : Nat → Value) : Array Value := #[.int .i64 o.kind, .string o.path, .string o.at', .string o.text, .string o.new, .int .i64 o.line, iv 0, iv 1, iv 2, iv 3]
/-- A change that is not too great, and numbers that are numbers. -/
structure OpOk (o : OpW) : Prop where
  path : o.path.size ≤ 6000
  at' : o.at'.size ≤ 6000
  text : o.text.size ≤ 6000
  new : o.new.size ≤ 6000
  line : -9223372036854775808 ≤ o.line ∧ o.line ≤ 9223372036854775807
/-- What a change of an item answers and leaves. -/
def ChO (w : World) (B b o : Nat) (S : Nat → Prop) (p : Nat → Addr) (r : COut) (e : Ending) (w' : World) : Prop := match r with
  | .bad c => c ≠ 0 ∧ EO p c e ∧ Below B w w'
  | .ok y => e = .returned .nilIface ∧ ∃ S' v', ItAt w' B b o y S' v' ∧ (∀ q, S' q → S q ∨ w.heap.size ≤ q) ∧ Upd w w' b o S
theorem Upd.after {w w1 w2 : World} {b o : Nat} {S : Nat → Prop} (hb : Below w.heap.size w w1) (hbl : b < w.heap.size) (hu : Upd w1 w2 b o S) : Upd w w2 b o S :=
  ⟨hu.os.trans hb.os, hu.tape.trans hb.tape, hu.output.trans hb.output, Nat.le_trans hb.size hu.size, fun k hk hn hne => (hu.block k (Nat.lt_of_lt_of_le hk hb.size) hn hne).trans (hb.block k hk), fun cur ty e => hu.here cur ty ((hb.block b hbl).trans e)⟩
/-- What is done behind new blocks alone. -/
theorem ChO.after {w w1 : World} {B b o : Nat} {S : Nat → Prop} {p : Nat → Addr} {r : COut} {e : Ending} {w' : World} (hb : Below w.heap.size w w1) (hbl : b < w.heap.size) (hB : B ≤ w.heap.size) (h : ChO w1 B b o S p r e w') : ChO w B b o S p r e w' := by
  cases r with
  | bad c => exact ⟨h.1, h.2.1, (hb.mono hB).trans h.2.2⟩
  | ok y =>
    obtain ⟨h1, S', v', h2, h3, h4⟩ := h
    exact ⟨h1, S', v', h2, fun q hq => (h3 q hq).imp (fun h => h) (fun h => Nat.le_trans hb.size h), h4.after hb hbl⟩
theorem ChO.drew {w : World} {B b o : Nat} {S : Nat → Prop} {p : Nat → Addr} {r : COut} {e : Ending} {w' : World} (h : ChO w B b o S p r e w') : ChO w B b o S p r e w'.drew := by
  cases r with
  | bad c => exact ⟨h.1, h.2.1, h.2.2.drew⟩
  | ok y =>
    obtain ⟨h1, S', v', h2, h3, h4⟩ := h
    exact ⟨h1, S', v', ⟨h2.here, h2.own.step (fun _ _ => rfl) (Nat.le_refl _), h2.out⟩, h3, ⟨h4.os, h4.tape, h4.output, h4.size, h4.block, h4.here⟩⟩
/-- The cells of a change that is boxed. -/
theorem ten {W : World} {g : Nat} {a b c d e f q r s t : Value} {T : TypeId} (h : W.heap[g]? = some (.cells #[a, b, c, d, e, f, q, r, s, t] T (0, 0))) : W.cell? ⟨g, 0, none⟩ = some a ∧ W.cell? ⟨g, 1, none⟩ = some b ∧ W.cell? ⟨g, 2, none⟩ = some c ∧ W.cell? ⟨g, 3, none⟩ = some d ∧ W.cell? ⟨g, 4, none⟩ = some e ∧ W.cell? ⟨g, 5, none⟩ = some f ∧ W.cell? ⟨g, 6, none⟩ = some q ∧ W.cell? ⟨g, 7, none⟩ = some r ∧ W.cell? ⟨g, 8, none⟩ = some s ∧ W.cell? ⟨g, 9, none⟩ = some t := by
  simp [World.cell?, h]
noncomputable def lineC (x : It) (line : Int) (text : ByteArray) : COut := if hasL x line = false then .bad 8 else if chkB text = 0 then .ok (x.setLines (x.lines.set line.toNat text)) else .bad (chkB text)
theorem hasL_iff {x : It} {n : Int} (h : hasL x n = true) : ∃ i : Nat, n = i ∧ i < x.lines.length := by
  unfold hasL at h
  simp only [Bool.and_eq_true, decide_eq_true_eq] at h
  exact ⟨n.toNat, by omega, by omega⟩
set_option maxHeartbeats 2000000 in
set_option maxRecDepth 20000 in
theorem changeLine_a {w : World} {B b o : Nat} {x : It} {S : Nat → Prop} {v : Nat → Value} (h : ItAt w B b o x S v) (hB : B ≤ w.heap.size) {p : Nat → Addr} {m : Int} (hE : Env w p m) (op : OpW) (hok : OpOk op) (iv : Nat → Value) :
    Calls Tryz.prog 71 #[.pointer (some ⟨b, o, none⟩), .agg (opV op iv)] w (ChO w B b o S p (lineC x op.line op.text)) := by
  have ht := hok.text
  clear hok
  cases op with
  | mk kind path at' text new line item =>
    have ht : text.size ≤ 6000 := ht
    show Calls Tryz.prog 71 #[.pointer (some ⟨b, o, none⟩), .agg #[.int .i64 kind, .string path, .string at', .string text, .string new, .int .i64 line, iv 0, iv 1, iv 2, iv 3]] w (ChO w B b o S p (lineC x line text))
    generalize iv 0 = i0, iv 1 = i1, iv 2 = i2, iv 3 = i3
    obtain ⟨WB, hWB⟩ : ∃ WB, WB = w.alloc (.cells #[.int .i64 kind, .string path, .string at', .string text, .string new, .int .i64 line, i0, i1, i2, i3] 46) := ⟨_, rfl⟩
    have hb0 : Below w.heap.size w WB := by rw [hWB]; exact (Below.refl _ _).alloc (Nat.le_refl _) _
    have hbx : WB.heap[w.heap.size]? = some (.cells #[.int .i64 kind, .string path, .string at', .string text, .string new, .int .i64 line, i0, i1, i2, i3] 46 (0, 0)) := by rw [hWB]; exact heap_alloc_new _ _
    obtain ⟨y0, y1, y2, y3, y4, y5, y6, y7, y8, y9⟩ := ten hbx
    obtain ⟨la, lc, hv2, hc2⟩ := (h.on hb0).lines
    have HHas := hidLL (hasLine_a (n := line) hc2)
    have HX := hidLL hWB
    have H0 := hidLL h
    have HB0 := hidLL hb0
    have HEn := hidLL (fun w' (hb : Below w.heap.size w w') => hE.on hb)
    clear hWB h hE y0 y1 y2 y4 y6 y7 y8 y9
    cases hh : hasL x line
    · rw [hh] at HHas
      have HO : Hid (lineC x line text = .bad 8) := by show _ = _; unfold lineC; rw [if_pos hh]
      have e1 : WB.cell? ⟨7, 0, none⟩ = some (.iface 214 (.pointer (some (p 7)))) := (HEn.out _ HB0.out).L.cell 7 (by omega)
      clear hh hc2 hv2 hb0 hbx
      generalize lineC x line text = r at *
      go_enter Tryz.func71, Tryz.ntmps71
      go_upto_region 1 with fail
      rw [← HX.out]
      go_wp2_with fail
      refine HHas.out.mono ?_
      rintro e w1 ⟨rfl, ew⟩
      subst w1
      go_wp2
      go_ret
      rw [HO.out]
      exact ⟨by omega, EO.err 7 (by omega), HB0.out.mono hB⟩
    · rw [hh] at HHas
      obtain ⟨i, rfl, hil⟩ := hasL_iff hh
      have HCk := hidLL (checkLine_a text (by omega) WB (hE := HEn.out _ HB0.out))
      by_cases hc : chkB text = 0
      · rw [hc] at HCk
        have HO : Hid (lineC x (i : Int) text = .ok (x.setLines (x.lines.set i text))) := by show _ = _; unfold lineC; rw [if_neg (by rw [hh]; simp), if_pos hc]; rfl
        clear hh hc hb0 hbx
        generalize lineC x (i : Int) text = r at *
        go_enter Tryz.func71, Tryz.ntmps71
        go_upto_region 1 with fail
        rw [← HX.out]
        go_wp2_with fail
        refine HHas.out.mono ?_
        rintro e w1 ⟨rfl, ew⟩
        subst w1
        go_wp2_with fail
        refine HCk.out.mono ?_
        rintro e w1 ⟨he, hb1⟩
        unfold EO at he
        rw [if_pos rfl] at he
        subst he
        have hbw := HB0.out.trans (hb1.mono HB0.out.size)
        obtain ⟨g, cap, hg2, hgc, hgf, hgo⟩ := (H0.out.on hbw).setLine hil text
        have z2 := (H0.out.on hbw).cell (c := 2) (by omega)
        rw [hg2] at z2
        have z3 := (hb1.cell (p := ⟨w.heap.size, 3, none⟩) (cell_lt y3)).trans y3
        have z5 := (hb1.cell (p := ⟨w.heap.size, 5, none⟩) (cell_lt y5)).trans y5
        have hiz : (i : Int) < (x.lines.length : Int) := by omega
        have HBw := hidLL hbw
        have HGo := hidLL hgo
        clear hb1 y3 y5 hgo hg2 hbw hc2 hv2
        generalize x.lines[i] = old at *
        generalize x.lines.length = ln at *
        go_wp2
        go_region
        all_goals go_wp2
        all_goals go_ret
        all_goals rw [HO.out]
        all_goals (refine ChO.after HBw.out H0.out.lt hB ⟨rfl, ?_⟩)
        all_goals (obtain ⟨q1, q2⟩ := HGo.out _ (Fr.setCell (X := (· = g)) (Fr.refl _ w1) (p := ⟨g, i, none⟩) (.inl rfl) (.string text)) rfl; exact ⟨S, v, ⟨q1.here, q1.own.step (fun _ _ => rfl) (Nat.le_refl _), q1.out⟩, fun q hq => .inl hq, ⟨q2.os, q2.tape, q2.output, q2.size, q2.block, q2.here⟩⟩)
      · have HO : Hid (lineC x (i : Int) text = .bad (chkB text)) := by show _ = _; unfold lineC; rw [if_neg (by rw [hh]; simp), if_neg hc]
        have HC := hidLL hc
        clear hh hb0 hbx hc2 hv2 hc
        generalize lineC x (i : Int) text = r at *
        generalize chkB text = c at *
        go_enter Tryz.func71, Tryz.ntmps71
        go_upto_region 1 with fail
        rw [← HX.out]
        go_wp2_with fail
        refine HHas.out.mono ?_
        rintro e w1 ⟨rfl, ew⟩
        subst w1
        go_wp2_with fail
        refine HCk.out.mono ?_
        rintro e w1 ⟨he, hb1⟩
        unfold EO at he
        rw [if_neg HC.out] at he
        obtain ⟨k, hk1, hk2, rfl⟩ := he
        have H1 := hidLL hb1
        have HK := hidLL hk1
        clear hb1 hk1
        unfold errI
        go_wp2
        go_ret
        rw [HO.out, HK.out]
        exact ⟨by omega, EO.err k hk2, (HB0.out.trans (H1.out.mono HB0.out.size)).mono hB⟩
end Go.Proofs.YtpbolcjcmkmalaaGreatDoor

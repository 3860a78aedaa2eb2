/-
  Package script: isTooGreat, allLines, hasRightLabel.
-/
import Derived.Test.YtgfaeeacndpniaaDoorFlatAll
import Derived.Test.YtgfaeeacndpniaaDoorSmallP
namespace Go.Proofs.YtgfaeeacndpniaaDoor
open Go.RowKit Go.Extern.Stop Go.Stop Go.Extern

theorem allLines_any (ls : List ByteArray) (la : Option Addr) (lc : Nat) (w : World) (hn : ls.length ≤ 100000) (hL : ∀ s ∈ ls, s.size ≤ 1000000) (hk : ∀ i s, ls[i]? = some s → ∃ b o, la = some ⟨b, o, none⟩ ∧ w.cell? ⟨b, o + i, none⟩ = some (.string s)) :
    Calls Tryd.prog 62 #[.slice la ls.length lc] w fun e w' => e = .returned (.bool (!(ls.any badB))) ∧ Below w.heap.size w w' := by
  have HC := hidLL (bad_has ls la lc w hn hL hk)
  clear hk hL
  generalize ls.length = n at *
  generalize ls.any badB = an at *
  go_enter Tryd.func62, Tryd.ntmps62
  go_wp2_with fail
  refine HC.out.mono ?_
  rintro e w1 ⟨rfl, hb1⟩
  have HB := hidLL hb1
  clear hb1
  go_wp2
  go_ret
  exact ⟨rfl, HB.out⟩
set_option maxHeartbeats 1000000 in
theorem isTooGreat_any (t : It) (hF : FewIt t) (v : Nat → Value) (w : World) (P : Nat → Prop) (hL : Lies w P v t) :
    Calls Tryd.prog 59 #[.agg #[v 0, v 1, v 2, v 3]] w fun e w' => e = .returned (.bool (greatB t)) ∧ Below w.heap.size w w' := by
  obtain ⟨k1, k2, k3, k4, k5, _⟩ := hF.get
  obtain ⟨f0, f1, ⟨la, lc, f2⟩, ⟨ka, kc, f3⟩⟩ := hL.forms
  have hb : Below w.heap.size w (w.alloc (.cells #[v 0, v 1, v 2, v 3] 31)) := (Below.refl _ _).alloc (Nat.le_refl _) _
  rw [f0, f1, f2, f3] at hb
  have hl2 : ∀ i s, t.lines[i]? = some s → ∃ b o, la = some ⟨b, o, none⟩ ∧ (w.alloc (.cells #[.string t.label, .string t.head, .slice la t.lines.length lc, .slice ka t.kids.length kc] 31)).cell? ⟨b, o + i, none⟩ = some (.string s) := fun i s h => by
    obtain ⟨b, o, e1, _, e3⟩ := (hL.linesIn f2).2 i s h
    exact ⟨b, o, e1, (hb.cell (p := ⟨b, o + i, none⟩) (cell_lt e3)).trans e3⟩
  have HH := hidLL (long_has t.lines la lc _ (by omega) k3 hl2)
  have HL1 := hidLL (fun w => longQ_any t.head k4 w)
  rw [f0, f1, f2, f3]
  clear hL hl2 f0 f1 f2 f3 k3 k4 k5 hF
  have HG : Hid (greatB t = (decide (40 < t.lines.length) || (longB t.head || t.lines.any longB))) := rfl
  have h40 : decide (40 < t.lines.length) = decide ((40 : Int) < (t.lines.length : Int)) := by rw [decide_eq_decide]; omega
  rw [h40] at HG
  generalize t.label = lb at *
  generalize t.kids.length = kn at *
  generalize greatB t = g at *
  generalize t.lines.any longB = la2 at *
  generalize longB t.head = lh at *
  generalize t.head = hd at *
  generalize t.lines.length = ln at *
  clear h40
  have HBx := hidLL hb
  clear hb
  by_cases hc : (40 : Int) < (ln : Int)
  · have hcd : decide ((40 : Int) < (ln : Int)) = true := decide_eq_true hc
    rw [hcd] at HG
    go_enter Tryd.func59, Tryd.ntmps59
    go_wp2
    go_ret
    exact ⟨ret_b (by rw [HG.out]; rfl), HBx.out⟩
  · have hcd : decide ((40 : Int) < (ln : Int)) = false := decide_eq_false hc
    rw [hcd] at HG
    cases lh
    · go_enter Tryd.func59, Tryd.ntmps59
      go_wp2_with fail
      go_at_call 81
      refine (HL1.out _).mono ?_
      rintro e w1 ⟨rfl, ew⟩
      subst w1
      go_wp2_with fail
      go_at_call 82
      refine HH.out.mono ?_
      rintro e w1 ⟨rfl, hb1⟩
      have HB1 := hidLL (HBx.out.trans (hb1.mono (by simp)))
      clear hb1
      go_wp2
      go_ret
      exact ⟨ret_b (by rw [HG.out]; rfl), HB1.out⟩
    · go_enter Tryd.func59, Tryd.ntmps59
      go_wp2_with fail
      go_at_call 81
      refine (HL1.out _).mono ?_
      rintro e w1 ⟨rfl, ew⟩
      subst w1
      go_wp2
      go_ret
      exact ⟨ret_b (by rw [HG.out]; rfl), HBx.out⟩
/-- Items in a row: what stands ahead. -/
structure AheadAt (w : World) (P : Nat → Prop) (aa : Option Addr) (ah : List It) (V : Nat → Nat → Value) : Prop where
  hk : ∀ i, i < ah.length → ∃ b o, aa = some ⟨b, o, none⟩ ∧ P b ∧ ∀ c, c < 4 → w.cell? ⟨b, o + i * 4 + c, none⟩ = some (V i c)
  hr : ∀ i k, ah[i]? = some k → Lies w P (V i) k
theorem AheadAt.on {w w' : World} {P : Nat → Prop} {aa : Option Addr} {ah : List It} {V : Nat → Nat → Value} (h : AheadAt w P aa ah V) (hb : ∀ b, b < w.heap.size → P b → w'.heap[b]? = w.heap[b]?) : AheadAt w' P aa ah V where
  hk := fun i hi => by
    obtain ⟨b, o, h1, h2, h3⟩ := h.hk i hi
    exact ⟨b, o, h1, h2, fun c hc => (World.cell?_of_block (a := ⟨b, o + i * 4 + c, none⟩) (hb b (cell_lt (h3 0 (by omega))) h2)).trans (h3 c hc)⟩
  hr := fun i k e => (h.hr i k e).step fun b hb' hp => ⟨hb b hb' hp, hp⟩
theorem ahead_has {w : World} {P : Nat → Prop} {aa : Option Addr} {ah : List It} {V : Nat → Nat → Value} (h : AheadAt w P aa ah V) (s : ByteArray) : (∃ i, i < ah.length ∧ ((strOf (V i 0)).toList == s.toList) = true) ↔ (ah.any fun k => k.label.toList == s.toList) = true := by
  have := kids_has (t := It.mk ⟨#[]⟩ ⟨#[]⟩ [] ah) h.hr s
  exact this.symm
set_option maxHeartbeats 1000000 in
theorem hasRight_any (t : It) (hF : FewIt t) (d : Nat) (hd : d ≤ 1000) (v : Nat → Value) (w : World) (P Q : Nat → Prop) (hL : Lies w P v t) (aa : Option Addr) (ac : Nat) (ah : List It) (V : Nat → Nat → Value) (hA : AheadAt w Q aa ah V) (hn : ah.length ≤ 1000) (hT : Lib.Utf8Tabs 3 4 w) :
    Calls Tryd.prog 60 #[.agg #[v 0, v 1, v 2, v 3], .int .i64 d, .slice aa ah.length ac] w fun e w' => e = .returned (.bool (labelOk d ah t)) ∧ Below w.heap.size w w' := by
  obtain ⟨k1, k2, k3, k4, k5, _⟩ := hF.get
  obtain ⟨f0, f1, ⟨la, lc, f2⟩, ⟨ka, kc, f3⟩⟩ := hL.forms
  have HO : Hid (labelOk d ah t = if d = 0 then decide (t.label.size = 0) else isLab t.label && !(ah.any fun k => k.label.toList == t.label.toList)) := rfl
  have hE := empty_is t.label
  have HLb := hidLL (fun w hT => isLabel_any t.label k5 w hT)
  have HA := hidLL hA
  have HT := hidLL hT
  have HLd : Hid (∀ W, Below w.heap.size w W → Calls Tryd.prog 76 #[.slice aa ah.length ac, .string t.label] W fun e w' => (∃ k : Int, e = .returned (.int .i64 k) ∧ -1 ≤ k ∧ (0 ≤ k ↔ (ah.any fun k => k.label.toList == t.label.toList) = true)) ∧ Below W.heap.size W w') := fun W hW => by
    have hA2 := hA.on (w' := W) (fun b hb _ => hW.block b hb)
    refine (labelled_any ah.length aa ac _ _ _ _ _ _ _ _ t.label W (by omega) (kids_cells hA2.hk hA2.hr)).mono ?_
    rintro e w' ⟨⟨k, h1, h2, h3⟩, h4⟩
    exact ⟨⟨k, h1, h2, h3.trans (ahead_has hA2 t.label)⟩, h4⟩
  rw [f0, f1, f2, f3]
  clear hL f0 f1 f2 f3 hF k1 k2 k3 k4 hA hT
  generalize labelOk d ah t = O at *
  generalize (ah.any fun k => k.label.toList == t.label.toList) = an at *
  generalize isLab t.label = il at *
  generalize t.label = lb at *
  generalize t.head = hd2 at *
  generalize t.lines.length = ln at *
  generalize t.kids.length = kn at *
  generalize ah.length = an2 at *
  have HBx : Hid (Below w.heap.size w (w.alloc (.cells #[.string lb, .string hd2, .slice la ln lc, .slice ka kn kc] 31))) := (Below.refl _ _).alloc (Nat.le_refl _) _
  by_cases h0 : d = 0
  · subst h0
    rw [if_pos rfl] at HO
    generalize decide (lb.size = 0) = z0 at *
    go_enter Tryd.func60, Tryd.ntmps60
    go_wp2
    go_ret
    exact ⟨ret_b HO.out.symm, HBx.out⟩
  · rw [if_neg h0] at HO
    have h0z : ((d : Int) == 0) = false := by rw [beq_eq_false_iff_ne]; omega
    have HLb2 := hidLL (HLb.out (w.alloc (.cells #[.string lb, .string hd2, .slice la ln lc, .slice ka kn kc] 31)) (tabs_below HT.out HBx.out))
    clear hE
    cases il
    · go_enter Tryd.func60, Tryd.ntmps60
      go_wp2_with fail
      go_at_call 75
      refine HLb2.out.mono ?_
      rintro e w1 ⟨rfl, hb1⟩
      have HB1 := hidLL (HBx.out.trans (hb1.mono (by simp)))
      clear hb1
      go_wp2
      go_ret
      exact ⟨ret_b (by rw [HO.out]; rfl), HB1.out⟩
    · go_enter Tryd.func60, Tryd.ntmps60
      go_wp2_with fail
      go_at_call 75
      refine HLb2.out.mono ?_
      rintro e w1 ⟨rfl, hb1⟩
      have y0 : w1.cell? ⟨w.heap.size, 0, none⟩ = some (.string lb) := (hb1.cell (p := ⟨w.heap.size, 0, none⟩) (by simp)).trans (by simp)
      have HB1 := hidLL (HBx.out.trans (hb1.mono (by simp)))
      clear hb1
      go_wp2_with fail
      go_at_call 76
      refine (HLd.out _ HB1.out).mono ?_
      rintro e w2 ⟨⟨k, rfl, hk1, hk2⟩, hb2⟩
      have HB2 := hidLL (HB1.out.trans (hb2.mono HB1.out.size))
      have HR : Hid (decide (k < 0) = !an) := by
        show _ = _
        cases an
        · exact decide_eq_true (by rcases Int.lt_or_le k 0 with h | h; exact h; exact absurd (hk2.1 h) (by decide))
        · exact decide_eq_false (by have := hk2.2 rfl; omega)
      clear hb2 hk2
      go_wp2
      go_ret
      exact ⟨ret_b (by rw [HO.out, ← HR.out]; rfl), HB2.out⟩
end Go.Proofs.YtgfaeeacndpniaaDoor

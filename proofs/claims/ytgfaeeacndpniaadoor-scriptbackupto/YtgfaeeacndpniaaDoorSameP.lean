/-
  The reference: SameItems of two laws that are one; KidOf.
-/
import Derived.Test.YtgfaeeacndpniaaDoorKidsOf
import Derived.BigQuiet
import Derived.Deep.QuietTactic
import Derived.Deep.RegionHeld3
namespace Go.Proofs.YtgfaeeacndpniaaDoor
open Go.RowKit Go.Extern.Stop Go.Stop Go.Extern

theorem Lies.linesAt {w : World} {P : Nat → Prop} {v : Nat → Value} {t : It} (h : Lies w P v t) {la : Option Addr} {n lc : Nat} (e : v 2 = .slice la n lc) : n = t.lines.length ∧ ∀ i s, t.lines[i]? = some s → ∃ b o, la = some ⟨b, o, none⟩ ∧ P b ∧ w.cell? ⟨b, o + i, none⟩ = some (.string s) := by
  cases h with
  | mk v t la' ka lc' kc V h0 h1 h2 h3 hl hk hr hlc hkc =>
    rw [h2] at e
    injection e with e1 e2 e3
    subst e1 e2 e3
    exact ⟨rfl, hl⟩
/-- How many items a law has at most at each place. -/
inductive SmallIt : It → Prop
  | mk (t : It) (h1 : t.lines.length ≤ 100000) (h2 : t.kids.length ≤ 100000) (h3 : ∀ k ∈ t.kids, SmallIt k) : SmallIt t
def aggOf (v : Nat → Value) : Value := .agg #[v 0, v 1, v 2, v 3]
/-- The two boxes that the call lays for its arguments. -/
structure BoxS (w wr : World) (a2 a3 b2 b3 : Value) : Prop where
  c2 : wr.cell? ⟨w.heap.size, 2, none⟩ = some a2
  c3 : wr.cell? ⟨w.heap.size, 3, none⟩ = some a3
  d2 : wr.cell? ⟨w.heap.size + 1, 2, none⟩ = some b2
  d3 : wr.cell? ⟨w.heap.size + 1, 3, none⟩ = some b3
  bel : Below w.heap.size w wr
  lt : w.heap.size + 2 ≤ wr.heap.size
theorem BoxS.start (w : World) (a0 a1 a2 a3 b0 b1 b2 b3 : Value) (t : TypeId) : BoxS w ((w.alloc (.cells #[a0, a1, a2, a3] t)).alloc (.cells #[b0, b1, b2, b3] t)) a2 a3 b2 b3 := by
  refine ⟨?_, ?_, ?_, ?_, (((Below.refl _ _).alloc (Nat.le_refl _) _).alloc (by simp) _), by simp⟩
  all_goals simp
theorem BoxS.on {w wr wr' : World} {a2 a3 b2 b3 : Value} (h : BoxS w wr a2 a3 b2 b3) (hb : Below wr.heap.size wr wr') : BoxS w wr' a2 a3 b2 b3 := by
  have := h.lt
  have := hb.size
  exact ⟨(hb.cell (p := ⟨w.heap.size, 2, none⟩) (by show w.heap.size < _; omega)).trans h.c2, (hb.cell (p := ⟨w.heap.size, 3, none⟩) (by show w.heap.size < _; omega)).trans h.c3, (hb.cell (p := ⟨w.heap.size + 1, 2, none⟩) (by show w.heap.size + 1 < _; omega)).trans h.d2, (hb.cell (p := ⟨w.heap.size + 1, 3, none⟩) (by show w.heap.size + 1 < _; omega)).trans h.d3, h.bel.trans (hb.mono (by omega)), by omega⟩
theorem belN (w : World) (q : Nat) : Below w.heap.size w (w.drewN q) := ⟨rfl, rfl, rfl, Nat.le_refl _, fun _ _ => rfl⟩
set_option maxHeartbeats 4000000 in
set_option maxRecDepth 10000 in
theorem same_any {t : It} (hS : SmallIt t) : ∀ (w : World) (P Q : Nat → Prop) (v v' : Nat → Value), Lies w P v t → Lies w Q v' t →
    Calls Tryd.prog 12 #[.agg #[v 0, v 1, v 2, v 3], .agg #[v' 0, v' 1, v' 2, v' 3]] w fun e w' => e = .returned (.bool true) ∧ Below w.heap.size w w' := by
  induction hS with
  | mk t h1 h2 h3 ih =>
    intro w P Q v v' hL hL'
    obtain ⟨f0, f1, ⟨la, lc, f2⟩, ⟨ka, kc, f3⟩⟩ := hL.forms
    obtain ⟨g0, g1, ⟨la', lc', g2⟩, ⟨ka', kc', g3⟩⟩ := hL'.forms
    have hl := (hL.linesAt f2).2
    have hl' := (hL'.linesAt g2).2
    obtain ⟨_, V, hk, hr⟩ := hL.kidsAt f3
    obtain ⟨_, V', hk', hr'⟩ := hL'.kidsAt g3
    rw [f0, f1, f2, f3, g0, g1, g2, g3]
    have HIH := hidLL ih
    have HLn := hidLL (And.intro hl hl')
    have HKd := hidLL (And.intro hk (And.intro hr (And.intro hk' hr')))
    obtain ⟨ln, hln⟩ : ∃ ln, ln = t.lines.length := ⟨_, rfl⟩
    obtain ⟨kn, hkn⟩ : ∃ kn, kn = t.kids.length := ⟨_, rfl⟩
    rw [← hln] at h1
    rw [← hkn] at h2
    rw [← hln, ← hkn]
    have HLk := hidLL (And.intro hln hkn)
    clear hL hL' hl hl' hk hr hk' hr' hln hkn ih h3 f0 f1 f2 f3 g0 g1 g2 g3
    have e1 : (t.label.toList != t.label.toList) = false := by simp
    have e2 : (t.head.toList != t.head.toList) = false := by simp
    generalize t.label = lb at *
    generalize t.head = hd at *
    go_enter Tryd.func12, Tryd.ntmps12
    have HBx := hidLL (BoxS.start w (.string lb) (.string hd) (.slice la ln lc) (.slice ka kn kc) (.string lb) (.string hd) (.slice la' ln lc') (.slice ka' kn kc') 31)
    go_wp2_with fail
    obtain ⟨w2, hw2⟩ : ∃ w2, w2 = (w.alloc (.cells #[.string lb, .string hd, .slice la ln lc, .slice ka kn kc] 31)).alloc (.cells #[.string lb, .string hd, .slice la' ln lc', .slice ka' kn kc'] 31) := ⟨_, rfl⟩
    rw [← hw2] at HBx
    simp only [← hw2]
    clear hw2
    go_loopw [5] (fun t wr => ∃ i : Nat, i ≤ ln ∧ t = .int .i64 i ∧ BoxS w wr (.slice la ln lc) (.slice ka kn kc) (.slice la' ln lc') (.slice ka' kn kc')) (fun t _ => (ln - RowKit.intOf t).toNat)
    case atStart => exact ⟨0, by omega, rfl, HBx.out⟩
    case round =>
      obtain ⟨i, hi, rfl, hbx⟩ := hrel
      have HX := hidLL hbx
      have c2 := hbx.c2
      have d2 := hbx.d2
      clear hbx
      by_cases hin : i < ln
      · have hiz : (i : Int) < ln := by omega
        obtain ⟨x, hx⟩ : ∃ x, t.lines[i]? = some x := ⟨_, List.getElem?_eq_getElem (by rw [← HLk.out.1]; exact hin)⟩
        obtain ⟨b, o, rfl, _, cx⟩ := HLn.out.1 i x hx
        obtain ⟨b', o', rfl, _, cx'⟩ := HLn.out.2 i x hx
        have y1 := (HX.out.bel.cell (p := ⟨b, o + i, none⟩) (cell_lt cx)).trans cx
        have y2 := (HX.out.bel.cell (p := ⟨b', o' + i, none⟩) (cell_lt cx')).trans cx'
        have ex : (x.toList != x.toList) = false := by simp
        clear hx cx cx'
        go_wp2_with fail
        go_quiet (fail)
        go_wp2
        go_roundw
        case rel => exact ⟨i + 1, by omega, by go_num, HX.out.on (belN _ _)⟩
        case measure => simp [RowKit.intOf]; omega
      · obtain rfl : ln = i := by omega
        go_wp2_with fail
        go_loopw [6] (fun t wr => ∃ i : Nat, i ≤ kn ∧ t = .int .i64 i ∧ BoxS w wr (.slice la ln lc) (.slice ka kn kc) (.slice la' ln lc') (.slice ka' kn kc')) (fun t _ => (kn - RowKit.intOf t).toNat)
        case atStart => exact ⟨0, by omega, rfl, HX.out⟩
        case round =>
          obtain ⟨i, hi, rfl, hbx⟩ := hrel
          have HX2 := hidLL hbx
          have c3 := hbx.c3
          have d3 := hbx.d3
          clear hbx c2 d2
          by_cases hin : i < kn
          · have hiz : (i : Int) < kn := by omega
            have hik : i < t.kids.length := by rw [← HLk.out.2]; exact hin
            obtain ⟨x, hx⟩ : ∃ x, t.kids[i]? = some x := ⟨_, List.getElem?_eq_getElem hik⟩
            obtain ⟨b, o, rfl, _, cx⟩ := HKd.out.1 i hik
            obtain ⟨b', o', rfl, _, cx'⟩ := HKd.out.2.2.1 i hik
            have hLx := (HKd.out.2.1 i x hx).bel HX2.out.bel
            have hLx' := (HKd.out.2.2.2 i x hx).bel HX2.out.bel
            have hbl := cell_lt (cx 0 (by omega))
            have hbl' := cell_lt (cx' 0 (by omega))
            have HC := hidLL (fun W (hW : Below wr.heap.size wr W) => HIH.out x (List.mem_of_getElem? hx) W P Q (V i) (V' i) (hLx.bel hW) (hLx'.bel hW))
            obtain ⟨f0, f1, ⟨pa, pc, f2⟩, ⟨pk, pkc, f3⟩⟩ := hLx.forms
            obtain ⟨g0, g1, ⟨qa, qc, g2⟩, ⟨qk, qkc, g3⟩⟩ := hLx'.forms
            have y0 := (HX2.out.bel.cell (p := ⟨b, o + i * 4, none⟩) hbl).trans (cx 0 (by omega))
            have y1 := (HX2.out.bel.cell (p := ⟨b, o + i * 4 + 1, none⟩) hbl).trans (cx 1 (by omega))
            have y2 := (HX2.out.bel.cell (p := ⟨b, o + i * 4 + 2, none⟩) hbl).trans (cx 2 (by omega))
            have y3 := (HX2.out.bel.cell (p := ⟨b, o + i * 4 + 3, none⟩) hbl).trans (cx 3 (by omega))
            have z0 := (HX2.out.bel.cell (p := ⟨b', o' + i * 4, none⟩) hbl').trans (cx' 0 (by omega))
            have z1 := (HX2.out.bel.cell (p := ⟨b', o' + i * 4 + 1, none⟩) hbl').trans (cx' 1 (by omega))
            have z2 := (HX2.out.bel.cell (p := ⟨b', o' + i * 4 + 2, none⟩) hbl').trans (cx' 2 (by omega))
            have z3 := (HX2.out.bel.cell (p := ⟨b', o' + i * 4 + 3, none⟩) hbl').trans (cx' 3 (by omega))
            rw [f0] at y0
            rw [f1] at y1
            rw [f2] at y2
            rw [f3] at y3
            rw [g0] at z0
            rw [g1] at z1
            rw [g2] at z2
            rw [g3] at z3
            rw [f0, f1, f2, f3, g0, g1, g2, g3] at HC
            generalize x.label = xl at *
            generalize x.head = xh at *
            generalize x.lines.length = xn at *
            generalize x.kids.length = xk at *
            have hlb : b < wr.heap.size := by have := HX2.out.bel.size; omega
            have hlb' : b' < wr.heap.size := by have := HX2.out.bel.size; omega
            clear hLx hLx' cx cx' f0 f1 f2 f3 g0 g1 g2 g3 hx hbl hbl'
            go_wp2_with fail
            go_region_held3 (fun W => W.cell? ⟨w.heap.size, 3, none⟩ = some (.slice (some ⟨b, o, none⟩) kn kc) ∧ W.cell? ⟨w.heap.size + 1, 3, none⟩ = some (.slice (some ⟨b', o', none⟩) kn kc') ∧ W.cell? ⟨b, o + i * 4, none⟩ = some (.string xl) ∧ W.cell? ⟨b, o + i * 4 + 1, none⟩ = some (.string xh) ∧ W.cell? ⟨b, o + i * 4 + 2, none⟩ = some (.slice pa xn pc) ∧ W.cell? ⟨b, o + i * 4 + 3, none⟩ = some (.slice pk xk pkc) ∧ W.cell? ⟨b', o' + i * 4, none⟩ = some (.string xl) ∧ W.cell? ⟨b', o' + i * 4 + 1, none⟩ = some (.string xh) ∧ W.cell? ⟨b', o' + i * 4 + 2, none⟩ = some (.slice qa xn qc) ∧ W.cell? ⟨b', o' + i * 4 + 3, none⟩ = some (.slice qk xk qkc)) (go_keep)
              (first
                | (go_at_call 12
                   refine (HC.out _ (belN _ 1)).mono ?_
                   rintro e w5 ⟨rfl, hb5⟩
                   have HB5 := hidLL ((belN wr 1).trans hb5)
                   have k0 := (HB5.out.cell (p := ⟨b, o + i * 4, none⟩) hlb).trans y0
                   have k1 := (HB5.out.cell (p := ⟨b, o + i * 4 + 1, none⟩) hlb).trans y1
                   have k2 := (HB5.out.cell (p := ⟨b, o + i * 4 + 2, none⟩) hlb).trans y2
                   have k3 := (HB5.out.cell (p := ⟨b, o + i * 4 + 3, none⟩) hlb).trans y3
                   have j0 := (HB5.out.cell (p := ⟨b', o' + i * 4, none⟩) hlb').trans z0
                   have j1 := (HB5.out.cell (p := ⟨b', o' + i * 4 + 1, none⟩) hlb').trans z1
                   have j2 := (HB5.out.cell (p := ⟨b', o' + i * 4 + 2, none⟩) hlb').trans z2
                   have j3 := (HB5.out.cell (p := ⟨b', o' + i * 4 + 3, none⟩) hlb').trans z3
                   have m3 := (HX2.out.on HB5.out).c3
                   have n3 := (HX2.out.on HB5.out).d3
                   clear hb5))
            go_wp2
            go_roundw
            case rel => exact ⟨i + 1, by omega, by go_num, HX2.out.on HB5.out⟩
            case measure => simp [RowKit.intOf]; omega
          · obtain rfl : kn = i := by omega
            go_wp2
            go_ret
            exact ⟨rfl, HX2.out.bel⟩
end Go.Proofs.YtgfaeeacndpniaaDoor

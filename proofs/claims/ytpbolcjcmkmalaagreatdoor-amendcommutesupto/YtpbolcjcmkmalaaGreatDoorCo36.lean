/-
  The reference: SameItems of two laws that are one; KidOf.
-/
import Derived.Test.YtpbolcjcmkmalaaGreatDoorCo14
import Derived.BigQuiet
import Derived.Deep.QuietTactic
import Derived.Deep.RegionHeld3
import Derived.Test.YtpbolcjcmkmalaaGreatDoorCo35
import Derived.Test.YtpbolcjcmkmalaaGreatDoorCo16
import Derived.Test.YtpbolcjcmkmalaaGreatDoorCo10
import Derived.Deep.RegionWith
import Derived.Deep.RegionLaw
import Derived.Deep.Cut
import Derived.Deep.DeepCutAuto
namespace Go.Proofs.YtpbolcjcmkmalaaGreatDoor
open Go.RowKit Go.Extern.Stop Go.Stop Go.Extern

theorem Lies.linesAt {w : World} {P : Nat → Prop} {v : Nat → Value} {t : It} (h : Lies w P v t) {la : Option Addr} {n lc : Nat} (e : v 2 = .slice la n lc) : n = t.lines.length ∧ ∀ i s, t.lines[i]? = some s → ∃ b o, la = some ⟨b, o, none⟩ ∧ P b ∧ w.cell? ⟨b, o + i, none⟩ = some (.string s) := by
  cases h with
  | mk v t la' ka lc' kc V h0 h1 h2 h3 hl hk hr hlc hkc =>
    rw [h2] at e
    injection e with e1 e2 e3
    subst e1 e2 e3
    exact ⟨rfl, hl⟩
/-- How many items a law has at most at each place. -/
inductive SmallIt : It → Prop
  | mk (t : It) (h1 : t.lines.length ≤ 100000) (h2 : t.kids.length ≤ 100000) (h3 : ∀ k ∈ t.kids, SmallIt k) : SmallIt t
def aggOf (v : Nat → Value) : Value := .agg #[v 0, v 1, v 2, v 3]
/-- The two boxes that the call lays for its arguments. -/
structure BoxS (w wr : World) (a2 a3 b2 b3 : Value) : Prop where
  c2 : wr.cell? ⟨w.heap.size, 2, none⟩ = some a2
  c3 : wr.cell? ⟨w.heap.size, 3, none⟩ = some a3
  d2 : wr.cell? ⟨w.heap.size + 1, 2, none⟩ = some b2
  d3 : wr.cell? ⟨w.heap.size + 1, 3, none⟩ = some b3
  bel : Below w.heap.size w wr
  lt : w.heap.size + 2 ≤ wr.heap.size
theorem BoxS.start (w : World) (a0 a1 a2 a3 b0 b1 b2 b3 : Value) (t : TypeId) : BoxS w ((w.alloc (.cells #[a0, a1, a2, a3] t)).alloc (.cells #[b0, b1, b2, b3] t)) a2 a3 b2 b3 := by
  refine ⟨?_, ?_, ?_, ?_, (((Below.refl _ _).alloc (Nat.le_refl _) _).alloc (by simp) _), by simp⟩
  all_goals simp
theorem BoxS.on {w wr wr' : World} {a2 a3 b2 b3 : Value} (h : BoxS w wr a2 a3 b2 b3) (hb : Below wr.heap.size wr wr') : BoxS w wr' a2 a3 b2 b3 := by
  have := h.lt
  have := hb.size
  exact ⟨(hb.cell (p := ⟨w.heap.size, 2, none⟩) (by show w.heap.size < _; omega)).trans h.c2, (hb.cell (p := ⟨w.heap.size, 3, none⟩) (by show w.heap.size < _; omega)).trans h.c3, (hb.cell (p := ⟨w.heap.size + 1, 2, none⟩) (by show w.heap.size + 1 < _; omega)).trans h.d2, (hb.cell (p := ⟨w.heap.size + 1, 3, none⟩) (by show w.heap.size + 1 < _; omega)).trans h.d3, h.bel.trans (hb.mono (by omega)), by omega⟩
theorem belN (w : World) (q : Nat) : Below w.heap.size w (w.drewN q) := ⟨rfl, rfl, rfl, Nat.le_refl _, fun _ _ => rfl⟩
set_option maxHeartbeats 4000000 in
set_option maxRecDepth 10000 in
theorem same_any {t : It} (hS : SmallIt t) : ∀ (w : World) (P Q : Nat → Prop) (v v' : Nat → Value), Lies w P v t → Lies w Q v' t →
    Calls Tryz.prog 12 #[.agg #[v 0, v 1, v 2, v 3], .agg #[v' 0, v' 1, v' 2, v' 3]] w fun e w' => e = .returned (.bool true) ∧ Below w.heap.size w w' := by
  induction hS with
  | mk t h1 h2 h3 ih =>
    intro w P Q v v' hL hL'
    obtain ⟨f0, f1, ⟨la, lc, f2⟩, ⟨ka, kc, f3⟩⟩ := hL.forms
    obtain ⟨g0, g1, ⟨la', lc', g2⟩, ⟨ka', kc', g3⟩⟩ := hL'.forms
    have hl := (hL.linesAt f2).2
    have hl' := (hL'.linesAt g2).2
    obtain ⟨_, V, hk, hr⟩ := hL.kidsAt f3
    obtain ⟨_, V', hk', hr'⟩ := hL'.kidsAt g3
    rw [f0, f1, f2, f3, g0, g1, g2, g3]
    have HIH := hidLL ih
    have HLn := hidLL (And.intro hl hl')
    have HKd := hidLL (And.intro hk (And.intro hr (And.intro hk' hr')))
    obtain ⟨ln, hln⟩ : ∃ ln, ln = t.lines.length := ⟨_, rfl⟩
    obtain ⟨kn, hkn⟩ : ∃ kn, kn = t.kids.length := ⟨_, rfl⟩
    rw [← hln] at h1
    rw [← hkn] at h2
    rw [← hln, ← hkn]
    have HLk := hidLL (And.intro hln hkn)
    clear hL hL' hl hl' hk hr hk' hr' hln hkn ih h3 f0 f1 f2 f3 g0 g1 g2 g3
    have e1 : (t.label.toList != t.label.toList) = false := by simp
    have e2 : (t.head.toList != t.head.toList) = false := by simp
    generalize t.label = lb at *
    generalize t.head = hd at *
    go_enter Tryz.func12, Tryz.ntmps12
    have HBx := hidLL (BoxS.start w (.string lb) (.string hd) (.slice la ln lc) (.slice ka kn kc) (.string lb) (.string hd) (.slice la' ln lc') (.slice ka' kn kc') 25)
    go_wp2_with fail
    obtain ⟨w2, hw2⟩ : ∃ w2, w2 = (w.alloc (.cells #[.string lb, .string hd, .slice la ln lc, .slice ka kn kc] 25)).alloc (.cells #[.string lb, .string hd, .slice la' ln lc', .slice ka' kn kc'] 25) := ⟨_, rfl⟩
    rw [← hw2] at HBx
    simp only [← hw2]
    clear hw2
    go_loopw [5] (fun t wr => ∃ i : Nat, i ≤ ln ∧ t = .int .i64 i ∧ BoxS w wr (.slice la ln lc) (.slice ka kn kc) (.slice la' ln lc') (.slice ka' kn kc')) (fun t _ => (ln - RowKit.intOf t).toNat)
    case atStart => exact ⟨0, by omega, rfl, HBx.out⟩
    case round =>
      obtain ⟨i, hi, rfl, hbx⟩ := hrel
      have HX := hidLL hbx
      have c2 := hbx.c2
      have d2 := hbx.d2
      clear hbx
      by_cases hin : i < ln
      · have hiz : (i : Int) < ln := by omega
        obtain ⟨x, hx⟩ : ∃ x, t.lines[i]? = some x := ⟨_, List.getElem?_eq_getElem (by rw [← HLk.out.1]; exact hin)⟩
        obtain ⟨b, o, rfl, _, cx⟩ := HLn.out.1 i x hx
        obtain ⟨b', o', rfl, _, cx'⟩ := HLn.out.2 i x hx
        have y1 := (HX.out.bel.cell (p := ⟨b, o + i, none⟩) (cell_lt cx)).trans cx
        have y2 := (HX.out.bel.cell (p := ⟨b', o' + i, none⟩) (cell_lt cx')).trans cx'
        have ex : (x.toList != x.toList) = false := by simp
        clear hx cx cx'
        go_wp2_with fail
        go_quiet (fail)
        go_wp2
        go_roundw
        case rel => exact ⟨i + 1, by omega, by go_num, HX.out.on (belN _ _)⟩
        case measure => simp [RowKit.intOf]; omega
      · obtain rfl : ln = i := by omega
        go_wp2_with fail
        go_loopw [6] (fun t wr => ∃ i : Nat, i ≤ kn ∧ t = .int .i64 i ∧ BoxS w wr (.slice la ln lc) (.slice ka kn kc) (.slice la' ln lc') (.slice ka' kn kc')) (fun t _ => (kn - RowKit.intOf t).toNat)
        case atStart => exact ⟨0, by omega, rfl, HX.out⟩
        case round =>
          obtain ⟨i, hi, rfl, hbx⟩ := hrel
          have HX2 := hidLL hbx
          have c3 := hbx.c3
          have d3 := hbx.d3
          clear hbx c2 d2
          by_cases hin : i < kn
          · have hiz : (i : Int) < kn := by omega
            have hik : i < t.kids.length := by rw [← HLk.out.2]; exact hin
            obtain ⟨x, hx⟩ : ∃ x, t.kids[i]? = some x := ⟨_, List.getElem?_eq_getElem hik⟩
            obtain ⟨b, o, rfl, _, cx⟩ := HKd.out.1 i hik
            obtain ⟨b', o', rfl, _, cx'⟩ := HKd.out.2.2.1 i hik
            have hLx := (HKd.out.2.1 i x hx).bel HX2.out.bel
            have hLx' := (HKd.out.2.2.2 i x hx).bel HX2.out.bel
            have hbl := cell_lt (cx 0 (by omega))
            have hbl' := cell_lt (cx' 0 (by omega))
            have HC := hidLL (fun W (hW : Below wr.heap.size wr W) => HIH.out x (List.mem_of_getElem? hx) W P Q (V i) (V' i) (hLx.bel hW) (hLx'.bel hW))
            obtain ⟨f0, f1, ⟨pa, pc, f2⟩, ⟨pk, pkc, f3⟩⟩ := hLx.forms
            obtain ⟨g0, g1, ⟨qa, qc, g2⟩, ⟨qk, qkc, g3⟩⟩ := hLx'.forms
            have y0 := (HX2.out.bel.cell (p := ⟨b, o + i * 4, none⟩) hbl).trans (cx 0 (by omega))
            have y1 := (HX2.out.bel.cell (p := ⟨b, o + i * 4 + 1, none⟩) hbl).trans (cx 1 (by omega))
            have y2 := (HX2.out.bel.cell (p := ⟨b, o + i * 4 + 2, none⟩) hbl).trans (cx 2 (by omega))
            have y3 := (HX2.out.bel.cell (p := ⟨b, o + i * 4 + 3, none⟩) hbl).trans (cx 3 (by omega))
            have z0 := (HX2.out.bel.cell (p := ⟨b', o' + i * 4, none⟩) hbl').trans (cx' 0 (by omega))
            have z1 := (HX2.out.bel.cell (p := ⟨b', o' + i * 4 + 1, none⟩) hbl').trans (cx' 1 (by omega))
            have z2 := (HX2.out.bel.cell (p := ⟨b', o' + i * 4 + 2, none⟩) hbl').trans (cx' 2 (by omega))
            have z3 := (HX2.out.bel.cell (p := ⟨b', o' + i * 4 + 3, none⟩) hbl').trans (cx' 3 (by omega))
            rw [f0] at y0
            rw [f1] at y1
            rw [f2] at y2
            rw [f3] at y3
            rw [g0] at z0
            rw [g1] at z1
            rw [g2] at z2
            rw [g3] at z3
            rw [f0, f1, f2, f3, g0, g1, g2, g3] at HC
            generalize x.label = xl at *
            generalize x.head = xh at *
            generalize x.lines.length = xn at *
            generalize x.kids.length = xk at *
            have hlb : b < wr.heap.size := by have := HX2.out.bel.size; omega
            have hlb' : b' < wr.heap.size := by have := HX2.out.bel.size; omega
            clear hLx hLx' cx cx' f0 f1 f2 f3 g0 g1 g2 g3 hx hbl hbl'
            go_wp2_with fail
            go_region_held3 (fun W => W.cell? ⟨w.heap.size, 3, none⟩ = some (.slice (some ⟨b, o, none⟩) kn kc) ∧ W.cell? ⟨w.heap.size + 1, 3, none⟩ = some (.slice (some ⟨b', o', none⟩) kn kc') ∧ W.cell? ⟨b, o + i * 4, none⟩ = some (.string xl) ∧ W.cell? ⟨b, o + i * 4 + 1, none⟩ = some (.string xh) ∧ W.cell? ⟨b, o + i * 4 + 2, none⟩ = some (.slice pa xn pc) ∧ W.cell? ⟨b, o + i * 4 + 3, none⟩ = some (.slice pk xk pkc) ∧ W.cell? ⟨b', o' + i * 4, none⟩ = some (.string xl) ∧ W.cell? ⟨b', o' + i * 4 + 1, none⟩ = some (.string xh) ∧ W.cell? ⟨b', o' + i * 4 + 2, none⟩ = some (.slice qa xn qc) ∧ W.cell? ⟨b', o' + i * 4 + 3, none⟩ = some (.slice qk xk qkc)) (go_keep)
              (first
                | (go_at_call 12
                   refine (HC.out _ (belN _ 1)).mono ?_
                   rintro e w5 ⟨rfl, hb5⟩
                   have HB5 := hidLL ((belN wr 1).trans hb5)
                   have k0 := (HB5.out.cell (p := ⟨b, o + i * 4, none⟩) hlb).trans y0
                   have k1 := (HB5.out.cell (p := ⟨b, o + i * 4 + 1, none⟩) hlb).trans y1
                   have k2 := (HB5.out.cell (p := ⟨b, o + i * 4 + 2, none⟩) hlb).trans y2
                   have k3 := (HB5.out.cell (p := ⟨b, o + i * 4 + 3, none⟩) hlb).trans y3
                   have j0 := (HB5.out.cell (p := ⟨b', o' + i * 4, none⟩) hlb').trans z0
                   have j1 := (HB5.out.cell (p := ⟨b', o' + i * 4 + 1, none⟩) hlb').trans z1
                   have j2 := (HB5.out.cell (p := ⟨b', o' + i * 4 + 2, none⟩) hlb').trans z2
                   have j3 := (HB5.out.cell (p := ⟨b', o' + i * 4 + 3, none⟩) hlb').trans z3
                   have m3 := (HX2.out.on HB5.out).c3
                   have n3 := (HX2.out.on HB5.out).d3
                   clear hb5))
            go_wp2
            go_roundw
            case rel => exact ⟨i + 1, by omega, by go_num, HX2.out.on HB5.out⟩
            case measure => simp [RowKit.intOf]; omega
          · obtain rfl : kn = i := by omega
            go_wp2
            go_ret
            exact ⟨rfl, HX2.out.bel⟩
end Go.Proofs.YtpbolcjcmkmalaaGreatDoor
namespace Go.Proofs.YtpbolcjcmkmalaaGreatDoor
open Go.RowKit Go.Extern.Stop Go.Stop Go.Extern

/-- An error that says what an outcome is. -/
def ErrAt (w : World) (p : Nat → Addr) (r : POut) (v : Value) : Prop := match r with
  | .no c => ∃ k, c = k + 1 ∧ k < 11 ∧ v = errI (p k)
  | .bad i c => ∃ k g, c = k + 1 ∧ k < 11 ∧ v = .iface 52 (.pointer (some ⟨g, 0, none⟩)) ∧ w.heap[g]? = some (.cells #[.int .i64 i, errI (p k)] 54 (0, 0))
  | .ok _ => v = .nilIface
def codeN : POut → Nat
  | .no c => c
  | .bad _ c => c
  | .ok _ => 0
def atN : POut → Int
  | .no _ => -1
  | .bad i _ => i
  | .ok _ => -1
theorem ErrAt.below {w w' : World} {p : Nat → Addr} {r : POut} {v : Value} (h : ErrAt w p r v) (hb : Below w.heap.size w w') : ErrAt w' p r v := by
  cases r with
  | no c => exact h
  | ok u => exact h
  | bad i c =>
    obtain ⟨k, g, h1, h2, h3, h4⟩ := h
    exact ⟨k, g, h1, h2, h3, (hb.block g (Array.getElem?_eq_some_iff.1 h4).1).trans h4⟩
theorem ErrAt.is {w : World} {p : Nat → Addr} {r : POut} {v : Value} (h : ErrAt w p r v) : ((∃ u, r = .ok u) ∧ v = .nilIface) ∨ ((∀ u, r ≠ .ok u) ∧ 0 < codeN r ∧ ∃ T q, v = .iface T (.pointer (some q))) := by
  cases r with
  | no c =>
    obtain ⟨k, h1, h2, h3⟩ := h
    exact .inr ⟨fun u e => (by cases e), (by show 0 < c; omega), _, _, h3⟩
  | ok u => exact .inl ⟨⟨u, rfl⟩, h⟩
  | bad i c =>
    obtain ⟨k, g, h1, h2, h3, h4⟩ := h
    exact .inr ⟨fun u e => (by cases e), (by show 0 < c; omega), _, _, h3⟩
theorem code_p {w : World} {p : Nat → Addr} {r : POut} {v : Value} (L : Laid w p) (h : ErrAt w p r v) :
    Calls Tryz.prog 14 #[v] w fun e w' => e = .returned (.tuple #[.int .i64 (codeN r), .int .i64 (atN r)]) ∧ Below w.heap.size w w' := by
  cases r with
  | no c =>
    obtain ⟨k, h1, h2, h3⟩ := h
    subst h3
    refine (code_sent k h2 p w L).mono ?_
    rintro e w' ⟨rfl, hb⟩
    exact ⟨by unfold codeN atN; rw [h1]; rfl, hb⟩
  | ok u =>
    have h : v = .nilIface := h
    subst h
    refine (code_nil w).mono ?_
    rintro e w' ⟨rfl, rfl⟩
    exact ⟨rfl, Below.refl _ _⟩
  | bad i c =>
    obtain ⟨k, g, h1, h2, h3, h4⟩ := h
    subst h3
    have c0 : w.cell? ⟨g, 0, none⟩ = some (.int .i64 i) := by rw [cell_of_row _ g 0 _ _ _ h4]; rfl
    have c1 : w.cell? ⟨g, 0 + 1, none⟩ = some (errI (p k)) := by rw [cell_of_row _ g (0 + 1) _ _ _ h4]; rfl
    refine (code_fault k h2 p g i w L c0 c1).mono ?_
    rintro e w' ⟨rfl, hb⟩
    exact ⟨by unfold codeN atN; rw [h1]; rfl, hb⟩
/-- A law as an answer tells it: its four values, and what it is where there is one. -/
def AnsR (w : World) (p : Nat → Addr) (r : POut) (e : Ending) (w' : World) : Prop := Below w.heap.size w w' ∧ ∃ (s h : ByteArray) (la ka : Option Addr) (ln lc kn kc : Nat) (er : Value), e = .returned (.tuple #[.agg #[.string s, .string h, .slice la ln lc, .slice ka kn kc], er]) ∧ ErrAt w' p r er ∧
  ((∀ u, r ≠ .ok u) → s = ⟨#[]⟩ ∧ h = ⟨#[]⟩ ∧ la = none ∧ ka = none ∧ ln = 0 ∧ lc = 0 ∧ kn = 0 ∧ kc = 0) ∧
  ∀ u, r = .ok u → ∃ v' S, #[v' 0, v' 1, v' 2, v' 3] = #[.string s, .string h, .slice la ln lc, .slice ka kn kc] ∧ Own w' w.heap.size v' u S
theorem ans_of {w : World} {p : Nat → Addr} {r : POut} {e : Ending} {w' : World} (h : ApR w p r e w') : AnsR w p r e w' := by
  obtain ⟨hb, h⟩ := h
  cases r with
  | no c =>
    obtain ⟨k, h1, h2, rfl⟩ := h
    exact ⟨hb, _, _, _, _, _, _, _, _, _, rfl, ⟨k, h1, h2, rfl⟩, fun _ => ⟨rfl, rfl, rfl, rfl, rfl, rfl, rfl, rfl⟩, fun u e => (by cases e)⟩
  | bad i c =>
    obtain ⟨k, g, h1, h2, rfl, h4, _⟩ := h
    exact ⟨hb, _, _, _, _, _, _, _, _, _, rfl, ⟨k, g, h1, h2, rfl, h4⟩, fun _ => ⟨rfl, rfl, rfl, rfl, rfl, rfl, rfl, rfl⟩, fun u e => (by cases e)⟩
  | ok u =>
    obtain ⟨v', S, rfl, hown⟩ := h
    obtain ⟨g0, g1, ⟨la, lc, g2⟩, ka, kc, g3⟩ := hown.lies.forms
    refine ⟨hb, u.label, u.head, la, ka, u.lines.length, lc, u.kids.length, kc, .nilIface, by rw [g0, g1, g2, g3], rfl, fun h => absurd rfl (h u), fun u' e => ?_⟩
    injection e with e
    subst e
    exact ⟨v', S, by rw [g0, g1, g2, g3], hown⟩
end Go.Proofs.YtpbolcjcmkmalaaGreatDoor
namespace Go.Proofs.YtpbolcjcmkmalaaGreatDoor
open Go.RowKit Go.Extern.Stop Go.Stop Go.Extern

/-- The path around a path, its last label. -/
def upP (p : List ByteArray) : List ByteArray := p.dropLast
def lastP (p : List ByteArray) : ByteArray := p.getLast?.getD ⟨#[]⟩
theorem up_snoc (p : List ByteArray) (l : ByteArray) : upP (p ++ [l]) = p ∧ lastP (p ++ [l]) = l := by
  unfold upP lastP
  rw [List.dropLast_concat, List.getLast?_concat]
  exact ⟨rfl, rfl⟩
theorem up_last {p : List ByteArray} (h : p ≠ []) : p = upP p ++ [lastP p] := by
  rcases List.eq_nil_or_concat p with h0 | ⟨a, b, hab⟩
  · exact absurd h0 h
  · rw [hab, List.concat_eq_append, (up_snoc a b).1, (up_snoc a b).2]
/-- What is touched. -/
def Tc (o : OpW) : Tch := fun q c =>
  if o.kind = 1 then q = partsB o.path ∧ c = .h
  else if 2 ≤ o.kind ∧ o.kind ≤ 5 then q = partsB o.path ∧ c = .l
  else if o.kind = 6 then (q = partsB o.path ∧ c = .k) ∨ (partsB o.path ++ [o.item.label]) <+: q
  else if o.kind = 7 then (q = upP (partsB o.path) ∧ c = .k) ∨ partsB o.path <+: q
  else if o.kind = 8 then (q = upP (partsB o.path) ∧ c = .k) ∨ partsB o.path <+: q ∨ (upP (partsB o.path) ++ [o.text]) <+: q
  else if o.kind = 9 then (q = upP (partsB o.path) ∧ c = .k) ∨ partsB o.path <+: q ∨ (q = partsB o.new ∧ c = .k) ∨ (partsB o.new ++ [lastP (partsB o.path)]) <+: q
  else False
/-- What lines become. -/
noncomputable def linesO (ls : List ByteArray) (o : OpW) : Option (List ByteArray) := match textC (.mk ⟨#[]⟩ ⟨#[]⟩ ls []) o with | .ok y => some y.lines | .bad _ => none
noncomputable def Dc (o : OpW) : St → St :=
  if o.kind = 1 then dPart (partsB o.path) .h (fun _ => [o.text])
  else if 2 ≤ o.kind ∧ o.kind ≤ 5 then dPart (partsB o.path) .l (fun ls => (linesO ls o).getD ls)
  else if o.kind = 6 then fun f => dPut (partsB o.path ++ [o.item.label]) o.item (dPart (partsB o.path) .k (fun ks => ks.insertIdx ((behB ks o.at').getD 0) o.item.label) f)
  else if o.kind = 7 then fun f => dNone (partsB o.path) (dPart (upP (partsB o.path)) .k (fun ks => ks.eraseIdx ((idxL ks (lastP (partsB o.path))).getD 0)) f)
  else if o.kind = 8 then fun f => dMove (partsB o.path) (upP (partsB o.path) ++ [o.text]) (dPart (upP (partsB o.path)) .k (fun ks => ks.set ((idxL ks (lastP (partsB o.path))).getD 0) o.text) f)
  else if o.kind = 9 then fun f => dMove (partsB o.path) (partsB o.new ++ [lastP (partsB o.path)]) (dPart (partsB o.new) .k (fun ks => ks.insertIdx ((behB ks o.at').getD 0) (lastP (partsB o.path))) (dPart (upP (partsB o.path)) .k (fun ks => ks.eraseIdx ((idxL ks (lastP (partsB o.path))).getD 0)) f))
  else fun f => f
theorem loc_D (o : OpW) : Loc (Tc o) (Dc o) := by
  unfold Dc Tc
  split
  · exact loc_part _ _ _
  · split
    · exact loc_part _ _ _
    · split
      · exact ((loc_put _ _).mono fun q c h => .inr h).comp ((loc_part _ _ _).mono fun q c h => .inl h)
      · split
        · exact ((loc_none _).mono fun q c h => .inr h).comp ((loc_part _ _ _).mono fun q c h => .inl h)
        · split
          · exact ((loc_move _ _).mono fun q c h => .inr h).comp ((loc_part _ _ _).mono fun q c h => .inl h)
          · split
            · refine ((loc_move _ _).mono fun q c h => ?_).comp (((loc_part _ _ _).mono fun q c h => ?_).comp ((loc_part _ _ _).mono fun q c h => .inl h))
              · rcases h with h | h
                · exact .inr (.inl h)
                · exact .inr (.inr (.inr h))
              · exact .inr (.inr (.inl h))
            · exact Loc.id _
/-- When a change can be made, whatever the bounds. -/
def Pre (o : OpW) (f : St) : Prop :=
  if o.kind = 1 then (∃ x, f (partsB o.path) .h = some x) ∧ chkB o.text = 0
  else if 2 ≤ o.kind ∧ o.kind ≤ 5 then ∃ ls ls', f (partsB o.path) .l = some ls ∧ linesO ls o = some ls'
  else if o.kind = 6 then ∃ ks, f (partsB o.path) .k = some ks ∧ behB ks o.at' ≠ none ∧ o.item.label ∉ ks ∧ Rg o.item ∧ isLab o.item.label = true
  else if o.kind = 7 then partsB o.path ≠ [] ∧ ∃ ks, f (upP (partsB o.path)) .k = some ks ∧ lastP (partsB o.path) ∈ ks
  else if o.kind = 8 then partsB o.path ≠ [] ∧ isLab o.text = true ∧ ∃ ks, f (upP (partsB o.path)) .k = some ks ∧ lastP (partsB o.path) ∈ ks ∧ (o.text ∈ ks → o.text = lastP (partsB o.path))
  else if o.kind = 9 then partsB o.path ≠ [] ∧ ¬ partsB o.path <+: partsB o.new ∧ ¬ (upP (partsB o.path) = partsB o.new ∧ o.at' = lastP (partsB o.path)) ∧ (∃ ks, f (upP (partsB o.path)) .k = some ks ∧ lastP (partsB o.path) ∈ ks) ∧ ∃ ns, f (partsB o.new) .k = some ns ∧ behB ns o.at' ≠ none ∧ (upP (partsB o.path) ≠ partsB o.new → lastP (partsB o.path) ∉ ns)
  else False
theorem pre_on {o : OpW} {f g : St} (h : ∀ q c, Tc o q c → f q c = g q c) (hp : Pre o f) : Pre o g := by
  unfold Pre at hp ⊢
  unfold Tc at h
  split at hp
  · rename_i hk
    rw [if_pos hk]
    simp only [hk, if_true] at h
    rw [← h _ _ ⟨rfl, rfl⟩]
    exact hp
  · rename_i k1
    split at hp
    · rename_i hk
      rw [if_neg k1, if_pos hk]
      simp only [k1, hk, if_false] at h
      obtain ⟨ls, ls', h1, h2⟩ := hp
      exact ⟨ls, ls', by rw [← h _ _ ⟨rfl, rfl⟩]; exact h1, h2⟩
    · rename_i k2
      rw [if_neg k1, if_neg k2]
      simp only [k1, k2, if_false] at h
      split at hp
      · rename_i hk
        rw [if_pos hk]
        simp only [hk, if_true] at h
        rw [← h _ _ (.inl ⟨rfl, rfl⟩)]
        exact hp
      · rename_i k6
        rw [if_neg k6]
        simp only [k6, if_false] at h
        split at hp
        · rename_i hk
          rw [if_pos hk]
          simp only [hk, if_true] at h
          rw [← h _ _ (.inl ⟨rfl, rfl⟩)]
          exact hp
        · rename_i k7
          rw [if_neg k7]
          simp only [k7, if_false] at h
          split at hp
          · rename_i hk
            rw [if_pos hk]
            simp only [hk, if_true] at h
            rw [← h _ _ (.inl ⟨rfl, rfl⟩)]
            exact hp
          · rename_i k8
            rw [if_neg k8]
            simp only [k8, if_false] at h
            split at hp
            · rename_i hk
              rw [if_pos hk]
              simp only [hk, if_true] at h
              rw [← h _ _ (.inl ⟨rfl, rfl⟩), ← h _ _ (.inr (.inr (.inl ⟨rfl, rfl⟩)))]
              exact hp
            · exact hp.elim
theorem lines_same {a b a' b' : ByteArray} {ls : List ByteArray} {ks ks' : List It} {o : OpW} (h2 : 2 ≤ o.kind) (h5 : o.kind ≤ 5) {y : It} (h : textC (.mk a b ls ks) o = .ok y) : textC (.mk a' b' ls ks') o = .ok ((It.mk a' b' ls ks').setLines y.lines) ∧ y = (It.mk a b ls ks).setLines y.lines := by
  unfold textC at h ⊢
  split at h
  · rename_i k
    rw [if_pos k]
    split at h
    · cases h
    · rename_i q1
      rw [if_neg (show ¬ hasL (.mk a' b' ls ks') o.line = false from q1)]
      split at h
      · rename_i q2
        rw [if_pos q2]
        injection h with h
        subst h
        exact ⟨rfl, rfl⟩
      · cases h
  · rename_i k2
    rw [if_neg k2]
    split at h
    · rename_i k
      rw [if_pos k]
      split at h
      · cases h
      · rename_i q1
        rw [if_neg (show ¬ (o.line ≠ ((It.mk a' b' ls ks').lines.length : Int) ∧ hasL (.mk a' b' ls ks') o.line = false) from q1)]
        split at h
        · cases h
        · rename_i q2
          rw [if_neg (show ¬ (It.mk a' b' ls ks').lines.length = 40 from q2)]
          split at h
          · rename_i q3
            rw [if_pos q3]
            injection h with h
            subst h
            exact ⟨rfl, rfl⟩
          · cases h
    · rename_i k3
      rw [if_neg k3]
      split at h
      · rename_i k
        rw [if_pos k]
        split at h
        · cases h
        · rename_i q1
          rw [if_neg (show ¬ hasL (.mk a' b' ls ks') o.line = false from q1)]
          injection h with h
          subst h
          exact ⟨rfl, rfl⟩
      · rename_i k4
        have k5 : o.kind = 5 := by omega
        rw [if_pos k5] at h
        rw [if_neg k4, if_pos k5]
        unfold wordsC at h ⊢
        split at h
        · rename_i i k hq
          rw [show hitsAt o.text.toList (It.mk a' b' ls ks').lines = [(i, k)] from hq]
          split at h
          · cases h
          · rename_i q1
            simp only at h ⊢
            rw [if_neg q1]
            split at h
            · rename_i q2
              rw [if_pos (show chkB (((It.mk a' b' ls ks').lines[i]?.getD ⟨#[]⟩).extract 0 k ++ o.new ++ ((It.mk a' b' ls ks').lines[i]?.getD ⟨#[]⟩).extract (k + o.text.size) ((It.mk a' b' ls ks').lines[i]?.getD ⟨#[]⟩).size) = 0 from q2)]
              injection h with h
              subst h
              exact ⟨rfl, rfl⟩
            · cases h
        · cases h
theorem lines_ok {x y : It} {o : OpW} (h2 : 2 ≤ o.kind) (h5 : o.kind ≤ 5) (h : textC x o = .ok y) : ∃ ls, linesO x.lines o = some ls ∧ y = x.setLines ls := by
  cases x with
  | mk a b ls ks =>
    obtain ⟨e1, e2⟩ := lines_same (a' := ⟨#[]⟩) (b' := ⟨#[]⟩) (ks' := []) h2 h5 h
    refine ⟨y.lines, ?_, e2⟩
    unfold linesO
    rw [show (It.mk a b ls ks).lines = ls from rfl, e1]
    rfl
theorem lines_of {x : It} {o : OpW} {ls : List ByteArray} (h2 : 2 ≤ o.kind) (h5 : o.kind ≤ 5) (h : linesO x.lines o = some ls) : textC x o = .ok (x.setLines ls) := by
  cases x with
  | mk a b l ks =>
    have hO : linesO l o = some ls := h
    have hC : ∀ C, textC (It.mk ⟨#[]⟩ ⟨#[]⟩ l []) o = C → (match C with | .ok y => some y.lines | .bad _ => none) = some ls := fun C e => by
      rw [← e]; exact hO
    cases hy : textC (It.mk ⟨#[]⟩ ⟨#[]⟩ l []) o with
    | bad c => have := hC _ hy; cases this
    | ok y =>
      have h3 := Option.some.inj (hC _ hy)
      have e := (lines_same (a' := a) (b' := b) (ks' := ks) h2 h5 hy).1
      rw [h3] at e
      exact e
/-- What stands at the paths behind a change. -/
theorem d_x {t u : It} {o : OpW} (ht : Rg t) (h : oneX t o = some u) : X u = Dc o (X t) ∧ Pre o (X t) := by
  unfold oneX at h
  split at h
  · rename_i hk
    obtain ⟨x, i, hx, hi, h1, h2, h3, rfl⟩ := put_some h
    unfold Dc Pre
    rw [hk, if_neg (by omega), if_neg (by omega), if_pos rfl, if_neg (by omega), if_neg (by omega), if_pos rfl]
    rw [behIx_beh] at hi
    exact ⟨more_is ht.ds hx hi h1, labs x.kids, X_some hx .k, by rw [hi]; simp, h1, h2, h3⟩
  · rename_i n6
    split at h
    · rename_i hk
      obtain ⟨p0, l, x, i, k, y, z, j, hp, h1, h2, h3, h4, hy, c1, c2, c3, c4, hz, hj, rfl⟩ := move_some h
      have hdl := rg_x ht (o := o) (u := setW (fun _ => z.setKids (z.kids.insertIdx j k)) (partsB o.new) (lessW t x i p0)) (by unfold oneX; rw [if_neg n6, if_pos hk]; exact h)
      have hless : Rg (lessW t x i p0) := rg_set p0 t x _ ht h1 (rg_erase (find_rg _ t x ht h1) i) rfl
      have hX2 : X (lessW t x i p0) = _ := gone_is ht.ds h1 h3 (by rw [h4, ← kidIx_idx]; exact h2)
      have hnew := find_rg _ _ _ hdl.1 (findW_at (y := z.setKids (z.kids.insertIdx j k)) hz rfl)
      have hle : j ≤ z.kids.length := by
        rw [behIx_beh] at hj
        have := behB_le hj
        simpa [labs] using this
      have hnn : k.label ∉ labs z.kids := by
        have h8 : (labs (z.kids.insertIdx j k)).Nodup := hnew.is.2.1
        rw [labs_insert] at h8
        exact (List.nodup_cons.1 ((List.perm_insertIdx k.label (labs z.kids) (by simpa [labs] using hle)).nodup_iff.1 h8)).1
      rw [behIx_beh] at hj
      have hX3 := more_is (s := o.at') hless.ds hz hj hnn
      unfold Dc Pre
      rw [hk, if_neg (by omega), if_neg (by omega), if_neg (by omega), if_neg (by omega), if_neg (by omega), if_pos rfl, if_neg (by omega), if_neg (by omega), if_neg (by omega), if_neg (by omega), if_neg (by omega), if_pos rfl, hp, (up_snoc p0 l).1, (up_snoc p0 l).2]
      refine ⟨?_, by simp, c1, c3, ⟨labs x.kids, X_some h1 .k, idxL_mem.1 ⟨i, by rw [← kidIx_idx]; exact h2⟩⟩, labs y.kids, X_some hy .k, by rw [← behIx_beh]; exact c2, c4⟩
      rw [hX3, hX2, h4]
      funext q c
      unfold dPut dMove
      have hkX : ∀ r c, X k r c = X t (p0 ++ l :: r) c := fun r c => by
        rw [X_app h1, X_kid, ← h4, kidOf_of (find_rg _ t x ht h1).is.2.1 (List.mem_of_getElem? h3)]
        rfl
      by_cases hq : (partsB o.new ++ [l]) <+: q
      · rw [if_pos hq, if_pos hq, hkX]
        obtain ⟨r, rfl⟩ := hq
        rw [List.drop_left, List.append_assoc, List.singleton_append]
        have e1 : p0 ++ l :: r ≠ partsB o.new := fun e => c1 (e ▸ (by rw [show p0 ++ l :: r = (p0 ++ [l]) ++ r by simp]; exact List.prefix_append _ _))
        have e2 : p0 ++ l :: r ≠ p0 := fun e => by have := congrArg List.length e; simp at this
        unfold dPart
        rw [if_neg (fun e => e1 e.1), if_neg (fun e => e2 e.1)]
      · rw [if_neg hq, if_neg hq]
        by_cases hq2 : (p0 ++ [l]) <+: q
        · rw [if_pos hq2]
          have e1 : q ≠ partsB o.new := fun e => c1 (e ▸ hq2)
          unfold dPart
          rw [if_neg (fun e => e1 e.1)]
          unfold dNone
          rw [if_pos hq2]
        · rw [if_neg hq2]
          unfold dPart dNone
          rw [if_neg hq2]
    · rename_i n9
      unfold oneC at h
      split at h
      · rename_i hk
        split at h
        · cases h
        · rename_i x hx
          split at h
          · cases h
          · rename_i y hy
            injection h with h
            subst h
            unfold Dc Pre
            by_cases k1 : o.kind = 1
            · rw [if_pos k1, if_pos k1]
              unfold textC at hy
              rw [k1, if_neg (by omega), if_neg (by omega), if_neg (by omega), if_neg (by omega)] at hy
              split at hy
              · rename_i hc
                injection hy with hy
                subst hy
                refine ⟨part_is (y := x.setHead o.text) hx rfl rfl rfl (fun c hc => ?_), ⟨[x.head], X_some hx .h⟩, hc⟩
                cases c with
                | h => exact absurd rfl hc
                | l => rfl
                | k => rfl
              · cases hy
            · have k2 : 2 ≤ o.kind ∧ o.kind ≤ 5 := by omega
              rw [if_neg k1, if_neg k1, if_pos k2, if_pos k2]
              obtain ⟨ls, e1, rfl⟩ := lines_ok k2.1 k2.2 hy
              refine ⟨part_is (y := x.setLines ls) hx rfl rfl ?_ (fun c hc => ?_), x.lines, ls, X_some hx .l, e1⟩
              · show ls = (linesO x.lines o).getD x.lines
                rw [e1]
                rfl
              · cases c with
                | h => rfl
                | l => exact absurd rfl hc
                | k => rfl
      · split at h
        · rename_i hk
          unfold repealC at h
          split at h
          · cases h
          · rename_i x i hx
            obtain ⟨p0, l, k, hp, h1, h2, h3, h4⟩ := ar_some hx
            injection h with h
            rw [hp, List.dropLast_concat] at h
            subst h
            unfold Dc Pre
            rw [hk, if_neg (by omega), if_neg (by omega), if_neg (by omega), if_pos rfl, if_neg (by omega), if_neg (by omega), if_neg (by omega), if_pos rfl, hp, (up_snoc p0 l).1, (up_snoc p0 l).2]
            refine ⟨?_, by simp, labs x.kids, X_some h1 .k, idxL_mem.1 ⟨i, by rw [← kidIx_idx]; exact h2⟩⟩
            have := gone_is ht.ds h1 h3 (by rw [h4, ← kidIx_idx]; exact h2)
            rw [h4] at this
            exact this
        · split at h
          · rename_i hk
            unfold labelC at h
            split at h
            · cases h
            · rename_i x i hx
              obtain ⟨p0, l, k, hp, h1, h2, h3, h4⟩ := ar_some hx
              split at h
              · cases h
              · rename_i hc
                injection h with h
                rw [hp, List.dropLast_concat, h3] at h
                have h5 : (some k).getD It.none = k := rfl
                rw [h5] at h
                subst h
                have hs : isLab o.text = true := by
                  cases hb : isLab o.text
                  · exact absurd (.inl hb) hc
                  · rfl
                unfold Dc Pre
                rw [hk, if_neg (by omega), if_neg (by omega), if_neg (by omega), if_neg (by omega), if_pos rfl, if_neg (by omega), if_neg (by omega), if_neg (by omega), if_neg (by omega), if_pos rfl, hp, (up_snoc p0 l).1, (up_snoc p0 l).2]
                refine ⟨?_, by simp, hs, labs x.kids, X_some h1 .k, idxL_mem.1 ⟨i, by rw [← kidIx_idx]; exact h2⟩, fun hm => ?_⟩
                · have := label_is (s := o.text) ht.ds h1 h3 (by rw [h4, ← kidIx_idx]; exact h2) (rel_nodup (find_rg _ t x ht h1).is.2.1 h3 (fun e => hc (.inr e)))
                  rw [h4] at this
                  exact this
                · obtain ⟨j, hj⟩ := idxL_mem.2 hm
                  have hij : j = i := by
                    by_cases e : j = i
                    · exact e
                    · exact absurd (.inr ⟨j, by rw [kidIx_idx]; exact hj, e⟩) hc
                  subst hij
                  have e1 := idxL_some hj
                  rw [kidIx_idx] at h2
                  rw [idxL_some h2] at e1
                  injection e1 with e1
                  exact e1.symm
          · cases h
theorem find_of {t : It} {q : List ByteArray} {c : Pt} {v : List ByteArray} (h : X t q c = some v) : ∃ x, findW t q = some x ∧ vw x c = v := by
  unfold X at h
  exact Option.map_eq_some_iff.1 h
theorem get_ne {l : List ByteArray} {i : Nat} {a s : ByteArray} (hm : a ∈ l) (hi : l[i]? = some s) (hne : a ≠ s) : a ∈ l.eraseIdx i := by
  obtain ⟨j, hj, e⟩ := List.getElem_of_mem hm
  rw [List.mem_eraseIdx_iff_getElem?]
  refine ⟨j, fun e2 => hne ?_, by rw [List.getElem?_eq_getElem hj, e]⟩
  subst e2
  rw [List.getElem?_eq_getElem hj] at hi
  injection hi with hi
  exact e.symm.trans hi
/-- What can be made. -/
theorem x_of_pre {t : It} {o : OpW} (ht : Rg t) (h : Pre o (X t)) : ∃ u, oneX t o = some u := by
  unfold Pre at h
  split at h
  · rename_i hk
    obtain ⟨⟨v, hv⟩, hc⟩ := h
    obtain ⟨x, hx, _⟩ := find_of hv
    refine ⟨setW (fun _ => x.setHead o.text) (partsB o.path) t, ?_⟩
    unfold oneX oneC
    rw [hk, if_neg (by omega), if_neg (by omega), if_pos (by omega), hx]
    show okO (match textC x o with | .bad c => .bad c | .ok y => .ok (setW (fun _ => y) (partsB o.path) t)) = _
    unfold textC
    rw [hk, if_neg (by omega), if_neg (by omega), if_neg (by omega), if_neg (by omega), if_pos hc]
    rfl
  · rename_i k1
    split at h
    · rename_i hk
      obtain ⟨ls, ls', hv, hl⟩ := h
      obtain ⟨x, hx, rfl⟩ := find_of hv
      refine ⟨setW (fun _ => x.setLines ls') (partsB o.path) t, ?_⟩
      unfold oneX oneC
      rw [if_neg (by omega), if_neg (by omega), if_pos (by omega), hx]
      show okO (match textC x o with | .bad c => .bad c | .ok y => .ok (setW (fun _ => y) (partsB o.path) t)) = _
      rw [lines_of hk.1 hk.2 hl]
      rfl
    · rename_i k2
      split at h
      · rename_i hk
        obtain ⟨ks, hv, hb, hn, hr, hl⟩ := h
        obtain ⟨x, hx, rfl⟩ := find_of hv
        have hb : behIx x.kids o.at' ≠ none := by rw [behIx_beh]; exact hb
        obtain ⟨i, hi⟩ := Option.ne_none_iff_exists'.1 hb
        have hput := put_of (t := t) (o := o) hx hi hn hr hl
        exact ⟨_, (show oneX t o = putX t o by unfold oneX; rw [if_pos hk]).trans hput⟩
      · rename_i k6
        split at h
        · rename_i hk
          obtain ⟨hp, ks, hv, hm⟩ := h
          obtain ⟨x, hx, rfl⟩ := find_of hv
          obtain ⟨i, hi⟩ := idxL_mem.2 hm
          have hi : kidIx x.kids (lastP (partsB o.path)) = some i := by rw [kidIx_idx]; exact hi
          refine ⟨setW (fun _ => x.setKids (x.kids.eraseIdx i)) (partsB o.path).dropLast t, ?_⟩
          unfold oneX oneC
          rw [hk, if_neg (by omega), if_neg (by omega), if_neg (by omega), if_neg (by omega), if_pos rfl]
          unfold repealC
          have := ar_of hx hi
          rw [← up_last hp] at this
          rw [this]
          rfl
        · rename_i k7
          split at h
          · rename_i hk
            obtain ⟨hp, hs, ks, hv, hm, ho⟩ := h
            obtain ⟨x, hx, rfl⟩ := find_of hv
            obtain ⟨i, hi⟩ := idxL_mem.2 hm
            have hi' : kidIx x.kids (lastP (partsB o.path)) = some i := by rw [kidIx_idx]; exact hi
            refine ⟨setW (fun _ => x.setKid i ((x.kids[i]?.getD It.none).setLabel o.text)) (partsB o.path).dropLast t, ?_⟩
            unfold oneX oneC
            rw [hk, if_neg (by omega), if_neg (by omega), if_neg (by omega), if_neg (by omega), if_neg (by omega), if_pos rfl]
            unfold labelC
            have := ar_of hx hi'
            rw [← up_last hp] at this
            rw [this]
            show okO (if isLab o.text = false ∨ (∃ j, kidIx x.kids o.text = some j ∧ j ≠ i) then .bad 7 else _) = _
            rw [if_neg]
            · rfl
            · rintro (hh | ⟨j, hj, hne⟩)
              · rw [hs] at hh; cases hh
              · rw [kidIx_idx] at hj
                have e := ho (idxL_mem.1 ⟨j, hj⟩)
                rw [e] at hj
                rw [show idxL (labs x.kids) (lastP (partsB o.path)) = some i from hi] at hj
                injection hj with hj
                exact hne hj.symm
          · rename_i k8
            split at h
            · rename_i hk
              obtain ⟨hp, c1, c3, ⟨ks, hv, hm⟩, ns, hv2, c2, c4⟩ := h
              obtain ⟨x, hx, rfl⟩ := find_of hv
              obtain ⟨y, hy, rfl⟩ := find_of hv2
              obtain ⟨i, hi⟩ := idxL_mem.2 hm
              have hi' : kidIx x.kids (lastP (partsB o.path)) = some i := by rw [kidIx_idx]; exact hi
              obtain ⟨k, hk3, hk4⟩ := ix_kid hi'
              have hX2 : X (lessW t x i (upP (partsB o.path))) = _ := gone_is ht.ds hx hk3 (by rw [hk4]; exact hi)
              have hXn : X (lessW t x i (upP (partsB o.path))) (partsB o.new) .k = some (if partsB o.new = upP (partsB o.path) then (labs x.kids).eraseIdx i else labs y.kids) := by
                rw [hX2]
                unfold dNone
                rw [hk4, ← up_last hp, if_neg c1]
                unfold dPart
                by_cases hq : partsB o.new = upP (partsB o.path)
                · rw [if_pos ⟨hq, rfl⟩, if_pos hq, hq, hv]
                  show some ((labs x.kids).eraseIdx ((idxL (labs x.kids) (lastP (partsB o.path))).getD 0)) = _
                  rw [show idxL (labs x.kids) (lastP (partsB o.path)) = some i from hi]
                  rfl
                · rw [if_neg (fun e => hq e.1), if_neg hq, hv2]
                  rfl
              obtain ⟨z, hz, hzk⟩ := find_of hXn
              have hzk : labs z.kids = _ := hzk
              have hbz : behIx z.kids o.at' ≠ none := by
                rw [behIx_beh, hzk]
                split
                · rename_i hq
                  rw [hq, hv] at hv2
                  injection hv2 with hv2
                  have hv2 : labs x.kids = labs y.kids := hv2
                  have c2 : behB (labs y.kids) o.at' ≠ none := c2
                  rw [← hv2] at c2
                  unfold behB at c2 ⊢
                  split
                  · simp
                  · rename_i hs
                    rw [if_neg hs] at c2
                    intro e
                    have e := Option.map_eq_none_iff.1 e
                    have hin : o.at' ∈ labs x.kids := by
                      refine Classical.byContradiction fun hn => c2 ?_
                      rw [idxL_none.2 hn]
                      rfl
                    exact idxL_none.1 e (get_ne hin (idxL_some hi) (fun e2 => c3 ⟨hq.symm, e2⟩))
                · exact c2
              obtain ⟨j, hj⟩ := Option.ne_none_iff_exists'.1 hbz
              have hmv := move_of (up_last hp) hx hi' hk3 hk4 hy (by rw [← up_last hp]; exact c1) (by rw [behIx_beh]; exact c2) c3 c4 hz hj
              exact ⟨_, (show oneX t o = moveX t o by unfold oneX; rw [if_neg k6, if_pos hk]).trans hmv⟩
            · exact h.elim
/-! Independent changes. -/
def Apt (a b : OpW) : Prop := ∀ q c, Tc a q c → Tc b q c → False
theorem apt_pre {t u : It} {a b : OpW} (ht : Rg t) (hab : Apt a b) (ha : oneX t a = some u) (hb : Pre b (X t)) : Pre b (X u) := by
  refine pre_on (fun q c hq => ?_) hb
  rw [(d_x ht ha).1, (loc_D a).out _ q c fun hh => hab q c hh hq]
theorem com_one {t u w : It} {a b : OpW} (ht : Rg t) (hab : Apt a b) (ha : oneX t a = some u) (hb : oneX t b = some w) : ∃ v, oneX u b = some v ∧ oneX w a = some v := by
  have hu := rg_x ht ha
  have hw := rg_x ht hb
  obtain ⟨v, hv⟩ := x_of_pre hu.1 (apt_pre ht hab ha (d_x ht hb).2)
  obtain ⟨v', hv'⟩ := x_of_pre hw.1 (apt_pre ht (fun q c h1 h2 => hab q c h2 h1) hb (d_x ht ha).2)
  have h1 := rg_x hu.1 hv
  have h2 := rg_x hw.1 hv'
  have e : v = v' := by
    refine ext_X _ v v' (Nat.le_refl _) h1.1.ds h2.1.ds (by rw [h1.2, h2.2, hu.2, hw.2]) fun q c => ?_
    rw [(d_x hu.1 hv).1, (d_x ht ha).1, (d_x hw.1 hv').1, (d_x ht hb).1, (loc_D a).commute (loc_D b) hab]
  exact ⟨v, hv, e ▸ hv'⟩
noncomputable def allX : It → List OpW → Option It
  | t, [] => some t
  | t, o :: r => (oneX t o).bind (allX · r)
theorem all_cons {t u : It} {o : OpW} {r : List OpW} (h : allX t (o :: r) = some u) : ∃ x, oneX t o = some x ∧ allX x r = some u := by
  rw [allX] at h
  exact Option.bind_eq_some_iff.1 h
theorem all_of {t x : It} {o : OpW} {r : List OpW} (h : oneX t o = some x) : allX t (o :: r) = allX x r := by rw [allX, h]; rfl
theorem rg_all : ∀ (r : List OpW) (t u : It), Rg t → allX t r = some u → Rg u ∧ u.label = t.label
  | [], t, u, h, e => by rw [allX] at e; injection e with e; exact e ▸ ⟨h, rfl⟩
  | o :: r, t, u, h, e => by
    obtain ⟨x, h1, h2⟩ := all_cons e
    have h3 := rg_x h h1
    have h4 := rg_all r x u h3.1 h2
    exact ⟨h4.1, h4.2.trans h3.2⟩
theorem com_ol {a : OpW} : ∀ (b : List OpW) (t u w : It), Rg t → (∀ o, o ∈ b → Apt a o) → oneX t a = some u → allX t b = some w → ∃ v, allX u b = some v ∧ oneX w a = some v
  | [], t, u, w, _, _, h1, h2 => by
    rw [allX] at h2
    injection h2 with h2
    subst h2
    exact ⟨u, rfl, h1⟩
  | o :: r, t, u, w, ht, hd, h1, h2 => by
    obtain ⟨x, h3, h4⟩ := all_cons h2
    obtain ⟨v, h5, h6⟩ := com_one ht (hd o (by simp)) h1 h3
    obtain ⟨v', h7, h8⟩ := com_ol r x v w (rg_x ht h3).1 (fun o ho => hd o (by simp [ho])) h6 h4
    exact ⟨v', by rw [all_of h5]; exact h7, h8⟩
theorem com_ll : ∀ (a b : List OpW) (t u w : It), Rg t → (∀ x, x ∈ a → ∀ y, y ∈ b → Apt x y) → allX t a = some u → allX t b = some w → ∃ v, allX u b = some v ∧ allX w a = some v
  | [], b, t, u, w, _, _, h1, h2 => by
    rw [allX] at h1
    injection h1 with h1
    subst h1
    exact ⟨w, h2, rfl⟩
  | o :: r, b, t, u, w, ht, hd, h1, h2 => by
    obtain ⟨x, h3, h4⟩ := all_cons h1
    obtain ⟨v, h5, h6⟩ := com_ol b t x w ht (hd o (by simp)) h3 h2
    obtain ⟨v', h7, h8⟩ := com_ll r b x u v (rg_x ht h3).1 (fun x hx => hd x (by simp [hx])) h4 h5
    exact ⟨v', h7, by rw [all_of h6]; exact h8⟩
theorem x_all : ∀ (ops : List OpW) (i : Nat) (t u : It), allC i t ops = .ok u → allX t ops = some u
  | [], i, t, u, h => by rw [allC] at h; injection h with h; rw [allX, h]
  | o :: r, i, t, u, h => by
    rw [allC] at h
    cases hc : oneC t o with
    | bad c => rw [hc] at h; cases h
    | ok x =>
      rw [hc] at h
      rw [all_of (x_of_c hc)]
      exact x_all r (i + 1) x u h
theorem c_all : ∀ (ops : List OpW) (i : Nat) (t u : It), Rg t → t.label.size = 0 → allX t ops = some u → allC i t ops = .ok u ∨ ∃ j, allC i t ops = .bad j 2
  | [], i, t, u, _, _, h => by rw [allX] at h; injection h with h; rw [allC, h]; exact .inl rfl
  | o :: r, i, t, u, ht, hl, h => by
    obtain ⟨x, h1, h2⟩ := all_cons h
    have h3 := rg_x ht h1
    rw [allC]
    rcases c_of_x ht hl h1 with e | e
    · rw [e]
      exact c_all r (i + 1) x u h3.1 (by rw [h3.2]; exact hl) h2
    · rw [e]
      exact .inr ⟨i, rfl⟩
/-- INDEPENDENT CHANGES COMMUTE, but for bounds. -/
theorem commutes {t u w : It} {a b : List OpW} (h : Law t) (hd : ∀ x, x ∈ a → ∀ y, y ∈ b → Apt x y) (ha : allC 0 t a = .ok u) (hb : allC 0 t b = .ok w) : ((∃ j, allC 0 u b = .bad j 2) ∨ ∃ j, allC 0 w a = .bad j 2) ∨ ∃ v, allC 0 u b = .ok v ∧ allC 0 w a = .ok v := by
  have ht := h.1.rg
  have hlab : t.label.size = 0 := by
    have := h.1.is.1.2.2.1
    rw [if_pos rfl] at this
    exact of_decide_eq_true this
  have hu := rg_all a t u ht (x_all a 0 t u ha)
  have hw := rg_all b t w ht (x_all b 0 t w hb)
  obtain ⟨v, h1, h2⟩ := com_ll a b t u w ht hd (x_all a 0 t u ha) (x_all b 0 t w hb)
  rcases c_all b 0 u v hu.1 (by rw [hu.2]; exact hlab) h1 with e1 | e1
  · rcases c_all a 0 w v hw.1 (by rw [hw.2]; exact hlab) h2 with e2 | e2
    · exact .inr ⟨v, e1, e2⟩
    · exact .inl (.inr e2)
  · exact .inl (.inl e1)
end Go.Proofs.YtpbolcjcmkmalaaGreatDoor
namespace Go.Proofs.YtpbolcjcmkmalaaGreatDoor
open Go.RowKit Go.Extern.Stop Go.Stop Go.Extern

/-- Labels, one behind another. -/
def jnB : List ByteArray → List UInt8
  | [] => []
  | x :: r => bl x ++ r.flatMap (fun y => 47 :: bl y)
theorem jnB_app {P : List ByteArray} (h : P ≠ []) (R : List ByteArray) : jnB (P ++ R) = jnB P ++ R.flatMap (fun y => 47 :: bl y) := by
  cases P with
  | nil => exact absurd rfl h
  | cons x r => show bl x ++ (r ++ R).flatMap _ = (bl x ++ r.flatMap _) ++ _; rw [List.flatMap_append, List.append_assoc]
theorem jnB_spls : ∀ l : List UInt8, jnB ((spls l).map ofL) = l
  | [] => by
    show jnB [ofL []] = []
    show bl (ofL []) ++ [] = []
    rw [bl_ofL]; rfl
  | c :: r => by
    obtain ⟨g, t, e⟩ : ∃ g t, spls r = g :: t := by
      cases h : spls r with
      | nil => exact absurd h (spls_ne r)
      | cons g t => exact ⟨g, t, rfl⟩
    have ih := jnB_spls r
    rw [e] at ih
    have ih : bl (ofL g) ++ (t.map ofL).flatMap (fun y => 47 :: bl y) = r := ih
    rw [bl_ofL] at ih
    by_cases hc : c = 47
    · subst hc
      rw [spls_47, e]
      show bl (ofL []) ++ ((47 :: bl (ofL g)) ++ (t.map ofL).flatMap (fun y => 47 :: bl y)) = _
      rw [bl_ofL, bl_ofL, List.nil_append, List.cons_append, ih]
    · rw [spls_c hc e]
      show bl (ofL (c :: g)) ++ (t.map ofL).flatMap (fun y => 47 :: bl y) = _
      rw [bl_ofL, List.cons_append, ih]
theorem spls_no : ∀ l : List UInt8, 47 ∉ l → spls l = [l]
  | [], _ => rfl
  | c :: r, h => by
    rw [List.mem_cons, not_or] at h
    exact spls_c (fun e => h.1 e.symm) (spls_no r h.2)
theorem spls_at : ∀ (a b : List UInt8), 47 ∉ b → spls (a ++ 47 :: b) = spls a ++ [b]
  | [], b, h => by rw [List.nil_append, spls_47, spls_no b h]; rfl
  | c :: r, b, h => by
    by_cases hc : c = 47
    · subst hc
      rw [List.cons_append, spls_47, spls_47, spls_at r b h]; rfl
    · obtain ⟨g, t, e⟩ : ∃ g t, spls r = g :: t := by
        cases h : spls r with
        | nil => exact absurd h (spls_ne r)
        | cons g t => exact ⟨g, t, rfl⟩
      rw [List.cons_append, spls_c hc (g := g) (t := t ++ [b]) (by rw [spls_at r b h, e]; rfl), spls_c hc e]; rfl
theorem parts_jn (s : ByteArray) : ofL (jnB (partsB s)) = s := by
  unfold partsB
  split
  · rename_i h
    refine bl_inj ?_
    rw [bl_ofL]
    exact (List.eq_nil_of_length_eq_zero (by rw [size_bl]; exact h)).symm
  · rw [jnB_spls, ofL_bl]
/-- The path around a path, and its last label, as texts. -/
def outB (s : ByteArray) : ByteArray := ofL (jnB (upP (partsB s)))
def labB (s : ByteArray) : ByteArray := lastP (partsB s)
theorem out_no {s : ByteArray} (h : 47 ∉ bl s) : outB s = ofL [] ∧ labB s = s := by
  unfold outB labB partsB
  split
  · rename_i h0
    refine ⟨rfl, ?_⟩
    refine bl_inj ?_
    show [] = _
    exact (List.eq_nil_of_length_eq_zero (by rw [size_bl]; exact h0)).symm
  · rw [spls_no _ h, List.map_cons, List.map_nil, ofL_bl]
    exact ⟨rfl, rfl⟩
theorem out_at {s : ByteArray} {a b : List UInt8} (e : bl s = a ++ 47 :: b) (h : 47 ∉ b) : outB s = ofL a ∧ labB s = ofL b := by
  have h0 : ¬ s.size = 0 := fun h0 => by
    have := congrArg List.length e
    rw [size_bl, h0] at this
    simp at this
  unfold outB labB partsB
  rw [if_neg h0, e, spls_at a b h, List.map_append, List.map_cons, List.map_nil, (up_snoc _ _).1, (up_snoc _ _).2, jnB_spls]
  exact ⟨rfl, rfl⟩
/-- The path of a kid. -/
def joinP (p l : ByteArray) : ByteArray := if p.size = 0 then l else p ++ ofL [47] ++ l
theorem join_jn {P : List ByteArray} (h : P ≠ [ofL []]) (l : ByteArray) : joinP (ofL (jnB P)) l = ofL (jnB (P ++ [l])) := by
  unfold joinP
  cases P with
  | nil =>
    rw [if_pos (by rw [← size_bl, bl_ofL]; rfl)]
    show l = ofL (bl l ++ [])
    rw [List.append_nil, ofL_bl]
  | cons x r =>
    rw [if_neg ?_]
    · refine bl_inj ?_
      have ha : ∀ a b : ByteArray, bl (a ++ b) = bl a ++ bl b := fun a b => by simp [bl]
      rw [ha, ha, bl_ofL, bl_ofL, bl_ofL, jnB_app (by simp), List.append_assoc]
      simp
    · intro h0
      rw [← size_bl, bl_ofL] at h0
      have h0 : (bl x ++ r.flatMap (fun y => 47 :: bl y)).length = 0 := h0
      rw [List.length_append] at h0
      have h1 : bl x = [] := List.eq_nil_of_length_eq_zero (by omega)
      have h2 : r.flatMap (fun y => 47 :: bl y) = [] := List.eq_nil_of_length_eq_zero (by omega)
      refine h ?_
      cases r with
      | cons y r => rw [List.flatMap_cons, List.cons_append] at h2; cases h2
      | nil => rw [show x = ofL [] from bl_inj (by rw [h1, bl_ofL])]
theorem up_parts (s : ByteArray) (h : partsB s = [ofL []]) : s.size = 0 := by
  have := parts_jn s
  rw [h] at this
  rw [← this, ← size_bl, bl_ofL]
  show (bl (ofL []) ++ []).length = 0
  rw [bl_ofL]; rfl
theorem parts_not (s : ByteArray) : partsB s ≠ [ofL []] := fun h => by
  have h0 := up_parts s h
  unfold partsB at h
  rw [if_pos h0] at h
  cases h
/-- What a change touches: which part, and where, as texts and as labels. -/
def tgB (o : OpW) : List (Int × ByteArray) :=
  if o.kind = 1 then [(0, o.path)]
  else if 2 ≤ o.kind ∧ o.kind ≤ 5 then [(1, o.path)]
  else if o.kind = 6 then [(2, o.path), (3, joinP o.path o.item.label)]
  else if o.kind = 7 then [(2, outB o.path), (3, o.path)]
  else if o.kind = 8 then [(2, outB o.path), (3, o.path), (3, joinP (outB o.path) o.text)]
  else if o.kind = 9 then [(2, outB o.path), (3, o.path), (2, o.new), (3, joinP o.new (labB o.path))]
  else []
def tgL (o : OpW) : List (Int × List ByteArray) :=
  if o.kind = 1 then [(0, partsB o.path)]
  else if 2 ≤ o.kind ∧ o.kind ≤ 5 then [(1, partsB o.path)]
  else if o.kind = 6 then [(2, partsB o.path), (3, partsB o.path ++ [o.item.label])]
  else if o.kind = 7 then [(2, upP (partsB o.path)), (3, partsB o.path)]
  else if o.kind = 8 then [(2, upP (partsB o.path)), (3, partsB o.path), (3, upP (partsB o.path) ++ [o.text])]
  else if o.kind = 9 then [(2, upP (partsB o.path)), (3, partsB o.path), (2, partsB o.new), (3, partsB o.new ++ [lastP (partsB o.path)])]
  else []
def ptOf (n : Int) : Pt := if n = 0 then .h else if n = 1 then .l else .k
def Cov (x : Int × List ByteArray) (q : List ByteArray) (c : Pt) : Prop := (x.1 = 3 ∧ x.2 <+: q) ∨ (0 ≤ x.1 ∧ x.1 < 3 ∧ q = x.2 ∧ c = ptOf x.1)
theorem tc_cov {o : OpW} {q : List ByteArray} {c : Pt} (h : Tc o q c) : ∃ x, x ∈ tgL o ∧ Cov x q c := by
  unfold Tc at h
  unfold tgL
  split at h
  · rename_i k
    rw [if_pos k]
    exact ⟨(0, partsB o.path), by simp, .inr ⟨by simp, by simp, h.1, h.2⟩⟩
  rename_i k1
  rw [if_neg k1]
  split at h
  · rename_i k
    rw [if_pos k]
    exact ⟨(1, partsB o.path), by simp, .inr ⟨by simp, by simp, h.1, h.2⟩⟩
  rename_i k2
  rw [if_neg k2]
  split at h
  · rename_i k
    rw [if_pos k]
    rcases h with h | h
    · exact ⟨(2, partsB o.path), by simp, .inr ⟨by simp, by simp, h.1, h.2⟩⟩
    · exact ⟨(3, partsB o.path ++ [o.item.label]), by simp, .inl ⟨rfl, h⟩⟩
  rename_i k6
  rw [if_neg k6]
  split at h
  · rename_i k
    rw [if_pos k]
    rcases h with h | h
    · exact ⟨(2, upP (partsB o.path)), by simp, .inr ⟨by simp, by simp, h.1, h.2⟩⟩
    · exact ⟨(3, partsB o.path), by simp, .inl ⟨rfl, h⟩⟩
  rename_i k7
  rw [if_neg k7]
  split at h
  · rename_i k
    rw [if_pos k]
    rcases h with h | h | h
    · exact ⟨(2, upP (partsB o.path)), by simp, .inr ⟨by simp, by simp, h.1, h.2⟩⟩
    · exact ⟨(3, partsB o.path), by simp, .inl ⟨rfl, h⟩⟩
    · exact ⟨(3, upP (partsB o.path) ++ [o.text]), by simp, .inl ⟨rfl, h⟩⟩
  rename_i k8
  rw [if_neg k8]
  split at h
  · rename_i k
    rw [if_pos k]
    rcases h with h | h | h | h
    · exact ⟨(2, upP (partsB o.path)), by simp, .inr ⟨by simp, by simp, h.1, h.2⟩⟩
    · exact ⟨(3, partsB o.path), by simp, .inl ⟨rfl, h⟩⟩
    · exact ⟨(2, partsB o.new), by simp, .inr ⟨by simp, by simp, h.1, h.2⟩⟩
    · exact ⟨(3, partsB o.new ++ [lastP (partsB o.path)]), by simp, .inl ⟨rfl, h⟩⟩
  · exact h.elim
/-- A change whose texts are its labels. -/
def Fin8 (o : OpW) : Prop := o.kind = 8 → upP (partsB o.path) ≠ [ofL []]
theorem tg_text {o : OpW} (h : Fin8 o) : tgB o = (tgL o).map fun x => (x.1, ofL (jnB x.2)) := by
  unfold tgB tgL
  split
  · simp only [List.map_cons, List.map_nil, parts_jn]
  split
  · simp only [List.map_cons, List.map_nil, parts_jn]
  split
  · simp only [List.map_cons, List.map_nil, parts_jn]
    rw [← join_jn (parts_not _), parts_jn]
  split
  · simp only [List.map_cons, List.map_nil, parts_jn]
    rfl
  split
  · rename_i k
    simp only [List.map_cons, List.map_nil, parts_jn]
    rw [← join_jn (h k)]
    rfl
  split
  · simp only [List.map_cons, List.map_nil, parts_jn]
    rw [← join_jn (parts_not _), parts_jn]
    rfl
  · rfl
/-- A thing is all at a path, and another one is there, too, or in it. -/
def HoB (x y : Int × ByteArray) : Prop := x.1 = 3 ∧ ∃ r, bl y.2 = bl x.2 ++ r ∧ (x.2.size = 0 ∨ r = [] ∨ r.head? = some 47)
def MeB (x y : Int × ByteArray) : Prop := x = y ∨ HoB x y ∨ HoB y x
theorem pre_text {P Q : List ByteArray} (h : P <+: Q) (n : Int) : HoB (3, ofL (jnB P)) (n, ofL (jnB Q)) := by
  obtain ⟨R, rfl⟩ := h
  refine ⟨rfl, ?_⟩
  show ∃ r, bl (ofL (jnB (P ++ R))) = bl (ofL (jnB P)) ++ r ∧ ((ofL (jnB P)).size = 0 ∨ r = [] ∨ r.head? = some 47)
  rw [bl_ofL, bl_ofL]
  by_cases hP : P = []
  · subst hP
    exact ⟨jnB R, rfl, .inl (by rw [← size_bl, bl_ofL]; rfl)⟩
  · refine ⟨_, jnB_app hP R, .inr ?_⟩
    cases R with
    | nil => exact .inl rfl
    | cons y r => exact .inr rfl
theorem pt_inj {m n : Int} (h0 : 0 ≤ m) (h1 : m < 3) (h2 : 0 ≤ n) (h3 : n < 3) (e : ptOf m = ptOf n) : m = n := by
  have hm : m = 0 ∨ m = 1 ∨ m = 2 := by omega
  have hn : n = 0 ∨ n = 1 ∨ n = 2 := by omega
  rcases hm with rfl | rfl | rfl <;> rcases hn with rfl | rfl | rfl <;> first | rfl | cases e
theorem cov_meet {x y : Int × List ByteArray} {q : List ByteArray} {c : Pt} (hx : Cov x q c) (hy : Cov y q c) : MeB (x.1, ofL (jnB x.2)) (y.1, ofL (jnB y.2)) := by
  obtain ⟨m, P⟩ := x
  obtain ⟨n, Q⟩ := y
  rcases hx with ⟨h1, h2⟩ | ⟨h1, h2, h3, h4⟩ <;> rcases hy with ⟨k1, k2⟩ | ⟨k1, k2, k3, k4⟩
  · have h1 : m = 3 := h1
    have k1 : n = 3 := k1
    subst h1 k1
    rcases List.prefix_or_prefix_of_prefix h2 k2 with h | h
    · exact .inr (.inl (pre_text h _))
    · exact .inr (.inr (pre_text h _))
  · have h1 : m = 3 := h1
    subst h1
    have k3 : q = Q := k3
    subst k3
    exact .inr (.inl (pre_text h2 _))
  · have k1 : n = 3 := k1
    subst k1
    have h3 : q = P := h3
    subst h3
    exact .inr (.inr (pre_text k2 _))
  · have h3 : q = P := h3
    have k3 : q = Q := k3
    subst h3 k3
    have e : m = n := pt_inj h1 h2 k1 k2 (h4.symm.trans k4)
    subst e
    exact .inl rfl
theorem apt_of {a b : OpW} (ha : Fin8 a) (hb : Fin8 b) (h : ∀ x, x ∈ tgB a → ∀ y, y ∈ tgB b → ¬ MeB x y) : Apt a b := by
  intro q c h1 h2
  obtain ⟨x, hx, cx⟩ := tc_cov h1
  obtain ⟨y, hy, cy⟩ := tc_cov h2
  refine h _ ?_ _ ?_ (cov_meet cx cy)
  · rw [tg_text ha]; exact List.mem_map.2 ⟨x, hx, rfl⟩
  · rw [tg_text hb]; exact List.mem_map.2 ⟨y, hy, rfl⟩
theorem fin_one {t u : It} {o : OpW} (h : Law t) (e : oneC t o = .ok u) : Fin8 o := by
  intro k
  unfold oneC at e
  rw [if_neg (by omega), if_neg (by omega), if_neg (by omega), if_pos k] at e
  unfold labelC at e
  split at e
  · cases e
  rename_i x i hx
  obtain ⟨p0, l, y, hp, h1, h2, h3, h4⟩ := ar_some hx
  rw [hp, (up_snoc p0 l).1]
  intro hp0
  rw [hp0, findW_kid] at h1
  cases hk : kidOf t.kids (ofL []) with
  | none => rw [hk] at h1; cases h1
  | some z =>
    obtain ⟨z1, z2⟩ := kidOf_some hk
    have := h.1.rg.is.2.2.1 z z1
    rw [z2] at this
    obtain ⟨k, l, hL⟩ : ∃ k l, Lab (ofL []) k l := by unfold isLab at this; exact @of_decide_eq_true _ (Classical.propDecidable _) this
    have h5 := hL.k1
    have h6 := hL.ks
    have h7 : (ofL []).size = 0 := rfl
    omega
theorem fin_all : ∀ (ops : List OpW) (i : Nat) (t u : It), Law t → allC i t ops = .ok u → ∀ o, o ∈ ops → Fin8 o
  | [], _, _, _, _, _, o, ho => by cases ho
  | p :: r, i, t, u, h, e, o, ho => by
    rw [allC] at e
    cases e1 : oneC t p with
    | bad c => rw [e1] at e; cases e
    | ok v =>
      rw [e1] at e
      rcases List.mem_cons.1 ho with h1 | h1
      · subst h1; exact fin_one h e1
      · exact fin_all r (i + 1) v u (law_one h e1) e o h1
/-- INDEPENDENT CHANGES COMMUTE, but for bounds. -/
theorem commutes_text {t u w : It} {a b : List OpW} (h : Law t) (hd : ∀ x, x ∈ a.flatMap tgB → ∀ y, y ∈ b.flatMap tgB → ¬ MeB x y) (ha : allC 0 t a = .ok u) (hb : allC 0 t b = .ok w) : ((∃ j, allC 0 u b = .bad j 2) ∨ ∃ j, allC 0 w a = .bad j 2) ∨ ∃ v, allC 0 u b = .ok v ∧ allC 0 w a = .ok v := by
  refine commutes h (fun x hx y hy => ?_) ha hb
  refine apt_of (fin_all a 0 t u h ha x hx) (fin_all b 0 t w h hb y hy) fun p hp q hq => ?_
  exact hd p (List.mem_flatMap.2 ⟨x, hx, hp⟩) q (List.mem_flatMap.2 ⟨y, hy, hq⟩)
end Go.Proofs.YtpbolcjcmkmalaaGreatDoor
namespace Go.Proofs.YtpbolcjcmkmalaaGreatDoor
open Go.RowKit Go.Extern.Stop Go.Stop Go.Extern

abbrev Thg := Int × ByteArray
def thC : List Thg → List Value
  | [] => []
  | x :: l => .int .i64 x.1 :: .string x.2 :: thC l
theorem thC_len : ∀ l : List Thg, (thC l).length = l.length * 2
  | [] => rfl
  | x :: l => by rw [thC, List.length_cons, List.length_cons, thC_len l, List.length_cons]; omega
theorem thC_app : ∀ (a b : List Thg), thC (a ++ b) = thC a ++ thC b
  | [], b => rfl
  | x :: a, b => by rw [List.cons_append, thC, thC, thC_app a b]; rfl
theorem thC_get : ∀ (l : List Thg) (i : Nat) (x : Thg), l[i]? = some x → (thC l)[i * 2]? = some (.int .i64 x.1) ∧ (thC l)[i * 2 + 1]? = some (.string x.2)
  | a :: l, 0, x, h => by
    obtain rfl : a = x := by simpa using h
    exact ⟨rfl, rfl⟩
  | a :: l, i + 1, x, h => by
    have := thC_get l i x (by simpa using h)
    rw [thC, show (i + 1) * 2 = i * 2 + 1 + 1 by omega]
    simpa using this
theorem thC_one : ∀ (l : List Thg) (u : Value), u ∈ thC l → u.oneCell' = true
  | [], u, h => by cases h
  | x :: l, u, h => by
    rw [thC, List.mem_cons, List.mem_cons] at h
    rcases h with rfl | rfl | h
    · rfl
    · rfl
    · exact thC_one l u h
theorem alloc_cellT (W : World) (cs : List Value) (T j : Nat) (u : Value) (h : cs[j]? = some u) : (W.alloc (.cells cs.toArray T)).cell? ((⟨W.heap.size, 0, none⟩ : Addr).add j) = some u := by
  have h6 : (⟨W.heap.size, 0, none⟩ : Addr).add j = ⟨W.heap.size, j, none⟩ := by
    unfold Addr.add
    split
    · rename_i h0
      rw [h0]
    · simp
  rw [h6, cell_of_row _ _ j cs.toArray T (0, 0) (Go.Deep.blk_alloc_new W _)]
  simpa using h
/-- Things in a row of the call's own. -/
structure TRow (w : World) (B : Nat) (v : Value) (l : List Thg) : Prop where
  row : w.ownsRow B 61 2 v l.length (thC l)
  len : l.length ≤ 100000000
theorem TRow.nil (w : World) (B : Nat) : TRow w B (.slice none 0 0) [] := ⟨World.ownsRow_nil w B _ _, by simp⟩
theorem TRow.any {w : World} {B : Nat} {v : Value} {l : List Thg} (h : TRow w B v l) : ∃ a c, v = .slice a l.length c := by
  rcases h.row.2 with ⟨rfl, e⟩ | ⟨g, cap, cur, rfl, _⟩
  · exact ⟨_, _, by rw [e]⟩
  · exact ⟨_, _, rfl⟩
theorem TRow.on {w w' : World} {B : Nat} {v : Value} {l : List Thg} (h : TRow w B v l) (hk : ∀ g, v.ownBlock = some g → B ≤ g → g < w.heap.size → w'.heap[g]? = w.heap[g]?) : TRow w' B v l := by
  refine ⟨⟨h.row.1, ?_⟩, h.len⟩
  rcases h.row.2 with hn | ⟨g, cap, cur, rfl, hb, hgg, rest⟩
  · exact .inl hn
  · exact .inr ⟨g, cap, cur, rfl, hb, (hk g rfl hb (Array.getElem?_eq_some_iff.1 hgg).1).trans hgg, rest⟩
theorem TRow.below {w w' : World} {B : Nat} {v : Value} {l : List Thg} (h : TRow w B v l) (hb : Below w.heap.size w w') : TRow w' B v l := h.on fun g _ _ hl => hb.block g hl
theorem TRow.mono {w : World} {B B' : Nat} {v : Value} {l : List Thg} (h : TRow w B v l) (hB : B' ≤ B) : TRow w B' v l := by
  refine ⟨⟨h.row.1, ?_⟩, h.len⟩
  rcases h.row.2 with hn | ⟨g, cap, cur, rfl, hb, rest⟩
  · exact .inl hn
  · exact .inr ⟨g, cap, cur, rfl, by omega, rest⟩
theorem Tryz.infoThg : ∃ i z, Tryz.prog.info? 61 = some i ∧ i.zero = some z ∧ i.size = 2 ∧ i.bytes = 24 ∧ z.cells.size = 2 := by
  have h : (Tryz.prog.info? 61).map (fun i => (i.zero, i.size, i.bytes)) = some (some (.agg #[.int .i64 0, .string ⟨#[]⟩]), 2, 24) := by kernel_rfl
  obtain ⟨i, h1, h2⟩ := Option.map_eq_some_iff.1 h
  simp only [Prod.mk.injEq] at h2
  exact ⟨i, _, h1, h2.1, h2.2.1, h2.2.2, rfl⟩
/-- A slice whose things can be read, wherever it lies. -/
def TRd (w : World) (v : Value) (l : List Thg) : Prop := ∃ a c, v = .slice a l.length c ∧ (a = none → l = [] ∧ c = 0) ∧ ∀ b, a = some b → ∀ j u, (thC l)[j]? = some u → w.cell? (b.add j) = some u
theorem TRow.rd {w : World} {B : Nat} {v : Value} {l : List Thg} (h : TRow w B v l) : TRd w v l := by
  have h0 := h.row
  rcases h.row.2 with ⟨rfl, e⟩ | ⟨g, cap, cur, rfl, _⟩
  · exact ⟨none, 0, by rw [e], fun _ => ⟨List.eq_nil_of_length_eq_zero e, rfl⟩, fun b e => by cases e⟩
  · refine ⟨_, _, rfl, (fun e => nomatch e), fun b e => ?_⟩
    injection e with e
    subst e
    exact World.ownsRow.cells h0 (g := g) rfl
theorem TRd.nil (w : World) : TRd w (.slice none 0 0) [] := ⟨none, 0, rfl, fun _ => ⟨rfl, rfl⟩, fun b e => by cases e⟩
/-- Things that have just been laid. -/
theorem TRd.lit (W : World) (l : List Thg) (T : Nat) : TRd (W.alloc (.cells (thC l).toArray T)) (.slice (some ⟨W.heap.size, 0, none⟩) l.length l.length) l :=
  ⟨_, _, rfl, (fun e => by cases e), fun b e j u hj => by
    injection e with e
    subst e
    exact alloc_cellT W (thC l) T j u hj⟩
/-- What appending things answers. -/
theorem run_append_thg (w : World) (B : Nat) (ty : TypeId) {v x : Value} {l m : List Thg} (h : TRow w B v l) (hm : TRd w x m) (hl : l.length + m.length ≤ 100000000) (hB : B ≤ w.heap.size) :
    ∃ v' w', (Builtin.append_ #[58, 58] ty #[v, x]).run Tryz.prog w = .ok v' w' ∧ TRow w' B v' (l ++ m) ∧ w.grownBy w' v.ownBlock := by
  obtain ⟨i, z, h1, h2, h3, h4, h5⟩ := Tryz.infoThg
  obtain ⟨a, c, rfl, hc, hx⟩ := hm
  cases a with
  | none =>
    obtain ⟨hm0, hc0⟩ := hc rfl
    subst hm0 hc0
    have hr := run_append_owned_none (P := Tryz.prog) (w := w) B 58 ty 61 i 2 Tryz.underlying58 h1 v l.length _ h.row
    exact ⟨v, w, hr, by rw [List.append_nil]; exact h, ⟨rfl, rfl, rfl, Nat.le_refl _, fun _ _ _ => rfl⟩⟩
  | some b =>
    obtain ⟨v', w', hr, q2, q3, q4⟩ := run_append_own (P := Tryz.prog) w B 58 ty 61 i z 2 24 Tryz.underlying58 h1 h2 h3 h4 h5 (by omega) v l.length (thC l) h.row b m.length c (thC m) (thC_len m) (hx b rfl) (thC_one m) (by simp only [maxLen]; omega) (by omega) hB
    refine ⟨v', w', hr, ⟨?_, by rw [List.length_append]; exact hl⟩, q3⟩
    rw [List.length_append, thC_app]
    exact q2
/-- Things of another row, behind the others. -/
theorem wpList_app_thg {W : World} {ops : Array Oper} {rest : List Oper} {o : Oper} {a : Act} {Q : Exit → Act → World → Prop} (hgd : o.guard = none) (s x : Operand)
    (ho : o.op = .call { callee := .builtin .append, args := #[s, x], argTypes := #[58, 58] }) (B : Nat) (v u : Value) (l m : List Thg) (hs : a.eval s = v) (hown : TRow W B v l)
    (hx : a.eval x = u) (hm : TRd W u m) (hB : B ≤ W.heap.size) (hl : l.length + m.length ≤ 100000000)
    (h : ∀ v' w', TRow w' B v' (l ++ m) → Below B W w' → wpList Tryz.prog ops Q rest (a.put o.dst v') w') : wpList Tryz.prog ops Q (o :: rest) a W := by
  obtain ⟨v', w', hr, h2, h3⟩ := run_append_thg W B o.type hown hm hl hB
  refine wpList_plain hgd fun _ hK => ?_
  unfold Oper.wp execOp
  simp only [ho, resolve, invoke, builtin, Sem.run_bind, Sem.run_pure, Result.andThen_ok, List.map_toArray, List.map_cons, List.map_nil, hs, hx, hr]
  exact hK _ _ (h v' w' h2 ((Below.refl B W).grown h3 hB (fun k hk => (hown.row.lt k hk).1)))
end Go.Proofs.YtpbolcjcmkmalaaGreatDoor

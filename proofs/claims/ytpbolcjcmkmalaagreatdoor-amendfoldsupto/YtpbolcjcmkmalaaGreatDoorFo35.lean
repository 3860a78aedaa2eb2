/-
  The reference: SameItems of two laws that are one; KidOf.
-/
import Derived.Test.YtpbolcjcmkmalaaGreatDoorFo12
import Derived.BigQuiet
import Derived.Deep.QuietTactic
import Derived.Deep.RegionHeld3
import Derived.Test.YtpbolcjcmkmalaaGreatDoorFo34
import Derived.Deep.DeepCutAuto
import Derived.Test.YtpbolcjcmkmalaaGreatDoorFo11
import Derived.SevenTiedAt
namespace Go.Proofs.YtpbolcjcmkmalaaGreatDoor
open Go.RowKit Go.Extern.Stop Go.Stop Go.Extern

theorem Lies.linesAt {w : World} {P : Nat → Prop} {v : Nat → Value} {t : It} (h : Lies w P v t) {la : Option Addr} {n lc : Nat} (e : v 2 = .slice la n lc) : n = t.lines.length ∧ ∀ i s, t.lines[i]? = some s → ∃ b o, la = some ⟨b, o, none⟩ ∧ P b ∧ w.cell? ⟨b, o + i, none⟩ = some (.string s) := by
  cases h with
  | mk v t la' ka lc' kc V h0 h1 h2 h3 hl hk hr hlc hkc =>
    rw [h2] at e
    injection e with e1 e2 e3
    subst e1 e2 e3
    exact ⟨rfl, hl⟩
/-- How many items a law has at most at each place. -/
inductive SmallIt : It → Prop
  | mk (t : It) (h1 : t.lines.length ≤ 100000) (h2 : t.kids.length ≤ 100000) (h3 : ∀ k ∈ t.kids, SmallIt k) : SmallIt t
def aggOf (v : Nat → Value) : Value := .agg #[v 0, v 1, v 2, v 3]
/-- The two boxes that the call lays for its arguments. -/
structure BoxS (w wr : World) (a2 a3 b2 b3 : Value) : Prop where
  c2 : wr.cell? ⟨w.heap.size, 2, none⟩ = some a2
  c3 : wr.cell? ⟨w.heap.size, 3, none⟩ = some a3
  d2 : wr.cell? ⟨w.heap.size + 1, 2, none⟩ = some b2
  d3 : wr.cell? ⟨w.heap.size + 1, 3, none⟩ = some b3
  bel : Below w.heap.size w wr
  lt : w.heap.size + 2 ≤ wr.heap.size
theorem BoxS.start (w : World) (a0 a1 a2 a3 b0 b1 b2 b3 : Value) (t : TypeId) : BoxS w ((w.alloc (.cells #[a0, a1, a2, a3] t)).alloc (.cells #[b0, b1, b2, b3] t)) a2 a3 b2 b3 := by
  refine ⟨?_, ?_, ?_, ?_, (((Below.refl _ _).alloc (Nat.le_refl _) _).alloc (by simp) _), by simp⟩
  all_goals simp
theorem BoxS.on {w wr wr' : World} {a2 a3 b2 b3 : Value} (h : BoxS w wr a2 a3 b2 b3) (hb : Below wr.heap.size wr wr') : BoxS w wr' a2 a3 b2 b3 := by
  have := h.lt
  have := hb.size
  exact ⟨(hb.cell (p := ⟨w.heap.size, 2, none⟩) (by show w.heap.size < _; omega)).trans h.c2, (hb.cell (p := ⟨w.heap.size, 3, none⟩) (by show w.heap.size < _; omega)).trans h.c3, (hb.cell (p := ⟨w.heap.size + 1, 2, none⟩) (by show w.heap.size + 1 < _; omega)).trans h.d2, (hb.cell (p := ⟨w.heap.size + 1, 3, none⟩) (by show w.heap.size + 1 < _; omega)).trans h.d3, h.bel.trans (hb.mono (by omega)), by omega⟩
theorem belN (w : World) (q : Nat) : Below w.heap.size w (w.drewN q) := ⟨rfl, rfl, rfl, Nat.le_refl _, fun _ _ => rfl⟩
set_option maxHeartbeats 4000000 in
set_option maxRecDepth 10000 in
theorem same_any {t : It} (hS : SmallIt t) : ∀ (w : World) (P Q : Nat → Prop) (v v' : Nat → Value), Lies w P v t → Lies w Q v' t →
    Calls Tryz.prog 12 #[.agg #[v 0, v 1, v 2, v 3], .agg #[v' 0, v' 1, v' 2, v' 3]] w fun e w' => e = .returned (.bool true) ∧ Below w.heap.size w w' := by
  induction hS with
  | mk t h1 h2 h3 ih =>
    intro w P Q v v' hL hL'
    obtain ⟨f0, f1, ⟨la, lc, f2⟩, ⟨ka, kc, f3⟩⟩ := hL.forms
    obtain ⟨g0, g1, ⟨la', lc', g2⟩, ⟨ka', kc', g3⟩⟩ := hL'.forms
    have hl := (hL.linesAt f2).2
    have hl' := (hL'.linesAt g2).2
    obtain ⟨_, V, hk, hr⟩ := hL.kidsAt f3
    obtain ⟨_, V', hk', hr'⟩ := hL'.kidsAt g3
    rw [f0, f1, f2, f3, g0, g1, g2, g3]
    have HIH := hidLL ih
    have HLn := hidLL (And.intro hl hl')
    have HKd := hidLL (And.intro hk (And.intro hr (And.intro hk' hr')))
    obtain ⟨ln, hln⟩ : ∃ ln, ln = t.lines.length := ⟨_, rfl⟩
    obtain ⟨kn, hkn⟩ : ∃ kn, kn = t.kids.length := ⟨_, rfl⟩
    rw [← hln] at h1
    rw [← hkn] at h2
    rw [← hln, ← hkn]
    have HLk := hidLL (And.intro hln hkn)
    clear hL hL' hl hl' hk hr hk' hr' hln hkn ih h3 f0 f1 f2 f3 g0 g1 g2 g3
    have e1 : (t.label.toList != t.label.toList) = false := by simp
    have e2 : (t.head.toList != t.head.toList) = false := by simp
    generalize t.label = lb at *
    generalize t.head = hd at *
    go_enter Tryz.func12, Tryz.ntmps12
    have HBx := hidLL (BoxS.start w (.string lb) (.string hd) (.slice la ln lc) (.slice ka kn kc) (.string lb) (.string hd) (.slice la' ln lc') (.slice ka' kn kc') 25)
    go_wp2_with fail
    obtain ⟨w2, hw2⟩ : ∃ w2, w2 = (w.alloc (.cells #[.string lb, .string hd, .slice la ln lc, .slice ka kn kc] 25)).alloc (.cells #[.string lb, .string hd, .slice la' ln lc', .slice ka' kn kc'] 25) := ⟨_, rfl⟩
    rw [← hw2] at HBx
    simp only [← hw2]
    clear hw2
    go_loopw [5] (fun t wr => ∃ i : Nat, i ≤ ln ∧ t = .int .i64 i ∧ BoxS w wr (.slice la ln lc) (.slice ka kn kc) (.slice la' ln lc') (.slice ka' kn kc')) (fun t _ => (ln - RowKit.intOf t).toNat)
    case atStart => exact ⟨0, by omega, rfl, HBx.out⟩
    case round =>
      obtain ⟨i, hi, rfl, hbx⟩ := hrel
      have HX := hidLL hbx
      have c2 := hbx.c2
      have d2 := hbx.d2
      clear hbx
      by_cases hin : i < ln
      · have hiz : (i : Int) < ln := by omega
        obtain ⟨x, hx⟩ : ∃ x, t.lines[i]? = some x := ⟨_, List.getElem?_eq_getElem (by rw [← HLk.out.1]; exact hin)⟩
        obtain ⟨b, o, rfl, _, cx⟩ := HLn.out.1 i x hx
        obtain ⟨b', o', rfl, _, cx'⟩ := HLn.out.2 i x hx
        have y1 := (HX.out.bel.cell (p := ⟨b, o + i, none⟩) (cell_lt cx)).trans cx
        have y2 := (HX.out.bel.cell (p := ⟨b', o' + i, none⟩) (cell_lt cx')).trans cx'
        have ex : (x.toList != x.toList) = false := by simp
        clear hx cx cx'
        go_wp2_with fail
        go_quiet (fail)
        go_wp2
        go_roundw
        case rel => exact ⟨i + 1, by omega, by go_num, HX.out.on (belN _ _)⟩
        case measure => simp [RowKit.intOf]; omega
      · obtain rfl : ln = i := by omega
        go_wp2_with fail
        go_loopw [6] (fun t wr => ∃ i : Nat, i ≤ kn ∧ t = .int .i64 i ∧ BoxS w wr (.slice la ln lc) (.slice ka kn kc) (.slice la' ln lc') (.slice ka' kn kc')) (fun t _ => (kn - RowKit.intOf t).toNat)
        case atStart => exact ⟨0, by omega, rfl, HX.out⟩
        case round =>
          obtain ⟨i, hi, rfl, hbx⟩ := hrel
          have HX2 := hidLL hbx
          have c3 := hbx.c3
          have d3 := hbx.d3
          clear hbx c2 d2
          by_cases hin : i < kn
          · have hiz : (i : Int) < kn := by omega
            have hik : i < t.kids.length := by rw [← HLk.out.2]; exact hin
            obtain ⟨x, hx⟩ : ∃ x, t.kids[i]? = some x := ⟨_, List.getElem?_eq_getElem hik⟩
            obtain ⟨b, o, rfl, _, cx⟩ := HKd.out.1 i hik
            obtain ⟨b', o', rfl, _, cx'⟩ := HKd.out.2.2.1 i hik
            have hLx := (HKd.out.2.1 i x hx).bel HX2.out.bel
            have hLx' := (HKd.out.2.2.2 i x hx).bel HX2.out.bel
            have hbl := cell_lt (cx 0 (by omega))
            have hbl' := cell_lt (cx' 0 (by omega))
            have HC := hidLL (fun W (hW : Below wr.heap.size wr W) => HIH.out x (List.mem_of_getElem? hx) W P Q (V i) (V' i) (hLx.bel hW) (hLx'.bel hW))
            obtain ⟨f0, f1, ⟨pa, pc, f2⟩, ⟨pk, pkc, f3⟩⟩ := hLx.forms
            obtain ⟨g0, g1, ⟨qa, qc, g2⟩, ⟨qk, qkc, g3⟩⟩ := hLx'.forms
            have y0 := (HX2.out.bel.cell (p := ⟨b, o + i * 4, none⟩) hbl).trans (cx 0 (by omega))
            have y1 := (HX2.out.bel.cell (p := ⟨b, o + i * 4 + 1, none⟩) hbl).trans (cx 1 (by omega))
            have y2 := (HX2.out.bel.cell (p := ⟨b, o + i * 4 + 2, none⟩) hbl).trans (cx 2 (by omega))
            have y3 := (HX2.out.bel.cell (p := ⟨b, o + i * 4 + 3, none⟩) hbl).trans (cx 3 (by omega))
            have z0 := (HX2.out.bel.cell (p := ⟨b', o' + i * 4, none⟩) hbl').trans (cx' 0 (by omega))
            have z1 := (HX2.out.bel.cell (p := ⟨b', o' + i * 4 + 1, none⟩) hbl').trans (cx' 1 (by omega))
            have z2 := (HX2.out.bel.cell (p := ⟨b', o' + i * 4 + 2, none⟩) hbl').trans (cx' 2 (by omega))
            have z3 := (HX2.out.bel.cell (p := ⟨b', o' + i * 4 + 3, none⟩) hbl').trans (cx' 3 (by omega))
            rw [f0] at y0
            rw [f1] at y1
            rw [f2] at y2
            rw [f3] at y3
            rw [g0] at z0
            rw [g1] at z1
            rw [g2] at z2
            rw [g3] at z3
            rw [f0, f1, f2, f3, g0, g1, g2, g3] at HC
            generalize x.label = xl at *
            generalize x.head = xh at *
            generalize x.lines.length = xn at *
            generalize x.kids.length = xk at *
            have hlb : b < wr.heap.size := by have := HX2.out.bel.size; omega
            have hlb' : b' < wr.heap.size := by have := HX2.out.bel.size; omega
            clear hLx hLx' cx cx' f0 f1 f2 f3 g0 g1 g2 g3 hx hbl hbl'
            go_wp2_with fail
            go_region_held3 (fun W => W.cell? ⟨w.heap.size, 3, none⟩ = some (.slice (some ⟨b, o, none⟩) kn kc) ∧ W.cell? ⟨w.heap.size + 1, 3, none⟩ = some (.slice (some ⟨b', o', none⟩) kn kc') ∧ W.cell? ⟨b, o + i * 4, none⟩ = some (.string xl) ∧ W.cell? ⟨b, o + i * 4 + 1, none⟩ = some (.string xh) ∧ W.cell? ⟨b, o + i * 4 + 2, none⟩ = some (.slice pa xn pc) ∧ W.cell? ⟨b, o + i * 4 + 3, none⟩ = some (.slice pk xk pkc) ∧ W.cell? ⟨b', o' + i * 4, none⟩ = some (.string xl) ∧ W.cell? ⟨b', o' + i * 4 + 1, none⟩ = some (.string xh) ∧ W.cell? ⟨b', o' + i * 4 + 2, none⟩ = some (.slice qa xn qc) ∧ W.cell? ⟨b', o' + i * 4 + 3, none⟩ = some (.slice qk xk qkc)) (go_keep)
              (first
                | (go_at_call 12
                   refine (HC.out _ (belN _ 1)).mono ?_
                   rintro e w5 ⟨rfl, hb5⟩
                   have HB5 := hidLL ((belN wr 1).trans hb5)
                   have k0 := (HB5.out.cell (p := ⟨b, o + i * 4, none⟩) hlb).trans y0
                   have k1 := (HB5.out.cell (p := ⟨b, o + i * 4 + 1, none⟩) hlb).trans y1
                   have k2 := (HB5.out.cell (p := ⟨b, o + i * 4 + 2, none⟩) hlb).trans y2
                   have k3 := (HB5.out.cell (p := ⟨b, o + i * 4 + 3, none⟩) hlb).trans y3
                   have j0 := (HB5.out.cell (p := ⟨b', o' + i * 4, none⟩) hlb').trans z0
                   have j1 := (HB5.out.cell (p := ⟨b', o' + i * 4 + 1, none⟩) hlb').trans z1
                   have j2 := (HB5.out.cell (p := ⟨b', o' + i * 4 + 2, none⟩) hlb').trans z2
                   have j3 := (HB5.out.cell (p := ⟨b', o' + i * 4 + 3, none⟩) hlb').trans z3
                   have m3 := (HX2.out.on HB5.out).c3
                   have n3 := (HX2.out.on HB5.out).d3
                   clear hb5))
            go_wp2
            go_roundw
            case rel => exact ⟨i + 1, by omega, by go_num, HX2.out.on HB5.out⟩
            case measure => simp [RowKit.intOf]; omega
          · obtain rfl : kn = i := by omega
            go_wp2
            go_ret
            exact ⟨rfl, HX2.out.bel⟩
end Go.Proofs.YtpbolcjcmkmalaaGreatDoor
namespace Go.Proofs.YtpbolcjcmkmalaaGreatDoor
open Go.RowKit Go.Extern.Stop Go.Stop Go.Extern

theorem OpsIn.take {w : World} {N : Nat} {oa : Option Addr} {ops : List OpW} (h : OpsIn w N oa ops) (k : Nat) : OpsIn w N oa (ops.take k) := fun i op hi => by
  rw [List.getElem?_take] at hi
  split at hi
  · exact h i op hi
  · cases hi
theorem OpsIn.drop {w : World} {N b o : Nat} {ops : List OpW} (h : OpsIn w N (some ⟨b, o, none⟩) ops) (k : Nat) : OpsIn w N (some ⟨b, o + k * 10, none⟩) (ops.drop k) := fun i op hi => by
  rw [List.getElem?_drop] at hi
  obtain ⟨b', o', iv, e, hN, hc, h1⟩ := h (k + i) op hi
  injection e with e
  injection e with e1 e2 _
  subst e1 e2
  exact ⟨b, o + k * 10, iv, rfl, hN, fun c u hu => by rw [show o + k * 10 + i * 10 + c = o + (k + i) * 10 + c by omega]; exact hc c u hu, h1⟩
theorem OpsIn.from {w : World} {N oc : Nat} {oa : Option Addr} {ops : List OpW} (h : OpsIn w N oa ops) (q : Nat) (hc : ops.length ≤ oc) : OpsIn w N (if oc = q then oa else Option.map (fun x => x.add (q * 10)) oa) (ops.drop q) := fun i op hi => by
  have hi' := hi
  rw [List.getElem?_drop] at hi'
  have hlt := (List.getElem?_eq_some_iff.1 hi').1
  obtain ⟨b, o, iv, e, _⟩ := h (q + i) op hi'
  subst e
  rw [if_neg (by omega)]
  show ∃ b' o' iv', some (Addr.add ⟨b, o, none⟩ (q * 10)) = _ ∧ _
  rw [addr_plus]
  exact h.drop q i op hi
theorem OpsIn.nil (w : World) (N : Nat) (oa : Option Addr) : OpsIn w N oa [] := fun i op hi => by cases hi
theorem OpsIn.mono {w : World} {N N' : Nat} {oa : Option Addr} {ops : List OpW} (h : OpsIn w N oa ops) (hN : N ≤ N') : OpsIn w N' oa ops := fun i op hi => by
  obtain ⟨b, o, iv, e, h1, hc, h2, h3⟩ := h i op hi
  exact ⟨b, o, iv, e, Nat.lt_of_lt_of_le h1 hN, hc, h2.mono hN, h3⟩
theorem POut.inv {t u : It} {ops : List OpW} (h : applyC t ops = .ok u) : Law t ∧ ops.length ≤ 100 ∧ allC 0 t ops = .ok u := by
  unfold applyC at h
  cases hv : vIt 0 0 [] t with
  | bad c => rw [hv] at h; cases h
  | ok m =>
    rw [hv] at h
    have h : (if 100 < ops.length then POut.no 2 else match allC 0 t ops with | .bad i c => .bad i c | .ok u => .ok u) = .ok u := h
    split at h
    · cases h
    · rename_i hn
      refine ⟨law_iff.2 ⟨m, hv⟩, by omega, ?_⟩
      cases ha : allC 0 t ops with
      | bad i c => rw [ha] at h; cases h
      | ok u' => rw [ha] at h; injection h with h; rw [h]
theorem apply_ok {t u : It} {ops : List OpW} (h : Law t) (hn : ops.length ≤ 100) (ha : allC 0 t ops = .ok u) : applyC t ops = .ok u := by
  obtain ⟨m, hm⟩ := law_iff.1 h
  exact ap_ok hm (by omega) ha
/-- What a law that is right weighs. -/
theorem rgt_wt {d : Nat} {t : It} (h : Rgt d t) : wtI t ≤ 41 * (1 + cntIt t) := by
  induction h with
  | mk d t h hd hk ih =>
    obtain ⟨h1, _, _⟩ := texts_iff.1 ⟨h.2.1, h.2.2.2⟩
    rw [wtI_eq, cntIt_eq]
    have hkk : ∀ l : List It, (∀ k, k ∈ l → wtI k ≤ 41 * (1 + cntIt k)) → wtK l ≤ 41 * cntKs l := by
      intro l
      induction l with
      | nil => intro _; rw [wtK, cntKs]; omega
      | cons a r ih2 =>
        intro hl
        have := hl a (by simp)
        have := ih2 (fun k hk => hl k (List.mem_cons_of_mem _ hk))
        rw [wtK, cntKs]
        omega
    have := hkk t.kids ih
    omega
theorem law_wt {t : It} (h : Law t) : wtI t ≤ 400000 := by
  have := rgt_wt h.1
  have := h.2
  omega
theorem few_smallIt {t : It} (h : FewIt t) : SmallIt t := by
  induction h with
  | mk t h1 h2 h3 h4 h5 h6 ih => exact .mk t (by omega) (by omega) ih
theorem law_small {t : It} (h : Law t) : SmallIt t := few_smallIt (law_few h)
/-- What a call owns it can copy, and tell its places apart. -/
theorem Own.src {w : World} {B : Nat} {v : Nat → Value} {t : It} {S : Nat → Prop} (h : Own w B v t S) : FewIt t → SrcT w w.heap.size True v t := by
  induction h with
  | mk v t K T S h0 h1 ln kd sl sk hr hT hd hS ih =>
    intro hF
    obtain ⟨b1, b2, _, _, _, b6⟩ := hF.get
    obtain ⟨la, lc, el⟩ := row_any ln
    obtain ⟨ka, kc, ek⟩ := row_any kd
    refine .mk v t la ka lc kc K h0 h1 el ek (fun i s hs => ?_) (fun i hi => ?_) (fun i k e => ih i k e (b6 k (List.mem_of_getElem? e))) (fun hla => ?_) (fun hka => ?_) (by omega) (by omega) (by rw [el] at ln; exact row_cap ln) (by rw [ek] at kd; exact row_cap kd)
    · obtain ⟨hi, _⟩ := List.getElem?_eq_some_iff.1 hs
      obtain ⟨g, cap, e, hg, hb⟩ := row_form ln (by omega)
      rw [el] at e ln
      injection e with e1 e2 e3
      rw [e1] at ln
      refine ⟨g, 0, e1, hg, ?_⟩
      have := ln.cellAt i (by omega)
      simpa [hs] using this
    · obtain ⟨g, cap, e, hg, hb⟩ := row_form kd (by omega)
      have hp : ∃ cur, w.heap[g]? = some (.cells cur 25 (0, 0)) := by
        rcases kd.2 with ⟨e1, h0⟩ | ⟨g', cap', cur, e1, _, hgg, _⟩
        · omega
        · rw [e] at e1
          injection e1 with e1 _ _
          injection e1 with e1
          injection e1 with e1 _ _
          exact ⟨cur, by rw [e1]; exact hgg⟩
      rw [ek] at e kd
      injection e with e1 e2 e3
      rw [e1] at kd
      have hc : ∀ c, c < 4 → w.cell? ⟨g, 0 + i * 4 + c, none⟩ = some (K i c) := fun c hc => by
        rw [kd.cellAt (0 + i * 4 + c) (by omega), Nat.zero_add]
        exact flat4_get K t.kids.length i c hi hc
      obtain ⟨cur, hp⟩ := hp
      refine ⟨g, 0, e1, hg, ⟨⟨_, hc 0 (by omega)⟩, ?_⟩, fun _ => ⟨cur, _, hp⟩, hc⟩
      unfold World.frozen?
      rw [hp]
      simp
    · rcases ln.2 with ⟨e1, _⟩ | ⟨g, cap, cur, e1, _⟩
      · rw [el] at e1; injection e1 with _ _ e1
      · rw [el, hla] at e1; cases e1
    · rcases kd.2 with ⟨e1, _⟩ | ⟨g, cap, cur, e1, _⟩
      · rw [ek] at e1; injection e1 with _ _ e1
      · rw [ek, hka] at e1; cases e1
set_option maxHeartbeats 16000000 in
set_option maxRecDepth 20000 in
theorem amendFolds_walk (t : It) (hsz : sizeIt t ≤ 1048576) (ops : List OpW) (oa : Option Addr) (oc : Nat) (k : Int) (hk : -9223372036854775808 ≤ k ∧ k ≤ 9223372036854775807) (p : Nat → Addr) (m : Int) (w : World) (hE : Env w p m) (v : Nat → Value) (hs : RawT w w.heap.size v t) (ho : OpsRaw w w.heap.size oa ops) (hn : ops.length ≤ 1048576) (hcap : ops.length ≤ oc) (hnil : oa = none → oc = 0) :
    Calls Tryz.prog 4 #[.agg #[v 0, v 1, v 2, v 3], .slice oa ops.length oc, .int .i64 k] w fun e w' => e = .returned (.bool true) ∧ Below w.heap.size w w' := by
  obtain ⟨f0, f1, ⟨la, lc, f2⟩, ka, kc, f3⟩ := hs.lies.forms
  have hsW : ∀ W, Below w.heap.size w W → RawT W w.heap.size v t := fun W hb => hs.on fun q hq => hb.block q hq
  have hoW : ∀ W, Below w.heap.size w W → OpsRaw W w.heap.size oa ops := fun W hb => ho.on fun q hq => hb.block q hq
  have hfw : ∀ W, Below w.heap.size w W → _ := fun W hb => few_any t (by omega) v W _ (hsW W hb).lies
  have hfo : ∀ W, Below w.heap.size w W → Calls Tryz.prog 8 #[.slice oa ops.length oc] W (FwR W ops) := fun W hb => fewOps_w (oc := oc) (fun i op hi => by
    obtain ⟨b, o, iv, e, h1, h2, h3, h4⟩ := hoW W hb i op hi
    exact ⟨b, o, iv, e, Nat.lt_of_lt_of_le h1 hb.size, h2, h3.mono hb.size, h4⟩) hn
  have hlv : ∀ W, Below w.heap.size w W → _ := fun W hb => alive_w (hE.on hb)
  have hap : smallN 0 t ≤ 400 → FewO ops → ∀ W, Below w.heap.size w W → ∀ (ops' : List OpW) (oa' : Option Addr) (oc' : Nat), OpsIn W w.heap.size oa' ops' → ops'.length ≤ 102 → _ := fun h1 h2 W hb ops' oa' oc' h3 h4 => apply_a ((hsW W hb).src (few_it _ t (Nat.le_refl _) 0 h1)) hb.size (by have := wt_small _ t (Nat.le_refl _) 0 h1; omega) (.inr (by have := wt_small _ t (Nat.le_refl _) 0 h1; omega)) (few_it _ t (Nat.le_refl _) 0 h1) h3 (by omega) (hE.on hb) (oc := oc')
  rw [f0, f1, f2, f3] at hfw hap
  rw [f0, f1, f2, f3]
  obtain ⟨W1, hW1⟩ : ∃ W1, W1 = w.alloc (.cells #[.string t.label, .string t.head, .slice la t.lines.length lc, .slice ka t.kids.length kc] itT) := ⟨_, rfl⟩
  have hb1 : Below w.heap.size w W1 := by rw [hW1]; exact (Below.refl _ _).alloc (Nat.le_refl _) _
  have hx1 : W1.heap[w.heap.size]? = some (.cells #[.string t.label, .string t.head, .slice la t.lines.length lc, .slice ka t.kids.length kc] itT (0, 0)) := by rw [hW1]; exact heap_alloc_new _ _
  have HFw := hidLL hfw
  have HFo := hidLL hfo
  have HLv := hidLL hlv
  have HAp := hidLL hap
  have HOW := hidLL hoW
  have HB1 := hidLL hb1
  have HX1 := hidLL hx1
  have HW1 := hidLL hW1
  have HE := hidLL hE
  have hs1 : w.heap.size < W1.heap.size := (Array.getElem?_eq_some_iff.1 hx1).1
  have HCl : Hid (∀ W, Below W1.heap.size W1 W → W.cell? ⟨w.heap.size, 0, none⟩ = some (.string t.label) ∧ W.cell? ⟨w.heap.size, 1, none⟩ = some (.string t.head) ∧ W.cell? ⟨w.heap.size, 2, none⟩ = some (.slice la t.lines.length lc) ∧ W.cell? ⟨w.heap.size, 3, none⟩ = some (.slice ka t.kids.length kc)) := fun W hW => by
    obtain ⟨c0, c1, c2, c3, _⟩ := four ((hW.block w.heap.size hs1).trans HX1.out)
    exact ⟨c0, c1, c2, c3⟩
  obtain ⟨n, hnn⟩ : ∃ n, n = ops.length := ⟨_, rfl⟩
  have HN := hidLL (And.intro hnn hnil)
  rw [← hnn] at hn hcap HFo ⊢
  obtain ⟨sn, hsn⟩ : ∃ sn, sn = smallN 0 t := ⟨_, rfl⟩
  have HSn := hidLL hsn
  rw [← hsn] at HFw HAp
  clear hsz hE hs ho f0 f1 f2 f3 hsW hoW hfw hfo hlv hap hb1 hx1 hW1 hnn hsn hnil
  generalize t.label = tl at *
  generalize t.head = th at *
  generalize t.lines.length = tn at *
  generalize t.kids.length = tk at *
  go_enter Tryz.func4, Tryz.ntmps4
  go_upto_region 1 with fail
  rw [← HW1.out]
  go_wp2_with fail
  refine (HLv.out W1 HB1.out).mono ?_
  rintro e w2 ⟨rfl, hb2⟩
  have HC2 := hidLL hb2
  have HB2 := hidLL (HB1.out.trans (hb2.mono HB1.out.size))
  obtain ⟨x0, x1, x2, x3⟩ := HCl.out w2 hb2
  clear hb2
  go_wp2_with fail
  refine (HFw.out w2 HB2.out).mono ?_
  rintro e w3 ⟨rfl, hb3⟩
  have HC3 := hidLL (HC2.out.trans (hb3.mono HC2.out.size))
  have HB3 := hidLL (HB2.out.trans (hb3.mono HB2.out.size))
  clear hb3 x0 x1 x2 x3
  go_wp2_with fail
  refine (HFo.out w3 HB3.out).mono ?_
  rintro e w4 ⟨⟨r, rfl, hr⟩, hb4⟩
  have HC4 := hidLL (HC3.out.trans (hb4.mono HC3.out.size))
  have HB4 := hidLL (HB3.out.trans (hb4.mono HB3.out.size))
  clear hb4
  rcases Nat.lt_or_ge 400 sn with hfew | hfew
  · have hfew : ¬ sn ≤ 400 := by omega
    have hfd : decide (sn ≤ 400) = false := decide_eq_false hfew
    rw [hfd]
    clear hfd hfew
    go_wp2
    go_ret
    exact ⟨rfl, HB4.out⟩
  rw [decide_eq_true hfew]
  cases r
  · go_wp2
    go_ret
    exact ⟨rfl, HB4.out⟩
  by_cases hk0 : k < 0
  · go_wp2
    go_ret
    exact ⟨rfl, HB4.out⟩
  by_cases hkn : (n : Int) < k
  · go_wp2
    go_ret
    exact ⟨rfl, HB4.out⟩
  have HFO := hidLL (hr rfl)
  have HAp2 := hidLL (HAp.out hfew HFO.out)
  obtain ⟨x0, x1, x2, x3⟩ := HCl.out w4 HC4.out
  obtain ⟨q, rfl⟩ : ∃ q : Nat, k = q := ⟨k.toNat, by omega⟩
  have hA := HAp2.out w4 HB4.out ops oa oc (HFO.out.ops (HOW.out w4 HB4.out)) HFO.out.len
  rw [← HN.out.1] at hA
  have HA := hidLL hA
  clear hr hfew HAp HFw HFo HLv hA
  go_wp2_with fail
  refine HA.out.mono ?_
  rintro e w5 ⟨hb5, hAp⟩
  have HC5 := hidLL (HC4.out.trans (hb5.mono HC4.out.size))
  have HB5 := hidLL (HB4.out.trans (hb5.mono HB4.out.size))
  clear hb5 x0 x1 x2 x3 HA
  cases hall : applyC t ops with
  | no c =>
    rw [hall] at hAp
    obtain ⟨kk, _, _, rfl⟩ := hAp
    clear hall
    unfold zI errI
    go_wp2
    go_ret
    exact ⟨rfl, HB5.out.alloc HB5.out.size _⟩
  | bad i c =>
    rw [hall] at hAp
    obtain ⟨kk, g, _, _, rfl, _⟩ := hAp
    clear hall
    unfold zI
    go_wp2
    go_ret
    exact ⟨rfl, HB5.out.alloc HB5.out.size _⟩
  | ok u =>
    rw [hall] at hAp
    obtain ⟨v5, S5, rfl, hown⟩ := hAp
    obtain ⟨g0, g1, ⟨ua, uc, g2⟩, uk, ukc, g3⟩ := hown.lies.forms
    obtain ⟨hlw, hlen, hac⟩ := POut.inv hall
    have hqn : q ≤ n := by omega
    obtain ⟨y, hy1, hy2, hy3⟩ := folds hlw hac q
    have HTk := hidLL (apply_ok hlw (by rw [List.length_take]; omega) hy1)
    have HDr := hidLL (apply_ok hy2 (by rw [List.length_drop]; omega) hy3)
    have HLw := hidLL (And.intro hlw (And.intro hy2 (law_all _ _ _ _ hlw hac)))
    have HG := hidLL (And.intro g0 (And.intro g1 (And.intro g2 g3)))
    have HOwn := hidLL hown
    rw [g0, g1, g2, g3]
    obtain ⟨W6, hW6⟩ : ∃ W6, W6 = w5.alloc (.cells #[.string u.label, .string u.head, .slice ua u.lines.length uc, .slice uk u.kids.length ukc] itT) := ⟨_, rfl⟩
    have hb6 : Below w5.heap.size w5 W6 := by rw [hW6]; exact (Below.refl _ _).alloc (Nat.le_refl _) _
    have hx6 : W6.heap[w5.heap.size]? = some (.cells #[.string u.label, .string u.head, .slice ua u.lines.length uc, .slice uk u.kids.length ukc] itT (0, 0)) := by rw [hW6]; exact heap_alloc_new _ _
    have HC6 := hidLL (HC5.out.trans (hb6.mono HC5.out.size))
    have HB6 := hidLL (HB5.out.trans (hb6.mono HB5.out.size))
    have HX6 := hidLL (And.intro hb6 hx6)
    have HW6 := hidLL hW6
    clear hown hall hlw hlen hac hy1 hy2 hy3 hb6 hx6 hW6 g0 g1 g2 g3
    generalize hul : u.label = ul at *
    generalize huh : u.head = uh at *
    generalize hun : u.lines.length = un at *
    generalize hukn : u.kids.length = ukn at *
    clear hul huh hun hukn
    have hqc : q ≤ oc := by omega
    have HT : Hid (∀ W, Below W6.heap.size W6 W → Calls Tryz.prog 9 #[.agg #[.string tl, .string th, .slice la tn lc, .slice ka tk kc], .slice oa q oc] W (ApR W p (.ok y))) := fun W hW => by
      have hbW := HB6.out.trans (hW.mono HB6.out.size)
      have h9 := HAp2.out W hbW (ops.take q) oa oc ((HFO.out.ops (HOW.out W hbW)).take q) (by rw [List.length_take]; have := HFO.out.len; omega)
      rw [HTk.out, List.length_take, ← HN.out.1, Nat.min_eq_left hqn] at h9
      exact h9
    go_upto_region 9 with fail
    rw [← HW6.out]
    go_cut [12, 13] (fun pq qq wx => ∃ g v2 S2, pq = .pointer (some ⟨g, 0, none⟩) ∧ qq = .nilIface ∧ Below W6.heap.size W6 wx ∧ wx.heap[g]? = some (.cells #[v2 0, v2 1, v2 2, v2 3] itT (0, 0)) ∧ Own wx W6.heap.size v2 y S2 ∧ ¬ S2 g)
    case first =>
      obtain ⟨x0, x1, x2, x3⟩ := HCl.out W6 HC6.out
      have hne : W6.heap.size ≠ w.heap.size := by have := HC6.out.size; omega
      have hne : W6.heap.size ≠ w.heap.size := by have := HC6.out.size; omega
      have hne : W6.heap.size ≠ w.heap.size := by have := HC6.out.size; omega
      have hne : W6.heap.size ≠ w.heap.size := by have := HC6.out.size; omega
      have hszA : ∀ o, (W6.drew.alloc o).heap.size = W6.heap.size + 1 := fun o => by simp
      have hne : W6.heap.size ≠ w.heap.size := by have := HC6.out.size; omega
      have hszA : ∀ o, (W6.drew.alloc o).heap.size = W6.heap.size + 1 := fun o => by simp
      go_region_held3 (fun V => V.cell? ⟨w.heap.size, 0, none⟩ = some (.string tl) ∧ V.cell? ⟨w.heap.size, 1, none⟩ = some (.string th) ∧ V.cell? ⟨w.heap.size, 2, none⟩ = some (.slice la tn lc) ∧ V.cell? ⟨w.heap.size, 3, none⟩ = some (.slice ka tk kc)) (first | exact ⟨x0, x1, x2, x3⟩ | exact ⟨z0, z1, z2, z3⟩ | go_keep) (first | (go_simp; go_at_call 9; refine (HT.out _ (((Below.refl _ _).drew).alloc (Nat.le_refl _) _)).mono ?_; rintro e w7 ⟨hb7, v7, S7, rfl, hown7⟩; obtain ⟨k0, k1, ⟨pa9, pc9, k2⟩, pk9, pkc9, k3⟩ := hown7.lies.forms; rw [k0, k1, k2, k3]; have hbb : Below W6.heap.size W6 w7 := (((Below.refl W6.heap.size W6).drew).alloc (Nat.le_refl _) _).trans (hb7.mono (by simp)); obtain ⟨z0, z1, z2, z3⟩ := HCl.out w7 (HC6.out.trans (hbb.mono HC6.out.size)); have hn7 : w7.heap.size ≠ w.heap.size := (Nat.ne_of_gt (cell_lt z0)); have hz7 := (hb7.block W6.heap.size (by simp)).trans (heap_alloc_new W6.drew (.cells #[.string ⟨#[]⟩, .string ⟨#[]⟩, .slice none 0 0, .slice none 0 0] itT)); obtain ⟨r0, r1, r2, r3, rf⟩ := four hz7; have H7 := hidLL (And.intro (hown7.base (B' := W6.heap.size) (by simp)) (And.intro hbb (And.intro k0 (And.intro k1 (And.intro k2 (And.intro k3 (And.intro hz7 (fun q (hq : S7 q) => (hown7.in q hq).1)))))))); clear hb7 hown7 hbb k0 k1 k2 k3 hz7) | (go_simp; go_at_call 9; refine (HT.out _ ((Below.refl _ _).drew)).mono ?_; rintro e w7 ⟨hb7, v7, S7, rfl, hown7⟩; obtain ⟨k0, k1, ⟨pa9, pc9, k2⟩, pk9, pkc9, k3⟩ := hown7.lies.forms; rw [k0, k1, k2, k3]; have hbb : Below W6.heap.size W6 w7 := ((Below.refl W6.heap.size W6).drew).trans (hb7.mono (Nat.le_refl _)); obtain ⟨z0, z1, z2, z3⟩ := HCl.out w7 (HC6.out.trans (hbb.mono HC6.out.size)); have hn7 : w7.heap.size ≠ w.heap.size := (Nat.ne_of_gt (cell_lt z0)); have H7 := hidLL (And.intro (hown7.base (B' := W6.heap.size) (Nat.le_refl _)) (And.intro hbb (And.intro k0 (And.intro k1 (And.intro k2 k3))))); clear hb7 hown7 hbb k0 k1 k2 k3))
      all_goals go_wp2_with fail
      all_goals go_meet
      all_goals first
        | exact ⟨w7.heap.size, v7, S7, rfl, rfl, H7.out.2.1.alloc H7.out.2.1.size _, (by rw [H7.out.2.2.1, H7.out.2.2.2.1, H7.out.2.2.2.2.1, H7.out.2.2.2.2.2]; exact heap_alloc_new _ _), H7.out.1.step (fun q hq => ((Below.refl _ _).alloc (Nat.le_refl _) _).block q (H7.out.1.in q hq).2) (by simp), fun e => by have := (H7.out.1.in _ e).2; omega⟩
        | exact ⟨W6.heap.size, v7, S7, rfl, rfl, ⟨H7.out.2.1.os, H7.out.2.1.tape, H7.out.2.1.output, by simpa using H7.out.2.1.size, fun q hq => (set4_far (by omega)).trans (H7.out.2.1.block q hq)⟩, (by rw [H7.out.2.2.1, H7.out.2.2.2.1, H7.out.2.2.2.2.1, H7.out.2.2.2.2.2.1]; exact set4c H7.out.2.2.2.2.2.2.1), H7.out.1.step (fun q hq => set4_far (fun e => by have := H7.out.2.2.2.2.2.2.2 q hq; rw [hszA] at this; omega)) (by simp), fun e => by have := H7.out.2.2.2.2.2.2.2 _ e; rw [hszA] at this; omega⟩
    case rest =>
      obtain ⟨g, v8, S8, rfl, rfl, hb8, hg8, hown8, hS8⟩ := hcut
      obtain ⟨w8, e8, hb8, hg8, hown8⟩ : ∃ w8, w8 = _ ∧ Below W6.heap.size W6 w8 ∧ w8.heap[g]? = some (.cells #[v8 0, v8 1, v8 2, v8 3] itT (0, 0)) ∧ Own w8 W6.heap.size v8 y S8 := ⟨_, rfl, hb8, hg8, hown8⟩
      subst e8
      obtain ⟨k0, k1, ⟨ya, yc, k2⟩, yk, ykc, k3⟩ := hown8.lies.forms
      rw [k0, k1, k2, k3] at hg8
      have HK := hidLL (And.intro k0 (And.intro k1 (And.intro k2 k3)))
      have hlt8 : g < w8.heap.size := (Array.getElem?_eq_some_iff.1 hg8).1
      have HO8 := hidLL (And.intro hown8 (And.intro hb8 (And.intro hg8 hS8)))
      obtain ⟨x0, x1, x2, x3, xf⟩ := four hg8
      clear hb8 hg8 hown8 hS8 k0 k1 k2 k3 HT
      generalize hyl : y.label = yl at *
      generalize hyh : y.head = yh at *
      generalize hyn : y.lines.length = yn at *
      generalize hykn : y.kids.length = ykn at *
      clear hyl hyh hyn hykn
      go_upto_region 10 with fail
      go_cut [14, 15] (fun pq qq wx => ∃ g2 v2 S2, pq = .pointer (some ⟨g2, 0, none⟩) ∧ qq = .nilIface ∧ Below w8.heap.size w8 wx ∧ wx.heap[g2]? = some (.cells #[v2 0, v2 1, v2 2, v2 3] itT (0, 0)) ∧ Own wx w8.heap.size v2 u S2 ∧ ¬ S2 g2)
      case first =>
        have HT2 : Hid (∀ W, Below w8.heap.size w8 W → Calls Tryz.prog 9 #[.agg #[.string yl, .string yh, .slice ya yn yc, .slice yk ykn ykc], .slice (if oc = q then oa else Option.map (fun x => x.add (q * 10)) oa) (n - q) (oc - q)] W (ApR W p (.ok u))) := fun W hW => by
          have hbW := HB6.out.trans ((HO8.out.2.1.trans (hW.mono HO8.out.2.1.size)).mono HB6.out.size)
          have hsr : SrcT W w8.heap.size True v8 y := (HO8.out.1.src (law_few HLw.out.2.1)).on fun k hk => hW.block k hk
          have h9 := apply_a hsr hW.size (law_wt HLw.out.2.1) (.inl trivial) (law_few HLw.out.2.1) (((HFO.out.ops (HOW.out W hbW)).mono (Nat.le_trans HB6.out.size HO8.out.2.1.size)).from q (oc := oc) (by rw [← HN.out.1]; exact hcap)) (by rw [List.length_drop]; have := HFO.out.len; omega) (HE.out.on hbW) (oc := oc - q)
          rw [HDr.out, List.length_drop, ← HN.out.1, HK.out.1, HK.out.2.1, HK.out.2.2.1, HK.out.2.2.2] at h9
          exact h9
        have hne : w8.heap.size ≠ g := by omega
        have hszA : ∀ o, (w8.drew.alloc o).heap.size = w8.heap.size + 1 := fun o => by simp
        have HT2 : Hid (∀ W, Below w8.heap.size w8 W → Calls Tryz.prog 9 #[.agg #[.string yl, .string yh, .slice ya yn yc, .slice yk ykn ykc], .slice (if oc = q then oa else Option.map (fun x => x.add (q * 10)) oa) (n - q) (oc - q)] W (ApR W p (.ok u))) := fun W hW => by
          have hbW := HB6.out.trans ((HO8.out.2.1.trans (hW.mono HO8.out.2.1.size)).mono HB6.out.size)
          have hsr : SrcT W w8.heap.size True v8 y := (HO8.out.1.src (law_few HLw.out.2.1)).on fun k hk => hW.block k hk
          have h9 := apply_a hsr hW.size (law_wt HLw.out.2.1) (.inl trivial) (law_few HLw.out.2.1) (((HFO.out.ops (HOW.out W hbW)).mono (Nat.le_trans HB6.out.size HO8.out.2.1.size)).from q (oc := oc) (by rw [← HN.out.1]; exact hcap)) (by rw [List.length_drop]; have := HFO.out.len; omega) (HE.out.on hbW) (oc := oc - q)
          rw [HDr.out, List.length_drop, ← HN.out.1, HK.out.1, HK.out.2.1, HK.out.2.2.1, HK.out.2.2.2] at h9
          exact h9
        have hne : w8.heap.size ≠ g := by omega
        have hszA : ∀ o, (w8.drew.alloc o).heap.size = w8.heap.size + 1 := fun o => by simp
        have HT2 : Hid (∀ W, Below w8.heap.size w8 W → Calls Tryz.prog 9 #[.agg #[.string yl, .string yh, .slice ya yn yc, .slice yk ykn ykc], .slice (if oc = q then oa else Option.map (fun x => x.add (q * 10)) oa) (n - q) (oc - q)] W (ApR W p (.ok u))) := fun W hW => by
          have hbW := HB6.out.trans ((HO8.out.2.1.trans (hW.mono HO8.out.2.1.size)).mono HB6.out.size)
          have hsr : SrcT W w8.heap.size True v8 y := (HO8.out.1.src (law_few HLw.out.2.1)).on fun k hk => hW.block k hk
          have h9 := apply_a hsr hW.size (law_wt HLw.out.2.1) (.inl trivial) (law_few HLw.out.2.1) (((HFO.out.ops (HOW.out W hbW)).mono (Nat.le_trans HB6.out.size HO8.out.2.1.size)).from q (oc := oc) (by rw [← HN.out.1]; exact hcap)) (by rw [List.length_drop]; have := HFO.out.len; omega) (HE.out.on hbW) (oc := oc - q)
          rw [HDr.out, List.length_drop, ← HN.out.1, HK.out.1, HK.out.2.1, HK.out.2.2.1, HK.out.2.2.2] at h9
          exact h9
        have hne : w8.heap.size ≠ g := by omega
        have hszA : ∀ o, (w8.drew.alloc o).heap.size = w8.heap.size + 1 := fun o => by simp
        go_region_held3 (fun V => V.cell? ⟨g, 0, none⟩ = some (.string yl) ∧ V.cell? ⟨g, 1, none⟩ = some (.string yh) ∧ V.cell? ⟨g, 2, none⟩ = some (.slice ya yn yc) ∧ V.cell? ⟨g, 3, none⟩ = some (.slice yk ykn ykc)) (first | exact ⟨x0, x1, x2, x3⟩ | exact ⟨z0, z1, z2, z3⟩ | go_keep) (first | (go_simp; go_at_call 9; refine (HT2.out _ (((Below.refl _ _).drew).alloc (Nat.le_refl _) _)).mono ?_; rintro e w7 ⟨hb7, v7, S7, rfl, hown7⟩; generalize (if oc = q then oa else Option.map (fun x => x.add (q * 10)) oa) = qa9 at *; obtain ⟨k0, k1, ⟨pa9, pc9, k2⟩, pk9, pkc9, k3⟩ := hown7.lies.forms; rw [k0, k1, k2, k3]; have hbb : Below w8.heap.size w8 w7 := (((Below.refl w8.heap.size w8).drew).alloc (Nat.le_refl _) _).trans (hb7.mono (by simp)); obtain ⟨z0, z1, z2, z3⟩ := (fun (z0 : w8.cell? ⟨g, 0, none⟩ = some (.string yl)) (z1 : w8.cell? ⟨g, 1, none⟩ = some (.string yh)) (z2 : w8.cell? ⟨g, 2, none⟩ = some (.slice ya yn yc)) (z3 : w8.cell? ⟨g, 3, none⟩ = some (.slice yk ykn ykc)) => (And.intro ((hbb.cell (p := ⟨g, 0, none⟩) hlt8).trans z0) (And.intro ((hbb.cell (p := ⟨g, 1, none⟩) hlt8).trans z1) (And.intro ((hbb.cell (p := ⟨g, 2, none⟩) hlt8).trans z2) ((hbb.cell (p := ⟨g, 3, none⟩) hlt8).trans z3))))) x0 x1 x2 x3; have hn7 : w7.heap.size ≠ g := (Nat.ne_of_gt (cell_lt z0)); have hz7 := (hb7.block w8.heap.size (by simp)).trans (heap_alloc_new w8.drew (.cells #[.string ⟨#[]⟩, .string ⟨#[]⟩, .slice none 0 0, .slice none 0 0] itT)); obtain ⟨r0, r1, r2, r3, rf⟩ := four hz7; have H7 := hidLL (And.intro (hown7.base (B' := w8.heap.size) (by simp)) (And.intro hbb (And.intro k0 (And.intro k1 (And.intro k2 (And.intro k3 (And.intro hz7 (fun q (hq : S7 q) => (hown7.in q hq).1)))))))); clear hb7 hown7 hbb k0 k1 k2 k3 hz7) | (go_simp; go_at_call 9; refine (HT2.out _ ((Below.refl _ _).drew)).mono ?_; rintro e w7 ⟨hb7, v7, S7, rfl, hown7⟩; generalize (if oc = q then oa else Option.map (fun x => x.add (q * 10)) oa) = qa9 at *; obtain ⟨k0, k1, ⟨pa9, pc9, k2⟩, pk9, pkc9, k3⟩ := hown7.lies.forms; rw [k0, k1, k2, k3]; have hbb : Below w8.heap.size w8 w7 := ((Below.refl w8.heap.size w8).drew).trans (hb7.mono (Nat.le_refl _)); obtain ⟨z0, z1, z2, z3⟩ := (fun (z0 : w8.cell? ⟨g, 0, none⟩ = some (.string yl)) (z1 : w8.cell? ⟨g, 1, none⟩ = some (.string yh)) (z2 : w8.cell? ⟨g, 2, none⟩ = some (.slice ya yn yc)) (z3 : w8.cell? ⟨g, 3, none⟩ = some (.slice yk ykn ykc)) => (And.intro ((hbb.cell (p := ⟨g, 0, none⟩) hlt8).trans z0) (And.intro ((hbb.cell (p := ⟨g, 1, none⟩) hlt8).trans z1) (And.intro ((hbb.cell (p := ⟨g, 2, none⟩) hlt8).trans z2) ((hbb.cell (p := ⟨g, 3, none⟩) hlt8).trans z3))))) x0 x1 x2 x3; have hn7 : w7.heap.size ≠ g := (Nat.ne_of_gt (cell_lt z0)); have H7 := hidLL (And.intro (hown7.base (B' := w8.heap.size) (Nat.le_refl _)) (And.intro hbb (And.intro k0 (And.intro k1 (And.intro k2 k3))))); clear hb7 hown7 hbb k0 k1 k2 k3))
        all_goals go_wp2_with fail
        all_goals go_meet
        all_goals first
          | exact ⟨w7.heap.size, v7, S7, rfl, rfl, H7.out.2.1.alloc H7.out.2.1.size _, (by rw [H7.out.2.2.1, H7.out.2.2.2.1, H7.out.2.2.2.2.1, H7.out.2.2.2.2.2]; exact heap_alloc_new _ _), H7.out.1.step (fun q hq => ((Below.refl _ _).alloc (Nat.le_refl _) _).block q (H7.out.1.in q hq).2) (by simp), fun e => by have := (H7.out.1.in _ e).2; omega⟩
          | exact ⟨w8.heap.size, v7, S7, rfl, rfl, ⟨H7.out.2.1.os, H7.out.2.1.tape, H7.out.2.1.output, by simpa using H7.out.2.1.size, fun q hq => (set4_far (by omega)).trans (H7.out.2.1.block q hq)⟩, (by rw [H7.out.2.2.1, H7.out.2.2.2.1, H7.out.2.2.2.2.1, H7.out.2.2.2.2.2.1]; exact set4c H7.out.2.2.2.2.2.2.1), H7.out.1.step (fun q hq => set4_far (fun e => by have := H7.out.2.2.2.2.2.2.2 q hq; rw [hszA] at this; omega)) (by simp), fun e => by have := H7.out.2.2.2.2.2.2.2 _ e; rw [hszA] at this; omega⟩
      case rest =>
        obtain ⟨g2, v9, S9, rfl, rfl, hb9, hg9, hown9, _⟩ := hcut
        obtain ⟨w9, e9, hb9, hg9, hown9⟩ : ∃ w9, w9 = _ ∧ Below w8.heap.size w8 w9 ∧ w9.heap[g2]? = some (.cells #[v9 0, v9 1, v9 2, v9 3] itT (0, 0)) ∧ Own w9 w8.heap.size v9 u S9 := ⟨_, rfl, hb9, hg9, hown9⟩
        subst e9
        obtain ⟨k0, k1, ⟨za, zc, k2⟩, zk, zkc, k3⟩ := hown9.lies.forms
        have h69 : Below W6.heap.size W6 w9 := HO8.out.2.1.trans (hb9.mono HO8.out.2.1.size)
        have h59 : Below w5.heap.size w5 w9 := HX6.out.1.trans (h69.mono HX6.out.1.size)
        have hx9 := (h69.block w5.heap.size (Array.getElem?_eq_some_iff.1 HX6.out.2).1).trans HX6.out.2
        have hl5 : Lies w9 (fun _ => True) v5 u := HOwn.out.lies.step fun q hq _ => ⟨h59.block q hq, trivial⟩
        have hsame := same_any (law_small HLw.out.2.2) w9 _ _ v5 v9 hl5 hown9.lies
        have HB9 := hidLL (HB6.out.trans (h69.mono HB6.out.size))
        rw [k0, k1, k2, k3] at hg9 hsame
        rw [HG.out.1, HG.out.2.1, HG.out.2.2.1, HG.out.2.2.2] at hsame
        obtain ⟨c0, c1, c2, c3, cf⟩ := four hx9
        obtain ⟨d0, d1, d2, d3, df⟩ := four hg9
        have HS := hidLL hsame
        clear hb9 hg9 hown9 k0 k1 k2 k3 h69 h59 hx9 hl5 hsame x0 x1 x2 x3 xf
        go_wp2_with fail
        refine HS.out.mono ?_
        rintro e w10 ⟨rfl, hb10⟩
        have HB10 := hidLL (HB9.out.trans (hb10.mono HB9.out.size))
        clear hb10 c0 c1 c2 c3 cf d0 d1 d2 d3 df
        go_wp2
        go_ret
        exact ⟨rfl, HB10.out⟩
end Go.Proofs.YtpbolcjcmkmalaaGreatDoor
namespace Go.Proofs.YtpbolcjcmkmalaaGreatDoor
open Go.ChangeShapes Go.WideShapes Go.ChangeAt Go.WideMaps Go.WideElems Go.RowKit

theorem bulk_pos {H : Type} (d : DataW H) : 1 ≤ Rows.uptoBulk d := by
  unfold Rows.uptoBulk
  split <;> omega
theorem bulk_mem {H : Type} : ∀ {l : List (DataW H)} {d : DataW H}, d ∈ l → Rows.uptoBulk d ≤ Rows.uptoBulkAll l
  | a :: r, d, h => by
    rw [Rows.uptoBulkAll]
    rcases List.mem_cons.1 h with rfl | h
    · omega
    · have := bulk_mem h; omega
theorem bulk_len {H : Type} : ∀ (l : List (DataW H)), l.length ≤ Rows.uptoBulkAll l
  | [] => by simp
  | a :: r => by
    have := bulk_len r
    have := bulk_pos a
    rw [Rows.uptoBulkAll, List.length_cons]
    omega
section
variable {H : Type} {enc : TypeId × Value → H} {W : World}
theorem frz_sub {p q : List MemPlace} (h : W.noneFrozen q) (hs : ∀ x, x ∈ p → x ∈ q) : W.noneFrozen p := fun b o hm => h b o (hs _ hm)
theorem frz_field {xs : List (DataW H × List MemPlace)} (h : W.noneFrozen (xs.flatMap (·.2))) {y : DataW H × List MemPlace} (hy : y ∈ xs) : W.noneFrozen y.2 := frz_sub h fun _ hx => List.mem_flatMap.2 ⟨y, hy, hx⟩
/-- A slice's reading, an element at a time, whatever an element is: by bulk; no place of it is frozen. -/
theorem slice_bulk {α : Type} {t e : TypeId} {k : Nat} (hk : 0 < k) (ht : Tryz.prog.underlying t = some (.slice e)) (hc : Tryz.prog.cellsOf e = k) {fuel : Nat} {v : Value} {x : DataW H × List MemPlace}
    (h : DataW.trod enc Tryz.prog W 0 (fun _ => true) true fuel t [v] = some x) (hz : W.noneFrozen x.2) (M : Nat) (hM : Rows.uptoBulk x.1 ≤ M) (P : α → List Value → Nat → Prop)
    (hone : ∀ n, n < fuel → ∀ cs y, DataW.trod enc Tryz.prog W 0 (fun _ => true) true n e cs = some y → W.noneFrozen y.2 → Rows.uptoBulk y.1 ≤ M → ∃ a, P a cs (Rows.uptoBulk y.1)) :
    ∃ a c, ∃ l : List α, v = .slice a l.length c ∧ (a = none → c = 0) ∧ l.length ≤ c ∧ l.length ≤ M ∧ (∃ zs : List Nat, zs.length = l.length ∧ zs.sum + 1 ≤ Rows.uptoBulk x.1 ∧ ∀ i r z, l[i]? = some r → zs[i]? = some z → ∃ g o cs, a = some ⟨g, o, none⟩ ∧ g < W.heap.size ∧ W.frozen? ⟨g, o + i * k, none⟩ = false ∧ P r cs z ∧ ∀ c, c < k → W.cell? ⟨g, o + i * k + c, none⟩ = cs[c]?) := by
  rcases DataW.trod_slice ht h with ⟨h1, _⟩ | ⟨a, len, cap', elems, rest, m, hfu, h1, hx, _, hlc, _, helen, hel, _⟩
  · injection h1 with h1 _
    subst h1
    exact ⟨none, 0, [], rfl, fun _ => rfl, by simp, by simp, [], rfl, by simpa using bulk_pos x.1, fun i r z hr => by simp at hr⟩
  · injection h1 with h1 _
    subst h1
    subst hx
    rw [Rows.uptoBulk] at hM
    have hone2 : ∀ i, i < len → ∃ (a' : α) (cs : List Value) (z : Nat), P a' cs z ∧ ((elems.map (·.1))[i]?).map Rows.uptoBulk = some z ∧ ∀ c, c < k → W.cell? ((a.add (i * k)).add c) = cs[c]? := fun i hi => by
      have h2 := hel i hi
      obtain ⟨y, hy⟩ : ∃ y, elems[i]? = some y := ⟨_, List.getElem?_eq_getElem (by omega)⟩
      rw [hy, Option.bind_eq_some_iff] at h2
      obtain ⟨cs1, h3, h5⟩ := h2
      rw [hc] at h3
      have hym := List.mem_of_getElem? hy
      have hb := bulk_mem (List.mem_map_of_mem (f := (·.1)) hym)
      obtain ⟨a', ha⟩ := hone m (by omega) _ _ h5 (frz_sub hz fun p hp => List.mem_append_right _ (List.mem_flatMap.2 ⟨y, List.mem_append_left _ hym, hp⟩)) (by omega)
      exact ⟨a', cs1, _, ha, by rw [List.getElem?_map, hy]; rfl, (cells_at h3).2⟩
    refine ⟨some a, cap', ?_⟩
    have hlist : ∀ n, n ≤ len → ∃ l : List α, l.length = n ∧ ∀ i r, l[i]? = some r → ∃ cs z, P r cs z ∧ ((elems.map (·.1))[i]?).map Rows.uptoBulk = some z ∧ ∀ c, c < k → W.cell? ((a.add (i * k)).add c) = cs[c]? := fun n => by
      induction n with
      | zero => exact fun _ => ⟨[], rfl, fun i r hr => by simp at hr⟩
      | succ n ih =>
        intro hn
        obtain ⟨l, hl, hp⟩ := ih (by omega)
        obtain ⟨a', cs, z, h1, h2, h3⟩ := hone2 n (by omega)
        refine ⟨l ++ [a'], by simp [hl], fun i r hr => ?_⟩
        rcases Nat.lt_or_ge i n with hi | hi
        · rw [List.getElem?_append_left (by omega)] at hr
          exact hp i r hr
        · have hin : i = n := by
            have := (List.getElem?_eq_some_iff.1 hr).1
            simp at this
            omega
          subst hin
          rw [← hl] at hr
          simp at hr
          subst hr
          exact ⟨cs, z, h1, h2, h3⟩
    obtain ⟨l, hl, hp⟩ := hlist len (Nat.le_refl _)
    have hbl := bulk_len (elems.map (·.1))
    rw [List.length_map] at hbl
    refine ⟨l, by rw [hl], (fun h => by cases h), (by rw [hl]; exact hlc), (by omega), (elems.map (·.1)).map Rows.uptoBulk, (by simp [helen, hl]), ?_, fun i r z hr hz' => ?_⟩
    · rw [Rows.uptoBulk]
      have hs : ∀ ds : List (DataW H), (ds.map Rows.uptoBulk).sum = Rows.uptoBulkAll ds := by
        intro ds
        induction ds with
        | nil => rfl
        | cons d r ih => rw [List.map_cons, List.sum_cons, Rows.uptoBulkAll, ih]
      rw [hs]
      omega
    · obtain ⟨cs, z2, h1, h2, h3⟩ := hp i r hr
      rw [List.getElem?_map, h2] at hz'
      injection hz' with hz'
      subst hz'
      have hi : i < len := by have := (List.getElem?_eq_some_iff.1 hr).1; omega
      have h4 := hel 0 (by omega)
      obtain ⟨y, hy⟩ : ∃ y, elems[0]? = some y := ⟨_, List.getElem?_eq_getElem (by omega)⟩
      rw [hy, Option.bind_eq_some_iff] at h4
      obtain ⟨cs1, h5, _⟩ := h4
      rw [hc] at h5
      obtain ⟨q1, q2⟩ := cells_at h5
      have q3 := q2 0 hk
      rw [List.getElem?_eq_getElem (by omega), show (a.add (0 * k)).add 0 = a by simp [Addr.add]] at q3
      obtain ⟨ab, ao, hb⟩ := spot_none q3
      subst hb
      refine ⟨ab, ao, cs, rfl, cell_lt q3, hz ab (ao + i * k) (List.mem_append_left _ ?_), h1, fun c hc2 => ?_⟩
      · rw [hc]
        refine List.mem_map.2 ⟨i * k, List.mem_range.2 ?_, rfl⟩
        exact Nat.mul_lt_mul_of_pos_right (by omega) hk
      · rw [← h3 c hc2, addr_plus, addr_plus]
theorem sum_le {α : Type} (f : α → Nat) : ∀ (l : List α) (zs : List Nat), zs.length = l.length → (∀ (i : Nat) (r : α) (z : Nat), l[i]? = some r → zs[i]? = some z → f r ≤ z) → (l.map f).sum ≤ zs.sum
  | [], zs, _, _ => by simp
  | a :: r, [], h, _ => by simp at h
  | a :: r, z :: zs, h, hh => by
    have ih := sum_le f r zs (by simpa using h) fun i r' z' h1 h2 => hh (i + 1) r' z' (by simpa using h1) (by simpa using h2)
    have h0 := hh 0 a z rfl rfl
    rw [List.map_cons, List.sum_cons, List.sum_cons]
    omega
theorem sizeBs_sum : ∀ l : List ByteArray, sizeBs l = (l.map fun s => s.size + 1).sum
  | [] => rfl
  | a :: r => by rw [sizeBs, List.map_cons, List.sum_cons, sizeBs_sum r]
theorem sizeIts_sum : ∀ l : List It, sizeIts l = (l.map sizeIt).sum
  | [] => rfl
  | a :: r => by rw [sizeIts, List.map_cons, List.sum_cons, sizeIts_sum r]
set_option maxRecDepth 100000 in
/-- A law's reading. -/
theorem item_raw (M : Nat) : ∀ (fuel : Nat) (cs : List Value) (x : DataW H × List MemPlace), DataW.trod enc Tryz.prog W 0 (fun _ => true) true fuel 25 cs = some x → W.noneFrozen x.2 → Rows.uptoBulk x.1 ≤ M → ∃ (t : It) (v : Nat → Value), cs = [v 0, v 1, v 2, v 3] ∧ RawT W W.heap.size v t ∧ sizeIt t ≤ Rows.uptoBulk x.1 := by
  intro fuel
  induction fuel using Nat.strongRecOn with
  | ind fuel ih =>
    intro cs x h hz hM
    obtain ⟨xs, n, hfu, rfl, hl, hlen, hf⟩ := DataW.trod_struct Tryz.underlying25 h
    have h4 : Tryz.prog.cellsOf 25 = 4 := by kernel_rfl
    have hcs : Tryz.prog.cellsOf 9 = 1 := by kernel_rfl
    have hcl : Tryz.prog.cellsOf 22 = 1 := by kernel_rfl
    have hck : Tryz.prog.cellsOf 23 = 1 := by kernel_rfl
    rw [h4] at hl
    obtain ⟨c0, c1, c2, c3, rfl⟩ : ∃ c0 c1 c2 c3, cs = [c0, c1, c2, c3] := by
      match cs, hl with
      | [a, b, c, d], _ => exact ⟨a, b, c, d, rfl⟩
    obtain ⟨y0, y1, y2, y3, rfl⟩ : ∃ y0 y1 y2 y3, xs = [y0, y1, y2, y3] := by
      have hlen : xs.length = 4 := hlen
      match xs, hlen with
      | [a, b, c, d], _ => exact ⟨a, b, c, d, rfl⟩
    have t0 := hf 0 _ rfl
    have t1 := hf 1 _ rfl
    have t2 := hf 2 _ rfl
    have t3 := hf 3 _ rfl
    change DataW.trod enc Tryz.prog W 0 (fun _ => true) true n 9 ((List.drop 0 [c0, c1, c2, c3]).take (Tryz.prog.cellsOf 9)) = some y0 at t0
    change DataW.trod enc Tryz.prog W 0 (fun _ => true) true n 9 ((List.drop 1 [c0, c1, c2, c3]).take (Tryz.prog.cellsOf 9)) = some y1 at t1
    change DataW.trod enc Tryz.prog W 0 (fun _ => true) true n 22 ((List.drop 2 [c0, c1, c2, c3]).take (Tryz.prog.cellsOf 22)) = some y2 at t2
    change DataW.trod enc Tryz.prog W 0 (fun _ => true) true n 23 ((List.drop 3 [c0, c1, c2, c3]).take (Tryz.prog.cellsOf 23)) = some y3 at t3
    rw [hcs] at t0 t1
    rw [hcl] at t2
    rw [hck] at t3
    change DataW.trod enc Tryz.prog W 0 (fun _ => true) true n 9 [c0] = some y0 at t0
    change DataW.trod enc Tryz.prog W 0 (fun _ => true) true n 9 [c1] = some y1 at t1
    change DataW.trod enc Tryz.prog W 0 (fun _ => true) true n 22 [c2] = some y2 at t2
    change DataW.trod enc Tryz.prog W 0 (fun _ => true) true n 23 [c3] = some y3 at t3
    obtain ⟨s0, e0, x0, _⟩ := DataW.trod_string Tryz.underlying9 t0
    obtain ⟨s1, e1, x1, _⟩ := DataW.trod_string Tryz.underlying9 t1
    have hbk : Rows.uptoBulk (.agg ([y0, y1, y2, y3].map (·.1)) : DataW H) = Rows.uptoBulk y0.1 + Rows.uptoBulk y1.1 + Rows.uptoBulk y2.1 + Rows.uptoBulk y3.1 + 1 := by
      show Rows.uptoBulk (.agg [y0.1, y1.1, y2.1, y3.1]) = _
      rw [Rows.uptoBulk, Rows.uptoBulkAll, Rows.uptoBulkAll, Rows.uptoBulkAll, Rows.uptoBulkAll, Rows.uptoBulkAll]
      omega
    have hM : Rows.uptoBulk (.agg ([y0, y1, y2, y3].map (·.1)) : DataW H) ≤ M := hM
    rw [hbk] at hM
    obtain ⟨la, lc, ls, e2, hla, hlc, _, zs, hzl, hzs, hls⟩ := slice_bulk (α := ByteArray) (by decide) Tryz.underlying22 hcs t2 (frz_field hz (by simp)) M (by omega) (fun s cs z => cs = [.string s] ∧ s.size + 1 ≤ z) (fun m _ cs y hy _ _ => by
      obtain ⟨s, h1, h2, _⟩ := DataW.trod_string Tryz.underlying9 hy
      refine ⟨s, h1, ?_⟩
      rw [h2]
      show _ ≤ Rows.uptoBulk (.lit (.string s.data.toList))
      rw [Rows.uptoBulk]
      have : s.data.toList.length = s.size := by simp
      omega)
    obtain ⟨ka, kc, ks, e3, hka, hkc, _, zk, hzkl, hzk, hks⟩ := slice_bulk (α := It × (Nat → Value)) (by decide) Tryz.underlying23 h4 t3 (frz_field hz (by simp)) M (by omega) (fun r cs z => cs = [r.2 0, r.2 1, r.2 2, r.2 3] ∧ RawT W W.heap.size r.2 r.1 ∧ sizeIt r.1 ≤ z) (fun m hm cs y hy hyz hyM => by
      obtain ⟨t, v, h1, h2, h3⟩ := ih m (by omega) cs y hy hyz hyM
      exact ⟨(t, v), h1, h2, h3⟩)
    have e0 : c0 = .string s0 := by injection e0
    have e1 : c1 = .string s1 := by injection e1
    subst e0 e1 e2 e3
    have hgl : ∀ i s, ls[i]? = some s → ∃ z, zs[i]? = some z := fun i s hs => ⟨_, List.getElem?_eq_getElem (by rw [hzl]; exact (List.getElem?_eq_some_iff.1 hs).1)⟩
    have hgk : ∀ i r, ks[i]? = some r → ∃ z, zk[i]? = some z := fun i s hs => ⟨_, List.getElem?_eq_getElem (by rw [hzkl]; exact (List.getElem?_eq_some_iff.1 hs).1)⟩
    refine ⟨It.mk s0 s1 ls (ks.map (·.1)), fun i => match i with | 0 => .string s0 | 1 => .string s1 | 2 => .slice la ls.length lc | _ => .slice ka ks.length kc, rfl, ?_, ?_⟩
    · refine .mk _ _ la ka lc kc (fun i c => ((ks[i]?).map fun r => r.2 c).getD .nilIface) rfl rfl rfl (by show Value.slice ka ks.length kc = Value.slice ka (ks.map (·.1)).length kc; rw [List.length_map]) (fun i s hs => ?_) (fun i hi => ?_) (fun i k hk => ?_) hla hka hlc (by show (ks.map (·.1)).length ≤ kc; rw [List.length_map]; exact hkc)
      · have hs : ls[i]? = some s := hs
        obtain ⟨z, hz'⟩ := hgl i s hs
        obtain ⟨g, o, cs, h1, h2, _, h3, h5⟩ := hls i s z hs hz'
        refine ⟨g, o, h1, h2, ?_⟩
        have h6 := h5 0 (by omega)
        rw [h3.1, Nat.mul_one] at h6
        exact h6
      · have hi : i < (ks.map (·.1)).length := hi
        rw [List.length_map] at hi
        obtain ⟨r, hr⟩ : ∃ r, ks[i]? = some r := ⟨_, List.getElem?_eq_getElem hi⟩
        obtain ⟨z, hz'⟩ := hgk i r hr
        obtain ⟨g, o, cs, h1, h2, h3, h5, h6⟩ := hks i r z hr hz'
        have hc : ∀ c, c < 4 → W.cell? ⟨g, o + i * 4 + c, none⟩ = some (((ks[i]?).map fun r => r.2 c).getD .nilIface) := fun c hc => by
          rw [h6 c hc, h5.1, hr]
          match c, hc with
          | 0, _ => rfl
          | 1, _ => rfl
          | 2, _ => rfl
          | 3, _ => rfl
        exact ⟨g, o, h1, h2, ⟨⟨_, hc 0 (by omega)⟩, h3⟩, hc⟩
      · have hk : (ks.map (·.1))[i]? = some k := hk
        rw [List.getElem?_map] at hk
        obtain ⟨r, hr, rfl⟩ := Option.map_eq_some_iff.1 hk
        obtain ⟨z, hz'⟩ := hgk i r hr
        obtain ⟨g, o, cs, _, _, _, h5, _⟩ := hks i r z hr hz'
        have e : (fun c => ((ks[i]?).map fun r => r.2 c).getD .nilIface) = r.2 := by funext c; rw [hr]; rfl
        show RawT W W.heap.size (fun c => ((ks[i]?).map fun r => r.2 c).getD .nilIface) r.1
        rw [e]
        exact h5.2.1
    · have hA := sum_le (fun s : ByteArray => s.size + 1) ls zs hzl fun i r z h1 h2 => by
        obtain ⟨_, _, _, _, _, _, h3, _⟩ := hls i r z h1 h2
        exact h3.2
      have hB := sum_le (fun r : It × (Nat → Value) => sizeIt r.1) ks zk hzkl fun i r z h1 h2 => by
        obtain ⟨_, _, _, _, _, _, h3, _⟩ := hks i r z h1 h2
        exact h3.2.2
      rw [sizeIt, sizeBs_sum, sizeIts_sum, List.map_map]
      have hB' : (ks.map (sizeIt ∘ fun x => x.1)).sum ≤ zk.sum := hB
      show _ ≤ Rows.uptoBulk (.agg ([y0, y1, y2, y3].map (·.1)) : DataW H)
      rw [hbk, x0, x1]
      show _ ≤ Rows.uptoBulk (.lit (.string s0.data.toList)) + Rows.uptoBulk (.lit (.string s1.data.toList)) + _ + _ + 1
      rw [Rows.uptoBulk, Rows.uptoBulk]
      have z0 : s0.data.toList.length = s0.size := by simp
      have z1 : s1.data.toList.length = s1.size := by simp
      omega
set_option maxRecDepth 100000 in
theorem item_rarg {base : Nat} {v : Value} {d : DataW H} {ps : List MemPlace}
    (hval : Value.okWide Tryz.prog W .any base 25 v) (hd : DataW.Trod enc Tryz.prog W 0 (fun _ => true) true 25 v d ps) (hz : W.noneFrozen ps) :
    ∃ t u, v = .agg #[u 0, u 1, u 2, u 3] ∧ RawT W W.heap.size u t ∧ sizeIt t ≤ Rows.uptoBulk d := by
  obtain ⟨cs, rfl, hsz⟩ := okWide_struct Tryz.underlying25 hval
  obtain ⟨fuel, hf⟩ := hd
  obtain ⟨t, u, h1, h2, h3⟩ := item_raw _ fuel _ _ hf hz (Nat.le_refl _)
  refine ⟨t, u, ?_, h2, h3⟩
  have h4 : cs.toList = [u 0, u 1, u 2, u 3] := h1
  rcases cs with ⟨l⟩
  have h5 : l = [u 0, u 1, u 2, u 3] := h4
  rw [h5]
theorem Tryz.c_int : Tryz.prog.cellsOf 3 = 1 := by kernel_rfl
theorem Tryz.c_str : Tryz.prog.cellsOf 9 = 1 := by kernel_rfl
theorem Tryz.c_item : Tryz.prog.cellsOf 25 = 4 := by kernel_rfl
theorem Tryz.c_op : Tryz.prog.cellsOf 46 = 10 := by kernel_rfl
theorem w64 {n : Int} (h : (Lit.int .i64 n).wf = true) : -9223372036854775808 ≤ n ∧ n ≤ 9223372036854775807 := by
  have e1 : IntKind.i64.min = -9223372036854775808 := by decide
  have e2 : IntKind.i64.max = 9223372036854775807 := by decide
  have h : (decide (IntKind.i64.min ≤ n) && decide (n ≤ IntKind.i64.max)) = true := h
  rw [Bool.and_eq_true, decide_eq_true_eq, decide_eq_true_eq, e1, e2] at h
  exact h
theorem bulk_str (s : ByteArray) : Rows.uptoBulk (.lit (.string s.data.toList) : DataW H) = s.size + 1 := by
  rw [Rows.uptoBulk]
  have : s.data.toList.length = s.size := by simp
  omega
set_option maxRecDepth 100000 in
/-- A change's reading. -/
theorem op_raw (M n : Nat) (cs : List Value) (y : DataW H × List MemPlace) (hy : DataW.trod enc Tryz.prog W 0 (fun _ => true) true n 46 cs = some y) (hz : W.noneFrozen y.2) (hM : Rows.uptoBulk y.1 ≤ M) :
    ∃ r : OpW × (Nat → Value), cs = (opV r.1 r.2).toList ∧ RawT W W.heap.size r.2 r.1.item ∧ sizeIt r.1.item ≤ M ∧ r.1.path.size ≤ M ∧ r.1.text.size ≤ M ∧ r.1.new.size ≤ M ∧ r.1.at'.size ≤ M ∧ -9223372036854775808 ≤ r.1.line ∧ r.1.line ≤ 9223372036854775807 := by
  obtain ⟨xs, m, _, hy1, hl, hlen, hf⟩ := DataW.trod_struct Tryz.underlying46 hy
  rw [Tryz.c_op] at hl
  have hlen : xs.length = 7 := hlen
  subst hy1
  match cs, hl, xs, hlen with
  | [u0, u1, u2, u3, u4, u5, u6, u7, u8, u9], _, [y0, y1, y2, y3, y4, y5, y6], _ =>
      have f0 := hf 0 _ rfl
      change DataW.trod enc Tryz.prog W 0 (fun _ => true) true m 3 ((List.drop 0 [u0, u1, u2, u3, u4, u5, u6, u7, u8, u9]).take (Tryz.prog.cellsOf 3)) = some y0 at f0
      rw [Tryz.c_int] at f0
      obtain ⟨m0, e0, x0, w0⟩ := DataW.trod_int Tryz.underlying3 f0
      have e0 : [u0] = [Value.int .i64 m0] := e0
      injection e0 with e0
      have f1 := hf 1 _ rfl
      change DataW.trod enc Tryz.prog W 0 (fun _ => true) true m 9 ((List.drop 1 [u0, u1, u2, u3, u4, u5, u6, u7, u8, u9]).take (Tryz.prog.cellsOf 9)) = some y1 at f1
      rw [Tryz.c_str] at f1
      obtain ⟨m1, e1, x1, w1⟩ := DataW.trod_string Tryz.underlying9 f1
      have e1 : [u1] = [Value.string m1] := e1
      injection e1 with e1
      have f2 := hf 2 _ rfl
      change DataW.trod enc Tryz.prog W 0 (fun _ => true) true m 9 ((List.drop 2 [u0, u1, u2, u3, u4, u5, u6, u7, u8, u9]).take (Tryz.prog.cellsOf 9)) = some y2 at f2
      rw [Tryz.c_str] at f2
      obtain ⟨m2, e2, x2, w2⟩ := DataW.trod_string Tryz.underlying9 f2
      have e2 : [u2] = [Value.string m2] := e2
      injection e2 with e2
      have f3 := hf 3 _ rfl
      change DataW.trod enc Tryz.prog W 0 (fun _ => true) true m 9 ((List.drop 3 [u0, u1, u2, u3, u4, u5, u6, u7, u8, u9]).take (Tryz.prog.cellsOf 9)) = some y3 at f3
      rw [Tryz.c_str] at f3
      obtain ⟨m3, e3, x3, w3⟩ := DataW.trod_string Tryz.underlying9 f3
      have e3 : [u3] = [Value.string m3] := e3
      injection e3 with e3
      have f4 := hf 4 _ rfl
      change DataW.trod enc Tryz.prog W 0 (fun _ => true) true m 9 ((List.drop 4 [u0, u1, u2, u3, u4, u5, u6, u7, u8, u9]).take (Tryz.prog.cellsOf 9)) = some y4 at f4
      rw [Tryz.c_str] at f4
      obtain ⟨m4, e4, x4, w4⟩ := DataW.trod_string Tryz.underlying9 f4
      have e4 : [u4] = [Value.string m4] := e4
      injection e4 with e4
      have f5 := hf 5 _ rfl
      change DataW.trod enc Tryz.prog W 0 (fun _ => true) true m 3 ((List.drop 5 [u0, u1, u2, u3, u4, u5, u6, u7, u8, u9]).take (Tryz.prog.cellsOf 3)) = some y5 at f5
      rw [Tryz.c_int] at f5
      obtain ⟨m5, e5, x5, w5⟩ := DataW.trod_int Tryz.underlying3 f5
      have e5 : [u5] = [Value.int .i64 m5] := e5
      injection e5 with e5
      have f6 := hf 6 _ rfl
      change DataW.trod enc Tryz.prog W 0 (fun _ => true) true m 25 ((List.drop 6 [u0, u1, u2, u3, u4, u5, u6, u7, u8, u9]).take (Tryz.prog.cellsOf 25)) = some y6 at f6
      rw [Tryz.c_item] at f6
      change DataW.trod enc Tryz.prog W 0 (fun _ => true) true m 25 [u6, u7, u8, u9] = some y6 at f6
      have hbk : Rows.uptoBulk (.agg ([y0, y1, y2, y3, y4, y5, y6].map (·.1)) : DataW H) = Rows.uptoBulk y0.1 + Rows.uptoBulk y1.1 + Rows.uptoBulk y2.1 + Rows.uptoBulk y3.1 + Rows.uptoBulk y4.1 + Rows.uptoBulk y5.1 + Rows.uptoBulk y6.1 + 1 := by
        show Rows.uptoBulk (.agg [y0.1, y1.1, y2.1, y3.1, y4.1, y5.1, y6.1]) = _
        rw [Rows.uptoBulk, Rows.uptoBulkAll, Rows.uptoBulkAll, Rows.uptoBulkAll, Rows.uptoBulkAll, Rows.uptoBulkAll, Rows.uptoBulkAll, Rows.uptoBulkAll, Rows.uptoBulkAll]
        omega
      have hM : Rows.uptoBulk (.agg ([y0, y1, y2, y3, y4, y5, y6].map (·.1)) : DataW H) ≤ M := hM
      rw [hbk, x1, x2, x3, x4] at hM
      have hM : _ + Rows.uptoBulk (.lit (.string m1.data.toList) : DataW H) + Rows.uptoBulk (.lit (.string m2.data.toList) : DataW H) + Rows.uptoBulk (.lit (.string m3.data.toList) : DataW H) + Rows.uptoBulk (.lit (.string m4.data.toList) : DataW H) + _ + _ + 1 ≤ M := hM
      rw [bulk_str, bulk_str, bulk_str, bulk_str] at hM
      obtain ⟨t, v, h1, h2, h3⟩ := item_raw M m _ y6 f6 (frz_field hz (by simp)) (by omega)
      have w5 := w64 w5
      refine ⟨(⟨m0, m1, m2, m3, m4, m5, t⟩, v), ?_, h2, by show sizeIt t ≤ M; omega, by show m1.size ≤ M; omega, by show m3.size ≤ M; omega, by show m4.size ≤ M; omega, by show m2.size ≤ M; omega, w5.1, w5.2⟩
      injection h1 with g6 h1
      injection h1 with g7 h1
      injection h1 with g8 h1
      injection h1 with g9 _
      rw [e0, e1, e2, e3, e4, e5, g6, g7, g8, g9]
      rfl
set_option maxRecDepth 100000 in
theorem ops_rarg {base : Nat} {v : Value} {d : DataW H} {ps : List MemPlace}
    (hval : Value.okWide Tryz.prog W .any base 26 v) (hd : DataW.Trod enc Tryz.prog W 0 (fun _ => true) true 26 v d ps) (hz : W.noneFrozen ps) (hM : Rows.uptoBulk d ≤ 1048576) :
    ∃ oa oc ops, v = .slice oa ops.length oc ∧ (oa = none → oc = 0) ∧ ops.length ≤ oc ∧ ops.length ≤ 1048576 ∧ OpsRaw W W.heap.size oa ops := by
  obtain ⟨fuel, hf⟩ := hd
  obtain ⟨a0, n0, c0, rfl⟩ : ∃ a n c, v = .slice a n c := okWide_slice Tryz.underlying26 hval
  obtain ⟨a, c, l, e, h1, h2, h3, zs, hzl, _, hx⟩ := slice_bulk (α := OpW × (Nat → Value)) (by decide) Tryz.underlying26 Tryz.c_op hf hz 1048576 hM (fun r cs _ => cs = (opV r.1 r.2).toList ∧ RawT W W.heap.size r.2 r.1.item ∧ sizeIt r.1.item ≤ 1048576 ∧ r.1.path.size ≤ 1048576 ∧ r.1.text.size ≤ 1048576 ∧ r.1.new.size ≤ 1048576 ∧ r.1.at'.size ≤ 1048576 ∧ -9223372036854775808 ≤ r.1.line ∧ r.1.line ≤ 9223372036854775807) (fun n _ cs y hy hyz hyM => op_raw 1048576 n cs y hy hyz hyM)
  refine ⟨a, c, l.map (·.1), by rw [List.length_map]; exact e, h1, by rw [List.length_map]; exact h2, by rw [List.length_map]; exact h3, fun i op hi => ?_⟩
  rw [List.getElem?_map] at hi
  obtain ⟨r, hr, rfl⟩ := Option.map_eq_some_iff.1 hi
  obtain ⟨z, hz'⟩ : ∃ z, zs[i]? = some z := ⟨_, List.getElem?_eq_getElem (by rw [hzl]; exact (List.getElem?_eq_some_iff.1 hr).1)⟩
  obtain ⟨g, o, cs, q1, q2, _, ⟨q3, q4⟩, q5⟩ := hx i r z hr hz'
  refine ⟨g, o, r.2, q1, q2, fun c u hu => ?_, q4⟩
  have hc : c < 10 := (Array.getElem?_eq_some_iff.1 hu).1
  rw [q5 c hc, q3, Array.getElem?_toList]
  exact hu
end
end Go.Proofs.YtpbolcjcmkmalaaGreatDoor

/-
  The law's own 'small', 'Few'.
-/
import Derived.Test.YtpbolcjcmkmalaaGreatDoorFo11
import Derived.Test.YtpbolcjcmkmalaaGreatDoorFo12
import Derived.Test.YtpbolcjcmkmalaaGreatDoorFo09
namespace Go.Proofs.YtpbolcjcmkmalaaGreatDoor
open Go.RowKit Go.Extern.Stop Go.Stop Go.Extern

theorem Lies.linesIn {w : World} {P : Nat → Prop} {v : Nat → Value} {t : It} (h : Lies w P v t) {la : Option Addr} {n lc : Nat} (e : v 2 = .slice la n lc) : n = t.lines.length ∧ ∀ i s, t.lines[i]? = some s → ∃ b o, la = some ⟨b, o, none⟩ ∧ P b ∧ w.cell? ⟨b, o + i, none⟩ = some (.string s) := by
  cases h with
  | mk v t la' ka lc' kc V h0 h1 h2 h3 hl hk hr hlc hkc =>
    rw [h2] at e
    injection e with e1 e2 e3
    subst e1 e2 e3
    exact ⟨rfl, hl⟩
/-- The box that a call lays for an item. -/
structure BoxI (w wr : World) (a b c d : Value) : Prop where
  bx : wr.heap[w.heap.size]? = some (.cells #[a, b, c, d] 25 (0, 0))
  bel : Below w.heap.size w wr
theorem BoxI.start (w : World) (a b c d : Value) : BoxI w (w.alloc (.cells #[a, b, c, d] 25)) a b c d := ⟨heap_alloc_new _ _, (Below.refl _ _).alloc (Nat.le_refl _) _⟩
theorem BoxI.on {w wr wr' : World} {a b c d : Value} (h : BoxI w wr a b c d) (hb : Below wr.heap.size wr wr') : BoxI w wr' a b c d :=
  ⟨(hb.block _ (lt_of_block h.bx)).trans h.bx, h.bel.trans (hb.mono (by have := lt_of_block h.bx; omega))⟩
set_option maxHeartbeats 4000000 in
set_option maxRecDepth 10000 in
theorem small_any : ∀ (N : Nat) (t : It), sizeIt t ≤ N → N ≤ 4194304 → ∀ (d : Nat) (v : Nat → Value) (w : World) (P : Nat → Prop), Lies w P v t → d ≤ 13 →
    Calls Tryz.prog 15 #[.agg #[v 0, v 1, v 2, v 3], .int .i64 d] w fun e w' => e = .returned (.int .i64 (smallN d t)) ∧ Below w.heap.size w w'
  | 0, t, h, _, d, v, w, P, hL, hd => by have := sizeIt_eq t; omega
  | N + 1, t, h, hN, d, v, w, P, hL, hd => by
    have hst := sizeIt_eq t
    have hbd := small_bd (N + 1) t h
    have hl4 := lines400_le t.lines
    have hkl := sizeIts_len t.kids
    obtain ⟨f0, f1, ⟨la, lc, f2⟩, ⟨ka, kc, f3⟩⟩ := hL.forms
    have hlx := (hL.linesIn f2).2
    obtain ⟨_, V, hk, hr⟩ := hL.kidsAt f3
    have HIH := hidLL (fun k (hk : k ∈ t.kids) v w P hL hd => small_any N k (by have := kid_size hk; omega) (by omega) (d + 1) v w P hL hd)
    have HLx := hidLL hlx
    have HK := hidLL (And.intro hk hr)
    have HEq := hidLL (smallN_eq d t)
    rw [f0, f1, f2, f3]
    clear hL hlx hk hr f0 f1 f2 f3
    by_cases h12 : 12 < d
    · have hdz : (12 : Int) < (d : Int) := by omega
      have HV : Hid (smallN d t = 1000) := by show _ = _; rw [HEq.out, if_pos h12]
      generalize t.label = lb at *
      generalize t.head = hh at *
      clear h12 hbd
      go_enter Tryz.func15, Tryz.ntmps15
      go_wp2
      go_ret
      exact ⟨by rw [HV.out]; rfl, (Below.refl _ _).alloc (Nat.le_refl _) _⟩
    have hdz : (d : Int) ≤ 12 := by omega
    have HV : Hid (smallN d t = smallK d (1 + t.lines.length + (t.head.size + t.label.size) / 400 + lines400 t.lines) t.kids) := by show _ = _; rw [HEq.out, if_neg h12]
    have hbd2 := hbd d
    obtain ⟨ln, hln⟩ : ∃ ln, ln = t.lines.length := ⟨_, rfl⟩
    obtain ⟨kn, hkn⟩ : ∃ kn, kn = t.kids.length := ⟨_, rfl⟩
    obtain ⟨n0, hn0⟩ : ∃ n0, n0 = 1 + t.lines.length + (t.head.size + t.label.size) / 400 := ⟨_, rfl⟩
    have HN0 := hidLL hn0
    have hn0b : n0 ≤ 4194304 * 2 := by omega
    have hl4b : lines400 t.lines ≤ 4194304 := by omega
    rw [← hn0] at HV
    rw [← hln, ← hkn]
    have hlnb : ln ≤ 4194304 := by omega
    have hknb : kn ≤ 4194304 := by omega
    have hhb : t.head.size + t.label.size ≤ 4194304 := by omega
    have hn0e : (1 : Int) + (ln : Int) + ((t.head.size : Int) + (t.label.size : Int)) / 400 = (n0 : Int) := by rw [hn0, hln]; omega
    have HLk := hidLL (And.intro hln hkn)
    clear hn0 hln hkn h12 hbd hst hl4 hkl
    generalize t.label = lb at *
    generalize t.head = hh at *
    go_enter Tryz.func15, Tryz.ntmps15
    have HBx := hidLL (BoxI.start w (.string lb) (.string hh) (.slice la ln lc) (.slice ka kn kc))
    go_wp2_with fail
    obtain ⟨w2, hw2⟩ : ∃ w2, w2 = w.alloc (.cells #[.string lb, .string hh, .slice la ln lc, .slice ka kn kc] 25) := ⟨_, rfl⟩
    rw [← hw2] at HBx
    try simp only [← hw2]
    clear hw2
    obtain ⟨c0, c1, c2, c3, cf⟩ := four HBx.out.bx
    have hT : Hid (n0 = 1 + t.lines.length + (hh.size + lb.size) / 400) := HN0.out
    clear hT
    have HLt := hidLL (fun i s h => lines400_take t.lines i s h)
    have HLa := hidLL (fun i => lines400_all t.lines i)
    go_loop [5, 6] (fun n y => ∃ i : Nat, i ≤ ln ∧ y = .int .i64 i ∧ n = .int .i64 ((n0 + lines400 (t.lines.take i) : Nat))) (fun _ y => (ln - RowKit.intOf y).toNat)
    case atStart => exact ⟨0, by omega, rfl, by rw [List.take_zero]; show _ = Value.int .i64 ((n0 + 0 : Nat) : Int); rw [Nat.add_zero]⟩
    case round =>
      obtain ⟨i, hi, rfl, rfl⟩ := hrel
      have hla := HLa.out i
      by_cases hin : i < ln
      · have hiz : (i : Int) < ln := by omega
        obtain ⟨x, hx⟩ : ∃ x, t.lines[i]? = some x := ⟨_, List.getElem?_eq_getElem (by rw [← HLk.out.1]; exact hin)⟩
        obtain ⟨b, o, rfl, _, cx⟩ := HLx.out i x hx
        have dx := (HBx.out.bel.cell (p := ⟨b, o + i, none⟩) (cell_lt cx)).trans cx
        have hnx := HLt.out i x hx
        have hmq : lines400 (t.lines.take i) + x.size / 400 ≤ 4194304 := by have := HLa.out (i + 1); omega
        have HNx := hidLL hnx
        clear hnx hla
        generalize lines400 (t.lines.take i) = m at *
        have hdiv : (x.size : Int) / 400 = ((x.size / 400 : Nat) : Int) := by omega
        generalize x.size / 400 = xq at *
        clear hx cx
        have hmb : (n0 : Int) + (m : Int) + (xq : Int) ≤ 100000000 := by omega
        go_wp2
        go_round
        case rel => exact ⟨i + 1, by omega, by go_num, by rw [HNx.out]; go_num⟩
        case measure => simp [RowKit.intOf]; omega
      · obtain rfl : i = ln := by omega
        have hall : t.lines.take i = t.lines := List.take_of_length_le (by rw [← HLk.out.1]; exact Nat.le_refl _)
        rw [hall] at hla
        rw [hall]
        generalize hm1 : n0 + lines400 t.lines = m1 at *
        have hm1b : m1 ≤ 5000000000 := by omega
        have HM1 := hidLL hm1
        clear hall hla hm1
        go_wp2_with fail
        go_loopw [5, 7] (fun n y wr => ∃ j m : Nat, j ≤ kn ∧ y = .int .i64 j ∧ n = .int .i64 (m : Nat) ∧ m ≤ 5000000000 ∧ smallK d m (t.kids.drop j) = smallN d t ∧ BoxI w wr (.string lb) (.string hh) (.slice la i lc) (.slice ka kn kc)) (fun _ y _ => (kn - RowKit.intOf y).toNat)
        case atStart => exact ⟨0, m1, by omega, rfl, rfl, hm1b, by rw [List.drop_zero, HV.out], HBx.out⟩
        case round =>
          obtain ⟨j, m, hj, rfl, rfl, hmb, hsk, hbx⟩ := hrel
          have HX := hidLL hbx
          have HSk := hidLL hsk
          clear c0 c1 c2 c3 cf
          obtain ⟨c0, c1, c2, c3, cf⟩ := four hbx.bx
          clear hbx hsk
          by_cases hin : j < kn
          · have hjz : (j : Int) < kn := by omega
            have hjd : decide ((j : Int) < (kn : Int)) = true := decide_eq_true hjz
            by_cases hm : m < 1000
            · have hmz : (m : Int) < 1000 := by omega
              obtain ⟨x, hx⟩ : ∃ x, t.kids[j]? = some x := ⟨_, List.getElem?_eq_getElem (by rw [← HLk.out.2]; exact hin)⟩
              obtain ⟨b, o, hka, _, cx⟩ := HK.out.1 j (by rw [← HLk.out.2]; exact hin)
              subst hka
              have hLx := (HK.out.2 j x hx).bel HX.out.bel
              have hxm := List.mem_of_getElem? hx
              have HC := hidLL (HIH.out x hxm (V j) wr P hLx (by omega))
              have hsm := small_bd (sizeIt x) x (Nat.le_refl _) (d + 1)
              have hxs := kid_size hxm
              have HSt := hidLL ((smallK_step (d := d) hx hm).symm.trans HSk.out)
              obtain ⟨g0, g1, ⟨pa, pc, g2⟩, ⟨pk, pkc, g3⟩⟩ := hLx.forms
              have hbl := cell_lt (cx 0 (by omega))
              have y0 := (HX.out.bel.cell (p := ⟨b, o + j * 4, none⟩) hbl).trans (cx 0 (by omega))
              have y1 := (HX.out.bel.cell (p := ⟨b, o + j * 4 + 1, none⟩) hbl).trans (cx 1 (by omega))
              have y2 := (HX.out.bel.cell (p := ⟨b, o + j * 4 + 2, none⟩) hbl).trans (cx 2 (by omega))
              have y3 := (HX.out.bel.cell (p := ⟨b, o + j * 4 + 3, none⟩) hbl).trans (cx 3 (by omega))
              rw [g0] at y0
              rw [g1] at y1
              rw [g2] at y2
              rw [g3] at y3
              rw [g0, g1, g2, g3] at HC
              have hsb : smallN (d + 1) x ≤ 4999999000 := by omega
              generalize smallN (d + 1) x = sx at *
              generalize x.label = xl at *
              generalize x.head = xh at *
              generalize x.lines.length = xn at *
              generalize x.kids.length = xk at *
              clear hLx cx g0 g1 g2 g3 hx hxm hxs hsm
              go_wp2_with fail
              go_at_call 15
              refine HC.out.mono ?_
              rintro e w5 ⟨rfl, hb5⟩
              have HX5 := hidLL (HX.out.on hb5)
              clear hb5
              go_wp2
              go_roundw
              case rel => exact ⟨j + 1, m + sx, by omega, by go_num, by go_num, by omega, HSt.out, HX5.out⟩
              case measure => simp [RowKit.intOf]; omega
            · have hmz : (1000 : Int) ≤ (m : Int) := by omega
              have HR : Hid (smallN d t = m) := HSk.out.symm.trans (smallK_stop (by omega))
              go_wp2
              go_ret
              exact ⟨by rw [HR.out]; rfl, HX.out.bel⟩
          · have hjd : decide ((j : Int) < (kn : Int)) = false := decide_eq_false (by omega)
            have HR : Hid (smallN d t = m) := HSk.out.symm.trans (smallK_end (by rw [← HLk.out.2]; omega))
            go_wp2
            go_ret
            exact ⟨by rw [HR.out]; rfl, HX.out.bel⟩
theorem few_any (t : It) (hs : sizeIt t ≤ 4194304) (v : Nat → Value) (w : World) (P : Nat → Prop) (hL : Lies w P v t) :
    Calls Tryz.prog 7 #[.agg #[v 0, v 1, v 2, v 3]] w fun e w' => e = .returned (.bool (decide (smallN 0 t ≤ 400))) ∧ Below w.heap.size w w' := by
  obtain ⟨f0, f1, ⟨la, lc, f2⟩, ⟨ka, kc, f3⟩⟩ := hL.forms
  have hb : Below w.heap.size w (w.alloc (.cells #[v 0, v 1, v 2, v 3] 25)) := (Below.refl _ _).alloc (Nat.le_refl _) _
  have HC := hidLL (small_any _ t (Nat.le_refl _) hs 0 v _ P (hL.bel hb) (by omega))
  rw [f0, f1, f2, f3] at HC
  rw [f0, f1, f2, f3]
  generalize t.label = l0 at *
  generalize t.head = l1 at *
  generalize t.lines.length = l2 at *
  generalize t.kids.length = l3 at *
  generalize smallN 0 t = n at *
  clear hL f0 f1 f2 f3 hb hs
  go_enter Tryz.func7, Tryz.ntmps7
  go_wp2_with fail
  go_at_call 15
  refine HC.out.mono ?_
  rintro e w1 ⟨rfl, hb1⟩
  have HB1 := hidLL hb1
  clear hb1
  go_wp2
  go_ret
  refine ⟨ret_b ?_, ((Below.refl _ _).alloc (Nat.le_refl _) _).trans (HB1.out.mono (by simp))⟩
  rw [decide_eq_decide]; omega
end Go.Proofs.YtpbolcjcmkmalaaGreatDoor
namespace Go.Proofs.YtpbolcjcmkmalaaGreatDoor
open Go.RowKit Go.Extern.Stop Go.Stop Go.Extern

/-- The kids so far: their row lies from B1 on; they lie where P says or from B1 on, not in the row. -/
structure KRow (P : Nat → Prop) (B1 : Nat) (w : World) (sv : Value) (L : List It) (K : Nat → Nat → Value) : Prop where
  row : w.ownsRow B1 25 4 sv L.length (flat4 K L.length)
  each : ∀ q y, L[q]? = some y → Lies w (fun k => sv.ownBlock ≠ some k ∧ (P k ∨ B1 ≤ k)) (K q) y
theorem KRow.nil (P : Nat → Prop) (B1 : Nat) (w : World) (K : Nat → Nat → Value) : KRow P B1 w (.slice none 0 0) [] K := ⟨World.ownsRow_nil _ _ _ _, fun q y h => by cases h⟩
theorem KRow.on {P : Nat → Prop} {B1 : Nat} {w w' : World} {sv : Value} {L : List It} {K : Nat → Nat → Value} (h : KRow P B1 w sv L K) (hb : Below w.heap.size w w') : KRow P B1 w' sv L K :=
  ⟨row_step h.row fun g _ hg => hb.block g hg, fun q y e => (h.each q y e).bel hb⟩
/-- One more. -/
theorem KRow.push {P : Nat → Prop} {B1 : Nat} {w W w' : World} {sv sv' : Value} {L : List It} {K : Nat → Nat → Value} (h : KRow P B1 w sv L K) (hA : Below w.heap.size w W) {x : Nat → Value} {y : It}
    (hx : Lies W (fun k => sv.ownBlock ≠ some k ∧ (P k ∨ B1 ≤ k) ∧ k < w.heap.size) x y)
    (ho : w'.ownsRow B1 25 4 sv' (L.length + 1) (flat4 K L.length ++ [x 0, x 1, x 2, x 3])) (hg : W.grownBy w' sv.ownBlock) (hw : sv'.ownBlock = sv.ownBlock ∨ sv'.ownBlock = some W.heap.size) :
    KRow P B1 w' sv' (L ++ [y]) (snocV K L.length x) := by
  have hkeep : ∀ b, b < w.heap.size → sv.ownBlock ≠ some b → w'.heap[b]? = w.heap[b]? := fun b hb hne => by
    rw [hg.block b (Nat.lt_of_lt_of_le hb hA.size) (fun e => hne e.symm), hA.block b hb]
  refine ⟨?_, fun q z e => ?_⟩
  · rw [List.length_append, List.length_singleton, ← flat4_snoc]; exact ho
  · rw [List.getElem?_append] at e
    split at e
    · rename_i hq
      unfold snocV
      rw [if_neg (by omega)]
      exact (h.each q z e).step fun b hb hp => ⟨hkeep b hb hp.1, own_ne hA hw hb (fun e => hp.1 e.symm), hp.2⟩
    · rename_i hq
      have hqe : q = L.length := by
        have := (List.getElem?_eq_some_iff.1 e).1
        simp at this; omega
      subst hqe
      rw [Nat.sub_self] at e
      obtain rfl : y = z := by simpa using e
      unfold snocV
      rw [if_pos rfl]
      refine hx.step fun b hb hp => ⟨?_, own_ne hA hw hp.2.2 (fun e => hp.1 e.symm), hp.2.1⟩
      rw [hg.block b hb (fun e => hp.1 e.symm)]
/-- The item that has them. -/
theorem KRow.item {P : Nat → Prop} {B1 : Nat} {w : World} {sv : Value} {L : List It} {K : Nat → Nat → Value} (h : KRow P B1 w sv L K) {P' : Nat → Prop} {v : Nat → Value} {t : It} (ht : Lies w P' v t) (hP : ∀ k, k < w.heap.size → P' k → P k ∨ B1 ≤ k) {u : Nat → Value} (h0 : u 0 = v 0) (h1 : u 1 = v 1) (h2 : u 2 = v 2) (h3 : u 3 = sv) :
    Lies w (fun k => P k ∨ B1 ≤ k) u (It.mk t.label t.head t.lines L) := by
  obtain ⟨f0, f1, ⟨la, lc, f2⟩, _⟩ := ht.forms
  obtain ⟨_, hl⟩ := ht.linesIn f2
  have hcap := (ht.caps f2 ht.forms.2.2.2.choose_spec.choose_spec).1
  obtain ⟨ka, kc, hsv⟩ := row_any h.row
  refine .mk u _ la ka lc kc K (h0.trans f0) (h1.trans f1) (h2.trans f2) (h3.trans hsv) (fun i s hs => ?_) (fun i hi => ?_) (fun i k hk => ?_) hcap ?_
  · obtain ⟨b, o, e1, e2, e3⟩ := hl i s hs
    exact ⟨b, o, e1, hP b (cell_lt e3) e2, e3⟩
  · have hi' : i < L.length := hi
    subst hsv
    obtain ⟨g, cap, e, _, hB⟩ := row_form h.row (by omega)
    injection e with e1 e2 e3
    subst e1
    refine ⟨g, 0, rfl, .inr hB, fun c hc => ?_⟩
    have hrow := h.row
    rw [hrow.cellAt (0 + i * 4 + c) (by omega), Nat.zero_add]
    exact flat4_get K L.length i c hi' hc
  · exact (h.each i k hk).step fun b hb hp => ⟨rfl, hp.2⟩
  · subst hsv
    exact row_cap h.row
end Go.Proofs.YtpbolcjcmkmalaaGreatDoor
namespace Go.Proofs.YtpbolcjcmkmalaaGreatDoor
open Go.RowKit Go.Extern.Stop Go.Stop Go.Extern

def It.setKid (t : It) (i : Nat) (k : It) : It := .mk t.label t.head t.lines (t.kids.set i k)
def It.setKids (t : It) (l : List It) : It := .mk t.label t.head t.lines l
def It.setLines (t : It) (l : List ByteArray) : It := .mk t.label t.head l t.kids
def It.setHead (t : It) (s : ByteArray) : It := .mk t.label s t.lines t.kids
def It.setLabel (t : It) (s : ByteArray) : It := .mk s t.head t.lines t.kids
/-- The law in which what stands at a way is put through a function. -/
def setW (f : It → It) : List ByteArray → It → It
  | [], t => f t
  | p :: r, t => match kidIx t.kids p with
    | none => t
    | some i => match t.kids[i]? with
      | none => t
      | some x => t.setKid i (setW f r x)
theorem setW_cons {f : It → It} {t x : It} {p : ByteArray} {r : List ByteArray} {i : Nat} (h : kidIx t.kids p = some i) (hx : t.kids[i]? = some x) : setW f (p :: r) t = t.setKid i (setW f r x) := by
  rw [setW, h]
  show (match t.kids[i]? with | none => t | some x => t.setKid i (setW f r x)) = _
  rw [hx]
theorem findW_snoc : ∀ (p : List ByteArray) (t x : It) (s : ByteArray), findW t p = some x → findW t (p ++ [s]) = findW x [s]
  | [], t, x, s, h => by rw [findW] at h; injection h with h; subst h; rfl
  | q :: r, t, x, s, h => by
    rw [findW] at h
    split at h
    · cases h
    · rename_i i hi
      split at h
      · cases h
      · rename_i y hy
        rw [List.cons_append, findW_cons hi hy]
        exact findW_snoc r y x s h
theorem findW_none : ∀ (p : List ByteArray) (t : It) (q : List ByteArray), findW t p = none → findW t (p ++ q) = none
  | [], t, q, h => by rw [findW] at h; cases h
  | a :: r, t, q, h => by
    rw [findW] at h
    rw [List.cons_append, findW]
    split at h
    · rfl
    · rename_i i hi
      split at h
      · rfl
      · rename_i y hy
        exact findW_none r y q h
theorem setW_snoc : ∀ (p : List ByteArray) (t x y : It) (s : ByteArray) (i : Nat) (z : It), findW t p = some x → kidIx x.kids s = some i → x.kids[i]? = some y → setW (fun _ => z) (p ++ [s]) t = setW (fun _ => x.setKid i z) p t
  | [], t, x, y, s, i, z, h, hi, hy => by
    rw [findW] at h
    injection h with h
    subst h
    rw [List.nil_append, setW_cons hi hy]
    rfl
  | q :: r, t, x, y, s, i, z, h, hi, hy => by
    rw [findW] at h
    split at h
    · cases h
    · rename_i j hj
      split at h
      · cases h
      · rename_i u hu
        rw [List.cons_append, setW_cons hj hu, setW_cons hj hu, setW_snoc r u x y s i z h hi hy]
/-- A change. -/
structure OpW where
  kind : Int
  path : ByteArray
  at' : ByteArray
  text : ByteArray
  new : ByteArray
  line : Int
  item : It
/-- What is wrong with a text that is to be a line. -/
noncomputable def chkB (s : ByteArray) : Nat := if 300 < s.size then 2 else if lineB s = true then 0 else 1
inductive COut where
  | bad (c : Nat)
  | ok (t : It)
def hasL (x : It) (n : Int) : Bool := decide (0 ≤ n) && decide (n < x.lines.length)
/-- Where words stand in a text. -/
def hits (p l : List UInt8) : List Nat := (List.range l.length).filter fun k => p.isPrefixOf (l.drop k)
def hitsAt (p : List UInt8) (ls : List ByteArray) : List (Nat × Nat) := (List.range ls.length).flatMap fun i => (hits p (ls[i]?.getD ⟨#[]⟩).toList).map fun k => (i, k)
noncomputable def wordsC (x : It) (o : OpW) : COut :=
  match hitsAt o.text.toList x.lines with
  | [(i, k)] => if o.text.size = 0 then .bad 6 else
    let s := x.lines[i]?.getD ⟨#[]⟩
    let u := s.extract 0 k ++ o.new ++ s.extract (k + o.text.size) s.size
    if chkB u = 0 then .ok (x.setLines (x.lines.set i u)) else .bad (chkB u)
  | _ => .bad 6
/-- A change of a provision's texts. -/
noncomputable def textC (x : It) (o : OpW) : COut :=
  if o.kind = 2 then
    if hasL x o.line = false then .bad 8 else if chkB o.text = 0 then .ok (x.setLines (x.lines.set o.line.toNat o.text)) else .bad (chkB o.text)
  else if o.kind = 3 then
    if o.line ≠ x.lines.length ∧ hasL x o.line = false then .bad 8 else if x.lines.length = 40 then .bad 2 else if chkB o.text = 0 then .ok (x.setLines (x.lines.insertIdx o.line.toNat o.text)) else .bad (chkB o.text)
  else if o.kind = 4 then
    if hasL x o.line = false then .bad 8 else .ok (x.setLines (x.lines.eraseIdx o.line.toNat))
  else if o.kind = 5 then wordsC x o
  else if chkB o.text = 0 then .ok (x.setHead o.text) else .bad (chkB o.text)
/-- Where one more kid goes. -/
def behIx (l : List It) (s : ByteArray) : Option Nat := if s.size = 0 then some 0 else (kidIx l s).map (· + 1)
/-- In what a provision lies, and where. -/
def arW (t : It) (p : List ByteArray) : Option (It × Nat) :=
  if p = [] then none else match findW t p.dropLast with
    | none => none
    | some x => match kidIx x.kids (p.getLast?.getD ⟨#[]⟩) with
      | none => none
      | some i => some (x, i)
noncomputable def putC (t : It) (o : OpW) : COut :=
  match findW t (partsB o.path) with
  | none => .bad 5
  | some x => match behIx x.kids o.at' with
    | none => .bad 5
    | some i => if (kidIx x.kids o.item.label).isSome then .bad 7 else
      match vIt 0 0 [] (setW (fun _ => x.setKids (x.kids.insertIdx i o.item)) (partsB o.path) t) with
      | .bad c => .bad c
      | .ok _ => .ok (setW (fun _ => x.setKids (x.kids.insertIdx i o.item)) (partsB o.path) t)
def repealC (t : It) (o : OpW) : COut :=
  match arW t (partsB o.path) with
  | none => .bad 5
  | some (x, i) => .ok (setW (fun _ => x.setKids (x.kids.eraseIdx i)) (partsB o.path).dropLast t)
noncomputable def labelC (t : It) (o : OpW) : COut :=
  match arW t (partsB o.path) with
  | none => .bad 5
  | some (x, i) => if isLab o.text = false ∨ (∃ j, kidIx x.kids o.text = some j ∧ j ≠ i) then .bad 7 else
    .ok (setW (fun _ => x.setKid i ((x.kids[i]?.getD It.none).setLabel o.text)) (partsB o.path).dropLast t)
mutual
def levIt : It → Nat
  | .mk _ _ _ k => levKs k + 1
def levKs : List It → Nat
  | [] => 0
  | t :: r => max (levIt t) (levKs r)
end
/-- The law without a provision. -/
def lessW (t x : It) (i : Nat) (p : List ByteArray) : It := setW (fun _ => x.setKids (x.kids.eraseIdx i)) p t
open Classical in
noncomputable def moveC (t : It) (o : OpW) : COut :=
  match arW t (partsB o.path), findW t (partsB o.new) with
  | some (x, i), some y => if partsB o.path <+: partsB o.new then .bad 5 else
    let k := x.kids[i]?.getD It.none
    if behIx y.kids o.at' = none ∨ (partsB o.path).dropLast = partsB o.new ∧ o.at' = k.label then .bad 5 else
    if (partsB o.path).dropLast ≠ partsB o.new ∧ (kidIx y.kids k.label).isSome then .bad 7 else
    if 6 < (partsB o.new).length + levIt k then .bad 2 else
    match findW (lessW t x i (partsB o.path).dropLast) (partsB o.new) with
    | none => .bad 0
    | some z => match behIx z.kids o.at' with
      | none => .bad 0
      | some j => .ok (setW (fun _ => z.setKids (z.kids.insertIdx j k)) (partsB o.new) (lessW t x i (partsB o.path).dropLast))
  | _, _ => .bad 5
/-- One change. -/
noncomputable def oneC (t : It) (o : OpW) : COut :=
  if 1 ≤ o.kind ∧ o.kind ≤ 5 then match findW t (partsB o.path) with
    | none => .bad 5
    | some x => match textC x o with
      | .bad c => .bad c
      | .ok y => .ok (setW (fun _ => y) (partsB o.path) t)
  else if o.kind = 6 then putC t o
  else if o.kind = 7 then repealC t o
  else if o.kind = 8 then labelC t o
  else if o.kind = 9 then moveC t o
  else .bad 9
/-- All of them: the law, or which cannot be made and why. -/
inductive AOut where
  | bad (i c : Nat)
  | ok (t : It)
noncomputable def allC : Nat → It → List OpW → AOut
  | _, t, [] => .ok t
  | i, t, o :: r => match oneC t o with
    | .bad c => .bad i c
    | .ok u => allC (i + 1) u r
theorem allC_append : ∀ (a b : List OpW) (i : Nat) (t : It), allC i t (a ++ b) = match allC i t a with | .bad j c => .bad j c | .ok u => allC (i + a.length) u b
  | [], b, i, t => by rw [List.nil_append, allC]; rfl
  | o :: r, b, i, t => by
    rw [List.cons_append, allC, allC]
    cases oneC t o with
    | bad c => rfl
    | ok u =>
      show allC (i + 1) u (r ++ b) = match allC (i + 1) u r with | .bad j c => .bad j c | .ok u => allC (i + (r.length + 1)) u b
      rw [allC_append r b (i + 1) u, show i + 1 + r.length = i + (r.length + 1) by omega]
/-- A law that can be made can be made from its middle on: where an error lies is counted. -/
theorem allC_ok : ∀ (a : List OpW) (i j : Nat) (t u : It), allC i t a = .ok u → allC j t a = .ok u
  | [], i, j, t, u, h => by rw [allC] at h ⊢; exact h
  | o :: r, i, j, t, u, h => by
    rw [allC] at h ⊢
    cases e : oneC t o with
    | bad c => rw [e] at h; cases h
    | ok x =>
      rw [e] at h
      have h : allC (i + 1) x r = .ok u := h
      exact allC_ok r (i + 1) (j + 1) x u h
end Go.Proofs.YtpbolcjcmkmalaaGreatDoor

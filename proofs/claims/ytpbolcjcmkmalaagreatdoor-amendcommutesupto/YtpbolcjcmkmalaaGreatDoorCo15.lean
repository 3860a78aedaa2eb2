/-
  The law's own 'small', 'Few'.
-/
import Derived.Test.YtpbolcjcmkmalaaGreatDoorCo14
import Derived.Test.YtpbolcjcmkmalaaGreatDoorCo11
namespace Go.Proofs.YtpbolcjcmkmalaaGreatDoor
open Go.RowKit Go.Extern.Stop Go.Stop Go.Extern

theorem Lies.linesIn {w : World} {P : Nat → Prop} {v : Nat → Value} {t : It} (h : Lies w P v t) {la : Option Addr} {n lc : Nat} (e : v 2 = .slice la n lc) : n = t.lines.length ∧ ∀ i s, t.lines[i]? = some s → ∃ b o, la = some ⟨b, o, none⟩ ∧ P b ∧ w.cell? ⟨b, o + i, none⟩ = some (.string s) := by
  cases h with
  | mk v t la' ka lc' kc V h0 h1 h2 h3 hl hk hr hlc hkc =>
    rw [h2] at e
    injection e with e1 e2 e3
    subst e1 e2 e3
    exact ⟨rfl, hl⟩
/-- The box that a call lays for an item. -/
structure BoxI (w wr : World) (a b c d : Value) : Prop where
  bx : wr.heap[w.heap.size]? = some (.cells #[a, b, c, d] 25 (0, 0))
  bel : Below w.heap.size w wr
theorem BoxI.start (w : World) (a b c d : Value) : BoxI w (w.alloc (.cells #[a, b, c, d] 25)) a b c d := ⟨heap_alloc_new _ _, (Below.refl _ _).alloc (Nat.le_refl _) _⟩
theorem BoxI.on {w wr wr' : World} {a b c d : Value} (h : BoxI w wr a b c d) (hb : Below wr.heap.size wr wr') : BoxI w wr' a b c d :=
  ⟨(hb.block _ (lt_of_block h.bx)).trans h.bx, h.bel.trans (hb.mono (by have := lt_of_block h.bx; omega))⟩
set_option maxHeartbeats 4000000 in
set_option maxRecDepth 10000 in
theorem small_any : ∀ (N : Nat) (t : It), sizeIt t ≤ N → N ≤ 4194304 → ∀ (d : Nat) (v : Nat → Value) (w : World) (P : Nat → Prop), Lies w P v t → d ≤ 13 →
    Calls Tryz.prog 15 #[.agg #[v 0, v 1, v 2, v 3], .int .i64 d] w fun e w' => e = .returned (.int .i64 (smallN d t)) ∧ Below w.heap.size w w'
  | 0, t, h, _, d, v, w, P, hL, hd => by have := sizeIt_eq t; omega
  | N + 1, t, h, hN, d, v, w, P, hL, hd => by
    have hst := sizeIt_eq t
    have hbd := small_bd (N + 1) t h
    have hl4 := lines400_le t.lines
    have hkl := sizeIts_len t.kids
    obtain ⟨f0, f1, ⟨la, lc, f2⟩, ⟨ka, kc, f3⟩⟩ := hL.forms
    have hlx := (hL.linesIn f2).2
    obtain ⟨_, V, hk, hr⟩ := hL.kidsAt f3
    have HIH := hidLL (fun k (hk : k ∈ t.kids) v w P hL hd => small_any N k (by have := kid_size hk; omega) (by omega) (d + 1) v w P hL hd)
    have HLx := hidLL hlx
    have HK := hidLL (And.intro hk hr)
    have HEq := hidLL (smallN_eq d t)
    rw [f0, f1, f2, f3]
    clear hL hlx hk hr f0 f1 f2 f3
    by_cases h12 : 12 < d
    · have hdz : (12 : Int) < (d : Int) := by omega
      have HV : Hid (smallN d t = 1000) := by show _ = _; rw [HEq.out, if_pos h12]
      generalize t.label = lb at *
      generalize t.head = hh at *
      clear h12 hbd
      go_enter Tryz.func15, Tryz.ntmps15
      go_wp2
      go_ret
      exact ⟨by rw [HV.out]; rfl, (Below.refl _ _).alloc (Nat.le_refl _) _⟩
    have hdz : (d : Int) ≤ 12 := by omega
    have HV : Hid (smallN d t = smallK d (1 + t.lines.length + (t.head.size + t.label.size) / 400 + lines400 t.lines) t.kids) := by show _ = _; rw [HEq.out, if_neg h12]
    have hbd2 := hbd d
    obtain ⟨ln, hln⟩ : ∃ ln, ln = t.lines.length := ⟨_, rfl⟩
    obtain ⟨kn, hkn⟩ : ∃ kn, kn = t.kids.length := ⟨_, rfl⟩
    obtain ⟨n0, hn0⟩ : ∃ n0, n0 = 1 + t.lines.length + (t.head.size + t.label.size) / 400 := ⟨_, rfl⟩
    have HN0 := hidLL hn0
    have hn0b : n0 ≤ 4194304 * 2 := by omega
    have hl4b : lines400 t.lines ≤ 4194304 := by omega
    rw [← hn0] at HV
    rw [← hln, ← hkn]
    have hlnb : ln ≤ 4194304 := by omega
    have hknb : kn ≤ 4194304 := by omega
    have hhb : t.head.size + t.label.size ≤ 4194304 := by omega
    have hn0e : (1 : Int) + (ln : Int) + ((t.head.size : Int) + (t.label.size : Int)) / 400 = (n0 : Int) := by rw [hn0, hln]; omega
    have HLk := hidLL (And.intro hln hkn)
    clear hn0 hln hkn h12 hbd hst hl4 hkl
    generalize t.label = lb at *
    generalize t.head = hh at *
    go_enter Tryz.func15, Tryz.ntmps15
    have HBx := hidLL (BoxI.start w (.string lb) (.string hh) (.slice la ln lc) (.slice ka kn kc))
    go_wp2_with fail
    obtain ⟨w2, hw2⟩ : ∃ w2, w2 = w.alloc (.cells #[.string lb, .string hh, .slice la ln lc, .slice ka kn kc] 25) := ⟨_, rfl⟩
    rw [← hw2] at HBx
    try simp only [← hw2]
    clear hw2
    obtain ⟨c0, c1, c2, c3, cf⟩ := four HBx.out.bx
    have hT : Hid (n0 = 1 + t.lines.length + (hh.size + lb.size) / 400) := HN0.out
    clear hT
    have HLt := hidLL (fun i s h => lines400_take t.lines i s h)
    have HLa := hidLL (fun i => lines400_all t.lines i)
    go_loop [5, 6] (fun n y => ∃ i : Nat, i ≤ ln ∧ y = .int .i64 i ∧ n = .int .i64 ((n0 + lines400 (t.lines.take i) : Nat))) (fun _ y => (ln - RowKit.intOf y).toNat)
    case atStart => exact ⟨0, by omega, rfl, by rw [List.take_zero]; show _ = Value.int .i64 ((n0 + 0 : Nat) : Int); rw [Nat.add_zero]⟩
    case round =>
      obtain ⟨i, hi, rfl, rfl⟩ := hrel
      have hla := HLa.out i
      by_cases hin : i < ln
      · have hiz : (i : Int) < ln := by omega
        obtain ⟨x, hx⟩ : ∃ x, t.lines[i]? = some x := ⟨_, List.getElem?_eq_getElem (by rw [← HLk.out.1]; exact hin)⟩
        obtain ⟨b, o, rfl, _, cx⟩ := HLx.out i x hx
        have dx := (HBx.out.bel.cell (p := ⟨b, o + i, none⟩) (cell_lt cx)).trans cx
        have hnx := HLt.out i x hx
        have hmq : lines400 (t.lines.take i) + x.size / 400 ≤ 4194304 := by have := HLa.out (i + 1); omega
        have HNx := hidLL hnx
        clear hnx hla
        generalize lines400 (t.lines.take i) = m at *
        have hdiv : (x.size : Int) / 400 = ((x.size / 400 : Nat) : Int) := by omega
        generalize x.size / 400 = xq at *
        clear hx cx
        have hmb : (n0 : Int) + (m : Int) + (xq : Int) ≤ 100000000 := by omega
        go_wp2
        go_round
        case rel => exact ⟨i + 1, by omega, by go_num, by rw [HNx.out]; go_num⟩
        case measure => simp [RowKit.intOf]; omega
      · obtain rfl : i = ln := by omega
        have hall : t.lines.take i = t.lines := List.take_of_length_le (by rw [← HLk.out.1]; exact Nat.le_refl _)
        rw [hall] at hla
        rw [hall]
        generalize hm1 : n0 + lines400 t.lines = m1 at *
        have hm1b : m1 ≤ 5000000000 := by omega
        have HM1 := hidLL hm1
        clear hall hla hm1
        go_wp2_with fail
        go_loopw [5, 7] (fun n y wr => ∃ j m : Nat, j ≤ kn ∧ y = .int .i64 j ∧ n = .int .i64 (m : Nat) ∧ m ≤ 5000000000 ∧ smallK d m (t.kids.drop j) = smallN d t ∧ BoxI w wr (.string lb) (.string hh) (.slice la i lc) (.slice ka kn kc)) (fun _ y _ => (kn - RowKit.intOf y).toNat)
        case atStart => exact ⟨0, m1, by omega, rfl, rfl, hm1b, by rw [List.drop_zero, HV.out], HBx.out⟩
        case round =>
          obtain ⟨j, m, hj, rfl, rfl, hmb, hsk, hbx⟩ := hrel
          have HX := hidLL hbx
          have HSk := hidLL hsk
          clear c0 c1 c2 c3 cf
          obtain ⟨c0, c1, c2, c3, cf⟩ := four hbx.bx
          clear hbx hsk
          by_cases hin : j < kn
          · have hjz : (j : Int) < kn := by omega
            have hjd : decide ((j : Int) < (kn : Int)) = true := decide_eq_true hjz
            by_cases hm : m < 1000
            · have hmz : (m : Int) < 1000 := by omega
              obtain ⟨x, hx⟩ : ∃ x, t.kids[j]? = some x := ⟨_, List.getElem?_eq_getElem (by rw [← HLk.out.2]; exact hin)⟩
              obtain ⟨b, o, hka, _, cx⟩ := HK.out.1 j (by rw [← HLk.out.2]; exact hin)
              subst hka
              have hLx := (HK.out.2 j x hx).bel HX.out.bel
              have hxm := List.mem_of_getElem? hx
              have HC := hidLL (HIH.out x hxm (V j) wr P hLx (by omega))
              have hsm := small_bd (sizeIt x) x (Nat.le_refl _) (d + 1)
              have hxs := kid_size hxm
              have HSt := hidLL ((smallK_step (d := d) hx hm).symm.trans HSk.out)
              obtain ⟨g0, g1, ⟨pa, pc, g2⟩, ⟨pk, pkc, g3⟩⟩ := hLx.forms
              have hbl := cell_lt (cx 0 (by omega))
              have y0 := (HX.out.bel.cell (p := ⟨b, o + j * 4, none⟩) hbl).trans (cx 0 (by omega))
              have y1 := (HX.out.bel.cell (p := ⟨b, o + j * 4 + 1, none⟩) hbl).trans (cx 1 (by omega))
              have y2 := (HX.out.bel.cell (p := ⟨b, o + j * 4 + 2, none⟩) hbl).trans (cx 2 (by omega))
              have y3 := (HX.out.bel.cell (p := ⟨b, o + j * 4 + 3, none⟩) hbl).trans (cx 3 (by omega))
              rw [g0] at y0
              rw [g1] at y1
              rw [g2] at y2
              rw [g3] at y3
              rw [g0, g1, g2, g3] at HC
              have hsb : smallN (d + 1) x ≤ 4999999000 := by omega
              generalize smallN (d + 1) x = sx at *
              generalize x.label = xl at *
              generalize x.head = xh at *
              generalize x.lines.length = xn at *
              generalize x.kids.length = xk at *
              clear hLx cx g0 g1 g2 g3 hx hxm hxs hsm
              go_wp2_with fail
              go_at_call 15
              refine HC.out.mono ?_
              rintro e w5 ⟨rfl, hb5⟩
              have HX5 := hidLL (HX.out.on hb5)
              clear hb5
              go_wp2
              go_roundw
              case rel => exact ⟨j + 1, m + sx, by omega, by go_num, by go_num, by omega, HSt.out, HX5.out⟩
              case measure => simp [RowKit.intOf]; omega
            · have hmz : (1000 : Int) ≤ (m : Int) := by omega
              have HR : Hid (smallN d t = m) := HSk.out.symm.trans (smallK_stop (by omega))
              go_wp2
              go_ret
              exact ⟨by rw [HR.out]; rfl, HX.out.bel⟩
          · have hjd : decide ((j : Int) < (kn : Int)) = false := decide_eq_false (by omega)
            have HR : Hid (smallN d t = m) := HSk.out.symm.trans (smallK_end (by rw [← HLk.out.2]; omega))
            go_wp2
            go_ret
            exact ⟨by rw [HR.out]; rfl, HX.out.bel⟩
theorem few_any (t : It) (hs : sizeIt t ≤ 4194304) (v : Nat → Value) (w : World) (P : Nat → Prop) (hL : Lies w P v t) :
    Calls Tryz.prog 7 #[.agg #[v 0, v 1, v 2, v 3]] w fun e w' => e = .returned (.bool (decide (smallN 0 t ≤ 400))) ∧ Below w.heap.size w w' := by
  obtain ⟨f0, f1, ⟨la, lc, f2⟩, ⟨ka, kc, f3⟩⟩ := hL.forms
  have hb : Below w.heap.size w (w.alloc (.cells #[v 0, v 1, v 2, v 3] 25)) := (Below.refl _ _).alloc (Nat.le_refl _) _
  have HC := hidLL (small_any _ t (Nat.le_refl _) hs 0 v _ P (hL.bel hb) (by omega))
  rw [f0, f1, f2, f3] at HC
  rw [f0, f1, f2, f3]
  generalize t.label = l0 at *
  generalize t.head = l1 at *
  generalize t.lines.length = l2 at *
  generalize t.kids.length = l3 at *
  generalize smallN 0 t = n at *
  clear hL f0 f1 f2 f3 hb hs
  go_enter Tryz.func7, Tryz.ntmps7
  go_wp2_with fail
  go_at_call 15
  refine HC.out.mono ?_
  rintro e w1 ⟨rfl, hb1⟩
  have HB1 := hidLL hb1
  clear hb1
  go_wp2
  go_ret
  refine ⟨ret_b ?_, ((Below.refl _ _).alloc (Nat.le_refl _) _).trans (HB1.out.mono (by simp))⟩
  rw [decide_eq_decide]; omega
end Go.Proofs.YtpbolcjcmkmalaaGreatDoor
namespace Go.Proofs.YtpbolcjcmkmalaaGreatDoor
open Go.RowKit Go.Extern.Stop Go.Stop Go.Extern

/-- The kids so far: their row lies from B1 on; they lie where P says or from B1 on, not in the row. -/
structure KRow (P : Nat → Prop) (B1 : Nat) (w : World) (sv : Value) (L : List It) (K : Nat → Nat → Value) : Prop where
  row : w.ownsRow B1 25 4 sv L.length (flat4 K L.length)
  each : ∀ q y, L[q]? = some y → Lies w (fun k => sv.ownBlock ≠ some k ∧ (P k ∨ B1 ≤ k)) (K q) y
theorem KRow.nil (P : Nat → Prop) (B1 : Nat) (w : World) (K : Nat → Nat → Value) : KRow P B1 w (.slice none 0 0) [] K := ⟨World.ownsRow_nil _ _ _ _, fun q y h => by cases h⟩
theorem KRow.on {P : Nat → Prop} {B1 : Nat} {w w' : World} {sv : Value} {L : List It} {K : Nat → Nat → Value} (h : KRow P B1 w sv L K) (hb : Below w.heap.size w w') : KRow P B1 w' sv L K :=
  ⟨row_step h.row fun g _ hg => hb.block g hg, fun q y e => (h.each q y e).bel hb⟩
/-- One more. -/
theorem KRow.push {P : Nat → Prop} {B1 : Nat} {w W w' : World} {sv sv' : Value} {L : List It} {K : Nat → Nat → Value} (h : KRow P B1 w sv L K) (hA : Below w.heap.size w W) {x : Nat → Value} {y : It}
    (hx : Lies W (fun k => sv.ownBlock ≠ some k ∧ (P k ∨ B1 ≤ k) ∧ k < w.heap.size) x y)
    (ho : w'.ownsRow B1 25 4 sv' (L.length + 1) (flat4 K L.length ++ [x 0, x 1, x 2, x 3])) (hg : W.grownBy w' sv.ownBlock) (hw : sv'.ownBlock = sv.ownBlock ∨ sv'.ownBlock = some W.heap.size) :
    KRow P B1 w' sv' (L ++ [y]) (snocV K L.length x) := by
  have hkeep : ∀ b, b < w.heap.size → sv.ownBlock ≠ some b → w'.heap[b]? = w.heap[b]? := fun b hb hne => by
    rw [hg.block b (Nat.lt_of_lt_of_le hb hA.size) (fun e => hne e.symm), hA.block b hb]
  refine ⟨?_, fun q z e => ?_⟩
  · rw [List.length_append, List.length_singleton, ← flat4_snoc]; exact ho
  · rw [List.getElem?_append] at e
    split at e
    · rename_i hq
      unfold snocV
      rw [if_neg (by omega)]
      exact (h.each q z e).step fun b hb hp => ⟨hkeep b hb hp.1, own_ne hA hw hb (fun e => hp.1 e.symm), hp.2⟩
    · rename_i hq
      have hqe : q = L.length := by
        have := (List.getElem?_eq_some_iff.1 e).1
        simp at this; omega
      subst hqe
      rw [Nat.sub_self] at e
      obtain rfl : y = z := by simpa using e
      unfold snocV
      rw [if_pos rfl]
      refine hx.step fun b hb hp => ⟨?_, own_ne hA hw hp.2.2 (fun e => hp.1 e.symm), hp.2.1⟩
      rw [hg.block b hb (fun e => hp.1 e.symm)]
/-- The item that has them. -/
theorem KRow.item {P : Nat → Prop} {B1 : Nat} {w : World} {sv : Value} {L : List It} {K : Nat → Nat → Value} (h : KRow P B1 w sv L K) {P' : Nat → Prop} {v : Nat → Value} {t : It} (ht : Lies w P' v t) (hP : ∀ k, k < w.heap.size → P' k → P k ∨ B1 ≤ k) {u : Nat → Value} (h0 : u 0 = v 0) (h1 : u 1 = v 1) (h2 : u 2 = v 2) (h3 : u 3 = sv) :
    Lies w (fun k => P k ∨ B1 ≤ k) u (It.mk t.label t.head t.lines L) := by
  obtain ⟨f0, f1, ⟨la, lc, f2⟩, _⟩ := ht.forms
  obtain ⟨_, hl⟩ := ht.linesIn f2
  have hcap := (ht.caps f2 ht.forms.2.2.2.choose_spec.choose_spec).1
  obtain ⟨ka, kc, hsv⟩ := row_any h.row
  refine .mk u _ la ka lc kc K (h0.trans f0) (h1.trans f1) (h2.trans f2) (h3.trans hsv) (fun i s hs => ?_) (fun i hi => ?_) (fun i k hk => ?_) hcap ?_
  · obtain ⟨b, o, e1, e2, e3⟩ := hl i s hs
    exact ⟨b, o, e1, hP b (cell_lt e3) e2, e3⟩
  · have hi' : i < L.length := hi
    subst hsv
    obtain ⟨g, cap, e, _, hB⟩ := row_form h.row (by omega)
    injection e with e1 e2 e3
    subst e1
    refine ⟨g, 0, rfl, .inr hB, fun c hc => ?_⟩
    have hrow := h.row
    rw [hrow.cellAt (0 + i * 4 + c) (by omega), Nat.zero_add]
    exact flat4_get K L.length i c hi' hc
  · exact (h.each i k hk).step fun b hb hp => ⟨rfl, hp.2⟩
  · subst hsv
    exact row_cap h.row
end Go.Proofs.YtpbolcjcmkmalaaGreatDoor
namespace Go.Proofs.YtpbolcjcmkmalaaGreatDoor
open Go.RowKit Go.Extern.Stop Go.Stop Go.Extern

def It.setKid (t : It) (i : Nat) (k : It) : It := .mk t.label t.head t.lines (t.kids.set i k)
def It.setKids (t : It) (l : List It) : It := .mk t.label t.head t.lines l
def It.setLines (t : It) (l : List ByteArray) : It := .mk t.label t.head l t.kids
def It.setHead (t : It) (s : ByteArray) : It := .mk t.label s t.lines t.kids
def It.setLabel (t : It) (s : ByteArray) : It := .mk s t.head t.lines t.kids
/-- The law in which what stands at a way is put through a function. -/
def setW (f : It → It) : List ByteArray → It → It
  | [], t => f t
  | p :: r, t => match kidIx t.kids p with
    | none => t
    | some i => match t.kids[i]? with
      | none => t
      | some x => t.setKid i (setW f r x)
theorem setW_cons {f : It → It} {t x : It} {p : ByteArray} {r : List ByteArray} {i : Nat} (h : kidIx t.kids p = some i) (hx : t.kids[i]? = some x) : setW f (p :: r) t = t.setKid i (setW f r x) := by
  rw [setW, h]
  show (match t.kids[i]? with | none => t | some x => t.setKid i (setW f r x)) = _
  rw [hx]
theorem findW_snoc : ∀ (p : List ByteArray) (t x : It) (s : ByteArray), findW t p = some x → findW t (p ++ [s]) = findW x [s]
  | [], t, x, s, h => by rw [findW] at h; injection h with h; subst h; rfl
  | q :: r, t, x, s, h => by
    rw [findW] at h
    split at h
    · cases h
    · rename_i i hi
      split at h
      · cases h
      · rename_i y hy
        rw [List.cons_append, findW_cons hi hy]
        exact findW_snoc r y x s h
theorem findW_none : ∀ (p : List ByteArray) (t : It) (q : List ByteArray), findW t p = none → findW t (p ++ q) = none
  | [], t, q, h => by rw [findW] at h; cases h
  | a :: r, t, q, h => by
    rw [findW] at h
    rw [List.cons_append, findW]
    split at h
    · rfl
    · rename_i i hi
      split at h
      · rfl
      · rename_i y hy
        exact findW_none r y q h
theorem setW_snoc : ∀ (p : List ByteArray) (t x y : It) (s : ByteArray) (i : Nat) (z : It), findW t p = some x → kidIx x.kids s = some i → x.kids[i]? = some y → setW (fun _ => z) (p ++ [s]) t = setW (fun _ => x.setKid i z) p t
  | [], t, x, y, s, i, z, h, hi, hy => by
    rw [findW] at h
    injection h with h
    subst h
    rw [List.nil_append, setW_cons hi hy]
    rfl
  | q :: r, t, x, y, s, i, z, h, hi, hy => by
    rw [findW] at h
    split at h
    · cases h
    · rename_i j hj
      split at h
      · cases h
      · rename_i u hu
        rw [List.cons_append, setW_cons hj hu, setW_cons hj hu, setW_snoc r u x y s i z h hi hy]
/-- A change. -/
structure OpW where
  kind : Int
  path : ByteArray
  at' : ByteArray
  text : ByteArray
  new : ByteArray
  line : Int
  item : It
/-- What is wrong with a text that is to be a line. -/
noncomputable def chkB (s : ByteArray) : Nat := if 300 < s.size then 2 else if lineB s = true then 0 else 1
inductive COut where
  | bad (c : Nat)
  | ok (t : It)
def hasL (x : It) (n : Int) : Bool := decide (0 ≤ n) && decide (n < x.lines.length)
/-- Where words stand in a text. -/
def hits (p l : List UInt8) : List Nat := (List.range l.length).filter fun k => p.isPrefixOf (l.drop k)
def hitsAt (p : List UInt8) (ls : List ByteArray) : List (Nat × Nat) := (List.range ls.length).flatMap fun i => (hits p (ls[i]?.getD ⟨#[]⟩).toList).map fun k => (i, k)
noncomputable def wordsC (x : It) (o : OpW) : COut :=
  match hitsAt o.text.toList x.lines with
  | [(i, k)] => if o.text.size = 0 then .bad 6 else
    let s := x.lines[i]?.getD ⟨#[]⟩
    let u := s.extract 0 k ++ o.new ++ s.extract (k + o.text.size) s.size
    if chkB u = 0 then .ok (x.setLines (x.lines.set i u)) else .bad (chkB u)
  | _ => .bad 6
/-- A change of a provision's texts. -/
noncomputable def textC (x : It) (o : OpW) : COut :=
  if o.kind = 2 then
    if hasL x o.line = false then .bad 8 else if chkB o.text = 0 then .ok (x.setLines (x.lines.set o.line.toNat o.text)) else .bad (chkB o.text)
  else if o.kind = 3 then
    if o.line ≠ x.lines.length ∧ hasL x o.line = false then .bad 8 else if x.lines.length = 40 then .bad 2 else if chkB o.text = 0 then .ok (x.setLines (x.lines.insertIdx o.line.toNat o.text)) else .bad (chkB o.text)
  else if o.kind = 4 then
    if hasL x o.line = false then .bad 8 else .ok (x.setLines (x.lines.eraseIdx o.line.toNat))
  else if o.kind = 5 then wordsC x o
  else if chkB o.text = 0 then .ok (x.setHead o.text) else .bad (chkB o.text)
/-- Where one more kid goes. -/
def behIx (l : List It) (s : ByteArray) : Option Nat := if s.size = 0 then some 0 else (kidIx l s).map (· + 1)
/-- In what a provision lies, and where. -/
def arW (t : It) (p : List ByteArray) : Option (It × Nat) :=
  if p = [] then none else match findW t p.dropLast with
    | none => none
    | some x => match kidIx x.kids (p.getLast?.getD ⟨#[]⟩) with
      | none => none
      | some i => some (x, i)
noncomputable def putC (t : It) (o : OpW) : COut :=
  match findW t (partsB o.path) with
  | none => .bad 5
  | some x => match behIx x.kids o.at' with
    | none => .bad 5
    | some i => if (kidIx x.kids o.item.label).isSome then .bad 7 else
      match vIt 0 0 [] (setW (fun _ => x.setKids (x.kids.insertIdx i o.item)) (partsB o.path) t) with
      | .bad c => .bad c
      | .ok _ => .ok (setW (fun _ => x.setKids (x.kids.insertIdx i o.item)) (partsB o.path) t)
def repealC (t : It) (o : OpW) : COut :=
  match arW t (partsB o.path) with
  | none => .bad 5
  | some (x, i) => .ok (setW (fun _ => x.setKids (x.kids.eraseIdx i)) (partsB o.path).dropLast t)
noncomputable def labelC (t : It) (o : OpW) : COut :=
  match arW t (partsB o.path) with
  | none => .bad 5
  | some (x, i) => if isLab o.text = false ∨ (∃ j, kidIx x.kids o.text = some j ∧ j ≠ i) then .bad 7 else
    .ok (setW (fun _ => x.setKid i ((x.kids[i]?.getD It.none).setLabel o.text)) (partsB o.path).dropLast t)
mutual
def levIt : It → Nat
  | .mk _ _ _ k => levKs k + 1
def levKs : List It → Nat
  | [] => 0
  | t :: r => max (levIt t) (levKs r)
end
/-- The law without a provision. -/
def lessW (t x : It) (i : Nat) (p : List ByteArray) : It := setW (fun _ => x.setKids (x.kids.eraseIdx i)) p t
open Classical in
noncomputable def moveC (t : It) (o : OpW) : COut :=
  match arW t (partsB o.path), findW t (partsB o.new) with
  | some (x, i), some y => if partsB o.path <+: partsB o.new then .bad 5 else
    let k := x.kids[i]?.getD It.none
    if behIx y.kids o.at' = none ∨ (partsB o.path).dropLast = partsB o.new ∧ o.at' = k.label then .bad 5 else
    if (partsB o.path).dropLast ≠ partsB o.new ∧ (kidIx y.kids k.label).isSome then .bad 7 else
    if 6 < (partsB o.new).length + levIt k then .bad 2 else
    match findW (lessW t x i (partsB o.path).dropLast) (partsB o.new) with
    | none => .bad 0
    | some z => match behIx z.kids o.at' with
      | none => .bad 0
      | some j => .ok (setW (fun _ => z.setKids (z.kids.insertIdx j k)) (partsB o.new) (lessW t x i (partsB o.path).dropLast))
  | _, _ => .bad 5
/-- One change. -/
noncomputable def oneC (t : It) (o : OpW) : COut :=
  if 1 ≤ o.kind ∧ o.kind ≤ 5 then match findW t (partsB o.path) with
    | none => .bad 5
    | some x => match textC x o with
      | .bad c => .bad c
      | .ok y => .ok (setW (fun _ => y) (partsB o.path) t)
  else if o.kind = 6 then putC t o
  else if o.kind = 7 then repealC t o
  else if o.kind = 8 then labelC t o
  else if o.kind = 9 then moveC t o
  else .bad 9
/-- All of them: the law, or which cannot be made and why. -/
inductive AOut where
  | bad (i c : Nat)
  | ok (t : It)
noncomputable def allC : Nat → It → List OpW → AOut
  | _, t, [] => .ok t
  | i, t, o :: r => match oneC t o with
    | .bad c => .bad i c
    | .ok u => allC (i + 1) u r
theorem allC_append : ∀ (a b : List OpW) (i : Nat) (t : It), allC i t (a ++ b) = match allC i t a with | .bad j c => .bad j c | .ok u => allC (i + a.length) u b
  | [], b, i, t => by rw [List.nil_append, allC]; rfl
  | o :: r, b, i, t => by
    rw [List.cons_append, allC, allC]
    cases oneC t o with
    | bad c => rfl
    | ok u =>
      show allC (i + 1) u (r ++ b) = match allC (i + 1) u r with | .bad j c => .bad j c | .ok u => allC (i + (r.length + 1)) u b
      rw [allC_append r b (i + 1) u, show i + 1 + r.length = i + (r.length + 1) by omega]
/-- A law that can be made can be made from its middle on: where an error lies is counted. -/
theorem allC_ok : ∀ (a : List OpW) (i j : Nat) (t u : It), allC i t a = .ok u → allC j t a = .ok u
  | [], i, j, t, u, h => by rw [allC] at h ⊢; exact h
  | o :: r, i, j, t, u, h => by
    rw [allC] at h ⊢
    cases e : oneC t o with
    | bad c => rw [e] at h; cases h
    | ok x =>
      rw [e] at h
      have h : allC (i + 1) x r = .ok u := h
      exact allC_ok r (i + 1) (j + 1) x u h
end Go.Proofs.YtpbolcjcmkmalaaGreatDoor
namespace Go.Proofs.YtpbolcjcmkmalaaGreatDoor
open Go.RowKit Go.Extern.Stop Go.Stop Go.Extern

/-- An item that owns its rows, in blocks of S. -/
inductive Own (w : World) (B : Nat) : (Nat → Value) → It → (Nat → Prop) → Prop
  | mk (v : Nat → Value) (t : It) (K : Nat → Nat → Value) (T : Nat → Nat → Prop) (S : Nat → Prop)
    (h0 : v 0 = .string t.label) (h1 : v 1 = .string t.head)
    (ln : w.ownsRow B 9 1 (v 2) t.lines.length (t.lines.map Value.string))
    (kd : w.ownsRow B 25 4 (v 3) t.kids.length (flat4 K t.kids.length))
    (sl : ∀ g, (v 2).ownBlock = some g → S g) (sk : ∀ g, (v 3).ownBlock = some g → S g)
    (hr : ∀ i k, t.kids[i]? = some k → Own w B (K i) k (T i))
    (hT : ∀ i g, i < t.kids.length → T i g → S g ∧ (v 2).ownBlock ≠ some g ∧ (v 3).ownBlock ≠ some g)
    (hd : ∀ i j g, i < t.kids.length → j < t.kids.length → T i g → T j g → i = j)
    (hS : ∀ g, S g → B ≤ g ∧ g < w.heap.size) : Own w B v t S
/-- Its parts. -/
structure OwnK (w : World) (B : Nat) (v : Nat → Value) (t : It) (S : Nat → Prop) (K : Nat → Nat → Value) (T : Nat → Nat → Prop) : Prop where
  h0 : v 0 = .string t.label
  h1 : v 1 = .string t.head
  ln : w.ownsRow B 9 1 (v 2) t.lines.length (t.lines.map Value.string)
  kd : w.ownsRow B 25 4 (v 3) t.kids.length (flat4 K t.kids.length)
  sl : ∀ g, (v 2).ownBlock = some g → S g
  sk : ∀ g, (v 3).ownBlock = some g → S g
  hr : ∀ i k, t.kids[i]? = some k → Own w B (K i) k (T i)
  hT : ∀ i g, i < t.kids.length → T i g → S g ∧ (v 2).ownBlock ≠ some g ∧ (v 3).ownBlock ≠ some g
  hd : ∀ i j g, i < t.kids.length → j < t.kids.length → T i g → T j g → i = j
  hS : ∀ g, S g → B ≤ g ∧ g < w.heap.size
theorem Own.parts {w : World} {B : Nat} {v : Nat → Value} {t : It} {S : Nat → Prop} (h : Own w B v t S) : ∃ K T, OwnK w B v t S K T := by
  cases h with
  | mk _ _ K T _ h0 h1 ln kd sl sk hr hT hd hS => exact ⟨K, T, h0, h1, ln, kd, sl, sk, hr, hT, hd, hS⟩
theorem OwnK.own {w : World} {B : Nat} {v : Nat → Value} {t : It} {S : Nat → Prop} {K : Nat → Nat → Value} {T : Nat → Nat → Prop} (h : OwnK w B v t S K T) : Own w B v t S :=
  .mk v t K T S h.h0 h.h1 h.ln h.kd h.sl h.sk h.hr h.hT h.hd h.hS
theorem Own.in {w : World} {B : Nat} {v : Nat → Value} {t : It} {S : Nat → Prop} (h : Own w B v t S) : ∀ g, S g → B ≤ g ∧ g < w.heap.size := by
  cases h with
  | mk _ _ K T _ h0 h1 ln kd sl sk hr hT hd hS => exact hS
/-- It lies there. -/
theorem Own.lies {w : World} {B : Nat} {v : Nat → Value} {t : It} {S : Nat → Prop} (h : Own w B v t S) : Lies w S v t := by
  induction h with
  | mk v t K T S h0 h1 ln kd sl sk hr hT hd hS ih =>
    obtain ⟨la, lc, el⟩ := row_any ln
    obtain ⟨ka, kc, ek⟩ := row_any kd
    refine .mk v t la ka lc kc K h0 h1 el ek (fun i s hs => ?_) (fun i hi => ?_) (fun i k e => (ih i k e).step fun b _ hp => ⟨rfl, (hT i b (List.getElem?_eq_some_iff.1 e).1 hp).1⟩) (by rw [el] at ln; exact row_cap ln) (by rw [ek] at kd; exact row_cap kd)
    · obtain ⟨hi, _⟩ := List.getElem?_eq_some_iff.1 hs
      obtain ⟨g, cap, e, hg, hb⟩ := row_form ln (by omega)
      rw [el] at e ln
      injection e with e1 e2 e3
      rw [e1] at ln
      refine ⟨g, 0, e1, sl g (by rw [el, e1]; rfl), ?_⟩
      have := ln.cellAt i (by omega)
      simpa [hs] using this
    · obtain ⟨g, cap, e, hg, hb⟩ := row_form kd (by omega)
      rw [ek] at e kd
      injection e with e1 e2 e3
      rw [e1] at kd
      refine ⟨g, 0, e1, sk g (by rw [ek, e1]; rfl), fun c hc => ?_⟩
      rw [kd.cellAt (0 + i * 4 + c) (by omega), Nat.zero_add]
      exact flat4_get K t.kids.length i c hi hc
/-- What leaves its blocks alone leaves it. -/
theorem Own.step {w w' : World} {B : Nat} {v : Nat → Value} {t : It} {S : Nat → Prop} (h : Own w B v t S) : (∀ g, S g → w'.heap[g]? = w.heap[g]?) → w.heap.size ≤ w'.heap.size → Own w' B v t S := by
  induction h with
  | mk v t K T S h0 h1 ln kd sl sk hr hT hd hS ih =>
    intro hk hs
    exact .mk v t K T S h0 h1 (row_step ln fun g hg _ => hk g (sl g hg)) (row_step kd fun g hg _ => hk g (sk g hg)) sl sk
      (fun i k e => ih i k e (fun g hg => hk g (hT i g (List.getElem?_eq_some_iff.1 e).1 hg).1) hs) hT hd (fun g hg => ⟨(hS g hg).1, by have := (hS g hg).2; omega⟩)
theorem Own.more {w : World} {B : Nat} {v : Nat → Value} {t : It} {S S' : Nat → Prop} (h : Own w B v t S) (hs : ∀ g, S g → S' g) (hb : ∀ g, S' g → B ≤ g ∧ g < w.heap.size) : Own w B v t S' := by
  obtain ⟨K, T, hk⟩ := h.parts
  exact .mk v t K T S' hk.h0 hk.h1 hk.ln hk.kd (fun g hg => hs g (hk.sl g hg)) (fun g hg => hs g (hk.sk g hg)) hk.hr (fun i g hi hg => ⟨hs g (hk.hT i g hi hg).1, (hk.hT i g hi hg).2⟩) hk.hd hb
/-- An item at a place, its rows its own. -/
structure ItAt (w : World) (B b o : Nat) (t : It) (S : Nat → Prop) (v : Nat → Value) : Prop where
  here : ∃ cur ty, w.heap[b]? = some (.cells cur ty (0, 0)) ∧ ∀ c, c < 4 → cur[o + c]? = some (v c)
  own : Own w B v t S
  out : ¬ S b
theorem ItAt.cell {w : World} {B b o : Nat} {t : It} {S : Nat → Prop} {v : Nat → Value} (h : ItAt w B b o t S v) {c : Nat} (hc : c < 4) : w.cell? ⟨b, o + c, none⟩ = some (v c) := by
  obtain ⟨cur, ty, e, hcs⟩ := h.here
  unfold World.cell?
  rw [e]
  exact hcs c hc
theorem ItAt.lt {w : World} {B b o : Nat} {t : It} {S : Nat → Prop} {v : Nat → Value} (h : ItAt w B b o t S v) : b < w.heap.size := cell_lt (h.cell (c := 0) (by omega))
theorem ItAt.frozen {w : World} {B b o : Nat} {t : It} {S : Nat → Prop} {v : Nat → Value} (h : ItAt w B b o t S v) (i : Nat) : w.frozen? ⟨b, i, none⟩ = false := by
  obtain ⟨cur, ty, e, hcs⟩ := h.here
  unfold World.frozen?
  rw [e]
  simp
/-- Only the four cells at a place, blocks of S and new ones are others. -/
structure Upd (w w' : World) (b o : Nat) (S : Nat → Prop) : Prop where
  os : w'.os = w.os
  tape : w'.tape = w.tape
  output : w'.output = w.output
  size : w.heap.size ≤ w'.heap.size
  block : ∀ k, k < w.heap.size → ¬ S k → k ≠ b → w'.heap[k]? = w.heap[k]?
  here : ∀ cur ty, w.heap[b]? = some (.cells cur ty (0, 0)) → ∃ cur', w'.heap[b]? = some (.cells cur' ty (0, 0)) ∧ cur'.size = cur.size ∧ ∀ q, (q < o ∨ o + 4 ≤ q) → cur'[q]? = cur[q]?
theorem Upd.refl (w : World) (b o : Nat) (S : Nat → Prop) : Upd w w b o S := ⟨rfl, rfl, rfl, Nat.le_refl _, fun _ _ _ _ => rfl, fun cur _ h => ⟨cur, h, rfl, fun _ _ => rfl⟩⟩
theorem Upd.below {w w' : World} {b o n : Nat} {S : Nat → Prop} (h : Upd w w' b o S) (hb : n ≤ b) (hS : ∀ g, S g → n ≤ g) (hn : n ≤ w.heap.size) : Below n w w' :=
  ⟨h.os, h.tape, h.output, h.size, fun k hk => h.block k (by omega) (fun e => by have := hS k e; omega) (by omega)⟩
/-- A law that owns its kids, one of them other. -/

def setV (K : Nat → Nat → Value) (i : Nat) (x : Nat → Value) : Nat → Nat → Value := fun j => if j = i then x else K j
/-- A kid lies in its row. -/
theorem ItAt.kid {w : World} {B b o : Nat} {t : It} {S : Nat → Prop} {v : Nat → Value} (h : ItAt w B b o t S v) {i : Nat} {k : It} (hi : t.kids[i]? = some k) :
    ∃ g cap K T, v 3 = .slice (some ⟨g, 0, none⟩) t.kids.length cap ∧ OwnK w B v t S K T ∧ ItAt w B g (i * 4) k (T i) (K i) := by
  obtain ⟨K, T, hk⟩ := h.own.parts
  have hlt := (List.getElem?_eq_some_iff.1 hi).1
  obtain ⟨g, cap, e, hg, hb⟩ := row_form hk.kd (by omega)
  refine ⟨g, cap, K, T, e, hk, ⟨?_, hk.hr i k hi, fun hT => (hk.hT i g hlt hT).2.2 (by rw [e]; rfl)⟩⟩
  rcases hk.kd.2 with ⟨e1, h0⟩ | ⟨g', cap', cur, e1, hb', hgg, h1, h2, h3, h4⟩
  · omega
  · rw [e] at e1
    injection e1 with e1 _ _
    injection e1 with e1
    injection e1 with e1 _ _
    subst e1
    refine ⟨cur, 25, hgg, fun c hc => ?_⟩
    have h5 := flat4_get K t.kids.length i c hlt hc
    rw [← h4, List.getElem?_take, if_pos (by omega)] at h5
    simpa using h5
theorem setV_get {K : Nat → Nat → Value} {n i : Nat} {x : Nat → Value} {l l' : List Value} (hl : l = flat4 K n) (hi : i < n) (hlen : l'.length = l.length) (hin : ∀ c, c < 4 → l'[i * 4 + c]? = some (x c)) (hout : ∀ q, (q < i * 4 ∨ i * 4 + 4 ≤ q) → l'[q]? = l[q]?) : l' = flat4 (setV K i x) n := by
  subst hl
  apply List.ext_getElem?
  intro q
  rcases Nat.lt_or_ge q (n * 4) with h | h
  · have e : q = q / 4 * 4 + q % 4 := by omega
    by_cases hq : q / 4 = i
    · rw [e, hq, hin (q % 4) (by omega), flat4_get _ _ _ _ hi (by omega)]
      unfold setV
      rw [if_pos rfl]
    · rw [hout q (by omega), e, flat4_get _ _ _ _ (by omega) (by omega), flat4_get _ _ _ _ (by omega) (by omega)]
      unfold setV
      rw [if_neg hq]
  · rw [List.getElem?_eq_none (by rw [hlen, flat4_len]; exact h), List.getElem?_eq_none (by rw [flat4_len]; exact h)]
/-- One kid changes: so does the item in which it lies, and nothing else. -/
theorem ItAt.up {w w' : World} {B b o : Nat} {t : It} {S : Nat → Prop} {v : Nat → Value} {g cap i : Nat} {K : Nat → Nat → Value} {T : Nat → Nat → Prop} (h : ItAt w B b o t S v) (hv : v 3 = .slice (some ⟨g, 0, none⟩) t.kids.length cap) (hk : OwnK w B v t S K T) (hi : i < t.kids.length) (hBw : B ≤ w.heap.size)
    (hu : Upd w w' g (i * 4) (T i)) {k' : It} {T' : Nat → Prop} {x : Nat → Value} (hk' : ItAt w' B g (i * 4) k' T' x) (hT' : ∀ q, T' q → T i q ∨ w.heap.size ≤ q) :
    ItAt w' B b o (t.setKid i k') (fun q => S q ∨ (w.heap.size ≤ q ∧ q < w'.heap.size)) v ∧ Upd w w' b o S := by
  have hgS : S g := hk.sk g (by rw [hv]; rfl)
  have hbg : b ≠ g := fun e => h.out (e ▸ hgS)
  have hsame : ∀ q, q < w.heap.size → q ≠ g → ¬ T i q → w'.heap[q]? = w.heap[q]? := fun q h1 h2 h3 => hu.block q h1 h3 h2
  have hnb : ¬ T i b := fun e => h.out (hk.hT i b hi e).1
  have hbb : w'.heap[b]? = w.heap[b]? := hsame b h.lt hbg hnb
  refine ⟨⟨?_, ?_, ?_⟩, ⟨hu.os, hu.tape, hu.output, hu.size, fun q hq hn hne => hsame q hq (fun e => hn (e ▸ hgS)) (fun e => hn (hk.hT i q hi e).1), fun cur ty e => ⟨cur, by rw [hbb]; exact e, rfl, fun _ _ => rfl⟩⟩⟩
  · obtain ⟨cur, ty, e, hc⟩ := h.here
    exact ⟨cur, ty, by rw [hbb]; exact e, hc⟩
  · have hlen : (t.setKid i k').kids.length = t.kids.length := by unfold It.setKid; show (t.kids.set i k').length = _; simp
    obtain ⟨cur0, ty0, e0, hc0⟩ := hk'.here
    have hkd : w'.ownsRow B 25 4 (v 3) t.kids.length (flat4 (setV K i x) t.kids.length) := by
      refine ⟨flat4_len _ _, ?_⟩
      rcases hk.kd.2 with ⟨e1, h0⟩ | ⟨g', cap', cur, e1, hb', hgg, h1, h2, h3, h4⟩
      · omega
      · rw [hv] at e1
        injection e1 with e1 _ e2
        injection e1 with e1
        injection e1 with e1 _ _
        subst e1 e2
        obtain ⟨cur', e5, e6, e7⟩ := hu.here cur _ hgg
        refine .inr ⟨g, cap, cur', hv, hb', e5, h1, h2, by omega, ?_⟩
        rw [e5] at e0
        injection e0 with e0
        injection e0 with e0 _ _
        subst e0
        refine setV_get (K := K) (l := cur.toList.take (t.kids.length * 4)) h4 hi (by simp [e6]) (fun c hc => ?_) (fun q hq => ?_)
        · rw [List.getElem?_take, if_pos (by omega)]
          simpa using hc0 c hc
        · rw [List.getElem?_take, List.getElem?_take]
          split
          · simpa using e7 q hq
          · rfl
    have hne2 : (v 2).ownBlock ≠ some g := by
      intro e
      rcases hk.ln.2 with ⟨e1, _⟩ | ⟨g', cap', cur, e1, _, hgg, _⟩
      · rw [e1] at e; cases e
      · rw [e1] at e
        injection e with e
        have e : g' = g := e
        subst e
        rcases hk.kd.2 with ⟨e1, h0⟩ | ⟨g2, cap2, cur2, e2, _, hg2, _⟩
        · omega
        · rw [hv] at e2
          injection e2 with e2 _ _
          injection e2 with e2
          injection e2 with e2 _ _
          subst e2
          rw [hgg] at hg2
          injection hg2 with hg2
          injection hg2 with _ hg2 _
          exact absurd hg2 (by decide)
    refine .mk v _ (setV K i x) (fun j => if j = i then T' else T j) _ hk.h0 hk.h1 (row_step hk.ln fun q hq hl => hsame q hl (fun e => hne2 (e ▸ hq)) (fun e => (hk.hT i q hi e).2.1 hq)) (by rw [hlen]; exact hkd) (fun q hq => .inl (hk.sl q hq)) (fun q hq => .inl (hk.sk q hq)) (fun j k e => ?_) (fun j q hj hq => ?_) (fun j j' q hj hj' hq hq' => ?_) (fun q hq => ?_)
    · have e : (t.kids.set i k')[j]? = some k := e
      by_cases hji : j = i
      · subst hji
        rw [List.getElem?_set_self hi] at e
        injection e with e
        subst e
        show Own w' B (setV K j x j) k' (if j = j then T' else T j)
        unfold setV
        rw [if_pos rfl, if_pos rfl]
        exact hk'.own
      · rw [List.getElem?_set_ne (fun e => hji e.symm)] at e
        have hjl := (List.getElem?_eq_some_iff.1 e).1
        show Own w' B (setV K i x j) k (if j = i then T' else T j)
        unfold setV
        rw [if_neg hji, if_neg hji]
        refine (hk.hr j k e).step (fun q hq => ?_) hu.size
        have h9 := hk.hT j q hjl hq
        exact hsame q (hk.hS q h9.1).2 (fun e => h9.2.2 (by rw [hv, e]; rfl)) (fun e => hji (hk.hd j i q hjl hi hq e))
    · rw [hlen] at hj
      have hq : (if j = i then T' else T j) q := hq
      split at hq
      · rename_i hji
        have h8 := hk'.own.in q hq
        rcases hT' q hq with h9 | h9
        · have h9 := hk.hT i q hi h9
          exact ⟨.inl h9.1, h9.2⟩
        · refine ⟨.inr ⟨h9, h8.2⟩, fun e => ?_, fun e => ?_⟩
          · have := (hk.ln.lt q e).2; omega
          · have := (hk.kd.lt q e).2; omega
      · have h9 := hk.hT j q hj hq
        exact ⟨.inl h9.1, h9.2⟩
    · rw [hlen] at hj hj'
      have hq : (if j = i then T' else T j) q := hq
      have hq' : (if j' = i then T' else T j') q := hq'
      split at hq <;> split at hq'
      · omega
      · rename_i h1 h2
        rcases hT' q hq with h9 | h9
        · exact absurd (hk.hd i j' q hi hj' h9 hq').symm h2
        · have := (hk.hS q (hk.hT j' q hj' hq').1).2; omega
      · rename_i h1 h2
        rcases hT' q hq' with h9 | h9
        · exact absurd (hk.hd i j q hi hj h9 hq).symm h1
        · have := (hk.hS q (hk.hT j q hj hq).1).2; omega
      · exact hk.hd j j' q hj hj' hq hq'
    · rcases hq with hq | hq
      · have := hk.hS q hq; have := hu.size; exact ⟨by omega, by omega⟩
      · exact ⟨by omega, hq.2⟩
  · rintro (hq | hq)
    · exact h.out hq
    · have := h.lt; omega
/-- The same of what only lies there. -/
def LiesAt4 (w : World) (b o : Nat) (t : It) : Prop := ∃ v : Nat → Value, (∀ c, c < 4 → w.cell? ⟨b, o + c, none⟩ = some (v c)) ∧ Lies w (fun _ => True) v t
theorem ItAt.upL {w w' : World} {B b o : Nat} {t : It} {S : Nat → Prop} {v : Nat → Value} {g cap i : Nat} {K : Nat → Nat → Value} {T : Nat → Nat → Prop} (h : ItAt w B b o t S v) (hv : v 3 = .slice (some ⟨g, 0, none⟩) t.kids.length cap) (hk : OwnK w B v t S K T) (hi : i < t.kids.length)
    (hu : Upd w w' g (i * 4) (T i)) {k' : It} (hk' : LiesAt4 w' g (i * 4) k') : LiesAt4 w' b o (t.setKid i k') := by
  have hgS : S g := hk.sk g (by rw [hv]; rfl)
  have hbg : b ≠ g := fun e => h.out (e ▸ hgS)
  have hsame : ∀ q, q < w.heap.size → q ≠ g → ¬ T i q → w'.heap[q]? = w.heap[q]? := fun q h1 h2 h3 => hu.block q h1 h3 h2
  have hnb : ¬ T i b := fun e => h.out (hk.hT i b hi e).1
  have hbb : w'.heap[b]? = w.heap[b]? := hsame b h.lt hbg hnb
  have hlen : (t.setKid i k').kids.length = t.kids.length := by unfold It.setKid; show (t.kids.set i k').length = _; simp
  obtain ⟨x, hx, hxl⟩ := hk'
  have hne2 : (v 2).ownBlock ≠ some g := by
    intro e
    rcases hk.ln.2 with ⟨e1, _⟩ | ⟨g', cap', cur, e1, _, hgg, _⟩
    · rw [e1] at e; cases e
    · rw [e1] at e
      injection e with e
      have e : g' = g := e
      subst e
      rcases hk.kd.2 with ⟨e1, h0⟩ | ⟨g2, cap2, cur2, e2, _, hg2, _⟩
      · omega
      · rw [hv] at e2
        injection e2 with e2 _ _
        injection e2 with e2
        injection e2 with e2 _ _
        subst e2
        rw [hgg] at hg2
        injection hg2 with hg2
        injection hg2 with _ hg2 _
        exact absurd hg2 (by decide)
  have hL := h.own.lies
  obtain ⟨la, lc, el⟩ := row_any hk.ln
  have hcell : ∀ j c, j < t.kids.length → c < 4 → j ≠ i → w'.cell? ⟨g, j * 4 + c, none⟩ = some (K j c) := by
    intro j c hj hc hji
    rcases hk.kd.2 with ⟨e1, h0⟩ | ⟨g', cap', cur, e1, hb', hgg, h1, h2, h3, h4⟩
    · omega
    · rw [hv] at e1
      injection e1 with e1 _ e2
      injection e1 with e1
      injection e1 with e1 _ _
      subst e1 e2
      obtain ⟨cur', e5, e6, e7⟩ := hu.here cur _ hgg
      unfold World.cell?
      rw [e5]
      show cur'[j * 4 + c]? = _
      rw [e7 _ (by omega)]
      have h5 := flat4_get K t.kids.length j c hj hc
      rw [← h4, List.getElem?_take, if_pos (by omega)] at h5
      simpa using h5
  refine ⟨v, fun c hc => ?_, .mk v _ la (some ⟨g, 0, none⟩) lc cap (setV K i x) hk.h0 hk.h1 el (by rw [hlen]; exact hv) (fun j s hs => ?_) (fun j hj => ?_) (fun j k e => ?_) (by have := hk.ln; rw [el] at this; exact row_cap this) (by have := hk.kd; rw [hv] at this; rw [hlen]; exact row_cap this)⟩
  · exact (World.cell?_of_block (a := ⟨b, o + c, none⟩) hbb).trans (h.cell hc)
  · obtain ⟨hj, _⟩ := List.getElem?_eq_some_iff.1 hs
    have hs : t.lines[j]? = some s := hs
    obtain ⟨_, hl⟩ := hL.linesIn el
    obtain ⟨q, r, e1, e2, e3⟩ := hl j s hs
    refine ⟨q, r, e1, trivial, ?_⟩
    refine (World.cell?_of_block (a := ⟨q, r + j, none⟩) (hsame q (cell_lt e3) (fun e => hne2 (by rw [el, e1, e]; rfl)) (fun e => (hk.hT i q hi e).2.1 (by rw [el, e1]; rfl)))).trans e3
  · rw [hlen] at hj
    refine ⟨g, 0, rfl, trivial, fun c hc => ?_⟩
    unfold setV
    rw [Nat.zero_add]
    split
    · rename_i hji
      subst hji
      exact hx c hc
    · rename_i hji
      exact hcell j c hj hc hji
  · have e : (t.kids.set i k')[j]? = some k := e
    unfold setV
    by_cases hji : j = i
    · subst hji
      rw [List.getElem?_set_self hi] at e
      injection e with e
      subst e
      rw [if_pos rfl]
      exact hxl
    · rw [List.getElem?_set_ne (fun e => hji e.symm)] at e
      have hjl := (List.getElem?_eq_some_iff.1 e).1
      rw [if_neg hji]
      refine (hk.hr j k e).lies.step fun q hq hp => ⟨?_, trivial⟩
      have h9 := hk.hT j q hjl hp
      exact hsame q hq (fun e => h9.2.2 (by rw [hv, e]; rfl)) (fun e => hji (hk.hd j i q hjl hi hp e))
end Go.Proofs.YtpbolcjcmkmalaaGreatDoor
namespace Go.Proofs.YtpbolcjcmkmalaaGreatDoor
open Go.RowKit Go.Extern.Stop Go.Stop Go.Extern

/-- One kid changes, gives blocks away (Xr), takes others (A): so does the item in which it lies, and nothing else. -/
theorem ItAt.upG {w w' : World} {B b o : Nat} {t : It} {S : Nat → Prop} {v : Nat → Value} {g cap i : Nat} {K : Nat → Nat → Value} {T : Nat → Nat → Prop} (h : ItAt w B b o t S v) (hv : v 3 = .slice (some ⟨g, 0, none⟩) t.kids.length cap) (hk : OwnK w B v t S K T) (hi : i < t.kids.length)
    (hu : Upd w w' g (i * 4) (T i)) {k' : It} {T' : Nat → Prop} {x : Nat → Value} (hk' : ItAt w' B g (i * 4) k' T' x) {Xr A : Nat → Prop} (hX : ∀ q, Xr q → T i q) (hA : ∀ q, A q → ¬ S q) (hAb : ¬ A b) (hT' : ∀ q, T' q → (T i q ∧ ¬ Xr q) ∨ A q) :
    ItAt w' B b o (t.setKid i k') (fun q => (S q ∧ ¬ Xr q) ∨ (A q ∧ T' q)) v ∧ Upd w w' b o S := by
  have hgS : S g := hk.sk g (by rw [hv]; rfl)
  have hbg : b ≠ g := fun e => h.out (e ▸ hgS)
  have hsame : ∀ q, q < w.heap.size → q ≠ g → ¬ T i q → w'.heap[q]? = w.heap[q]? := fun q h1 h2 h3 => hu.block q h1 h3 h2
  have hnb : ¬ T i b := fun e => h.out (hk.hT i b hi e).1
  have hbb : w'.heap[b]? = w.heap[b]? := hsame b h.lt hbg hnb
  refine ⟨⟨?_, ?_, ?_⟩, ⟨hu.os, hu.tape, hu.output, hu.size, fun q hq hn hne => hsame q hq (fun e => hn (e ▸ hgS)) (fun e => hn (hk.hT i q hi e).1), fun cur ty e => ⟨cur, by rw [hbb]; exact e, rfl, fun _ _ => rfl⟩⟩⟩
  · obtain ⟨cur, ty, e, hc⟩ := h.here
    exact ⟨cur, ty, by rw [hbb]; exact e, hc⟩
  · have hlen : (t.setKid i k').kids.length = t.kids.length := by unfold It.setKid; show (t.kids.set i k').length = _; simp
    obtain ⟨cur0, ty0, e0, hc0⟩ := hk'.here
    have hkd : w'.ownsRow B 25 4 (v 3) t.kids.length (flat4 (setV K i x) t.kids.length) := by
      refine ⟨flat4_len _ _, ?_⟩
      rcases hk.kd.2 with ⟨e1, h0⟩ | ⟨g', cap', cur, e1, hb', hgg, h1, h2, h3, h4⟩
      · omega
      · rw [hv] at e1
        injection e1 with e1 _ e2
        injection e1 with e1
        injection e1 with e1 _ _
        subst e1 e2
        obtain ⟨cur', e5, e6, e7⟩ := hu.here cur _ hgg
        refine .inr ⟨g, cap, cur', hv, hb', e5, h1, h2, by omega, ?_⟩
        rw [e5] at e0
        injection e0 with e0
        injection e0 with e0 _ _
        subst e0
        refine setV_get (K := K) (l := cur.toList.take (t.kids.length * 4)) h4 hi (by simp [e6]) (fun c hc => ?_) (fun q hq => ?_)
        · rw [List.getElem?_take, if_pos (by omega)]
          simpa using hc0 c hc
        · rw [List.getElem?_take, List.getElem?_take]
          split
          · simpa using e7 q hq
          · rfl
    have hne2 : (v 2).ownBlock ≠ some g := by
      intro e
      rcases hk.ln.2 with ⟨e1, _⟩ | ⟨g', cap', cur, e1, _, hgg, _⟩
      · rw [e1] at e; cases e
      · rw [e1] at e
        injection e with e
        have e : g' = g := e
        subst e
        rcases hk.kd.2 with ⟨e1, h0⟩ | ⟨g2, cap2, cur2, e2, _, hg2, _⟩
        · omega
        · rw [hv] at e2
          injection e2 with e2 _ _
          injection e2 with e2
          injection e2 with e2 _ _
          subst e2
          rw [hgg] at hg2
          injection hg2 with hg2
          injection hg2 with _ hg2 _
          exact absurd hg2 (by decide)
    refine .mk v _ (setV K i x) (fun j => if j = i then T' else T j) _ hk.h0 hk.h1 (row_step hk.ln fun q hq hl => hsame q hl (fun e => hne2 (e ▸ hq)) (fun e => (hk.hT i q hi e).2.1 hq)) (by rw [hlen]; exact hkd) (fun q hq => .inl ⟨hk.sl q hq, fun e => (hk.hT i q hi (hX q e)).2.1 hq⟩) (fun q hq => .inl ⟨hk.sk q hq, fun e => (hk.hT i q hi (hX q e)).2.2 hq⟩) (fun j k e => ?_) (fun j q hj hq => ?_) (fun j j' q hj hj' hq hq' => ?_) (fun q hq => ?_)
    · have e : (t.kids.set i k')[j]? = some k := e
      by_cases hji : j = i
      · subst hji
        rw [List.getElem?_set_self hi] at e
        injection e with e
        subst e
        show Own w' B (setV K j x j) k' (if j = j then T' else T j)
        unfold setV
        rw [if_pos rfl, if_pos rfl]
        exact hk'.own
      · rw [List.getElem?_set_ne (fun e => hji e.symm)] at e
        have hjl := (List.getElem?_eq_some_iff.1 e).1
        show Own w' B (setV K i x j) k (if j = i then T' else T j)
        unfold setV
        rw [if_neg hji, if_neg hji]
        refine (hk.hr j k e).step (fun q hq => ?_) hu.size
        have h9 := hk.hT j q hjl hq
        exact hsame q (hk.hS q h9.1).2 (fun e => h9.2.2 (by rw [hv, e]; rfl)) (fun e => hji (hk.hd j i q hjl hi hq e))
    · rw [hlen] at hj
      have hq : (if j = i then T' else T j) q := hq
      split at hq
      · rcases hT' q hq with h9 | h9
        · have h8 := hk.hT i q hi h9.1
          exact ⟨.inl ⟨h8.1, h9.2⟩, h8.2⟩
        · exact ⟨.inr ⟨h9, hq⟩, fun e => hA q h9 (hk.sl q e), fun e => hA q h9 (hk.sk q e)⟩
      · rename_i hji
        have h9 := hk.hT j q hj hq
        exact ⟨.inl ⟨h9.1, fun e => hji (hk.hd j i q hj hi hq (hX q e))⟩, h9.2⟩
    · rw [hlen] at hj hj'
      have hq : (if j = i then T' else T j) q := hq
      have hq' : (if j' = i then T' else T j') q := hq'
      split at hq <;> split at hq'
      · omega
      · rename_i h1 h2
        rcases hT' q hq with h9 | h9
        · exact absurd (hk.hd i j' q hi hj' h9.1 hq').symm h2
        · exact absurd (hk.hT j' q hj' hq').1 (hA q h9)
      · rename_i h1 h2
        rcases hT' q hq' with h9 | h9
        · exact absurd (hk.hd i j q hi hj h9.1 hq).symm h1
        · exact absurd (hk.hT j q hj hq).1 (hA q h9)
      · exact hk.hd j j' q hj hj' hq hq'
    · rcases hq with hq | hq
      · have := hk.hS q hq.1; have := hu.size; exact ⟨by omega, by omega⟩
      · exact hk'.own.in q hq.2
  · rintro (hq | hq)
    · exact h.out hq.1
    · exact hAb hq.1
/-- The numbers that a path is of, and the place to which they lead. -/
def ixs : It → List ByteArray → List Nat
  | _, [] => []
  | t, s :: r => match kidIx t.kids s with
    | none => []
    | some i => i :: ixs (t.kids[i]?.getD It.none) r
def plc (w : World) : Nat → Nat → List Nat → Option (Nat × Nat)
  | b, o, [] => some (b, o)
  | b, o, i :: r => match (w.cell? ⟨b, o + 3, none⟩).bind Value.ownBlock with
    | none => none
    | some g => plc w g (i * 4) r
theorem ixs_cons {t k : It} {s : ByteArray} {r : List ByteArray} {i : Nat} (hi : kidIx t.kids s = some i) (hk : t.kids[i]? = some k) : ixs t (s :: r) = i :: ixs k r := by
  rw [ixs, hi]
  show i :: ixs (t.kids[i]?.getD It.none) r = _
  rw [hk]
  rfl
theorem plc_cons {w : World} {b o g i : Nat} {r : List Nat} {v : Value} (h : w.cell? ⟨b, o + 3, none⟩ = some v) (hg : v.ownBlock = some g) : plc w b o (i :: r) = plc w g (i * 4) r := by
  rw [plc, h]
  show (match v.ownBlock with | none => none | some g => plc w g (i * 4) r) = _
  rw [hg]
theorem ixs_snoc : ∀ (p : List ByteArray) (t x : It) (s : ByteArray) (i : Nat), findW t p = some x → kidIx x.kids s = some i → ixs t (p ++ [s]) = ixs t p ++ [i]
  | [], t, x, s, i, h, hi => by
    rw [findW] at h
    injection h with h
    subst h
    rw [List.nil_append]
    show ixs t (s :: []) = ixs t [] ++ [i]
    rw [ixs.eq_2, hi]
    rfl
  | q :: r, t, x, s, i, h, hi => by
    rw [findW] at h
    split at h
    · cases h
    · rename_i j hj
      split at h
      · cases h
      · rename_i y hy
        rw [List.cons_append, ixs_cons hj hy, ixs_cons hj hy, ixs_snoc r y x s i h hi]
        rfl
theorem plc_snoc {w : World} {i g : Nat} : ∀ (l : List Nat) (b o b' o' : Nat) (v : Value), plc w b o l = some (b', o') → w.cell? ⟨b', o' + 3, none⟩ = some v → v.ownBlock = some g → plc w b o (l ++ [i]) = some (g, i * 4)
  | [], b, o, b', o', v, h, hc, hg => by
    rw [plc] at h
    injection h with h
    injection h with h1 h2
    subst h1 h2
    rw [List.nil_append, plc_cons hc hg, plc]
  | j :: r, b, o, b', o', v, h, hc, hg => by
    rw [plc] at h
    rw [List.cons_append, plc]
    split at h
    · cases h
    · rename_i g' hg'
      exact plc_snoc r g' (j * 4) b' o' v h hc hg
theorem plc_on {w w' : World} (hb : Below w.heap.size w w') : ∀ (l : List Nat) (b o : Nat) (a : Nat × Nat), plc w b o l = some a → plc w' b o l = some a
  | [], b, o, a, h => by rw [plc] at h ⊢; exact h
  | j :: r, b, o, a, h => by
    rw [plc] at h ⊢
    split at h
    · cases h
    · rename_i g hg
      cases hc : w.cell? ⟨b, o + 3, none⟩ with
      | none => rw [hc] at hg; cases hg
      | some u =>
        rw [(hb.cell (p := ⟨b, o + 3, none⟩) (cell_lt hc)).trans hc, ← hc, hg]
        exact plc_on hb r g (j * 4) a h
/-- What stands at a path, and how a change of it becomes one of the law. -/
structure Foc (w : World) (B b o : Nat) (t : It) (S : Nat → Prop) (p : List ByteArray) (b' o' : Nat) (x : It) (S' : Nat → Prop) (v' : Nat → Value) : Prop where
  fnd : findW t p = some x
  at' : ItAt w B b' o' x S' v'
  sub : ∀ q, S' q → S q
  root : p = [] → b' = b ∧ o' = o
  inn : p ≠ [] → S b'
  back : ∀ (w' : World) (y : It) (S'' : Nat → Prop) (v'' : Nat → Value) (Xr A : Nat → Prop), Upd w w' b' o' S' → ItAt w' B b' o' y S'' v'' → (∀ q, Xr q → S' q) → (∀ q, A q → ¬ S q) → ¬ A b → (∀ q, S'' q → (S' q ∧ ¬ Xr q) ∨ A q) → ∃ S3 v3, ItAt w' B b o (setW (fun _ => y) p t) S3 v3 ∧ (∀ q, S3 q → (S q ∧ ¬ Xr q) ∨ A q) ∧ Upd w w' b o S
  backL : ∀ (w' : World) (y : It), Upd w w' b' o' S' → LiesAt4 w' b' o' y → LiesAt4 w' b o (setW (fun _ => y) p t) ∧ Upd w w' b o S
  pl : plc w b o (ixs t p) = some (b', o')
theorem Foc.nil {w : World} {B b o : Nat} {t : It} {S : Nat → Prop} {v : Nat → Value} (h : ItAt w B b o t S v) : Foc w B b o t S [] b o t S v :=
  ⟨by rw [findW], h, fun _ h => h, fun _ => ⟨rfl, rfl⟩, fun h => absurd rfl h, fun w' y S'' v'' Xr A hu hy _ _ _ hS => ⟨S'', v'', by rw [setW]; exact hy, hS, hu⟩, fun w' y hu hy => ⟨by rw [setW]; exact hy, hu⟩, rfl⟩
/-- One step further in. -/
theorem Foc.kid {w : World} {B b o : Nat} {t : It} {S : Nat → Prop} {p : List ByteArray} {b' o' : Nat} {x : It} {S' : Nat → Prop} {v' : Nat → Value} (h : Foc w B b o t S p b' o' x S' v') {s : ByteArray} {i : Nat} {k : It} (hi : kidIx x.kids s = some i) (hk : x.kids[i]? = some k) :
    ∃ g cap T V, v' 3 = .slice (some ⟨g, 0, none⟩) x.kids.length cap ∧ Foc w B b o t S (p ++ [s]) g (i * 4) k T V := by
  obtain ⟨g, cap, K, T, e, ho, hat⟩ := h.at'.kid hk
  have hlt := (List.getElem?_eq_some_iff.1 hk).1
  have hsub : ∀ q, T i q → S' q := fun q hq => (ho.hT i q hlt hq).1
  have hset : ∀ y, setW (fun _ => x.setKid i y) p t = setW (fun _ => y) (p ++ [s]) t := fun y => (setW_snoc p t x k s i y h.fnd hi hk).symm
  refine ⟨g, cap, T i, K i, e, ⟨?_, hat, fun q hq => h.sub q (hsub q hq), fun e => by simp at e, fun _ => h.sub g (ho.sk g (by rw [e]; rfl)), fun w' y S'' v'' Xr A hu hy hX hA hAb hS => ?_, fun w' y hu hy => ?_, by rw [ixs_snoc p t x s i h.fnd hi]; exact plc_snoc _ b o b' o' _ h.pl (h.at'.cell (c := 3) (by omega)) (by rw [e]; rfl)⟩⟩
  · rw [findW_snoc p t x s h.fnd, findW_cons hi hk, findW]
  · have hAb' : ¬ A b' := fun e => by
      by_cases hp : p = []
      · rw [(h.root hp).1] at e; exact hAb e
      · exact hA b' e (h.inn hp)
    obtain ⟨h1, h2⟩ := h.at'.upG e ho hlt hu hy hX (fun q hq hs => hA q hq (h.sub q hs)) hAb' hS
    obtain ⟨S3, v3, h3, h4, h5⟩ := h.back w' _ _ v' Xr A h2 h1 (fun q hq => hsub q (hX q hq)) hA hAb (fun q hq => hq.imp (fun hq => hq) (fun hq => hq.1))
    rw [hset] at h3
    exact ⟨S3, v3, h3, h4, h5⟩
  · have h1 := h.at'.upL e ho hlt hu hy
    have h2 : Upd w w' b' o' S' := by
      have hgS : S' g := ho.sk g (by rw [e]; rfl)
      refine ⟨hu.os, hu.tape, hu.output, hu.size, fun q hq hn hne => hu.block q hq (fun hh => hn (hsub q hh)) (fun e => hn (e ▸ hgS)), fun cur ty ec => ?_⟩
      have hbg : b' ≠ g := fun e => h.at'.out (e ▸ hgS)
      have hbb : w'.heap[b']? = w.heap[b']? := hu.block b' h.at'.lt (fun hh => h.at'.out (hsub _ hh)) hbg
      exact ⟨cur, by rw [hbb]; exact ec, rfl, fun _ _ => rfl⟩
    obtain ⟨h3, h4⟩ := h.backL w' _ h2 h1
    rw [hset] at h3
    exact ⟨h3, h4⟩
end Go.Proofs.YtpbolcjcmkmalaaGreatDoor
namespace Go.Proofs.YtpbolcjcmkmalaaGreatDoor
open Go.RowKit Go.Extern.Stop Go.Stop Go.Extern

/-- A number, or -1. -/
def ixI : Option Nat → Int
  | none => -1
  | some i => i
theorem amLab1_any (a h s : ByteArray) (la ka : Option Addr) (n lc m kc : Nat) (bs : Nat) (w : World) (hs : w.cell? ⟨bs, 0, none⟩ = some (.string s)) :
    Calls Tryz.prog 109 #[.agg #[.string a, .string h, .slice la n lc, .slice ka m kc], .pointer (some ⟨bs, 0, none⟩)] w fun e w' => e = .returned (.bool (a.toList == s.toList)) ∧ w' = w.alloc (.cells #[.string a, .string h, .slice la n lc, .slice ka m kc] 25) := by
  have hl := World.block_lt_of_cell? w ⟨bs, 0, none⟩ hs
  have hs2 : (w.alloc (.cells #[.string a, .string h, .slice la n lc, .slice ka m kc] 25)).cell? ⟨bs, 0, none⟩ = some (.string s) := by
    rw [World.cell?_alloc_lt _ _ ⟨bs, 0, none⟩ hl]; exact hs
  go_enter Tryz.func109, Tryz.ntmps109
  go_wp2
  go_ret
  exact ⟨rfl, rfl⟩
set_option maxHeartbeats 1000000 in
theorem amIdx_any (n : Nat) (ka : Option Addr) (kc : Nat) (L : Nat → ByteArray) (H : Nat → ByteArray) (la ma : Nat → Option Addr) (ln lc mn mc : Nat → Nat) (s : ByteArray) (bs : Nat) (w : World) (hn : n ≤ 100000) (hs : w.cell? ⟨bs, 0, none⟩ = some (.string s))
    (hk : ∀ i, i < n → ∃ b o, ka = some ⟨b, o, none⟩ ∧ w.cell? ⟨b, o + i * 4, none⟩ = some (.string (L i)) ∧ w.cell? ⟨b, o + i * 4 + 1, none⟩ = some (.string (H i)) ∧ w.cell? ⟨b, o + i * 4 + 2, none⟩ = some (.slice (la i) (ln i) (lc i)) ∧ w.cell? ⟨b, o + i * 4 + 3, none⟩ = some (.slice (ma i) (mn i) (mc i))) :
    Calls Tryz.prog 108 #[.slice ka n kc, .func (.func 109) #[] #[.pointer (some ⟨bs, 0, none⟩)]] w fun e w' => (∃ r : Option Nat, e = .returned (.int .i64 (ixI r)) ∧ (r = none → ∀ j, j < n → ((L j).toList == s.toList) = false) ∧ ∀ i, r = some i → i < n ∧ ((L i).toList == s.toList) = true ∧ ∀ j, j < i → ((L j).toList == s.toList) = false) ∧ Below w.heap.size w w' := by
  have hl := World.block_lt_of_cell? w ⟨bs, 0, none⟩ hs
  go_enter Tryz.func108, Tryz.ntmps108
  go_wp2_with fail
  go_loopw [8] (fun t wr => ∃ i : Nat, i ≤ n ∧ t = .int .i64 i ∧ Below w.heap.size w wr ∧ ∀ j, j < i → ((L j).toList == s.toList) = false) (fun t _ => (n - RowKit.intOf t).toNat)
  case atStart => exact ⟨0, by omega, rfl, Below.refl _ _, fun j hj => by omega⟩
  case round =>
    obtain ⟨i, hi, rfl, hb, hno⟩ := hrel
    have HB := hidLL hb
    have HN := hidLL hno
    clear hb hno
    by_cases hin : i < n
    · obtain ⟨b, o, rfl, c0, c1, c2, c3⟩ := hk i hin
      have hiz : (i : Int) < n := by omega
      have hbl := World.block_lt_of_cell? w ⟨b, o + i * 4, none⟩ c0
      have d0 := (HB.out.cell (p := ⟨b, o + i * 4, none⟩) hbl).trans c0
      have d1 := (HB.out.cell (p := ⟨b, o + i * 4 + 1, none⟩) hbl).trans c1
      have d2 := (HB.out.cell (p := ⟨b, o + i * 4 + 2, none⟩) hbl).trans c2
      have d3 := (HB.out.cell (p := ⟨b, o + i * 4 + 3, none⟩) hbl).trans c3
      have HC := hidLL (amLab1_any (L i) (H i) s (la i) (ma i) (ln i) (lc i) (mn i) (mc i) bs wr ((HB.out.cell (p := ⟨bs, 0, none⟩) hl).trans hs))
      have HK := hidLL hk
      clear c0 c1 c2 c3 hk
      cases hq : ((L i).toList == s.toList)
      · rw [hq] at HC
        have HQ := hidLL hq
        clear hq
        go_wp2_with fail
        refine HC.out.mono ?_
        rintro e w1 ⟨rfl, ew⟩
        go_wp2
        go_roundw
        case rel =>
          refine ⟨i + 1, by omega, by go_num, ?_, fun j hj => ?_⟩
          · first | exact HB.out.alloc HB.out.size _ | (rw [ew]; exact HB.out.alloc HB.out.size _)
          · rcases Nat.lt_or_ge j i with h | h
            · exact HN.out j h
            · obtain rfl : j = i := by omega
              exact HQ.out
        case measure => simp [RowKit.intOf]; omega
      · rw [hq] at HC
        have HQ := hidLL hq
        clear hq
        go_wp2_with fail
        refine HC.out.mono ?_
        rintro e w1 ⟨rfl, ew⟩
        go_wp2
        go_ret
        refine ⟨⟨some i, rfl, (fun h => by cases h), (fun j hj => by injection hj with hj; subst hj; exact ⟨hin, HQ.out, HN.out⟩)⟩, ?_⟩
        first | exact HB.out.alloc HB.out.size _ | (rw [ew]; exact HB.out.alloc HB.out.size _)
    · obtain rfl : i = n := by omega
      clear hk
      go_wp2
      go_ret
      exact ⟨⟨none, rfl, (fun _ => HN.out), (fun j hj => by cases hj)⟩, HB.out⟩
theorem kid_none_or {kids : List It} {s : ByteArray} {r : Option Nat} (h1 : r = none → ∀ (j : Nat) y, kids[j]? = some y → isL s y = false) (h2 : ∀ i, r = some i → ∃ x, kids[i]? = some x ∧ isL s x = true ∧ ∀ j y, j < i → kids[j]? = some y → isL s y = false) : r = kidIx kids s := by
  cases r with
  | none => exact (kidIx_none (h1 rfl)).symm
  | some i =>
    obtain ⟨x, h3, h4, h5⟩ := h2 i rfl
    exact (kidIx_of h3 h4 h5).symm
set_option maxHeartbeats 1000000 in
theorem amLab_lies {w : World} {P : Nat → Prop} {v : Nat → Value} {t : It} (h : Lies w P v t) {ka : Option Addr} {n kc : Nat} (e : v 3 = .slice ka n kc) (hn : n ≤ 100000) (s : ByteArray) :
    Calls Tryz.prog 69 #[.slice ka n kc, .string s] w fun e w' => e = .returned (.int .i64 (ixI (kidIx t.kids s))) ∧ Below w.heap.size w w' := by
  obtain ⟨rfl, V, hk, hr⟩ := h.kidsAt e
  have hb : Below w.heap.size w (w.alloc (.cells #[.string s] 9)) := (Below.refl _ _).alloc (Nat.le_refl _) _
  have hcells := kids_cells hk hr
  have HC := hidLL (amIdx_any t.kids.length ka kc _ _ _ _ _ _ _ _ s w.heap.size (w.alloc (.cells #[.string s] 9)) hn (by simp) (fun i hi => by
    obtain ⟨b, o, e, c0, c1, c2, c3⟩ := hcells i hi
    have hbl := World.block_lt_of_cell? w ⟨b, o + i * 4, none⟩ c0
    exact ⟨b, o, e, (hb.cell (p := ⟨b, o + i * 4, none⟩) hbl).trans c0, (hb.cell (p := ⟨b, o + i * 4 + 1, none⟩) hbl).trans c1, (hb.cell (p := ⟨b, o + i * 4 + 2, none⟩) hbl).trans c2, (hb.cell (p := ⟨b, o + i * 4 + 3, none⟩) hbl).trans c3⟩))
  have HR : Hid (∀ r : Option Nat, (r = none → ∀ j, j < t.kids.length → ((strOf (V j 0)).toList == s.toList) = false) → (∀ i, r = some i → i < t.kids.length ∧ ((strOf (V i 0)).toList == s.toList) = true ∧ ∀ j, j < i → ((strOf (V j 0)).toList == s.toList) = false) → r = kidIx t.kids s) := fun r h1 h2 => by
    have hl : ∀ (j : Nat) y, t.kids[j]? = some y → isL s y = ((strOf (V j 0)).toList == s.toList) := fun j y hy => by
      rw [(hr j y hy).forms.1]; rfl
    refine kid_none_or (fun hn j y hy => ?_) (fun i hi => ?_)
    · rw [hl j y hy]; exact h1 hn j (List.getElem?_eq_some_iff.1 hy).1
    · obtain ⟨h3, h4, h5⟩ := h2 i hi
      refine ⟨t.kids[i], List.getElem?_eq_getElem h3, ?_, fun j y hj hy => ?_⟩
      · rw [hl i _ (List.getElem?_eq_getElem h3)]; exact h4
      · rw [hl j y hy]; exact h5 j hj
  have HBb := hidLL hb
  clear hk hr hcells h e hb
  generalize kidIx t.kids s = r0 at *
  go_enter Tryz.func69, Tryz.ntmps69
  go_wp2_with fail
  refine HC.out.mono ?_
  rintro e w1 ⟨⟨r, rfl, hk1, hk2⟩, hb1⟩
  have hr := HR.out r hk1 hk2
  subst hr
  have H1 := hidLL hb1
  clear hk1 hk2 hb1
  go_wp2
  go_ret
  exact ⟨rfl, HBb.out.trans (H1.out.mono (by simp))⟩
theorem size_empty {s : ByteArray} : s.toList.isEmpty = decide (s.size = 0) := by
  rw [Lib.toList_data, Bool.eq_iff_iff, List.isEmpty_iff, decide_eq_true_eq]
  show s.data.toList = [] ↔ s.data.size = 0
  rw [← Array.length_toList, List.length_eq_zero_iff]
theorem behIx_empty {l : List It} {s : ByteArray} (h : s.toList.isEmpty = true) : behIx l s = some 0 := by
  rw [size_empty, decide_eq_true_eq] at h
  unfold behIx
  rw [if_pos h]
theorem behIx_not {l : List It} {s : ByteArray} (h : s.toList.isEmpty = false) : behIx l s = (kidIx l s).map (· + 1) := by
  rw [size_empty, decide_eq_false_iff_not] at h
  unfold behIx
  rw [if_neg h]
set_option maxHeartbeats 1000000 in
theorem behind_lies {w : World} {P : Nat → Prop} {v : Nat → Value} {t : It} (h : Lies w P v t) {ka : Option Addr} {n kc : Nat} (e : v 3 = .slice ka n kc) (hn : n ≤ 100000) (s : ByteArray) :
    Calls Tryz.prog 76 #[.slice ka n kc, .string s] w fun e w' => e = .returned (.int .i64 (ixI (behIx t.kids s))) ∧ Below w.heap.size w w' := by
  have HC := hidLL (amLab_lies h e hn s)
  have hlt : ∀ i, kidIx t.kids s = some i → i < 100000 := fun i hi => by
    obtain ⟨x, hx, _⟩ := kidIx_some hi
    have := (List.getElem?_eq_some_iff.1 hx).1
    have := (h.kidsAt e).1
    omega
  cases hs : s.toList.isEmpty
  · have HB := hidLL (behIx_not (l := t.kids) hs)
    generalize behIx t.kids s = r0 at *
    generalize kidIx t.kids s = r1 at *
    clear h e
    go_enter Tryz.func76, Tryz.ntmps76
    go_wp2_with fail
    refine HC.out.mono ?_
    rintro e w1 ⟨rfl, hb1⟩
    have H1 := hidLL hb1
    clear hb1
    cases r1 with
    | none =>
      unfold ixI
      go_wp2
      go_ret
      exact ⟨by rw [HB.out]; rfl, H1.out⟩
    | some i =>
      have hi := hlt i rfl
      have hi0 : ¬ ((i : Int) < 0) := by omega
      have hw : IntKind.i64.wrap ((i : Int) + 1) = (i : Int) + 1 := by rw [IntKind.wrap_i64]; omega
      clear hlt
      unfold ixI
      go_wp2
      go_ret
      exact ⟨by rw [HB.out]; rfl, H1.out⟩
  · have HB := hidLL (behIx_empty (l := t.kids) hs)
    generalize behIx t.kids s = r0 at *
    clear h e HC hlt
    go_enter Tryz.func76, Tryz.ntmps76
    go_wp2
    go_ret
    exact ⟨by rw [HB.out]; rfl, Below.refl _ _⟩
end Go.Proofs.YtpbolcjcmkmalaaGreatDoor
namespace Go.Proofs.YtpbolcjcmkmalaaGreatDoor
open Go.RowKit Go.Extern.Stop Go.Stop Go.Extern

mutual
/-- How many provisions lie in an item. -/
def cntIt : It → Nat
  | .mk _ _ _ k => cntKs k
def cntKs : List It → Nat
  | [] => 0
  | t :: r => 1 + cntIt t + cntKs r
end
theorem cntIt_eq (t : It) : cntIt t = cntKs t.kids := by cases t; rw [cntIt]; rfl
/-- Two items have different labels. -/
def Dif (a b : It) : Prop := (a.label.toList == b.label.toList) = false
/-- An item so deep that is right by itself. -/
def locOk (d : Nat) (t : It) : Prop := d ≤ 6 ∧ greatB t = false ∧ (if d = 0 then decide (t.label.size = 0) else isLab t.label) = true ∧ textsOk t = true
inductive Rgt : Nat → It → Prop
  | mk (d : Nat) (t : It) (h : locOk d t) (hd : t.kids.Pairwise Dif) (hk : ∀ k, k ∈ t.kids → Rgt (d + 1) k) : Rgt d t
theorem Rgt.is {d : Nat} {t : It} (h : Rgt d t) : locOk d t ∧ t.kids.Pairwise Dif ∧ ∀ k, k ∈ t.kids → Rgt (d + 1) k := by
  cases h with
  | mk _ _ h1 h2 h3 => exact ⟨h1, h2, h3⟩
theorem label_iff {d : Nat} {ah : List It} {t : It} : labelOk d ah t = true ↔ (if d = 0 then decide (t.label.size = 0) else isLab t.label) = true ∧ (d ≠ 0 → ∀ k, k ∈ ah → Dif k t) := by
  unfold labelOk Dif
  by_cases hd : d = 0
  · simp [hd]
  · rw [if_neg hd, if_neg hd, Bool.and_eq_true, Bool.not_eq_true', List.any_eq_false]
    refine and_congr_right fun _ => ⟨fun h _ k hk => ?_, fun h k hk => ?_⟩
    · have := h k hk; simpa using this
    · have := h hd k hk; simpa using this
mutual
theorem vIt_ok : ∀ (t : It) (d n : Nat) (ah : List It) (m : Nat), vIt d n ah t = .ok m → Rgt d t ∧ (d ≠ 0 → ∀ k, k ∈ ah → Dif k t) ∧ m = n + cntIt t ∧ n + cntIt t ≤ 300
  | .mk a b c k, d, n, ah, m, h => by
    rw [vIt] at h
    split at h
    · cases h
    · rename_i h1
      split at h
      · cases h
      · rename_i h2
        split at h
        · cases h
        · rename_i h3
          have hl := label_iff.1 (by simpa using h2)
          have hn : n ≤ 300 := by omega
          obtain ⟨q1, q2, _, q3, q4⟩ := vKs_ok k d n [] m h hn
          refine ⟨.mk d _ ⟨by omega, ?_, hl.1, by simpa using h3⟩ q2 q1, hl.2, ?_, ?_⟩
          · cases hg : greatB (.mk a b c k) with
            | false => rfl
            | true => exact absurd (Or.inr (Or.inr hg)) h1
          · rw [cntIt]; exact q3
          · rw [cntIt]; exact q4
theorem vKs_ok : ∀ (l : List It) (d n : Nat) (ah : List It) (m : Nat), vKs d n ah l = .ok m → n ≤ 300 → (∀ k, k ∈ l → Rgt (d + 1) k) ∧ l.Pairwise Dif ∧ (∀ a, a ∈ ah → ∀ k, k ∈ l → Dif a k) ∧ m = n + cntKs l ∧ n + cntKs l ≤ 300
  | [], d, n, ah, m, h, hn => by
    rw [vKs] at h
    injection h with h
    exact ⟨fun k hk => (by cases hk), List.Pairwise.nil, fun a _ k hk => (by cases hk), by rw [cntKs]; omega, by rw [cntKs]; omega⟩
  | t :: r, d, n, ah, m, h, hn => by
    rw [vKs] at h
    cases hv : vIt (d + 1) (n + 1) ah t with
    | bad c => rw [hv] at h; cases h
    | ok m1 =>
      rw [hv] at h
      obtain ⟨p1, p2, p3, p4⟩ := vIt_ok t _ _ _ _ hv
      obtain ⟨q1, q2, q3, q4, q5⟩ := vKs_ok r d m1 (ah ++ [t]) m h (by omega)
      refine ⟨fun k hk => ?_, List.Pairwise.cons (fun k hk => q3 t (by simp) k hk) q2, fun a ha k hk => ?_, by rw [cntKs]; omega, by rw [cntKs]; omega⟩
      · rcases List.mem_cons.1 hk with rfl | hk
        · exact p1
        · exact q1 k hk
      · rcases List.mem_cons.1 hk with rfl | hk
        · exact p2 (by omega) a ha
        · exact q3 a (by simp [ha]) k hk
end
mutual
theorem ok_vIt : ∀ (t : It) (d n : Nat) (ah : List It), Rgt d t → (d ≠ 0 → ∀ k, k ∈ ah → Dif k t) → n + cntIt t ≤ 300 → vIt d n ah t = .ok (n + cntIt t)
  | .mk a b c k, d, n, ah, h, hl, hn => by
    obtain ⟨⟨h1, h2, h3, h4⟩, h5, h6⟩ := h.is
    rw [cntIt] at hn ⊢
    rw [vIt, if_neg (by rw [h2]; simp; omega), if_neg (by rw [label_iff.2 ⟨h3, hl⟩]; simp), if_neg (by rw [h4]; simp)]
    exact ok_vKs k d n [] h6 h5 (fun a ha => by cases ha) hn
theorem ok_vKs : ∀ (l : List It) (d n : Nat) (ah : List It), (∀ k, k ∈ l → Rgt (d + 1) k) → l.Pairwise Dif → (∀ a, a ∈ ah → ∀ k, k ∈ l → Dif a k) → n + cntKs l ≤ 300 → vKs d n ah l = .ok (n + cntKs l)
  | [], d, n, ah, _, _, _, _ => by rw [vKs, cntKs]; rfl
  | t :: r, d, n, ah, h1, h2, h3, hn => by
    rw [cntKs] at hn ⊢
    rw [vKs, ok_vIt t (d + 1) (n + 1) ah (h1 t (by simp)) (fun _ k hk => h3 k hk t (by simp)) (by omega)]
    show vKs d (n + 1 + cntIt t) (ah ++ [t]) r = _
    have h2' := List.pairwise_cons.1 h2
    rw [ok_vKs r d (n + 1 + cntIt t) (ah ++ [t]) (fun k hk => h1 k (by simp [hk])) h2'.2 (fun a ha k hk => ?_) (by omega)]
    · congr 1; omega
    · rcases List.mem_append.1 ha with ha | ha
      · exact h3 a ha k (by simp [hk])
      · rw [List.mem_singleton.1 ha]; exact h2'.1 k hk
end
/-- A law is right just when it is so by itself and has not too many provisions. -/
theorem valid_iff {t : It} : (∃ m, vIt 0 0 [] t = .ok m) ↔ Rgt 0 t ∧ cntIt t ≤ 300 :=
  ⟨fun ⟨m, h⟩ => (by have := vIt_ok t 0 0 [] m h; exact ⟨this.1, by have := this.2.2.2; omega⟩), fun ⟨h, hn⟩ => ⟨_, ok_vIt t 0 0 [] h (fun h => absurd rfl h) (by omega)⟩⟩
theorem great_kids (a b : ByteArray) (c : List ByteArray) (k k' : List It) : greatB (.mk a b c k) = greatB (.mk a b c k') := rfl
theorem texts_kids (a b : ByteArray) (c : List ByteArray) (k k' : List It) : textsOk (.mk a b c k) = textsOk (.mk a b c k') := rfl
theorem find_step {t x : It} {p : ByteArray} {r : List ByteArray} (h : findW t (p :: r) = some x) : ∃ i y, kidIx t.kids p = some i ∧ t.kids[i]? = some y ∧ findW y r = some x := by
  rw [findW] at h
  split at h
  · cases h
  · rename_i i hi
    split at h
    · cases h
    · rename_i y hy
      exact ⟨i, y, hi, hy, h⟩
theorem find_rgt : ∀ (p : List ByteArray) (d : Nat) (t x : It), Rgt d t → findW t p = some x → Rgt (d + p.length) x
  | [], d, t, x, h, e => by rw [findW] at e; injection e with e; rw [← e]; exact h
  | q :: r, d, t, x, h, e => by
    obtain ⟨i, y, _, hy, e⟩ := find_step e
    have := find_rgt r (d + 1) y x (h.is.2.2 y (List.mem_of_getElem? hy)) e
    rw [List.length_cons, show d + (r.length + 1) = d + 1 + r.length by omega]
    exact this
theorem cntKs_set : ∀ (l : List It) (i : Nat) (y z : It), l[i]? = some y → cntKs (l.set i z) + cntIt y = cntKs l + cntIt z
  | [], i, y, z, h => by simp at h
  | t :: r, 0, y, z, h => by
    simp only [List.getElem?_cons_zero, Option.some.injEq] at h
    subst h
    rw [List.set_cons_zero, cntKs, cntKs]
    omega
  | t :: r, i + 1, y, z, h => by
    rw [List.getElem?_cons_succ] at h
    rw [List.set_cons_succ, cntKs, cntKs]
    have := cntKs_set r i y z h
    omega
theorem set_label : ∀ (p : List ByteArray) (t x y : It), findW t p = some x → y.label = x.label → (setW (fun _ => y) p t).label = t.label
  | [], t, x, y, e, h => by rw [findW] at e; injection e with e; rw [setW, h, e]
  | q :: r, t, x, y, e, h => by
    obtain ⟨i, z, hi, hz, _⟩ := find_step e
    rw [setW_cons hi hz]
    rfl
theorem set_cnt : ∀ (p : List ByteArray) (t x y : It), findW t p = some x → cntIt (setW (fun _ => y) p t) + cntIt x = cntIt t + cntIt y
  | [], t, x, y, e => by rw [findW] at e; injection e with e; rw [setW, e]; omega
  | q :: r, t, x, y, e => by
    obtain ⟨i, z, hi, hz, e⟩ := find_step e
    rw [setW_cons hi hz, cntIt_eq, cntIt_eq t]
    have h1 := set_cnt r z x y e
    have h2 := cntKs_set t.kids i z (setW (fun _ => y) r z) hz
    show cntKs (t.kids.set i (setW (fun _ => y) r z)) + _ = _
    omega
theorem dif_set {l : List It} {i : Nat} {y z : It} (h : l.Pairwise Dif) (hy : l[i]? = some y) (e : z.label = y.label) : (l.set i z).Pairwise Dif := by
  rw [List.pairwise_iff_getElem] at h ⊢
  intro a b ha hb hab
  rw [List.length_set] at ha hb
  have hlab : ∀ (k : Nat) (hk : k < (l.set i z).length), (l.set i z)[k].label = (l[k]'(by rw [List.length_set] at hk; exact hk)).label := fun k hk => by
    rw [List.getElem_set]
    split
    · rename_i hik
      subst hik
      rw [e]
      congr 1
      exact ((List.getElem?_eq_some_iff.1 hy).2).symm
    · rfl
  unfold Dif
  rw [hlab, hlab]
  exact h a b ha hb hab
theorem loc_kids {d : Nat} {t : It} (l : List It) (h : locOk d t) : locOk d (.mk t.label t.head t.lines l) := by
  obtain ⟨h1, h2, h3, h4⟩ := h
  cases t with
  | mk a b c k => exact ⟨h1, (great_kids a b c l k).trans h2, h3, (texts_kids a b c l k).trans h4⟩
theorem set_rgt : ∀ (p : List ByteArray) (d : Nat) (t x y : It), Rgt d t → findW t p = some x → Rgt (d + p.length) y → y.label = x.label → Rgt d (setW (fun _ => y) p t)
  | [], d, t, x, y, _, _, h, _ => by rw [setW]; exact h
  | q :: r, d, t, x, y, ht, e, h, hl => by
    obtain ⟨i, z, hi, hz, e⟩ := find_step e
    obtain ⟨h1, h2, h3⟩ := ht.is
    rw [setW_cons hi hz]
    rw [List.length_cons, show d + (r.length + 1) = d + 1 + r.length by omega] at h
    have h4 := set_rgt r (d + 1) z x y (h3 z (List.mem_of_getElem? hz)) e h hl
    refine .mk d _ (loc_kids _ h1) (dif_set h2 hz (set_label r z x y e hl)) fun k hk => ?_
    have hk : k ∈ t.kids.set i (setW (fun _ => y) r z) := hk
    rcases List.mem_or_eq_of_mem_set hk with hk | rfl
    · exact h3 k hk
    · exact h4
/-- A text that may stand as a line. -/
def Fine (s : ByteArray) : Prop := s.size ≤ 300 ∧ lineB s = true
theorem chk_fine {s : ByteArray} (h : chkB s = 0) : Fine s := by
  unfold chkB at h
  split at h
  · cases h
  · split at h
    · rename_i h1 h2; exact ⟨by omega, h2⟩
    · cases h
theorem texts_iff {t : It} : greatB t = false ∧ textsOk t = true ↔ t.lines.length ≤ 40 ∧ Fine t.head ∧ ∀ s, s ∈ t.lines → Fine s := by
  unfold greatB textsOk Fine
  simp only [Bool.or_eq_false_iff, Bool.and_eq_true, Bool.not_eq_true', decide_eq_false_iff_not, List.any_eq_false, longB, badB, Nat.not_lt, decide_eq_true_eq, Bool.not_eq_false]
  constructor
  · rintro ⟨⟨h1, h2, h3⟩, h4, h5⟩
    exact ⟨h1, ⟨h2, h4⟩, fun s hs => ⟨h3 s hs, h5 s hs⟩⟩
  · rintro ⟨h1, ⟨h2, h4⟩, h5⟩
    exact ⟨⟨h1, h2, fun s hs => (h5 s hs).1⟩, h4, fun s hs => (h5 s hs).2⟩
theorem Rgt.texts {d : Nat} {t : It} (h : Rgt d t) : t.lines.length ≤ 40 ∧ Fine t.head ∧ ∀ s, s ∈ t.lines → Fine s := texts_iff.1 ⟨h.is.1.2.1, h.is.1.2.2.2⟩
theorem rgt_lines {d : Nat} {t : It} (h : Rgt d t) {l : List ByteArray} (hl : l.length ≤ 40) (hf : ∀ s, s ∈ l → Fine s) : Rgt d (t.setLines l) := by
  obtain ⟨⟨h1, h2, h3, h4⟩, h5, h6⟩ := h.is
  have h7 := (texts_iff (t := t.setLines l)).2 ⟨hl, h.texts.2.1, hf⟩
  exact .mk d _ ⟨h1, h7.1, h3, h7.2⟩ h5 h6
theorem rgt_head {d : Nat} {t : It} (h : Rgt d t) {s : ByteArray} (hf : Fine s) : Rgt d (t.setHead s) := by
  obtain ⟨⟨h1, h2, h3, h4⟩, h5, h6⟩ := h.is
  have h7 := (texts_iff (t := t.setHead s)).2 ⟨h.texts.1, hf, h.texts.2.2⟩
  exact .mk d _ ⟨h1, h7.1, h3, h7.2⟩ h5 h6
theorem rgt_kids {d : Nat} {t : It} (h : Rgt d t) {l : List It} (hp : l.Pairwise Dif) (hk : ∀ k, k ∈ l → Rgt (d + 1) k) : Rgt d (t.setKids l) := .mk d _ (loc_kids l h.is.1) hp hk
theorem cntKs_erase : ∀ (l : List It) (i : Nat) (y : It), l[i]? = some y → cntKs (l.eraseIdx i) + 1 + cntIt y = cntKs l
  | [], i, y, h => by simp at h
  | t :: r, 0, y, h => by
    simp only [List.getElem?_cons_zero, Option.some.injEq] at h
    subst h
    rw [List.eraseIdx_cons_zero, cntKs]
    omega
  | t :: r, i + 1, y, h => by
    rw [List.getElem?_cons_succ] at h
    rw [List.eraseIdx_cons_succ, cntKs, cntKs]
    have := cntKs_erase r i y h
    omega
theorem cntKs_insert : ∀ (l : List It) (i : Nat) (y : It), i ≤ l.length → cntKs (l.insertIdx i y) = cntKs l + 1 + cntIt y
  | l, 0, y, _ => by rw [List.insertIdx_zero, cntKs]; omega
  | [], i + 1, y, h => by simp at h
  | t :: r, i + 1, y, h => by
    rw [List.insertIdx_succ_cons, cntKs, cntKs, cntKs_insert r i y (by simpa using h)]
    omega
theorem lev_mem : ∀ (l : List It) (k : It), k ∈ l → levIt k ≤ levKs l
  | t :: r, k, h => by
    rw [levKs]
    rcases List.mem_cons.1 h with rfl | h
    · exact Nat.le_max_left _ _
    · exact Nat.le_trans (lev_mem r k h) (Nat.le_max_right _ _)
theorem levIt_eq (t : It) : levIt t = levKs t.kids + 1 := by cases t; rw [levIt]; rfl
/-- An item that is right may lie elsewhere, where there is room below. -/
theorem rgt_lev {d : Nat} {t : It} (h : Rgt d t) : ∀ e, d ≠ 0 → e ≠ 0 → e + levIt t ≤ 7 → Rgt e t := by
  induction h with
  | mk d t h hd hk ih =>
    intro e h0 he hl
    obtain ⟨h1, h2, h3, h4⟩ := h
    rw [levIt_eq] at hl
    refine .mk e t ⟨by omega, h2, ?_, h4⟩ hd fun k hkm => ih k hkm (e + 1) (by omega) (by omega) ?_
    · rw [if_neg h0] at h3
      rw [if_neg he]
      exact h3
    · have := lev_mem t.kids k hkm
      omega
/-- A provision goes. -/
theorem rgt_erase {d : Nat} {x : It} (h : Rgt d x) (i : Nat) : Rgt d (x.setKids (x.kids.eraseIdx i)) :=
  rgt_kids h (h.is.2.1.sublist (List.eraseIdx_sublist _ _)) fun k hk => h.is.2.2 k ((List.eraseIdx_sublist _ _).subset hk)
/-- A provision has another label. -/
theorem rgt_relabel {d : Nat} {x y : It} (h : Rgt d x) {i : Nat} (hy : x.kids[i]? = some y) {s : ByteArray} (hs : isLab s = true) (hn : ∀ j k, x.kids[j]? = some k → j ≠ i → (k.label.toList == s.toList) = false) : Rgt d (x.setKid i (y.setLabel s)) := by
  obtain ⟨h1, h2, h3⟩ := h.is
  have hy3 := h3 y (List.mem_of_getElem? hy)
  have hy4 : Rgt (d + 1) (y.setLabel s) := by
    obtain ⟨⟨q1, q2, q3, q4⟩, q5, q6⟩ := hy3.is
    exact .mk (d + 1) _ ⟨q1, q2, by rw [if_neg (by omega)]; exact hs, q4⟩ q5 q6
  refine .mk d _ (loc_kids _ h1) ?_ fun k hk => ?_
  · show (x.kids.set i (y.setLabel s)).Pairwise Dif
    rw [List.pairwise_iff_getElem] at h2 ⊢
    intro a b ha hb hab
    rw [List.length_set] at ha hb
    rw [List.getElem_set, List.getElem_set]
    unfold Dif
    have sym : ∀ u v : ByteArray, (u.toList == v.toList) = (v.toList == u.toList) := fun u v => by rw [Bool.eq_iff_iff, beq_iff_eq, beq_iff_eq]; exact eq_comm
    split
    · rename_i hia
      rw [if_neg (by omega), sym]
      exact hn b _ (List.getElem?_eq_getElem hb) (by omega)
    · split
      · exact hn a _ (List.getElem?_eq_getElem ha) (by omega)
      · exact h2 a b ha hb hab
  · have hk : k ∈ x.kids.set i (y.setLabel s) := hk
    rcases List.mem_or_eq_of_mem_set hk with hk | rfl
    · exact h3 k hk
    · exact hy4
/-- One more provision. -/
theorem rgt_insert {d : Nat} {x y : It} (h : Rgt d x) (hy : Rgt (d + 1) y) {i : Nat} (hi : i ≤ x.kids.length) (hn : ∀ k, k ∈ x.kids → (k.label.toList == y.label.toList) = false) : Rgt d (x.setKids (x.kids.insertIdx i y)) := by
  obtain ⟨h1, h2, h3⟩ := h.is
  have sym : ∀ u v : ByteArray, (u.toList == v.toList) = (v.toList == u.toList) := fun u v => by rw [Bool.eq_iff_iff, beq_iff_eq, beq_iff_eq]; exact eq_comm
  refine rgt_kids h ?_ fun k hk => ?_
  · have hp : (y :: x.kids).Pairwise Dif := List.Pairwise.cons (fun k hk => by unfold Dif; rw [sym]; exact hn k hk) h2
    exact (List.Perm.pairwise_iff (fun {a b} hab => by unfold Dif at *; rw [sym]; exact hab) (List.perm_insertIdx y x.kids hi)).2 hp
  · rcases (List.mem_insertIdx hi).1 hk with rfl | hk
    · exact hy
    · exact h3 k hk
end Go.Proofs.YtpbolcjcmkmalaaGreatDoor
namespace Go.Proofs.YtpbolcjcmkmalaaGreatDoor
open Go.RowKit Go.Extern.Stop Go.Stop Go.Extern

theorem same_bytes {x s : ByteArray} : (x.toList == s.toList) = true ↔ x = s := by
  rw [beq_iff_eq, Lib.toList_data, Lib.toList_data, Array.toList_inj]
  exact ⟨fun h => ByteArray.ext h, fun h => by rw [h]⟩
theorem isL_iff {s : ByteArray} {t : It} : isL s t = true ↔ t.label = s := same_bytes
theorem isL_no {s : ByteArray} {t : It} : isL s t = false ↔ t.label ≠ s := by
  rw [← Bool.not_eq_true, isL_iff]
theorem nodup_inj {α : Type} {l : List α} (hn : l.Nodup) {i j : Nat} (hi : i < l.length) (hj : j < l.length) (e : l[i] = l[j]) : i = j := by
  rcases Nat.lt_trichotomy i j with h | h | h
  · exact absurd e (List.pairwise_iff_getElem.1 hn i j hi hj h)
  · exact h
  · exact absurd e.symm (List.pairwise_iff_getElem.1 hn j i hj hi h)
theorem map_insert {α β : Type} (f : α → β) : ∀ (l : List α) (i : Nat) (a : α), (l.insertIdx i a).map f = (l.map f).insertIdx i (f a)
  | l, 0, a => by simp
  | [], i + 1, a => by simp
  | b :: r, i + 1, a => by rw [List.insertIdx_succ_cons, List.map_cons, List.map_cons, List.insertIdx_succ_cons, map_insert f r i a]
/-- The first kid with a label. -/
def kidOf (l : List It) (s : ByteArray) : Option It := l.find? (isL s)
def labs (l : List It) : List ByteArray := l.map It.label
theorem kidOf_ix : ∀ (l : List It) (s : ByteArray), kidOf l s = (kidIx l s).bind (l[·]?)
  | [], s => rfl
  | a :: r, s => by
    have ih := kidOf_ix r s
    unfold kidOf kidIx at *
    rw [List.find?_cons, List.findIdx?_cons]
    cases h : isL s a
    · simp only [ih, Bool.false_eq_true, if_false]
      cases List.findIdx? (isL s) r <;> simp
    · simp
theorem findW_kid (t : It) (p : ByteArray) (r : List ByteArray) : findW t (p :: r) = (kidOf t.kids p).bind (findW · r) := by
  rw [findW, kidOf_ix]
  cases kidIx t.kids p with
  | none => rfl
  | some i =>
    show (match t.kids[i]? with | none => none | some x => findW x r) = (t.kids[i]?).bind _
    cases t.kids[i]? <;> rfl
theorem kidOf_some {l : List It} {s : ByteArray} {x : It} (h : kidOf l s = some x) : x ∈ l ∧ x.label = s :=
  ⟨List.mem_of_find?_eq_some h, isL_iff.1 (List.find?_some h)⟩
theorem kidOf_none {l : List It} {s : ByteArray} : kidOf l s = none ↔ s ∉ labs l := by
  unfold kidOf labs
  rw [List.find?_eq_none, List.mem_map]
  constructor
  · rintro h ⟨x, hx, e⟩
    exact h x hx (isL_iff.2 e)
  · intro h x hx e
    exact h ⟨x, hx, isL_iff.1 e⟩
theorem kidOf_of : ∀ {l : List It} {x : It}, (labs l).Nodup → x ∈ l → kidOf l x.label = some x
  | a :: r, x, hn, hx => by
    unfold kidOf
    rw [List.find?_cons]
    have hn := List.nodup_cons.1 (show (a.label :: labs r).Nodup from hn)
    cases h : isL x.label a
    · rcases List.mem_cons.1 hx with rfl | hx
      · exact absurd rfl (isL_no.1 h)
      · exact kidOf_of hn.2 hx
    · rcases List.mem_cons.1 hx with rfl | hx
      · rfl
      · have h1 := isL_iff.1 h
        exact absurd (h1 ▸ List.mem_map.2 ⟨x, hx, rfl⟩ : a.label ∈ labs r) hn.1
theorem kidOf_iff {l : List It} (hn : (labs l).Nodup) {s : ByteArray} {x : It} : kidOf l s = some x ↔ x ∈ l ∧ x.label = s :=
  ⟨kidOf_some, fun ⟨h, e⟩ => e ▸ kidOf_of hn h⟩
theorem opt_ext {α : Type} {a b : Option α} (h : ∀ x, a = some x ↔ b = some x) : a = b := by
  cases a with
  | none =>
    cases b with
    | none => rfl
    | some y => exact ((h y).2 rfl)
  | some x => exact ((h x).1 rfl).symm
/-- The labels of siblings differ, everywhere. -/
inductive Ds : It → Prop
  | mk (t : It) (h : (labs t.kids).Nodup) (hk : ∀ k, k ∈ t.kids → Ds k) : Ds t
theorem Ds.is {t : It} (h : Ds t) : (labs t.kids).Nodup ∧ ∀ k, k ∈ t.kids → Ds k := by
  cases h with
  | mk _ h hk => exact ⟨h, hk⟩
theorem Ds.find : ∀ {p : List ByteArray} {t x : It}, Ds t → findW t p = some x → Ds x
  | [], t, x, h, e => by rw [findW] at e; injection e with e; exact e ▸ h
  | q :: r, t, x, h, e => by
    rw [findW_kid] at e
    obtain ⟨y, hy, e⟩ := Option.bind_eq_some_iff.1 e
    exact (h.is.2 y (kidOf_some hy).1).find e
theorem nodup_of {l : List It} (h : l.Pairwise Dif) : (labs l).Nodup := by
  unfold labs List.Nodup
  rw [List.pairwise_map]
  exact h.imp fun {a b} hd => (isL_no (s := b.label) (t := a)).1 hd
theorem of_nodup {l : List It} (h : (labs l).Nodup) : l.Pairwise Dif := by
  unfold labs List.Nodup at h
  rw [List.pairwise_map] at h
  exact h.imp fun {a b} hd => (isL_no (s := b.label) (t := a)).2 hd
theorem Rgt.ds {d : Nat} {t : It} (h : Rgt d t) : Ds t := by
  induction h with
  | mk d t h hd hk ih => exact .mk t (nodup_of hd) ih
/-! What stands at a path. -/
inductive Pt where
  | h
  | l
  | k
  deriving DecidableEq
def vw (x : It) : Pt → List ByteArray
  | .h => [x.head]
  | .l => x.lines
  | .k => labs x.kids
def X (t : It) (q : List ByteArray) (c : Pt) : Option (List ByteArray) := (findW t q).map (vw · c)
theorem X_nil (t : It) (c : Pt) : X t [] c = some (vw t c) := by unfold X; rw [findW]; rfl
theorem X_cons (t : It) (p : ByteArray) (r : List ByteArray) (c : Pt) : X t (p :: r) c = (kidOf t.kids p).bind (X · r c) := by
  unfold X
  rw [findW_kid]
  cases kidOf t.kids p <;> rfl
theorem X_some {t : It} {q : List ByteArray} {x : It} (h : findW t q = some x) (c : Pt) : X t q c = some (vw x c) := by unfold X; rw [h]; rfl
theorem X_isSome {t : It} {q : List ByteArray} {c : Pt} : (X t q c).isSome = (findW t q).isSome := by unfold X; cases findW t q <;> rfl
/-- Which law it is hangs on what stands at its paths. -/
theorem ext_X : ∀ (N : Nat) (t u : It), sizeIt t ≤ N → Ds t → Ds u → t.label = u.label → (∀ q c, X t q c = X u q c) → t = u
  | 0, t, u, hs, _, _, _, _ => by have := sizeIt_eq t; omega
  | N + 1, t, u, hs, ht, hu, hl, h => by
    have h0 := h [] .h
    have h1 := h [] .l
    have h2 := h [] .k
    rw [X_nil, X_nil] at h0 h1 h2
    injection h0 with h0
    injection h1 with h1
    injection h2 with h2
    have h0 : [t.head] = [u.head] := h0
    injection h0 with h0 _
    have h1 : t.lines = u.lines := h1
    have h2 : labs t.kids = labs u.kids := h2
    have hlen : t.kids.length = u.kids.length := by
      have := congrArg List.length h2
      simpa [labs] using this
    have hk : t.kids = u.kids := by
      refine List.ext_getElem hlen fun i hi hi' => ?_
      have hlab : t.kids[i].label = u.kids[i].label := by
        have := congrArg (fun l => l[i]?) h2
        simpa [labs, hi, hi'] using this
      have hm := List.getElem_mem hi
      have hm' := List.getElem_mem hi'
      refine ext_X N _ _ (by have := kid_size hm; omega) (ht.is.2 _ hm) (hu.is.2 _ hm') hlab fun q c => ?_
      have h3 := h (t.kids[i].label :: q) c
      rw [X_cons, X_cons, kidOf_of ht.is.1 hm, hlab, kidOf_of hu.is.1 hm'] at h3
      exact h3
    rw [It.eta t, It.eta u, hl, h0, h1, hk]
/-! A kid less, one more, another one. -/
theorem kidOf_erase {l : List It} (hn : (labs l).Nodup) {i : Nat} {k : It} (hk : l[i]? = some k) (s : ByteArray) : kidOf (l.eraseIdx i) s = if s = k.label then none else kidOf l s := by
  have hsub : (labs (l.eraseIdx i)).Nodup := hn.sublist ((List.eraseIdx_sublist _ _).map _)
  have hmem : ∀ x, x ∈ l.eraseIdx i ↔ x ∈ l ∧ x.label ≠ k.label := fun x => by
    rw [List.mem_eraseIdx_iff_getElem?]
    constructor
    · rintro ⟨j, hj, e⟩
      obtain ⟨hjl, rfl⟩ := List.getElem?_eq_some_iff.1 e
      obtain ⟨hil, rfl⟩ := List.getElem?_eq_some_iff.1 hk
      refine ⟨List.getElem_mem _, fun e2 => hj ?_⟩
      have h1 : (labs l)[j]'(by simpa [labs] using hjl) = (labs l)[i]'(by simpa [labs] using hil) := by simpa [labs] using e2
      exact nodup_inj hn _ _ h1
    · rintro ⟨hx, hne⟩
      obtain ⟨j, hj, rfl⟩ := List.getElem_of_mem hx
      refine ⟨j, fun e2 => hne ?_, List.getElem?_eq_getElem hj⟩
      subst e2
      obtain ⟨_, rfl⟩ := List.getElem?_eq_some_iff.1 hk
      rfl
  refine opt_ext fun x => ?_
  rw [kidOf_iff hsub, hmem]
  split
  · rename_i hs
    constructor
    · rintro ⟨⟨_, h1⟩, h2⟩
      exact absurd (h2.trans hs) h1
    · intro h; cases h
  · rename_i hs
    rw [kidOf_iff hn]
    constructor
    · rintro ⟨⟨h1, _⟩, h2⟩
      exact ⟨h1, h2⟩
    · rintro ⟨h1, h2⟩
      exact ⟨⟨h1, fun e => hs (h2.symm.trans e)⟩, h2⟩
theorem labs_insert {l : List It} {k : It} {i : Nat} : labs (l.insertIdx i k) = (labs l).insertIdx i k.label := by
  exact map_insert It.label l i k
theorem nodup_insert {l : List It} (hn : (labs l).Nodup) {i : Nat} {k : It} (hi : i ≤ l.length) (hk : k.label ∉ labs l) : (labs (l.insertIdx i k)).Nodup := by
  rw [labs_insert]
  exact (List.perm_insertIdx k.label (labs l) (by simpa [labs] using hi)).nodup_iff.2 (List.nodup_cons.2 ⟨hk, hn⟩)
theorem kidOf_insert {l : List It} (hn : (labs l).Nodup) {i : Nat} {k : It} (hi : i ≤ l.length) (hk : k.label ∉ labs l) (s : ByteArray) : kidOf (l.insertIdx i k) s = if s = k.label then some k else kidOf l s := by
  have hnew := nodup_insert hn hi hk
  refine opt_ext fun x => ?_
  rw [kidOf_iff hnew, List.mem_insertIdx hi]
  split
  · rename_i hs
    constructor
    · rintro ⟨rfl | h1, h2⟩
      · rfl
      · exact absurd (List.mem_map.2 ⟨x, h1, h2.trans hs⟩) hk
    · intro h; injection h with h; subst h; exact ⟨.inl rfl, hs.symm⟩
  · rename_i hs
    rw [kidOf_iff hn]
    constructor
    · rintro ⟨rfl | h1, h2⟩
      · exact absurd h2.symm hs
      · exact ⟨h1, h2⟩
    · rintro ⟨h1, h2⟩
      exact ⟨.inr h1, h2⟩
theorem mem_set_lab {l : List It} (hn : (labs l).Nodup) {i : Nat} {k k' x : It} (hk : l[i]? = some k) : x ∈ l.set i k' ↔ x = k' ∨ (x ∈ l ∧ x.label ≠ k.label) := by
  obtain ⟨hil, rfl⟩ := List.getElem?_eq_some_iff.1 hk
  rw [List.mem_iff_getElem?]
  constructor
  · rintro ⟨j, e⟩
    by_cases hij : i = j
    · subst hij
      rw [List.getElem?_set_self hil] at e
      injection e with e
      exact .inl e.symm
    · rw [List.getElem?_set_ne hij] at e
      obtain ⟨hjl, rfl⟩ := List.getElem?_eq_some_iff.1 e
      refine .inr ⟨List.getElem_mem _, fun e2 => hij ?_⟩
      have h1 : (labs l)[j]'(by simpa [labs] using hjl) = (labs l)[i]'(by simpa [labs] using hil) := by simpa [labs] using e2
      exact (nodup_inj hn _ _ h1).symm
  · rintro (rfl | ⟨hx, hne⟩)
    · exact ⟨i, List.getElem?_set_self hil⟩
    · obtain ⟨j, hj, rfl⟩ := List.getElem_of_mem hx
      refine ⟨j, ?_⟩
      rw [List.getElem?_set_ne (fun e => hne (by subst e; rfl))]
      exact List.getElem?_eq_getElem hj
theorem labs_set {l : List It} {i : Nat} {k : It} : labs (l.set i k) = (labs l).set i k.label := by
  unfold labs; rw [List.map_set]
theorem kidOf_set {l : List It} (hn : (labs l).Nodup) {i : Nat} {k k' : It} (hk : l[i]? = some k) (hn' : (labs (l.set i k')).Nodup) (s : ByteArray) : kidOf (l.set i k') s = if s = k'.label then some k' else if s = k.label then none else kidOf l s := by
  refine opt_ext fun x => ?_
  rw [kidOf_iff hn', mem_set_lab hn hk]
  split
  · rename_i hs
    constructor
    · rintro ⟨rfl | ⟨h1, h3⟩, h2⟩
      · rfl
      · have h4 : kidOf (l.set i k') s = some k' := (kidOf_iff hn').2 ⟨(mem_set_lab hn hk).2 (.inl rfl), hs.symm⟩
        have h5 : kidOf (l.set i k') s = some x := (kidOf_iff hn').2 ⟨(mem_set_lab hn hk).2 (.inr ⟨h1, h3⟩), h2⟩
        rw [h4] at h5
        exact h5
    · intro h; injection h with h; subst h; exact ⟨.inl rfl, hs.symm⟩
  · rename_i hs
    split
    · rename_i hs2
      constructor
      · rintro ⟨rfl | ⟨h1, h3⟩, h2⟩
        · exact absurd h2.symm hs
        · exact absurd (h2.trans hs2) h3
      · intro h; cases h
    · rename_i hs2
      rw [kidOf_iff hn]
      constructor
      · rintro ⟨rfl | ⟨h1, h3⟩, h2⟩
        · exact absurd h2.symm hs
        · exact ⟨h1, h2⟩
      · rintro ⟨h1, h2⟩
        exact ⟨.inr ⟨h1, fun e => hs2 (h2.symm.trans e)⟩, h2⟩
/-! What stands at a path is another thing. -/
theorem kidIx_labs {l l' : List It} (h : labs l = labs l') (s : ByteArray) : kidIx l s = kidIx l' s := by
  have hh : ∀ l : List It, kidIx l s = (labs l).findIdx? (fun a => a.toList == s.toList) := fun l => by
    unfold kidIx labs
    rw [List.findIdx?_map]
    rfl
  rw [hh, hh, h]
theorem labs_set_same {l : List It} {i : Nat} {k k' : It} (hk : l[i]? = some k) (h : k'.label = k.label) : labs (l.set i k') = labs l := by
  rw [labs_set, h]
  refine List.ext_getElem? fun j => ?_
  rw [List.getElem?_set]
  split
  · rename_i e
    subst e
    split
    · unfold labs; rw [List.getElem?_map, hk]; rfl
    · rename_i hh
      obtain ⟨hl, _⟩ := List.getElem?_eq_some_iff.1 hk
      exact absurd (by simpa [labs] using hl) hh
  · rfl
theorem set_vw : ∀ (p : List ByteArray) (t x y : It), findW t p = some x → y.label = x.label → p ≠ [] → ∀ c, vw (setW (fun _ => y) p t) c = vw t c
  | [], _, _, _, _, _, h, _ => absurd rfl h
  | q :: r, t, x, y, e, h, _, c => by
    obtain ⟨i, z, hi, hz, e⟩ := find_step e
    rw [setW_cons hi hz]
    cases c with
    | h => rfl
    | l => rfl
    | k => exact labs_set_same hz (set_label r z x y e h)
theorem find_in : ∀ (p q : List ByteArray) (t x y : It), findW t p = some x → y.label = x.label → ∀ c, X (setW (fun _ => y) p t) (p ++ q) c = X y q c
  | [], q, t, x, y, _, _, c => by rw [setW]; rfl
  | a :: r, q, t, x, y, e, h, c => by
    obtain ⟨i, z, hi, hz, e⟩ := find_step e
    rw [setW_cons hi hz, List.cons_append, X_cons, kidOf_ix]
    have hlabs : labs (t.setKid i (setW (fun _ => y) r z)).kids = labs t.kids := labs_set_same hz (set_label r z x y e h)
    rw [kidIx_labs hlabs, hi]
    have h1 : (t.setKid i (setW (fun _ => y) r z)).kids[i]? = some (setW (fun _ => y) r z) := List.getElem?_set_self (List.getElem?_eq_some_iff.1 hz).1
    show ((t.setKid i (setW (fun _ => y) r z)).kids[i]?).bind (X · (r ++ q) c) = _
    rw [h1]
    exact find_in r q z x y e h c
theorem find_out : ∀ (p q : List ByteArray) (t x y : It), findW t p = some x → y.label = x.label → ¬ p <+: q → ∀ c, X (setW (fun _ => y) p t) q c = X t q c
  | [], q, t, x, y, _, _, hn, c => absurd (List.nil_prefix) hn
  | a :: r, [], t, x, y, e, h, _, c => by
    rw [X_nil, X_nil, set_vw _ t x y e h (by simp)]
  | a :: r, b :: q, t, x, y, e, h, hn, c => by
    obtain ⟨i, z, hi, hz, e⟩ := find_step e
    rw [setW_cons hi hz, X_cons, X_cons, kidOf_ix, kidOf_ix]
    have hlabs : labs (t.setKid i (setW (fun _ => y) r z)).kids = labs t.kids := labs_set_same hz (set_label r z x y e h)
    rw [kidIx_labs hlabs]
    have hil := (List.getElem?_eq_some_iff.1 hz).1
    by_cases hab : a = b
    · subst hab
      rw [hi]
      have h1 : (t.setKid i (setW (fun _ => y) r z)).kids[i]? = some (setW (fun _ => y) r z) := List.getElem?_set_self hil
      show ((t.setKid i (setW (fun _ => y) r z)).kids[i]?).bind (X · q c) = (t.kids[i]?).bind (X · q c)
      rw [h1, hz]
      exact find_out r q z x y e h (fun h9 => hn (List.cons_prefix_cons.2 ⟨rfl, h9⟩)) c
    · cases hb : kidIx t.kids b with
      | none => rfl
      | some j =>
        have hij : i ≠ j := fun e2 => by
          subst e2
          obtain ⟨u, hu, hu1, _⟩ := kidIx_some hi
          obtain ⟨u', hu', hu1', _⟩ := kidIx_some hb
          rw [hu] at hu'
          injection hu' with hu'
          subst hu'
          exact hab ((isL_iff.1 hu1).symm.trans (isL_iff.1 hu1'))
        show ((t.kids.set i _)[j]?).bind _ = (t.kids[j]?).bind _
        rw [List.getElem?_set_ne hij]
end Go.Proofs.YtpbolcjcmkmalaaGreatDoor
namespace Go.Proofs.YtpbolcjcmkmalaaGreatDoor
open Go.RowKit Go.Extern.Stop Go.Stop Go.Extern

abbrev St := List ByteArray → Pt → Option (List ByteArray)
abbrev Tch := List ByteArray → Pt → Prop
/-- Only what is touched becomes another, by what is touched alone. -/
structure Loc (T : Tch) (D : St → St) : Prop where
  out : ∀ f q c, ¬ T q c → D f q c = f q c
  on : ∀ f g : St, (∀ q c, T q c → f q c = g q c) → ∀ q c, T q c → D f q c = D g q c
theorem Loc.mono {T T' : Tch} {D : St → St} (h : Loc T D) (hs : ∀ q c, T q c → T' q c) : Loc T' D := by
  refine ⟨fun f q c hn => h.out f q c fun hh => hn (hs q c hh), fun f g hfg q c hq => ?_⟩
  by_cases hT : T q c
  · exact h.on f g (fun q c hh => hfg q c (hs q c hh)) q c hT
  · rw [h.out f q c hT, h.out g q c hT]
    exact hfg q c hq
theorem Loc.comp {T : Tch} {D E : St → St} (h : Loc T D) (k : Loc T E) : Loc T (fun f => D (E f)) :=
  ⟨fun f q c hn => by rw [h.out _ q c hn, k.out f q c hn], fun f g hfg q c hq => h.on _ _ (fun q c hh => k.on f g hfg q c hh) q c hq⟩
theorem Loc.id (T : Tch) : Loc T (fun f => f) := ⟨fun _ _ _ _ => rfl, fun _ _ h q c hq => h q c hq⟩
theorem Loc.commute {T T' : Tch} {D E : St → St} (h : Loc T D) (k : Loc T' E) (hd : ∀ q c, T q c → T' q c → False) (f : St) : D (E f) = E (D f) := by
  funext q c
  by_cases hT : T q c
  · rw [k.out (D f) q c fun hh => hd q c hT hh]
    exact h.on _ _ (fun q c hh => k.out f q c fun hk => hd q c hh hk) q c hT
  · rw [h.out (E f) q c hT]
    by_cases hk : T' q c
    · exact k.on _ _ (fun q c hh => (h.out f q c fun hk => hd q c hk hh).symm) q c hk
    · rw [k.out f q c hk, k.out _ q c hk, h.out f q c hT]
open Classical in
noncomputable def dPart (p : List ByteArray) (e : Pt) (g : List ByteArray → List ByteArray) (f : St) : St := fun q c => if q = p ∧ c = e then (f q c).map g else f q c
open Classical in
noncomputable def dNone (p : List ByteArray) (f : St) : St := fun q c => if p <+: q then none else f q c
open Classical in
noncomputable def dMove (p n : List ByteArray) (f : St) : St := fun q c => if n <+: q then f (p ++ q.drop n.length) c else if p <+: q then none else f q c
open Classical in
noncomputable def dPut (n : List ByteArray) (k : It) (f : St) : St := fun q c => if n <+: q then X k (q.drop n.length) c else f q c
theorem loc_part (p : List ByteArray) (e : Pt) (g : List ByteArray → List ByteArray) : Loc (fun q c => q = p ∧ c = e) (dPart p e g) := by
  refine ⟨fun f q c hn => ?_, fun f g' h q c hq => ?_⟩
  · unfold dPart; rw [if_neg hn]
  · unfold dPart; rw [if_pos hq, if_pos hq, h q c hq]
theorem loc_none (p : List ByteArray) : Loc (fun q _ => p <+: q) (dNone p) := by
  refine ⟨fun f q c hn => ?_, fun f g' h q c hq => ?_⟩
  · unfold dNone; rw [if_neg hn]
  · unfold dNone; rw [if_pos hq, if_pos hq]
theorem loc_put (n : List ByteArray) (k : It) : Loc (fun q _ => n <+: q) (dPut n k) := by
  refine ⟨fun f q c hn => ?_, fun f g' h q c hq => ?_⟩
  · unfold dPut; rw [if_neg hn]
  · unfold dPut; rw [if_pos hq, if_pos hq]
theorem loc_move (p n : List ByteArray) : Loc (fun q _ => p <+: q ∨ n <+: q) (dMove p n) := by
  refine ⟨fun f q c hn => ?_, fun f g' h q c hq => ?_⟩
  · unfold dMove; rw [if_neg (fun hh => hn (.inr hh)), if_neg (fun hh => hn (.inl hh))]
  · unfold dMove
    split
    · exact h _ c (.inl ⟨_, rfl⟩)
    · split
      · rfl
      · exact h q c hq
def idxL (ks : List ByteArray) (s : ByteArray) : Option Nat := ks.findIdx? (fun a => a.toList == s.toList)
def behB (ks : List ByteArray) (s : ByteArray) : Option Nat := if s.size = 0 then some 0 else (idxL ks s).map (· + 1)
theorem kidIx_idx (l : List It) (s : ByteArray) : kidIx l s = idxL (labs l) s := by
  unfold kidIx idxL labs
  rw [List.findIdx?_map]
  rfl
theorem behIx_beh (l : List It) (s : ByteArray) : behIx l s = behB (labs l) s := by
  unfold behIx behB
  rw [kidIx_idx]
theorem idxL_some {ks : List ByteArray} {s : ByteArray} {i : Nat} (h : idxL ks s = some i) : ks[i]? = some s := by
  unfold idxL at h
  rw [List.findIdx?_eq_some_iff_getElem] at h
  obtain ⟨hi, h1, _⟩ := h
  rw [List.getElem?_eq_getElem hi, same_bytes.1 h1]
theorem idxL_none {ks : List ByteArray} {s : ByteArray} : idxL ks s = none ↔ s ∉ ks := by
  unfold idxL
  rw [List.findIdx?_eq_none_iff]
  constructor
  · intro h hs
    have := h s hs
    rw [same_bytes.2 rfl] at this
    cases this
  · intro h x hx
    cases hq : (x.toList == s.toList)
    · rfl
    · exact absurd (same_bytes.1 hq ▸ hx) h
theorem idxL_mem {ks : List ByteArray} {s : ByteArray} : (∃ i, idxL ks s = some i) ↔ s ∈ ks := by
  cases h : idxL ks s with
  | none => exact ⟨(fun ⟨i, hi⟩ => by cases hi), (fun hs => absurd hs (idxL_none.1 h))⟩
  | some i => exact ⟨fun _ => List.mem_of_getElem? (idxL_some h), fun _ => ⟨i, rfl⟩⟩
theorem behB_le {ks : List ByteArray} {s : ByteArray} {i : Nat} (h : behB ks s = some i) : i ≤ ks.length := by
  unfold behB at h
  split at h
  · injection h with h; omega
  · obtain ⟨j, hj, e⟩ := Option.map_eq_some_iff.1 h
    have := (List.getElem?_eq_some_iff.1 (idxL_some hj)).1
    omega
theorem X_app {t x : It} {p : List ByteArray} (h : findW t p = some x) (q : List ByteArray) (c : Pt) : X t (p ++ q) c = X x q c := by
  have : ∀ (p : List ByteArray) (t : It), findW t p = some x → findW t (p ++ q) = findW x q := by
    intro p
    induction p with
    | nil => intro t h; rw [findW] at h; injection h with h; rw [h]; rfl
    | cons a r ih =>
      intro t h
      rw [findW_kid] at h
      obtain ⟨y, hy, h⟩ := Option.bind_eq_some_iff.1 h
      rw [List.cons_append, findW_kid, hy]
      exact ih y h
  unfold X
  rw [this p t h]
/-- What comes of a change at a place. -/
theorem set_is {t x y : It} {p : List ByteArray} (h : findW t p = some x) (hl : y.label = x.label) {E : St} (hin : ∀ q c, X y q c = E (p ++ q) c) (hout : ∀ q c, ¬ p <+: q → X t q c = E q c) : X (setW (fun _ => y) p t) = E := by
  funext q c
  by_cases hp : p <+: q
  · obtain ⟨r, rfl⟩ := hp
    rw [find_in p r t x y h hl c]
    exact hin r c
  · rw [find_out p q t x y h hl hp c]
    exact hout q c hp
/-! The kinds. -/
theorem map_erase {α β : Type} (f : α → β) : ∀ (l : List α) (i : Nat), (l.eraseIdx i).map f = (l.map f).eraseIdx i
  | [], i => by simp
  | a :: r, 0 => by simp
  | a :: r, i + 1 => by rw [List.eraseIdx_cons_succ, List.map_cons, List.map_cons, List.eraseIdx_cons_succ, map_erase f r i]
theorem setLabel_label (k : It) (s : ByteArray) : (k.setLabel s).label = s := rfl
theorem not_pre_self {p : List ByteArray} {l : ByteArray} : ¬ (p ++ [l]) <+: p := fun h => by
  have := h.length_le
  simp at this
  omega
theorem pre_kid {p : List ByteArray} {l m : ByteArray} {r : List ByteArray} : (p ++ [l]) <+: (p ++ m :: r) ↔ l = m := by
  rw [List.prefix_append_right_inj, List.cons_prefix_cons]
  exact ⟨fun h => h.1, fun h => ⟨h, List.nil_prefix⟩⟩
theorem pre_out {p q : List ByteArray} {l : ByteArray} (h : ¬ p <+: q) : ¬ (p ++ [l]) <+: q := fun hh => h ((List.prefix_append p [l]).trans hh)
theorem ne_out {p q : List ByteArray} (h : ¬ p <+: q) : q ≠ p := fun e => h (e ▸ List.prefix_refl _)
theorem X_kid (y : It) (m : ByteArray) (r : List ByteArray) (c : Pt) : X y (m :: r) c = (kidOf y.kids m).bind (X · r c) := X_cons y m r c
theorem drop_kid {p : List ByteArray} {l : ByteArray} {r : List ByteArray} : (p ++ l :: r).drop (p ++ [l]).length = r := by
  rw [show p ++ l :: r = (p ++ [l]) ++ r by simp, List.drop_left]
/-- A part of a provision is another. -/
theorem part_is {t x y : It} {p : List ByteArray} (h : findW t p = some x) (hl : y.label = x.label) (hk : y.kids = x.kids) {e : Pt} {g : List ByteArray → List ByteArray} (he : vw y e = g (vw x e)) (ho : ∀ c, c ≠ e → vw y c = vw x c) : X (setW (fun _ => y) p t) = dPart p e g (X t) := by
  refine set_is h hl (fun q c => ?_) (fun q c hq => ?_)
  · unfold dPart
    cases q with
    | nil =>
      rw [X_nil, X_app h, X_nil]
      by_cases hc : c = e
      · subst hc
        rw [if_pos ⟨by simp, rfl⟩, he]
        rfl
      · rw [if_neg (fun hh => hc hh.2), ho c hc]
    | cons m r =>
      rw [if_neg (fun hh => by have := congrArg List.length hh.1; simp at this), X_app h, X_kid, X_kid, hk]
  · unfold dPart
    rw [if_neg (fun hh => ne_out hq hh.1)]
/-- A provision goes. -/
theorem gone_is {t x k : It} {p : List ByteArray} {i : Nat} (hd : Ds t) (h : findW t p = some x) (hi : x.kids[i]? = some k) (hix : idxL (labs x.kids) k.label = some i) : X (setW (fun _ => x.setKids (x.kids.eraseIdx i)) p t) = dNone (p ++ [k.label]) (dPart p .k (fun ks => ks.eraseIdx ((idxL ks k.label).getD 0)) (X t)) := by
  have hn := (hd.find h).is.1
  refine set_is (y := x.setKids (x.kids.eraseIdx i)) h rfl (fun q c => ?_) (fun q c hq => ?_)
  · unfold dNone dPart
    cases q with
    | nil =>
      rw [List.append_nil, if_neg not_pre_self, X_nil, X_some h c]
      cases c with
      | h => rw [if_neg (fun hh => by cases hh.2)]; rfl
      | l => rw [if_neg (fun hh => by cases hh.2)]; rfl
      | k =>
        rw [if_pos ⟨rfl, rfl⟩]
        show some (labs (x.kids.eraseIdx i)) = some ((labs x.kids).eraseIdx ((idxL (labs x.kids) k.label).getD 0))
        rw [hix]
        exact congrArg some (map_erase It.label x.kids i)
    | cons m r =>
      rw [X_kid, X_app h, X_kid]
      show (kidOf (x.kids.eraseIdx i) m).bind _ = _
      rw [kidOf_erase hn hi]
      by_cases hm : m = k.label
      · rw [if_pos hm, if_pos (pre_kid.2 hm.symm)]
        rfl
      · rw [if_neg hm, if_neg (fun hh => hm (pre_kid.1 hh).symm), if_neg (fun hh => by have := congrArg List.length hh.1; simp at this)]
  · unfold dNone dPart
    rw [if_neg (pre_out hq), if_neg (fun hh => ne_out hq hh.1)]
/-- One provision more. -/
theorem more_is {t x k : It} {p : List ByteArray} {i : Nat} {s : ByteArray} (hd : Ds t) (h : findW t p = some x) (hi : behB (labs x.kids) s = some i) (hk : k.label ∉ labs x.kids) : X (setW (fun _ => x.setKids (x.kids.insertIdx i k)) p t) = dPut (p ++ [k.label]) k (dPart p .k (fun ks => ks.insertIdx ((behB ks s).getD 0) k.label) (X t)) := by
  have hn := (hd.find h).is.1
  have hle : i ≤ x.kids.length := by have := behB_le hi; simpa [labs] using this
  refine set_is (y := x.setKids (x.kids.insertIdx i k)) h rfl (fun q c => ?_) (fun q c hq => ?_)
  · unfold dPut dPart
    cases q with
    | nil =>
      rw [List.append_nil, if_neg not_pre_self, X_nil, X_some h c]
      cases c with
      | h => rw [if_neg (fun hh => by cases hh.2)]; rfl
      | l => rw [if_neg (fun hh => by cases hh.2)]; rfl
      | k =>
        rw [if_pos ⟨rfl, rfl⟩]
        show some (labs (x.kids.insertIdx i k)) = some ((labs x.kids).insertIdx ((behB (labs x.kids) s).getD 0) k.label)
        rw [hi, labs_insert]
        rfl
    | cons m r =>
      rw [X_kid, X_app h, X_kid]
      show (kidOf (x.kids.insertIdx i k) m).bind _ = _
      rw [kidOf_insert hn hle hk]
      by_cases hm : m = k.label
      · subst hm
        rw [if_pos rfl, if_pos (pre_kid.2 rfl), drop_kid]
        rfl
      · rw [if_neg hm, if_neg (fun hh => hm (pre_kid.1 hh).symm), if_neg (fun hh => by have := congrArg List.length hh.1; simp at this)]
  · unfold dPut dPart
    rw [if_neg (pre_out hq), if_neg (fun hh => ne_out hq hh.1)]
theorem X_label (k : It) (s : ByteArray) (q : List ByteArray) (c : Pt) : X (k.setLabel s) q c = X k q c := by
  cases q with
  | nil => rw [X_nil, X_nil]; cases c <;> rfl
  | cons m r => rw [X_kid, X_kid]; rfl
/-- Another label. -/
theorem label_is {t x k : It} {p : List ByteArray} {i : Nat} {s : ByteArray} (hd : Ds t) (h : findW t p = some x) (hi : x.kids[i]? = some k) (hix : idxL (labs x.kids) k.label = some i) (hn' : (labs (x.kids.set i (k.setLabel s))).Nodup) : X (setW (fun _ => x.setKid i (k.setLabel s)) p t) = dMove (p ++ [k.label]) (p ++ [s]) (dPart p .k (fun ks => ks.set ((idxL ks k.label).getD 0) s) (X t)) := by
  have hn := (hd.find h).is.1
  refine set_is (y := x.setKid i (k.setLabel s)) h rfl (fun q c => ?_) (fun q c hq => ?_)
  · unfold dMove dPart
    cases q with
    | nil =>
      rw [List.append_nil, if_neg not_pre_self, if_neg not_pre_self, X_nil, X_some h c]
      cases c with
      | h => rw [if_neg (fun hh => by cases hh.2)]; rfl
      | l => rw [if_neg (fun hh => by cases hh.2)]; rfl
      | k =>
        rw [if_pos ⟨rfl, rfl⟩]
        show some (labs (x.kids.set i (k.setLabel s))) = some ((labs x.kids).set ((idxL (labs x.kids) k.label).getD 0) s)
        rw [hix, labs_set]
        rfl
    | cons m r =>
      rw [X_kid]
      show (kidOf (x.kids.set i (k.setLabel s)) m).bind _ = _
      rw [kidOf_set hn hi hn', setLabel_label]
      by_cases hm : m = s
      · subst hm
        have h1 : k ∈ x.kids := List.mem_of_getElem? hi
        rw [if_pos rfl, if_pos (pre_kid.2 rfl), drop_kid, if_neg (fun hh => by have := congrArg List.length hh.1; simp at this), List.append_assoc, List.singleton_append, X_app h, X_kid, kidOf_of hn h1]
        exact X_label k m r c
      · rw [if_neg hm, if_neg (fun hh => hm (pre_kid.1 hh).symm)]
        by_cases hm2 : m = k.label
        · rw [if_pos hm2, if_pos (pre_kid.2 hm2.symm)]
          rfl
        · rw [if_neg hm2, if_neg (fun hh => hm2 (pre_kid.1 hh).symm), if_neg (fun hh => by have := congrArg List.length hh.1; simp at this), X_app h, X_kid]
  · unfold dMove dPart
    rw [if_neg (pre_out hq), if_neg (pre_out hq), if_neg (fun hh => ne_out hq hh.1)]
end Go.Proofs.YtpbolcjcmkmalaaGreatDoor
namespace Go.Proofs.YtpbolcjcmkmalaaGreatDoor
open Go.RowKit Go.Extern.Stop Go.Stop Go.Extern

/-- An item that is right by itself, but for its label and how deep it lies. -/
inductive Rg : It → Prop
  | mk (t : It) (h : t.lines.length ≤ 40 ∧ Fine t.head ∧ ∀ s, s ∈ t.lines → Fine s) (hn : (labs t.kids).Nodup) (hl : ∀ k, k ∈ t.kids → isLab k.label = true) (hk : ∀ k, k ∈ t.kids → Rg k) : Rg t
theorem Rg.is {t : It} (h : Rg t) : (t.lines.length ≤ 40 ∧ Fine t.head ∧ ∀ s, s ∈ t.lines → Fine s) ∧ (labs t.kids).Nodup ∧ (∀ k, k ∈ t.kids → isLab k.label = true) ∧ ∀ k, k ∈ t.kids → Rg k := by
  cases h with
  | mk _ h hn hl hk => exact ⟨h, hn, hl, hk⟩
theorem Rg.ds {t : It} (h : Rg t) : Ds t := by
  induction h with
  | mk t h hn hl hk ih => exact .mk t hn ih
theorem Rgt.rg {d : Nat} {t : It} (h : Rgt d t) : Rg t := by
  induction h with
  | mk d t h hd hk ih =>
    refine .mk t (texts_iff.1 ⟨h.2.1, h.2.2.2⟩) (nodup_of hd) (fun k hkm => ?_) ih
    have := (hk k hkm).is.1.2.2.1
    rw [if_neg (by omega)] at this
    exact this
theorem levKs_le {l : List It} {n : Nat} (h : ∀ k, k ∈ l → levIt k ≤ n) : levKs l ≤ n := by
  induction l with
  | nil => rw [levKs]; omega
  | cons a r ih =>
    rw [levKs]
    exact Nat.max_le.2 ⟨h a (by simp), ih fun k hk => h k (by simp [hk])⟩
theorem Rgt.deep {d : Nat} {t : It} (h : Rgt d t) : d + levIt t ≤ 7 := by
  induction h with
  | mk d t h hd hk ih =>
    rw [levIt_eq]
    have h1 : levKs t.kids ≤ 6 - d := levKs_le fun k hkm => by have := ih k hkm; omega
    have := h.1
    omega
theorem Rg.rgt {t : It} (h : Rg t) : ∀ d, (if d = 0 then decide (t.label.size = 0) else isLab t.label) = true → d + levIt t ≤ 7 → Rgt d t := by
  induction h with
  | mk t h hn hl hk ih =>
    intro d hd hdeep
    have h1 := texts_iff.2 h
    rw [levIt_eq] at hdeep
    refine .mk d t ⟨by omega, h1.1, hd, h1.2⟩ (of_nodup hn) fun k hkm => ih k hkm (d + 1) (by rw [if_neg (by omega)]; exact hl k hkm) ?_
    have := lev_mem t.kids k hkm
    omega
mutual
theorem rg_vIt : ∀ (t : It) (d n : Nat) (ah : List It), Rg t → (if d = 0 then decide (t.label.size = 0) else isLab t.label) = true → (d ≠ 0 → ∀ k, k ∈ ah → Dif k t) → (∃ m, vIt d n ah t = .ok m) ∨ vIt d n ah t = .bad 2
  | .mk a b c k, d, n, ah, h, hl, hd => by
    obtain ⟨h1, h2, h3, h4⟩ := h.is
    have h5 := texts_iff.2 h1
    rw [vIt]
    split
    · exact .inr rfl
    · rw [if_neg (by rw [label_iff.2 ⟨hl, hd⟩]; simp), if_neg (by rw [h5.2]; simp)]
      exact rg_vKs k d n [] h4 h3 (of_nodup h2) (fun a ha => by cases ha)
theorem rg_vKs : ∀ (l : List It) (d n : Nat) (ah : List It), (∀ k, k ∈ l → Rg k) → (∀ k, k ∈ l → isLab k.label = true) → l.Pairwise Dif → (∀ a, a ∈ ah → ∀ k, k ∈ l → Dif a k) → (∃ m, vKs d n ah l = .ok m) ∨ vKs d n ah l = .bad 2
  | [], d, n, ah, _, _, _, _ => by rw [vKs]; exact .inl ⟨n, rfl⟩
  | t :: r, d, n, ah, h1, h2, h3, h4 => by
    rw [vKs]
    have h5 := List.pairwise_cons.1 h3
    rcases rg_vIt t (d + 1) (n + 1) ah (h1 t (by simp)) (by rw [if_neg (by omega)]; exact h2 t (by simp)) (fun _ k hk => h4 k hk t (by simp)) with ⟨m, e⟩ | e
    · rw [e]
      refine rg_vKs r d m (ah ++ [t]) (fun k hk => h1 k (by simp [hk])) (fun k hk => h2 k (by simp [hk])) h5.2 (fun a ha k hk => ?_)
      rcases List.mem_append.1 ha with ha | ha
      · exact h4 a ha k (by simp [hk])
      · rw [List.mem_singleton.1 ha]; exact h5.1 k hk
    · rw [e]; exact .inr rfl
end
theorem find_rg : ∀ (p : List ByteArray) (t x : It), Rg t → findW t p = some x → Rg x
  | [], t, x, h, e => by rw [findW] at e; injection e with e; rw [← e]; exact h
  | q :: r, t, x, h, e => by
    obtain ⟨i, y, _, hy, e⟩ := find_step e
    exact find_rg r y x (h.is.2.2.2 y (List.mem_of_getElem? hy)) e
theorem rg_set : ∀ (p : List ByteArray) (t x y : It), Rg t → findW t p = some x → Rg y → y.label = x.label → Rg (setW (fun _ => y) p t)
  | [], t, x, y, _, _, h, _ => by rw [setW]; exact h
  | q :: r, t, x, y, ht, e, h, hl => by
    obtain ⟨i, z, hi, hz, e⟩ := find_step e
    obtain ⟨h1, h2, h3, h4⟩ := ht.is
    have hzm := List.mem_of_getElem? hz
    rw [setW_cons hi hz]
    have h5 := rg_set r z x y (h4 z hzm) e h hl
    have h6 := set_label r z x y e hl
    refine .mk _ h1 ?_ (fun k hk => ?_) (fun k hk => ?_)
    · show (labs (t.kids.set i _)).Nodup
      rw [labs_set_same hz h6]
      exact h2
    · rcases List.mem_or_eq_of_mem_set (show k ∈ t.kids.set i _ from hk) with hk | rfl
      · exact h3 k hk
      · rw [h6]; exact h3 z hzm
    · rcases List.mem_or_eq_of_mem_set (show k ∈ t.kids.set i _ from hk) with hk | rfl
      · exact h4 k hk
      · exact h5
theorem rg_kids {t : It} (h : Rg t) {l : List It} (hn : (labs l).Nodup) (hl : ∀ k, k ∈ l → isLab k.label = true) (hk : ∀ k, k ∈ l → Rg k) : Rg (t.setKids l) := .mk _ h.is.1 hn hl hk
theorem rg_lines {t : It} (h : Rg t) {l : List ByteArray} (hl : l.length ≤ 40) (hf : ∀ s, s ∈ l → Fine s) : Rg (t.setLines l) := .mk _ ⟨hl, h.is.1.2.1, hf⟩ h.is.2.1 h.is.2.2.1 h.is.2.2.2
theorem rg_head {t : It} (h : Rg t) {s : ByteArray} (hf : Fine s) : Rg (t.setHead s) := .mk _ ⟨h.is.1.1, hf, h.is.1.2.2⟩ h.is.2.1 h.is.2.2.1 h.is.2.2.2
theorem rg_erase {t : It} (h : Rg t) (i : Nat) : Rg (t.setKids (t.kids.eraseIdx i)) :=
  rg_kids h (h.is.2.1.sublist ((List.eraseIdx_sublist _ _).map _)) (fun k hk => h.is.2.2.1 k ((List.eraseIdx_sublist _ _).subset hk)) (fun k hk => h.is.2.2.2 k ((List.eraseIdx_sublist _ _).subset hk))
theorem rg_insert {t k : It} (h : Rg t) {i : Nat} (hi : i ≤ t.kids.length) (hk : Rg k) (hl : isLab k.label = true) (hn : k.label ∉ labs t.kids) : Rg (t.setKids (t.kids.insertIdx i k)) :=
  rg_kids h (nodup_insert h.is.2.1 hi hn) (fun x hx => by
    rcases (List.mem_insertIdx hi).1 hx with rfl | hx
    · exact hl
    · exact h.is.2.2.1 x hx) (fun x hx => by
    rcases (List.mem_insertIdx hi).1 hx with rfl | hx
    · exact hk
    · exact h.is.2.2.2 x hx)
/-! Changes, whatever the bounds of the law. -/
open Classical in
noncomputable def putX (t : It) (o : OpW) : Option It :=
  match findW t (partsB o.path) with
  | none => none
  | some x => match behIx x.kids o.at' with
    | none => none
    | some i => if o.item.label ∉ labs x.kids ∧ Rg o.item ∧ isLab o.item.label = true then some (setW (fun _ => x.setKids (x.kids.insertIdx i o.item)) (partsB o.path) t) else none
open Classical in
noncomputable def moveX (t : It) (o : OpW) : Option It :=
  match arW t (partsB o.path), findW t (partsB o.new) with
  | some (x, i), some y =>
    if ¬ partsB o.path <+: partsB o.new ∧ ¬ (behIx y.kids o.at' = none ∨ (partsB o.path).dropLast = partsB o.new ∧ o.at' = (x.kids[i]?.getD It.none).label) ∧ ¬ ((partsB o.path).dropLast ≠ partsB o.new ∧ (kidIx y.kids (x.kids[i]?.getD It.none).label).isSome) then
      match findW (lessW t x i (partsB o.path).dropLast) (partsB o.new) with
      | none => none
      | some z => match behIx z.kids o.at' with
        | none => none
        | some j => some (setW (fun _ => z.setKids (z.kids.insertIdx j (x.kids[i]?.getD It.none))) (partsB o.new) (lessW t x i (partsB o.path).dropLast))
    else none
  | _, _ => none
def okO : COut → Option It
  | .ok u => some u
  | .bad _ => none
noncomputable def oneX (t : It) (o : OpW) : Option It :=
  if o.kind = 6 then putX t o else if o.kind = 9 then moveX t o else okO (oneC t o)
end Go.Proofs.YtpbolcjcmkmalaaGreatDoor
namespace Go.Proofs.YtpbolcjcmkmalaaGreatDoor
open Go.RowKit Go.Extern.Stop Go.Stop Go.Extern

theorem findW_in : ∀ (p q : List ByteArray) (t x y : It), findW t p = some x → y.label = x.label → findW (setW (fun _ => y) p t) (p ++ q) = findW y q
  | [], q, t, x, y, _, _ => by rw [setW]; rfl
  | a :: r, q, t, x, y, e, h => by
    obtain ⟨i, z, hi, hz, e⟩ := find_step e
    have hlabs : labs (t.setKid i (setW (fun _ => y) r z)).kids = labs t.kids := labs_set_same hz (set_label r z x y e h)
    have h1 : (t.setKid i (setW (fun _ => y) r z)).kids[i]? = some (setW (fun _ => y) r z) := List.getElem?_set_self (List.getElem?_eq_some_iff.1 hz).1
    rw [setW_cons hi hz, List.cons_append, findW_cons (i := i) (by rw [kidIx_labs hlabs, hi]) h1]
    exact findW_in r q z x y e h
theorem findW_at {p : List ByteArray} {t x y : It} (e : findW t p = some x) (h : y.label = x.label) : findW (setW (fun _ => y) p t) p = some y := by
  have := findW_in p [] t x y e h
  rw [List.append_nil, findW] at this
  exact this
theorem ix_none {l : List It} {s : ByteArray} : (kidIx l s).isSome = false ↔ s ∉ labs l := by
  rw [kidIx_idx, ← idxL_none]
  cases idxL (labs l) s <;> simp
theorem ix_some {l : List It} {s : ByteArray} : (kidIx l s).isSome = true ↔ s ∈ labs l := by
  cases h : (kidIx l s).isSome
  · exact ⟨(fun h => by cases h), (fun hs => absurd hs (ix_none.1 h))⟩
  · refine ⟨fun _ => ?_, fun _ => rfl⟩
    rw [kidIx_idx] at h
    obtain ⟨i, hi⟩ := Option.isSome_iff_exists.1 h
    exact idxL_mem.1 ⟨i, hi⟩
theorem put_some {t u : It} {o : OpW} (h : putX t o = some u) : ∃ x i, findW t (partsB o.path) = some x ∧ behIx x.kids o.at' = some i ∧ o.item.label ∉ labs x.kids ∧ Rg o.item ∧ isLab o.item.label = true ∧ u = setW (fun _ => x.setKids (x.kids.insertIdx i o.item)) (partsB o.path) t := by
  unfold putX at h
  split at h
  · cases h
  · rename_i x hx
    split at h
    · cases h
    · rename_i i hi
      split at h
      · rename_i hc
        injection h with h
        exact ⟨x, i, hx, hi, hc.1, hc.2.1, hc.2.2, h.symm⟩
      · cases h
theorem put_of {t x : It} {o : OpW} {i : Nat} (hx : findW t (partsB o.path) = some x) (hi : behIx x.kids o.at' = some i) (h1 : o.item.label ∉ labs x.kids) (h2 : Rg o.item) (h3 : isLab o.item.label = true) : putX t o = some (setW (fun _ => x.setKids (x.kids.insertIdx i o.item)) (partsB o.path) t) := by
  unfold putX
  rw [hx]
  show (match behIx x.kids o.at' with | none => none | some i => _) = _
  rw [hi]
  exact if_pos ⟨h1, h2, h3⟩
theorem ar_some {t x : It} {p : List ByteArray} {i : Nat} (h : arW t p = some (x, i)) : ∃ p0 l k, p = p0 ++ [l] ∧ findW t p0 = some x ∧ kidIx x.kids l = some i ∧ x.kids[i]? = some k ∧ k.label = l := by
  unfold arW at h
  split at h
  · cases h
  · rename_i hp
    obtain ⟨p0, l, rfl⟩ : ∃ p0 l, p = p0 ++ [l] := by
      rcases List.eq_nil_or_concat p with h0 | ⟨a, b, hab⟩
      · exact absurd h0 hp
      · exact ⟨a, b, by rw [hab, List.concat_eq_append]⟩
    rw [List.dropLast_concat] at h
    split at h
    · cases h
    · rename_i y hy
      rw [List.getLast?_concat] at h
      split at h
      · cases h
      · rename_i j hj
        injection h with h
        injection h with h1 h2
        subst h1 h2
        obtain ⟨k, hk, hk1, _⟩ := kidIx_some hj
        exact ⟨p0, l, k, rfl, hy, hj, hk, isL_iff.1 hk1⟩
theorem ar_of {t x : It} {p0 : List ByteArray} {l : ByteArray} {i : Nat} (h : findW t p0 = some x) (hi : kidIx x.kids l = some i) : arW t (p0 ++ [l]) = some (x, i) := by
  unfold arW
  rw [if_neg (by simp), List.dropLast_concat, h]
  show (match kidIx x.kids ((p0 ++ [l]).getLast?.getD _) with | none => none | some i => some (x, i)) = _
  rw [List.getLast?_concat]
  show (match kidIx x.kids l with | none => none | some i => some (x, i)) = _
  rw [hi]
theorem move_some {t u : It} {o : OpW} (h : moveX t o = some u) : ∃ p0 l x i k y z j, partsB o.path = p0 ++ [l] ∧ findW t p0 = some x ∧ kidIx x.kids l = some i ∧ x.kids[i]? = some k ∧ k.label = l ∧ findW t (partsB o.new) = some y ∧ ¬ (p0 ++ [l]) <+: partsB o.new ∧ behIx y.kids o.at' ≠ none ∧ ¬ (p0 = partsB o.new ∧ o.at' = l) ∧ (p0 ≠ partsB o.new → l ∉ labs y.kids) ∧ findW (lessW t x i p0) (partsB o.new) = some z ∧ behIx z.kids o.at' = some j ∧ u = setW (fun _ => z.setKids (z.kids.insertIdx j k)) (partsB o.new) (lessW t x i p0) := by
  unfold moveX at h
  split at h
  · rename_i x i y hx hy
    obtain ⟨p0, l, k, hp, h1, h2, h3, h4⟩ := ar_some hx
    rw [hp, List.dropLast_concat, h3] at h
    split at h
    · rename_i hc
      obtain ⟨c1, c2, c3⟩ := hc
      split at h
      · cases h
      · rename_i z hz
        split at h
        · cases h
        · rename_i j hj
          injection h with h
          have h5 : (some k).getD It.none = k := rfl
          rw [h5] at c2 c3 h
          refine ⟨p0, l, x, i, k, y, z, j, hp, h1, h2, h3, h4, hy, c1, (fun e => c2 (.inl e)), (fun e => c2 (.inr ⟨e.1, by rw [h4]; exact e.2⟩)), (fun e hm => c3 ⟨e, by rw [h4]; exact ix_some.2 hm⟩), hz, hj, h.symm⟩
    · cases h
  · cases h
theorem move_of {t x k y z : It} {o : OpW} {p0 : List ByteArray} {l : ByteArray} {i j : Nat} (hp : partsB o.path = p0 ++ [l]) (h1 : findW t p0 = some x) (h2 : kidIx x.kids l = some i) (h3 : x.kids[i]? = some k) (h4 : k.label = l) (hy : findW t (partsB o.new) = some y) (c1 : ¬ (p0 ++ [l]) <+: partsB o.new) (c2 : behIx y.kids o.at' ≠ none) (c3 : ¬ (p0 = partsB o.new ∧ o.at' = l)) (c4 : p0 ≠ partsB o.new → l ∉ labs y.kids) (hz : findW (lessW t x i p0) (partsB o.new) = some z) (hj : behIx z.kids o.at' = some j) : moveX t o = some (setW (fun _ => z.setKids (z.kids.insertIdx j k)) (partsB o.new) (lessW t x i p0)) := by
  have h5 : (x.kids[i]?).getD It.none = k := by rw [h3]; rfl
  unfold moveX
  rw [hp, ar_of h1 h2, hy]
  show (if ¬ (p0 ++ [l]) <+: partsB o.new ∧ ¬ (behIx y.kids o.at' = none ∨ (p0 ++ [l]).dropLast = partsB o.new ∧ o.at' = ((x.kids[i]?).getD It.none).label) ∧ ¬ ((p0 ++ [l]).dropLast ≠ partsB o.new ∧ (kidIx y.kids ((x.kids[i]?).getD It.none).label).isSome) then _ else none) = _
  rw [List.dropLast_concat, h5, h4, if_pos ⟨c1, (fun e => e.elim c2 c3), (fun e => c4 e.1 (ix_some.1 e.2))⟩, hz]
  show (match behIx z.kids o.at' with | none => none | some j => _) = _
  rw [hj]
/-- What is made is made whatever the bounds. -/
theorem x_of_c {t u : It} {o : OpW} (h : oneC t o = .ok u) : oneX t o = some u := by
  unfold oneX
  split
  · rename_i hk
    unfold oneC at h
    rw [hk, if_neg (by omega), if_pos rfl] at h
    unfold putC at h
    split at h
    · cases h
    · rename_i x hx
      split at h
      · cases h
      · rename_i i hi
        split at h
        · cases h
        · rename_i hn
          split at h
          · cases h
          · rename_i m hv
            injection h with h
            have h1 : o.item.label ∉ labs x.kids := ix_none.1 (by simpa using hn)
            have hle : i ≤ x.kids.length := by
              rw [behIx_beh] at hi
              have := behB_le hi
              simpa [labs] using this
            obtain ⟨hR, _⟩ := vIt_ok _ 0 0 [] m hv
            have h2 := find_rgt (partsB o.path) 0 _ _ hR (findW_at (y := x.setKids (x.kids.insertIdx i o.item)) hx rfl)
            have h3 := h2.is.2.2 o.item ((List.mem_insertIdx hle).2 (.inl rfl))
            have h4 := h3.is.1.2.2.1
            rw [if_neg (by omega)] at h4
            rw [← h]
            exact put_of hx hi h1 h3.rg h4
  · split
    · rename_i h6 hk
      unfold oneC at h
      rw [hk, if_neg (by omega), if_neg (by omega), if_neg (by omega), if_neg (by omega), if_pos rfl] at h
      unfold moveC at h
      split at h
      · rename_i x i y hx hy
        obtain ⟨p0, l, k, hp, h1, h2, h3, h4⟩ := ar_some hx
        rw [hp, List.dropLast_concat, h3] at h
        have h5 : (some k).getD It.none = k := rfl
        rw [h5] at h
        split at h
        · cases h
        · rename_i c1
          simp only at h
          split at h
          · cases h
          · rename_i c2
            split at h
            · cases h
            · rename_i c3
              split at h
              · cases h
              · split at h
                · cases h
                · rename_i z hz
                  split at h
                  · cases h
                  · rename_i j hj
                    injection h with h
                    rw [← h]
                    exact move_of hp h1 h2 h3 h4 hy c1 (fun e => c2 (.inl e)) (fun e => c2 (.inr ⟨e.1, by rw [h4]; exact e.2⟩)) (fun e hm => c3 ⟨e, by rw [h4]; exact ix_some.2 hm⟩) hz hj
      · cases h
    · rw [h]; rfl
/-- .. and the other way round, but for bounds. -/
theorem c_of_x {t u : It} {o : OpW} (ht : Rg t) (hl : t.label.size = 0) (h : oneX t o = some u) : oneC t o = .ok u ∨ oneC t o = .bad 2 := by
  unfold oneX at h
  split at h
  · rename_i hk
    obtain ⟨x, i, hx, hi, h1, h2, h3, rfl⟩ := put_some h
    unfold oneC
    rw [hk, if_neg (by omega), if_pos rfl]
    unfold putC
    rw [hx]
    show (match behIx x.kids o.at' with | none => COut.bad 5 | some i => _) = _ ∨ (match behIx x.kids o.at' with | none => COut.bad 5 | some i => _) = _
    rw [hi]
    have h4 : (kidIx x.kids o.item.label).isSome = false := ix_none.2 h1
    have hle : i ≤ x.kids.length := by
      rw [behIx_beh] at hi
      have := behB_le hi
      simpa [labs] using this
    have hR := rg_set _ t x _ ht hx (rg_insert (find_rg _ t x ht hx) hle h2 h3 h1) rfl
    have hlab : (setW (fun _ => x.setKids (x.kids.insertIdx i o.item)) (partsB o.path) t).label.size = 0 := by
      rw [set_label _ t x (x.setKids (x.kids.insertIdx i o.item)) hx rfl]; exact hl
    show (if (kidIx x.kids o.item.label).isSome = true then COut.bad 7 else _) = _ ∨ (if (kidIx x.kids o.item.label).isSome = true then COut.bad 7 else _) = _
    rw [h4, if_neg (by simp)]
    rcases rg_vIt _ 0 0 [] hR (by rw [if_pos rfl]; exact decide_eq_true hlab) (fun h => absurd rfl h) with ⟨m, e⟩ | e
    · left; rw [e]
    · right; rw [e]
  · split at h
    · rename_i h6 hk
      obtain ⟨p0, l, x, i, k, y, z, j, hp, h1, h2, h3, h4, hy, c1, c2, c3, c4, hz, hj, rfl⟩ := move_some h
      have h5 : (x.kids[i]?).getD It.none = k := by rw [h3]; rfl
      unfold oneC
      rw [hk, if_neg (by omega), if_neg (by omega), if_neg (by omega), if_neg (by omega), if_pos rfl]
      unfold moveC
      rw [hp, ar_of h1 h2, hy]
      simp only [List.dropLast_concat, h5]
      rw [if_neg c1, if_neg (fun e => e.elim c2 (by rw [h4]; exact c3)), if_neg (fun e => c4 e.1 (by rw [← h4]; exact ix_some.1 e.2))]
      split
      · exact .inr rfl
      · rw [hz]
        left
        show (match behIx z.kids o.at' with | none => COut.bad 0 | some j => _) = _
        rw [hj]
    · unfold okO at h
      cases hc : oneC t o with
      | ok v => rw [hc] at h; injection h with h; rw [h]; exact .inl rfl
      | bad c => rw [hc] at h; cases h
theorem ix_kid {l : List It} {s : ByteArray} {i : Nat} (h : kidIx l s = some i) : ∃ k, l[i]? = some k ∧ k.label = s := by
  obtain ⟨k, hk, hk1, _⟩ := kidIx_some h
  exact ⟨k, hk, isL_iff.1 hk1⟩
theorem rel_nodup {x k : It} {i : Nat} {s : ByteArray} (hn : (labs x.kids).Nodup) (hk : x.kids[i]? = some k) (h : ¬ ∃ j, kidIx x.kids s = some j ∧ j ≠ i) : (labs (x.kids.set i (k.setLabel s))).Nodup := by
  rw [labs_set]
  show ((labs x.kids).set i s).Nodup
  have hil := (List.getElem?_eq_some_iff.1 hk).1
  have hlab : ∀ j (hj : j < (labs x.kids).length), j ≠ i → (labs x.kids)[j] ≠ s := fun j hj hne e => by
    refine h ?_
    obtain ⟨j', hj'⟩ := idxL_mem.2 (e ▸ List.getElem_mem hj : s ∈ labs x.kids)
    refine ⟨j', by rw [kidIx_idx]; exact hj', fun e2 => hne ?_⟩
    subst e2
    obtain ⟨hjl, e3⟩ := List.getElem?_eq_some_iff.1 (idxL_some hj')
    exact nodup_inj hn hj hjl (e.trans e3.symm)
  refine List.pairwise_iff_getElem.2 fun a b ha hb hab => ?_
  rw [List.length_set] at ha hb
  rw [List.getElem_set, List.getElem_set]
  split
  · rw [if_neg (by omega)]
    exact fun e => hlab b hb (by omega) e.symm
  · split
    · exact fun e => hlab a ha (by omega) e
    · exact List.pairwise_iff_getElem.1 hn a b ha hb hab
theorem rg_label {x k : It} (h : Rg x) {i : Nat} {s : ByteArray} (hk : x.kids[i]? = some k) (hs : isLab s = true) (hn : ¬ ∃ j, kidIx x.kids s = some j ∧ j ≠ i) : Rg (x.setKid i (k.setLabel s)) := by
  obtain ⟨h1, h2, h3, h4⟩ := h.is
  refine .mk _ h1 (rel_nodup h2 hk hn) (fun y hy => ?_) (fun y hy => ?_)
  · rcases List.mem_or_eq_of_mem_set (show y ∈ x.kids.set i _ from hy) with hy | rfl
    · exact h3 y hy
    · exact hs
  · rcases List.mem_or_eq_of_mem_set (show y ∈ x.kids.set i _ from hy) with hy | rfl
    · exact h4 y hy
    · have h5 := (h4 k (List.mem_of_getElem? hk)).is
      exact .mk _ h5.1 h5.2.1 h5.2.2.1 h5.2.2.2
/-- What comes of texts. -/
theorem rg_text {x y : It} {o : OpW} (h : Rg x) (e : textC x o = .ok y) : Rg y ∧ y.label = x.label ∧ y.kids = x.kids := by
  obtain ⟨h1, h2, h3⟩ := h.is.1
  unfold textC at e
  split at e
  · split at e
    · cases e
    · split at e
      · rename_i hc
        injection e with e
        subst e
        refine ⟨rg_lines h (by simpa using h1) fun s hs => ?_, rfl, rfl⟩
        rcases List.mem_or_eq_of_mem_set hs with hs | rfl
        · exact h3 s hs
        · exact chk_fine hc
      · cases e
  · split at e
    · split at e
      · cases e
      · rename_i hL
        split at e
        · cases e
        · rename_i h40
          split at e
          · rename_i hc
            injection e with e
            subst e
            have hle : o.line.toNat ≤ x.lines.length := by
              by_cases hq : o.line = x.lines.length
              · omega
              · have hh : hasL x o.line = true := by
                  cases hb : hasL x o.line
                  · exact absurd ⟨hq, hb⟩ hL
                  · rfl
                unfold hasL at hh
                simp only [Bool.and_eq_true, decide_eq_true_eq] at hh
                omega
            refine ⟨rg_lines h ?_ fun s hs => ?_, rfl, rfl⟩
            · rw [List.length_insertIdx, if_pos hle]; omega
            · rcases (List.mem_insertIdx hle).1 hs with rfl | hs
              · exact chk_fine hc
              · exact h3 s hs
          · cases e
    · split at e
      · split at e
        · cases e
        · injection e with e
          subst e
          have hsub := List.eraseIdx_sublist x.lines o.line.toNat
          exact ⟨rg_lines h (Nat.le_trans hsub.length_le h1) (fun s hs => h3 s (hsub.subset hs)), rfl, rfl⟩
      · split at e
        · unfold wordsC at e
          split at e
          · split at e
            · cases e
            · simp only at e
              split at e
              · rename_i hc
                injection e with e
                subst e
                refine ⟨rg_lines h (by simpa using h1) fun s hs => ?_, rfl, rfl⟩
                rcases List.mem_or_eq_of_mem_set hs with hs | rfl
                · exact h3 s hs
                · exact chk_fine hc
              · cases e
          · cases e
        · split at e
          · rename_i hc
            injection e with e
            subst e
            exact ⟨rg_head h (chk_fine hc), rfl, rfl⟩
          · cases e
/-- What is right stays right. -/
theorem rg_x {t u : It} {o : OpW} (ht : Rg t) (h : oneX t o = some u) : Rg u ∧ u.label = t.label := by
  unfold oneX at h
  split at h
  · obtain ⟨x, i, hx, hi, h1, h2, h3, rfl⟩ := put_some h
    have hle : i ≤ x.kids.length := by
      rw [behIx_beh] at hi
      have := behB_le hi
      simpa [labs] using this
    exact ⟨rg_set _ t x _ ht hx (rg_insert (find_rg _ t x ht hx) hle h2 h3 h1) rfl, set_label _ t x (x.setKids (x.kids.insertIdx i o.item)) hx rfl⟩
  · split at h
    · obtain ⟨p0, l, x, i, k, y, z, j, hp, h1, h2, h3, h4, hy, c1, c2, c3, c4, hz, hj, rfl⟩ := move_some h
      have hx := find_rg _ t x ht h1
      have hless : Rg (lessW t x i p0) := rg_set p0 t x _ ht h1 (rg_erase hx i) rfl
      have hll : (lessW t x i p0).label = t.label := set_label p0 t x (x.setKids (x.kids.eraseIdx i)) h1 rfl
      have hzr := find_rg _ _ z hless hz
      have hkm := List.mem_of_getElem? h3
      have hle : j ≤ z.kids.length := by
        rw [behIx_beh] at hj
        have := behB_le hj
        simpa [labs] using this
      have hn : k.label ∉ labs z.kids := by
        have hX := X_some hz .k
        have hX2 : X (lessW t x i p0) = _ := gone_is ht.ds h1 h3 (by rw [h4, ← kidIx_idx]; exact h2)
        rw [hX2] at hX
        unfold dNone at hX
        rw [h4, if_neg c1] at hX
        unfold dPart at hX
        rw [h4]
        by_cases hq : partsB o.new = p0
        · rw [if_pos ⟨hq, rfl⟩, hq, X_some h1 .k] at hX
          injection hX with hX
          have hX : (labs x.kids).eraseIdx ((idxL (labs x.kids) l).getD 0) = labs z.kids := hX
          rw [kidIx_idx] at h2
          rw [h2] at hX
          rw [← hX]
          intro hm
          have hm : l ∈ (labs x.kids).eraseIdx i := hm
          rw [List.mem_eraseIdx_iff_getElem?] at hm
          obtain ⟨a, ha, e⟩ := hm
          obtain ⟨hal, e⟩ := List.getElem?_eq_some_iff.1 e
          obtain ⟨hil, e2⟩ := List.getElem?_eq_some_iff.1 (idxL_some h2)
          exact ha (nodup_inj hx.is.2.1 hal hil (e.trans e2.symm))
        · rw [if_neg (fun e => hq e.1), X_some hy .k] at hX
          injection hX with hX
          have hX : labs y.kids = labs z.kids := hX
          rw [← hX]
          exact c4 (fun e => hq e.symm)
      exact ⟨rg_set _ _ z _ hless hz (rg_insert hzr hle (hx.is.2.2.2 k hkm) (hx.is.2.2.1 k hkm) hn) rfl, (set_label _ _ z (z.setKids (z.kids.insertIdx j k)) hz rfl).trans hll⟩
    · unfold oneC at h
      split at h
      · split at h
        · cases h
        · rename_i x hx
          split at h
          · cases h
          · rename_i y hy
            injection h with h
            subst h
            obtain ⟨h1, h2, _⟩ := rg_text (find_rg _ t x ht hx) hy
            exact ⟨rg_set _ t x y ht hx h1 h2, set_label _ t x y hx h2⟩
      · split at h
        · unfold repealC at h
          split at h
          · cases h
          · rename_i x i hx
            obtain ⟨p0, l, k, hp, h1, h2, h3, h4⟩ := ar_some hx
            injection h with h
            rw [hp, List.dropLast_concat] at h
            subst h
            exact ⟨rg_set _ t x _ ht h1 (rg_erase (find_rg _ t x ht h1) i) rfl, set_label _ t x (x.setKids (x.kids.eraseIdx i)) h1 rfl⟩
        · split at h
          · unfold labelC at h
            split at h
            · cases h
            · rename_i x i hx
              obtain ⟨p0, l, k, hp, h1, h2, h3, h4⟩ := ar_some hx
              split at h
              · cases h
              · rename_i hc
                injection h with h
                rw [hp, List.dropLast_concat, h3] at h
                have h5 : (some k).getD It.none = k := rfl
                rw [h5] at h
                subst h
                have hs : isLab o.text = true := by
                  cases hb : isLab o.text
                  · exact absurd (.inl hb) hc
                  · rfl
                exact ⟨rg_set _ t x _ ht h1 (rg_label (find_rg _ t x ht h1) h3 hs (fun e => hc (.inr e))) rfl, set_label _ t x (x.setKid i (k.setLabel o.text)) h1 rfl⟩
          · cases h
end Go.Proofs.YtpbolcjcmkmalaaGreatDoor

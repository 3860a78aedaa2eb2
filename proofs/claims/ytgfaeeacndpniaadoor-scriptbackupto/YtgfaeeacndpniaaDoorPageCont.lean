/-
  Package script: what an item has, on the page.
-/
import Derived.Test.YtgfaeeacndpniaaDoorPageAll
import Derived.Test.YtgfaeeacndpniaaDoorSmallP
namespace Go.Proofs.YtgfaeeacndpniaaDoor
open Go.RowKit Go.Extern.Stop Go.Stop Go.Extern

/-- The box of an item beside a page. -/
structure BoxP (B b n0 : Nat) (w wr : World) (bs : List UInt8) (a x c d : Value) : Prop where
  bx : wr.heap[n0]? = some (.cells #[a, x, c, d] 31 (0, 0))
  pg : Pg B b bs wr
  st : PgStep B b w wr
theorem BoxP.on {B b n0 : Nat} {w wr wr' : World} {bs bs' : List UInt8} {a x c d : Value} (h : BoxP B b n0 w wr bs a x c d) (hn : n0 ≠ b) (hp : Pg B b bs' wr') (hs : PgStep B b wr wr') : BoxP B b n0 w wr' bs' a x c d :=
  ⟨(hs.kp n0 _ _ _ hn h.bx (by decide)).trans h.bx, hp, h.st.trans hs⟩
set_option maxHeartbeats 4000000 in
set_option maxRecDepth 10000 in
theorem content_any (B b : Nat) : ∀ (N : Nat) (t : It), sizeIt t ≤ N → N ≤ 4194304 → ∀ (d : Nat) (v : Nat → Value) (w : World) (bs : List UInt8), Lies w (fun k => k < B) v t → Pg B b bs w → d + sizeIt t ≤ 8388608 → bs.length + (contL d t).length ≤ 140737488355328 →
    Calls Tryd.prog 22 #[.pointer (some ⟨b, 0, none⟩), .agg #[v 0, v 1, v 2, v 3], .int .i64 d] w fun e w' => e = .returned (.tuple #[]) ∧ Pg B b (bs ++ contL d t) w' ∧ PgStep B b w w'
  | 0, t, h, _, d, v, w, bs, hL, hP, hd, hlen => by have := sizeIt_eq t; omega
  | N + 1, t, h, hN, d, v, w, bs, hL, hP, hd, hlen => by
    have hst := sizeIt_eq t
    have hl4 := lines400_le t.lines
    have hkl := sizeIts_len t.kids
    obtain ⟨f0, f1, ⟨la, lc, f2⟩, ⟨ka, kc, f3⟩⟩ := hL.forms
    have hlx := (hL.linesIn f2).2
    obtain ⟨_, V, hk, hr⟩ := hL.kidsAt f3
    have HIH := hidLL (fun k (hk : k ∈ t.kids) d v w bs hL hP hd hlen => content_any B b N k (by have := kid_size hk; omega) (by omega) d v w bs hL hP hd hlen)
    have HLx := hidLL hlx
    have HK := hidLL (And.intro hk hr)
    have HKS := hidLL (fun k (hk : k ∈ t.kids) => kid_size hk)
    have HEq := hidLL (contL_eq d t)
    have HLe := hidLL (fun i => lines_le d t i)
    have HKe := hidLL (fun i => cont_ks_le d t i)
    have hbw := hP.lt.1
    have HB0 := hidLL (show BoxP B b w.heap.size w (w.alloc (.cells #[.string t.label, .string t.head, .slice la t.lines.length lc, .slice ka t.kids.length kc] 31)) bs (.string t.label) (.string t.head) (.slice la t.lines.length lc) (.slice ka t.kids.length kc) from
      ⟨heap_alloc_new _ _, hP.on ((Below.refl _ _).alloc (Nat.le_refl _) _), PgStep.of hP.sz ((Below.refl _ _).alloc (Nat.le_refl _) _)⟩)
    have hnb : w.heap.size ≠ b := by omega
    rw [f0, f1, f2, f3]
    clear hL hlx hk hr f0 f1 f2 f3 hP
    obtain ⟨ln, hln⟩ : ∃ ln, ln = t.lines.length := ⟨_, rfl⟩
    obtain ⟨kn, hkn⟩ : ∃ kn, kn = t.kids.length := ⟨_, rfl⟩
    rw [← hln, ← hkn] at HB0
    rw [← hln, ← hkn]
    have hlnb : ln ≤ 4194304 := by omega
    have hknb : kn ≤ 4194304 := by omega
    have HLk := hidLL (And.intro hln hkn)
    have hdb : d ≤ 8388608 := by omega
    have HSz := hidLL (And.intro hd hlen)
    clear hln hkn hst hl4 hkl hd hlen h
    generalize t.label = lb at *
    generalize t.head = hh at *
    go_enter Tryd.func22, Tryd.ntmps22
    go_wp2_with fail
    obtain ⟨w2, hw2⟩ : ∃ w2, w2 = w.alloc (.cells #[.string lb, .string hh, .slice la ln lc, .slice ka kn kc] 31) := ⟨_, rfl⟩
    rw [← hw2] at HB0
    try simp only [← hw2]
    clear hw2
    obtain ⟨c0, c1, c2, c3, cf⟩ := four HB0.out.bx
    go_wp2_with fail
    go_loopw [13] (fun y wr => ∃ i : Nat, i ≤ ln ∧ y = .int .i64 i ∧ BoxP B b w.heap.size w wr (bs ++ linesL d (t.lines.take i)) (.string lb) (.string hh) (.slice la ln lc) (.slice ka kn kc)) (fun y _ => (ln - RowKit.intOf y).toNat)
    case atStart => exact ⟨0, by omega, rfl, by rw [List.take_zero]; show BoxP _ _ _ _ _ (bs ++ []) _ _ _ _; rw [List.append_nil]; exact HB0.out⟩
    case round =>
      obtain ⟨i, hi, rfl, hbx⟩ := hrel
      have HX := hidLL hbx
      clear hbx c0 c1 c2 c3 cf
      by_cases hin : i < ln
      · have hiz : (i : Int) < ln := by omega
        obtain ⟨x, hx⟩ : ∃ x, t.lines[i]? = some x := ⟨_, List.getElem?_eq_getElem (by rw [← HLk.out.1]; exact hin)⟩
        obtain ⟨g, o, rfl, hgB, cx⟩ := HLx.out i x hx
        have dx := (HX.out.st.bel.cell (p := ⟨g, o + i, none⟩) hgB).trans cx
        have HT := hidLL (linesL_take d t.lines i x hx)
        have HR := hidLL (pageRow_any B b d ⟨#[124]⟩ x _ wr HX.out.pg (by omega) (by
          have h1 := HLe.out (i + 1)
          have h2 := HSz.out.2
          rw [HT.out, List.length_append] at h1
          have h3 : bl ⟨#[124]⟩ = bar := rfl
          rw [h3, List.length_append]
          omega))
        clear hx cx
        go_wp2_with fail
        go_at_call 21
        refine HR.out.mono ?_
        rintro e w3 ⟨rfl, hP3, hS3⟩
        have h3 : bs ++ linesL d (t.lines.take i) ++ rowL d (bl ⟨#[124]⟩) (bl x) = bs ++ linesL d (t.lines.take (i + 1)) := by
          rw [HT.out, List.append_assoc]; rfl
        rw [h3] at hP3
        have HX3 := hidLL (HX.out.on hnb hP3 hS3)
        clear hP3 hS3 h3
        go_wp2
        go_roundw
        case rel => exact ⟨i + 1, by omega, by go_num, HX3.out⟩
        case measure => simp [RowKit.intOf]; omega
      · obtain rfl : i = ln := by omega
        have hiz : ¬ (i : Int) < i := by omega
        have hall : t.lines.take i = t.lines := List.take_of_length_le (by rw [← HLk.out.1]; exact Nat.le_refl _)
        rw [hall] at HX
        clear hall
        obtain ⟨c0, c1, c2, c3, cf⟩ := four HX.out.bx
        go_wp2_with fail
        go_loopw [25] (fun y wr => ∃ j : Nat, j ≤ kn ∧ y = .int .i64 j ∧ BoxP B b w.heap.size w wr (bs ++ (linesL d t.lines ++ contKs d (t.kids.take j))) (.string lb) (.string hh) (.slice la i lc) (.slice ka kn kc)) (fun y _ => (kn - RowKit.intOf y).toNat)
        case atStart => exact ⟨0, by omega, rfl, by rw [List.take_zero, contKs, List.append_nil]; exact HX.out⟩
        case round =>
          obtain ⟨j, hj, rfl, hbx⟩ := hrel
          have HY := hidLL hbx
          clear hbx c0 c1 c2 c3 cf HX
          by_cases hin : j < kn
          · have hjz : (j : Int) < kn := by omega
            obtain ⟨x, hx⟩ : ∃ x, t.kids[j]? = some x := ⟨_, List.getElem?_eq_getElem (by rw [← HLk.out.2]; exact hin)⟩
            obtain ⟨g, o, hka, hgB, cx⟩ := HK.out.1 j (by rw [← HLk.out.2]; exact hin)
            subst hka
            have hxm := List.mem_of_getElem? hx
            have hxs := HKS.out x hxm
            have HLx2 := hidLL (HK.out.2 j x hx)
            obtain ⟨g0, g1, ⟨pa, pc, g2⟩, ⟨pk, pkc, g3⟩⟩ := HLx2.out.forms
            have y0 := (HY.out.st.bel.cell (p := ⟨g, o + j * 4, none⟩) hgB).trans (cx 0 (by omega))
            have y1 := (HY.out.st.bel.cell (p := ⟨g, o + j * 4 + 1, none⟩) hgB).trans (cx 1 (by omega))
            have y2 := (HY.out.st.bel.cell (p := ⟨g, o + j * 4 + 2, none⟩) hgB).trans (cx 2 (by omega))
            have y3 := (HY.out.st.bel.cell (p := ⟨g, o + j * 4 + 3, none⟩) hgB).trans (cx 3 (by omega))
            rw [g0] at y0
            rw [g1] at y1
            rw [g2] at y2
            rw [g3] at y3
            have HT := hidLL (contKs_take d t.kids j x hx)
            have HLn : Hid ((bs ++ (linesL d t.lines ++ contKs d (t.kids.take j))).length + (rowL d (bl x.label) (bl x.head)).length + (contL (d + 1) x).length ≤ 140737488355328) := by
              show _ ≤ _
              have h1 := HKe.out (j + 1)
              have h2 := HSz.out.2
              rw [HT.out, List.length_append, List.length_append] at h1
              rw [List.length_append, List.length_append]
              omega
            have hdx : (d + 1) + sizeIt x ≤ 8388608 := by have := HSz.out.1; omega
            have HIx := hidLL (fun w bs hL hP hlen => HIH.out x hxm (d + 1) (V j) w bs hL hP hdx hlen)
            rw [g0, g1, g2, g3, show ((d + 1 : Nat) : Int) = (d : Int) + 1 by omega] at HIx
            have HR := hidLL (fun w h hl => pageRow_any B b d x.label x.head (bs ++ (linesL d t.lines ++ contKs d (t.kids.take j))) w h (by omega) hl)
            clear cx g0 g1 g2 g3 hx hxm hxs hdx
            generalize rowL d (bl x.label) (bl x.head) = RL at *
            generalize contL (d + 1) x = CL at *
            generalize x.label = xl at *
            generalize x.head = xh at *
            generalize x.lines.length = xn at *
            generalize x.kids.length = xk at *
            obtain ⟨W6, hW6⟩ : ∃ W6, W6 = wr.alloc (.cells #[.string xl, .string xh, .slice pa xn pc, .slice pk xk pkc] 31) := ⟨_, rfl⟩
            have hb6 : Below wr.heap.size wr W6 := by rw [hW6]; exact (Below.refl _ _).alloc (Nat.le_refl _) _
            have hk6 : W6.heap[wr.heap.size]? = some (.cells #[.string xl, .string xh, .slice pa xn pc, .slice pk xk pkc] 31 (0, 0)) := by rw [hW6]; exact heap_alloc_new _ _
            have HX6 := hidLL (HY.out.on hnb (HY.out.pg.on hb6) (PgStep.of HY.out.pg.sz hb6))
            have hrb : wr.heap.size ≠ b := by have := HY.out.pg.lt.1; omega
            clear hb6
            go_upto_region 9 with fail
            rw [← hW6]
            clear hW6 y0 y1 y2 y3
            obtain ⟨u0, u1, u2, u3, uf⟩ := four hk6
            have HK6 := hidLL hk6
            clear hk6
            go_wp2_with fail
            go_at_call 21
            refine (HR.out W6 HX6.out.pg (by have := HLn.out; omega)).mono ?_
            rintro e w7 ⟨rfl, hP7, hS7⟩
            have hk7 := (hS7.kp _ _ _ _ hrb HK6.out (by decide)).trans HK6.out
            have HX7 := hidLL (HX6.out.on hnb hP7 hS7)
            clear hP7 hS7 u0 u1 u2 u3 uf HK6 HX6
            obtain ⟨u0, u1, u2, u3, uf⟩ := four hk7
            clear hk7
            have hdw : (d : Int) + 1 ≤ 9223372036854775807 := by omega
            go_wp2_with fail
            go_at_call 22
            refine (HIx.out w7 _ (HLx2.out.step fun q _ hq => ⟨HX7.out.st.bel.block q hq, hq⟩) HX7.out.pg (by have := HLn.out; rw [List.length_append]; omega)).mono ?_
            rintro e w8 ⟨rfl, hP8, hS8⟩
            have h3 : bs ++ (linesL d t.lines ++ contKs d (t.kids.take j)) ++ RL ++ CL = bs ++ (linesL d t.lines ++ contKs d (t.kids.take (j + 1))) := by
              rw [HT.out]; simp only [List.append_assoc]
            rw [h3] at hP8
            have HX8 := hidLL (HX7.out.on hnb hP8 hS8)
            clear hP8 hS8 h3
            go_wp2
            go_roundw
            case rel => exact ⟨j + 1, by omega, by go_num, HX8.out⟩
            case measure => simp [RowKit.intOf]; omega
          · obtain rfl : j = kn := by omega
            have hjz : ¬ (j : Int) < j := by omega
            have hall : t.kids.take j = t.kids := List.take_of_length_le (by rw [← HLk.out.2]; exact Nat.le_refl _)
            rw [hall] at HY
            go_wp2
            go_end0
            exact ⟨rfl, by rw [HEq.out]; exact HY.out.pg, HY.out.st⟩
end Go.Proofs.YtgfaeeacndpniaaDoor

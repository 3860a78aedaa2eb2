/-
  The walk of ScriptBack: PARSE OF PRINT of laws.
-/
import Derived.Test.YtgfaeeacndpniaaDoorReadPlain
import Derived.Test.YtgfaeeacndpniaaDoorWriteP
import Derived.Test.YtgfaeeacndpniaaDoorLiveP
import Derived.Test.YtgfaeeacndpniaaDoorSameP
import Derived.Test.YtgfaeeacndpniaaDoorSmallRead
namespace Go.Proofs.YtgfaeeacndpniaaDoor
open Go.RowKit Go.Extern.Stop Go.Stop Go.Extern

theorem writeC_ok {t : It} {m : Nat} (hv : vIt 0 0 [] t = .ok m) (hl : (formL t).length ≤ 30000) : writeC t = 0 := by
  unfold writeC
  rw [hv]
  show (if 30000 < (formL t).length then 2 else 0) = 0
  rw [if_neg (by omega)]
theorem writeC_inv {t : It} (h : writeC t = 0) : ∃ m, vIt 0 0 [] t = .ok m ∧ (formL t).length ≤ 30000 := by
  unfold writeC at h
  cases hv : vIt 0 0 [] t with
  | bad c =>
    rw [hv] at h
    exact absurd h (vIt_pos hv)
  | ok m =>
    rw [hv] at h
    refine ⟨m, rfl, ?_⟩
    have h : (if 30000 < (formL t).length then 2 else 0) = 0 := h
    split at h
    · omega
    · omega
theorem wtold_ok {p : Nat → Addr} {e : Ending} {s : List UInt8} (h : WTold p e 0 s) : e = .returned (.tuple #[.string ⟨s.toArray⟩, .nilIface]) := by
  rcases h with ⟨_, h⟩ | ⟨k, h, _⟩
  · exact h
  · omega
set_option maxHeartbeats 16000000 in
set_option maxRecDepth 10000 in
theorem scriptBack_walk (t : It) (hsz : sizeIt t ≤ 1048576) (s : ByteArray) (hs : s.size ≤ 9223372036854775807) (p : Nat → Addr) (m : Int) (w : World) (hE : Env w p m) (P : Nat → Prop) (v : Nat → Value) (hL : Lies w P v t) :
    Calls Tryd.prog 4 #[.agg #[v 0, v 1, v 2, v 3], .string s] w fun e w' => e = .returned (.bool true) ∧ Below w.heap.size w w' := by
  obtain ⟨f0, f1, ⟨la, lc, f2⟩, ⟨ka, kc, f3⟩⟩ := hL.forms
  have hLB : ∀ W, Below w.heap.size w W → Lies W (fun k => k < w.heap.size) v t := fun W hb => hL.step fun b hb' _ => ⟨hb.block b hb', hb'⟩
  have HLB := hidLL hLB
  have HLv := hidLL (fun W (hb : Below w.heap.size w W) => live_any p m W (hE.on hb))
  have HFw := hidLL (fun W (hb : Below w.heap.size w W) => few_any t (by omega) v W _ (hLB W hb))
  have HWr := hidLL (fun (hF : FewIt t) W (hb : Below w.heap.size w W) => write_any t hF hsz p m W (hE.on hb) _ v (hLB W hb))
  have HFi := hidLL (fun (h : smallN 0 t ≤ 400) => few_it _ t (Nat.le_refl _) 0 h)
  have HFo := hidLL (And.intro f0 (And.intro f1 (And.intro f2 f3)))
  rw [f0, f1, f2, f3] at HFw HWr
  rw [f0, f1, f2, f3]
  have HE := hidLL hE
  obtain ⟨W1, hW1⟩ : ∃ W1, W1 = w.alloc (.cells #[.string t.label, .string t.head, .slice la t.lines.length lc, .slice ka t.kids.length kc] 31) := ⟨_, rfl⟩
  have hb1 : Below w.heap.size w W1 := by rw [hW1]; exact (Below.refl _ _).alloc (Nat.le_refl _) _
  have hx1 : W1.heap[w.heap.size]? = some (.cells #[.string t.label, .string t.head, .slice la t.lines.length lc, .slice ka t.kids.length kc] 31 (0, 0)) := by rw [hW1]; exact heap_alloc_new _ _
  have HB1 := hidLL hb1
  have HX1 := hidLL hx1
  have HW1 := hidLL hW1
  have hs1 := lt_of_block hx1
  clear hsz hE hL hLB f0 f1 f2 f3 hb1 hx1 hW1
  generalize hsn : smallN 0 t = sn at *
  go_enter Tryd.func4, Tryd.ntmps4
  go_upto_region 1 with fail
  rw [← HW1.out]
  go_wp2_with fail
  go_at_call 8
  refine (HLv.out W1 HB1.out).mono ?_
  rintro e w2 ⟨rfl, hb2⟩
  have HB2 := hidLL (HB1.out.trans (hb2.mono (by omega)))
  have hx2 := (hb2.block w.heap.size hs1).trans HX1.out
  have HX2 := hidLL hx2
  have hs2 := lt_of_block hx2
  obtain ⟨x0, x1, x2, x3, xf⟩ := four hx2
  clear hb2 hx2
  go_wp2_with fail
  go_at_call 9
  refine (HFw.out w2 HB2.out).mono ?_
  rintro e w3 ⟨rfl, hb3⟩
  have HB3 := hidLL (HB2.out.trans (hb3.mono (by omega)))
  have hx3 := (hb3.block w.heap.size hs2).trans HX2.out
  have HX3 := hidLL hx3
  have hs3 := lt_of_block hx3
  clear hb3 x0 x1 x2 x3 xf
  obtain ⟨x0, x1, x2, x3, xf⟩ := four hx3
  clear hx3
  by_cases hfew : sn ≤ 400
  · have hfd : decide (sn ≤ 400) = true := decide_eq_true hfew
    have HF := hidLL (HFi.out hfew)
    rw [hfd]
    clear hfd hfew
    by_cases hlong : 3000 < s.size
    · have hlz : (3000 : Int) < (s.size : Int) := by omega
      clear hlong
      go_wp2
      go_ret
      exact ⟨rfl, HB3.out⟩
    have hlz : ¬ (3000 : Int) < (s.size : Int) := by omega
    have HRs := hidLL (fun W (hbw : Below w.heap.size w W) => read_any s (by omega) p m W (HE.out.on hbw))
    go_wp2_with fail
    go_at_call 10
    refine (HWr.out HF.out w3 HB3.out).mono ?_
    rintro e w4 ⟨hO4, hb4⟩
    have HB4 := hidLL (HB3.out.trans (hb4.mono (by omega)))
    have hx4 := (hb4.block w.heap.size hs3).trans HX3.out
    have HX4 := hidLL hx4
    have hs4 := lt_of_block hx4
    clear hb4 x0 x1 x2 x3 xf
    obtain ⟨x0, x1, x2, x3, xf⟩ := four hx4
    clear hx4
    rcases hO4 with ⟨hc, rfl⟩ | ⟨k, hc, hk, rfl⟩
    · obtain ⟨m1, hv1, hl1⟩ := writeC_inv hc
      have HPP := hidLL (parse_print t m1 hv1 hl1)
      have HSm := hidLL (small_read HPP.out)
      have HRd := hidLL (fun W (hbw : Below w.heap.size w W) => read_any (ofL (formL t)) (by rw [ofL_len]; omega) p m W (HE.out.on hbw))
      rw [HPP.out] at HRd
      clear hc hv1 HPP
      go_wp2_with fail
      go_at_call 11
      refine (HRd.out w4 HB4.out).mono ?_
      rintro e w5 ⟨⟨v1, rfl, hL1⟩, hb5⟩
      have HB5 := hidLL (HB4.out.trans (hb5.mono HB4.out.size))
      have hx5 := (hb5.block w.heap.size hs4).trans HX4.out
      have hs5 := lt_of_block hx5
      obtain ⟨d0, d1, ⟨d2, d3, d4⟩, ⟨d5, d6, d7⟩⟩ := hL1.forms
      rw [d0, d1, d4, d7]
      obtain ⟨W5, hW5⟩ : ∃ W5, W5 = w5.alloc (.cells #[.string t.label, .string t.head, .slice d2 t.lines.length d3, .slice d5 t.kids.length d6] 31) := ⟨_, rfl⟩
      have hb55 : Below w5.heap.size w5 W5 := by rw [hW5]; exact (Below.refl _ _).alloc (Nat.le_refl _) _
      have hy5 : W5.heap[w5.heap.size]? = some (.cells #[.string t.label, .string t.head, .slice d2 t.lines.length d3, .slice d5 t.kids.length d6] 31 (0, 0)) := by rw [hW5]; exact heap_alloc_new _ _
      have hx55 := (hb55.block w.heap.size hs5).trans hx5
      have HB55 := hidLL (HB5.out.trans (hb55.mono HB5.out.size))
      have HSa := hidLL (same_any HSm.out W5 _ _ v1 v (hL1.bel hb55) (HLB.out W5 HB55.out))
      rw [d0, d1, d4, d7, HFo.out.1, HFo.out.2.1, HFo.out.2.2.1, HFo.out.2.2.2] at HSa
      clear hL1 d0 d1 d4 d7 hb5 hb55 hx5 x0 x1 x2 x3 xf hl1
      obtain ⟨x0, x1, x2, x3, xf⟩ := four hx55
      obtain ⟨c0, c1, c2, c3, cf⟩ := four hy5
      clear hy5 hx55
      go_upto_region 8 with fail
      rw [← hW5]
      clear hW5
      go_wp2_with fail
      go_at_call 12
      refine HSa.out.mono ?_
      rintro e w6 ⟨rfl, hb6⟩
      have HB6 := hidLL (HB55.out.trans (hb6.mono HB55.out.size))
      have hsw6 := HB6.out.size
      clear hb6 x0 x1 x2 x3 xf c0 c1 c2 c3 cf
      go_wp2_with fail
      go_at_call 11
      refine (HRs.out w6 HB6.out).mono ?_
      rintro e w7 ⟨hO7, hb7⟩
      have HB7 := hidLL (HB6.out.trans (hb7.mono (by omega)))
      clear hb7
      cases hO : readB s with
      | bad c i =>
        rw [hO] at hO7
        obtain ⟨k7, blk, hc7, hk7, rfl, y0, y1⟩ := hO7
        have HA : Hid (Below w7.heap.size w7 (w7.alloc (.cells #[.string ⟨#[]⟩, .string ⟨#[]⟩, .slice none 0 0, .slice none 0 0] 31))) := (Below.refl _ _).alloc (Nat.le_refl _) _
        have HB8 := hidLL (HB7.out.trans (HA.out.mono (HB7.out.size)))
        clear y0 y1 hc7 hk7 hO
        go_wp2
        go_ret
        exact ⟨rfl, HB8.out⟩
      | good t2 =>
        rw [hO] at hO7
        obtain ⟨v2, rfl, hL2⟩ := hO7
        obtain ⟨m2, hv2, hl2⟩ := read_valid hO
        have hl2' : (formL t2).length ≤ 30000 := by omega
        have hs2 := size_form hv2
        have HPP := hidLL (parse_print t2 m2 hv2 hl2')
        have HSm2 := hidLL (small_read hO)
        have HFw2 := hidLL (few_valid _ t2 (Nat.le_refl _) 0 0 m2 [] hv2)
        have HC2 := hidLL (writeC_ok hv2 hl2')
        have HL2 := hidLL hL2
        obtain ⟨a0, a1, ⟨a2, a3, a4⟩, ⟨a5, a6, a7⟩⟩ := hL2.forms
        have HF2 := hidLL (And.intro a0 (And.intro a1 (And.intro a4 a7)))
        rw [a0, a1, a4, a7]
        obtain ⟨W8, hW8⟩ : ∃ W8, W8 = w7.alloc (.cells #[.string t2.label, .string t2.head, .slice a2 t2.lines.length a3, .slice a5 t2.kids.length a6] 31) := ⟨_, rfl⟩
        have hb8 : Below w7.heap.size w7 W8 := by rw [hW8]; exact (Below.refl _ _).alloc (Nat.le_refl _) _
        have hx8 : W8.heap[w7.heap.size]? = some (.cells #[.string t2.label, .string t2.head, .slice a2 t2.lines.length a3, .slice a5 t2.kids.length a6] 31 (0, 0)) := by rw [hW8]; exact heap_alloc_new _ _
        have HB8 := hidLL (HB7.out.trans (hb8.mono HB7.out.size))
        have HL8 := hidLL (HL2.out.bel hb8)
        have HWr2 := hidLL (fun W (hb : Below W8.heap.size W8 W) (hbw : Below w.heap.size w W) => write_any t2 HFw2.out (by omega) p m W (HE.out.on hbw) _ v2 (HL8.out.bel hb))
        rw [a0, a1, a4, a7] at HWr2
        have HRd2 := hidLL (fun W (hbw : Below w.heap.size w W) => read_any (ofL (formL t2)) (by rw [ofL_len]; omega) p m W (HE.out.on hbw))
        rw [HPP.out] at HRd2
        have HX8 := hidLL hx8
        have hs8 := lt_of_block hx8
        have HZ8 := hidLL (show sizeIt t2 ≤ 1048576 by omega)
        clear hL2 a0 a1 a4 a7 hv2 hl2 hl2' hs2 hb8 hO HPP
        rw [HC2.out] at HWr2
        go_upto_region 12 with fail
        rw [← hW8]
        clear hW8
        obtain ⟨b0, b1, b2, b3, bf⟩ := four hx8
        clear hx8
        go_wp2_with fail
        go_at_call 10
        refine (HWr2.out W8 (Below.refl _ _) HB8.out).mono ?_
        rintro e w9 ⟨hO9, hb9⟩
        obtain rfl := wtold_ok hO9
        have HB89 := hidLL hb9
        have HB9 := hidLL (HB8.out.trans (hb9.mono HB8.out.size))
        have hx9 := (hb9.block w7.heap.size hs8).trans HX8.out
        have HX9 := hidLL hx9
        have hs9 := lt_of_block hx9
        clear hb9 b0 b1 b2 b3 bf hO9 hx9
        go_wp2_with fail
        go_at_call 11
        refine (HRd2.out w9 HB9.out).mono ?_
        rintro e w10 ⟨⟨v3, rfl, hL3⟩, hb10⟩
        have HB810 := hidLL (HB89.out.trans (hb10.mono (HB89.out.size)))
        have HB10 := hidLL (HB9.out.trans (hb10.mono HB9.out.size))
        have hx10 := (hb10.block w7.heap.size hs9).trans HX9.out
        have HX10 := hidLL hx10
        have hs10 := lt_of_block hx10
        have HL3 := hidLL hL3
        obtain ⟨d0, d1, ⟨d2, d3, d4⟩, ⟨d5, d6, d7⟩⟩ := hL3.forms
        rw [d0, d1, d4, d7]
        obtain ⟨W11, hW11⟩ : ∃ W11, W11 = w10.alloc (.cells #[.string t2.label, .string t2.head, .slice d2 t2.lines.length d3, .slice d5 t2.kids.length d6] 31) := ⟨_, rfl⟩
        have hb11 : Below w10.heap.size w10 W11 := by rw [hW11]; exact (Below.refl _ _).alloc (Nat.le_refl _) _
        have hx11 : W11.heap[w10.heap.size]? = some (.cells #[.string t2.label, .string t2.head, .slice d2 t2.lines.length d3, .slice d5 t2.kids.length d6] 31 (0, 0)) := by rw [hW11]; exact heap_alloc_new _ _
        have hy11 := (hb11.block w7.heap.size hs10).trans HX10.out
        have HB811 := hidLL (HB810.out.trans (hb11.mono HB810.out.size))
        have HB11 := hidLL (HB10.out.trans (hb11.mono HB10.out.size))
        have HL11 := hidLL (HL3.out.bel hb11)
        have HSa := hidLL (same_any HSm2.out W11 _ _ v3 v2 HL11.out (HL8.out.bel HB811.out))
        rw [d0, d1, d4, d7, HF2.out.1, HF2.out.2.1, HF2.out.2.2.1, HF2.out.2.2.2] at HSa
        have HWr3 := hidLL (fun W (hb : Below W11.heap.size W11 W) (hbw : Below w.heap.size w W) => write_any t2 HFw2.out HZ8.out p m W (HE.out.on hbw) _ v3 (HL11.out.bel hb))
        rw [d0, d1, d4, d7, HC2.out] at HWr3
        have HX11 := hidLL hx11
        have hs11 := lt_of_block hx11
        clear hL3 d0 d1 d4 d7 hb10 hb11 hx10
        obtain ⟨b0, b1, b2, b3, bf⟩ := four hy11
        obtain ⟨c0, c1, c2, c3, cf⟩ := four hx11
        clear hx11 hy11
        go_upto_region 18 with fail
        rw [← hW11]
        clear hW11
        go_wp2_with fail
        go_at_call 12
        refine HSa.out.mono ?_
        rintro e w12 ⟨rfl, hb12⟩
        have HB12 := hidLL (HB11.out.trans (hb12.mono HB11.out.size))
        have HWr4 := hidLL (HWr3.out w12 hb12 HB12.out)
        have hx12 := (hb12.block w10.heap.size hs11).trans HX11.out
        clear hb12 b0 b1 b2 b3 bf c0 c1 c2 c3 cf
        obtain ⟨c0, c1, c2, c3, cf⟩ := four hx12
        clear hx12
        go_wp2_with fail
        go_at_call 10
        refine HWr4.out.mono ?_
        rintro e w13 ⟨hO13, hb13⟩
        obtain rfl := wtold_ok hO13
        have HB13 := hidLL (HB12.out.trans (hb13.mono HB12.out.size))
        clear hb13 hO13 c0 c1 c2 c3 cf
        generalize (⟨(formL t2).toArray⟩ : ByteArray) = oF2 at *
        go_wp2
        go_ret
        exact ⟨rfl, HB13.out⟩
    · unfold errI
      clear hc x0 x1 x2 x3 xf
      obtain ⟨w6, hw6⟩ : ∃ w6, w6 = w4 := ⟨_, rfl⟩
      subst w4
      have HB6 := HB4
      have hsw6 := HB6.out.size
      go_wp2_with fail
      go_at_call 11
      refine (HRs.out w6 HB6.out).mono ?_
      rintro e w7 ⟨hO7, hb7⟩
      have HB7 := hidLL (HB6.out.trans (hb7.mono (by omega)))
      clear hb7
      cases hO : readB s with
      | bad c i =>
        rw [hO] at hO7
        obtain ⟨k7, blk, hc7, hk7, rfl, y0, y1⟩ := hO7
        have HA : Hid (Below w7.heap.size w7 (w7.alloc (.cells #[.string ⟨#[]⟩, .string ⟨#[]⟩, .slice none 0 0, .slice none 0 0] 31))) := (Below.refl _ _).alloc (Nat.le_refl _) _
        have HB8 := hidLL (HB7.out.trans (HA.out.mono (HB7.out.size)))
        clear y0 y1 hc7 hk7 hO
        go_wp2
        go_ret
        exact ⟨rfl, HB8.out⟩
      | good t2 =>
        rw [hO] at hO7
        obtain ⟨v2, rfl, hL2⟩ := hO7
        obtain ⟨m2, hv2, hl2⟩ := read_valid hO
        have hl2' : (formL t2).length ≤ 30000 := by omega
        have hs2 := size_form hv2
        have HPP := hidLL (parse_print t2 m2 hv2 hl2')
        have HSm2 := hidLL (small_read hO)
        have HFw2 := hidLL (few_valid _ t2 (Nat.le_refl _) 0 0 m2 [] hv2)
        have HC2 := hidLL (writeC_ok hv2 hl2')
        have HL2 := hidLL hL2
        obtain ⟨a0, a1, ⟨a2, a3, a4⟩, ⟨a5, a6, a7⟩⟩ := hL2.forms
        have HF2 := hidLL (And.intro a0 (And.intro a1 (And.intro a4 a7)))
        rw [a0, a1, a4, a7]
        obtain ⟨W8, hW8⟩ : ∃ W8, W8 = w7.alloc (.cells #[.string t2.label, .string t2.head, .slice a2 t2.lines.length a3, .slice a5 t2.kids.length a6] 31) := ⟨_, rfl⟩
        have hb8 : Below w7.heap.size w7 W8 := by rw [hW8]; exact (Below.refl _ _).alloc (Nat.le_refl _) _
        have hx8 : W8.heap[w7.heap.size]? = some (.cells #[.string t2.label, .string t2.head, .slice a2 t2.lines.length a3, .slice a5 t2.kids.length a6] 31 (0, 0)) := by rw [hW8]; exact heap_alloc_new _ _
        have HB8 := hidLL (HB7.out.trans (hb8.mono HB7.out.size))
        have HL8 := hidLL (HL2.out.bel hb8)
        have HWr2 := hidLL (fun W (hb : Below W8.heap.size W8 W) (hbw : Below w.heap.size w W) => write_any t2 HFw2.out (by omega) p m W (HE.out.on hbw) _ v2 (HL8.out.bel hb))
        rw [a0, a1, a4, a7] at HWr2
        have HRd2 := hidLL (fun W (hbw : Below w.heap.size w W) => read_any (ofL (formL t2)) (by rw [ofL_len]; omega) p m W (HE.out.on hbw))
        rw [HPP.out] at HRd2
        have HX8 := hidLL hx8
        have hs8 := lt_of_block hx8
        have HZ8 := hidLL (show sizeIt t2 ≤ 1048576 by omega)
        clear hL2 a0 a1 a4 a7 hv2 hl2 hl2' hs2 hb8 hO HPP
        rw [HC2.out] at HWr2
        go_upto_region 12 with fail
        rw [← hW8]
        clear hW8
        obtain ⟨b0, b1, b2, b3, bf⟩ := four hx8
        clear hx8
        go_wp2_with fail
        go_at_call 10
        refine (HWr2.out W8 (Below.refl _ _) HB8.out).mono ?_
        rintro e w9 ⟨hO9, hb9⟩
        obtain rfl := wtold_ok hO9
        have HB89 := hidLL hb9
        have HB9 := hidLL (HB8.out.trans (hb9.mono HB8.out.size))
        have hx9 := (hb9.block w7.heap.size hs8).trans HX8.out
        have HX9 := hidLL hx9
        have hs9 := lt_of_block hx9
        clear hb9 b0 b1 b2 b3 bf hO9 hx9
        go_wp2_with fail
        go_at_call 11
        refine (HRd2.out w9 HB9.out).mono ?_
        rintro e w10 ⟨⟨v3, rfl, hL3⟩, hb10⟩
        have HB810 := hidLL (HB89.out.trans (hb10.mono (HB89.out.size)))
        have HB10 := hidLL (HB9.out.trans (hb10.mono HB9.out.size))
        have hx10 := (hb10.block w7.heap.size hs9).trans HX9.out
        have HX10 := hidLL hx10
        have hs10 := lt_of_block hx10
        have HL3 := hidLL hL3
        obtain ⟨d0, d1, ⟨d2, d3, d4⟩, ⟨d5, d6, d7⟩⟩ := hL3.forms
        rw [d0, d1, d4, d7]
        obtain ⟨W11, hW11⟩ : ∃ W11, W11 = w10.alloc (.cells #[.string t2.label, .string t2.head, .slice d2 t2.lines.length d3, .slice d5 t2.kids.length d6] 31) := ⟨_, rfl⟩
        have hb11 : Below w10.heap.size w10 W11 := by rw [hW11]; exact (Below.refl _ _).alloc (Nat.le_refl _) _
        have hx11 : W11.heap[w10.heap.size]? = some (.cells #[.string t2.label, .string t2.head, .slice d2 t2.lines.length d3, .slice d5 t2.kids.length d6] 31 (0, 0)) := by rw [hW11]; exact heap_alloc_new _ _
        have hy11 := (hb11.block w7.heap.size hs10).trans HX10.out
        have HB811 := hidLL (HB810.out.trans (hb11.mono HB810.out.size))
        have HB11 := hidLL (HB10.out.trans (hb11.mono HB10.out.size))
        have HL11 := hidLL (HL3.out.bel hb11)
        have HSa := hidLL (same_any HSm2.out W11 _ _ v3 v2 HL11.out (HL8.out.bel HB811.out))
        rw [d0, d1, d4, d7, HF2.out.1, HF2.out.2.1, HF2.out.2.2.1, HF2.out.2.2.2] at HSa
        have HWr3 := hidLL (fun W (hb : Below W11.heap.size W11 W) (hbw : Below w.heap.size w W) => write_any t2 HFw2.out HZ8.out p m W (HE.out.on hbw) _ v3 (HL11.out.bel hb))
        rw [d0, d1, d4, d7, HC2.out] at HWr3
        have HX11 := hidLL hx11
        have hs11 := lt_of_block hx11
        clear hL3 d0 d1 d4 d7 hb10 hb11 hx10
        obtain ⟨b0, b1, b2, b3, bf⟩ := four hy11
        obtain ⟨c0, c1, c2, c3, cf⟩ := four hx11
        clear hx11 hy11
        go_upto_region 18 with fail
        rw [← hW11]
        clear hW11
        go_wp2_with fail
        go_at_call 12
        refine HSa.out.mono ?_
        rintro e w12 ⟨rfl, hb12⟩
        have HB12 := hidLL (HB11.out.trans (hb12.mono HB11.out.size))
        have HWr4 := hidLL (HWr3.out w12 hb12 HB12.out)
        have hx12 := (hb12.block w10.heap.size hs11).trans HX11.out
        clear hb12 b0 b1 b2 b3 bf c0 c1 c2 c3 cf
        obtain ⟨c0, c1, c2, c3, cf⟩ := four hx12
        clear hx12
        go_wp2_with fail
        go_at_call 10
        refine HWr4.out.mono ?_
        rintro e w13 ⟨hO13, hb13⟩
        obtain rfl := wtold_ok hO13
        have HB13 := hidLL (HB12.out.trans (hb13.mono HB12.out.size))
        clear hb13 hO13 c0 c1 c2 c3 cf
        generalize (⟨(formL t2).toArray⟩ : ByteArray) = oF2 at *
        go_wp2
        go_ret
        exact ⟨rfl, HB13.out⟩
  · have hfd : decide (sn ≤ 400) = false := decide_eq_false hfew
    rw [hfd]
    clear hfd hfew
    go_wp2
    go_ret
    exact ⟨rfl, HB3.out⟩
end Go.Proofs.YtgfaeeacndpniaaDoor

/-
  Package why: Text.
-/
import Derived.Test.YtfnlcblalieolaaDoorWtText
namespace Go.Proofs.YtfnlcblalieolaaDoor
open Go.RowKit

theorem pgs_below {B b : Nat} {w w' : World} (h : PgStep B b w w') : Below B w w' := h.bel
set_option maxHeartbeats 4000000 in
set_option maxRecDepth 100000 in
theorem text_p {w : World} {B : Nat} {la na : Option Addr} {ln lc n nc : Nat} {l : List Clm} {nm : List ByteArray} (hS : SRd w B (.slice la ln lc) l) (hN : NRd w B (.slice na n nc) nm) (hB : B ≤ w.heap.size) (hln : ln = l.length) (hn : n = nm.length) (hfew : n ≤ 1000) (hlf : ln ≤ 1000) (hsz : ∀ s, s ∈ nm → s.size ≤ 24) (hwf : ∀ x, x ∈ l → -9223372036854775808 ≤ x.2.2 ∧ x.2.2 ≤ 9223372036854775807) :
    Calls Tryd.prog 4 #[.slice la ln lc, .slice na n nc] w fun e w' => e = .returned (.string ⟨(textL nm l).toArray⟩) ∧ Below w.heap.size w w' := by
  obtain ⟨W0, hW0⟩ : ∃ W0 : World, W0 = w.alloc (.cells #[.pointer none, .slice none 0 0] 47) := ⟨_, rfl⟩
  have hb0 : Below w.heap.size w W0 := by rw [hW0]; exact (Below.refl _ _).alloc (Nat.le_refl _) _
  have hk0 : W0.heap[w.heap.size]? = some (.cells #[.pointer none, .slice none 0 0] 47) := by rw [hW0]; exact blk_new _ _
  have hpg : Pg w.heap.size w.heap.size [] W0 := bld_new (Nat.le_refl _) hb0.size hk0
  obtain ⟨bb, hbb⟩ : ∃ bb, bb = w.heap.size := ⟨_, rfl⟩
  have HX : Hid (∀ W, Below w.heap.size w W → SRd W B (.slice la ln lc) l ∧ NRd W B (.slice na n nc) nm) := fun W hW => ⟨hS.on fun k hk => hW.block k (by omega), hN.on fun k hk => hW.block k (by omega)⟩
  have HE := hidLL (And.intro hln (And.intro hn (And.intro hsz hwf)))
  have H0 := hidLL (And.intro hpg (And.intro hb0 hk0))
  have HW := hidLL hW0
  have HBB := hidLL hbb
  clear hS hN hln hn hsz hwf hpg hb0 hk0 hW0
  go_enter Tryd.func4, Tryd.ntmps4
  go_upto_region 2 with fail
  rw [← HW.out, ← hbb]
  clear hbb
  go_wp2_with fail
  go_loopw [10] (fun t wr => ∃ j : Nat, j ≤ ln ∧ t = .int .i64 j ∧ Pg w.heap.size bb (textL nm (l.take j)) wr ∧ Below w.heap.size w wr ∧ (j = 0 → wr = W0)) (fun t _ => ln - (RowKit.intOf t).toNat)
  case atStart => exact ⟨0, by omega, rfl, by rw [HBB.out]; exact H0.out.1, H0.out.2.1, fun _ => rfl⟩
  case round =>
    obtain ⟨j, hj, rfl, hP, hbel, hz⟩ := hrel
    obtain ⟨w3, hw3⟩ : ∃ w3 : World, w3 = wr := ⟨_, rfl⟩
    subst hw3
    by_cases hlt : j < ln
    · have hjz : (j : Int) < ln := by omega
      obtain ⟨x, hx⟩ : ∃ x, l[j]? = some x := ⟨_, List.getElem?_eq_getElem (by have := HE.out.1; omega)⟩
      obtain ⟨g, o, ea, hgB, y0, y1, y2⟩ := (HX.out w3 hbel).1.at hx
      have hxw := HE.out.2.2.2 x (List.mem_of_getElem? hx)
      obtain ⟨xa, xb, xq⟩ := x
      simp only at y0 y1 y2 hxw
      have HTk : Hid (textL nm (l.take (j + 1)) = textL nm (l.take j) ++ (bl (wordB xa xb) ++ (bl (litB nm xq) ++ [10]))) := by
        obtain ⟨h9, e9⟩ := List.getElem?_eq_some_iff.1 hx
        show _ = _
        rw [List.take_succ_eq_append_getElem h9, e9, textL_app]
        show _ ++ (stepL nm (xa, xb, xq) ++ []) = _
        rw [List.append_nil]
        exact rfl
      have hlen : (textL nm (l.take j)).length ≤ 38000 := by
        have := textL_len HE.out.2.2.1 (l.take j)
        rw [List.length_take] at this
        omega
      subst ea
      obtain ⟨W4, hW4⟩ : ∃ W4 : World, W4 = w3.alloc (.cells #[.bool xa, .bool xb, .int .i64 xq] 26) := ⟨_, rfl⟩
      obtain ⟨sb, hsb⟩ : ∃ sb, sb = w3.heap.size := ⟨_, rfl⟩
      have hb4 : Below w3.heap.size w3 W4 := by rw [hW4]; exact (Below.refl _ _).alloc (Nat.le_refl _) _
      have hk4 : W4.heap[sb]? = some (.cells #[.bool xa, .bool xb, .int .i64 xq] 26 (0, 0)) := by rw [hW4, hsb]; exact blk_new _ _
      have c0 : W4.cell? ⟨sb, 0, none⟩ = some (.bool xa) := by simp [World.cell?, hk4]
      have c1 : W4.cell? ⟨sb, 1, none⟩ = some (.bool xb) := by simp [World.cell?, hk4]
      have c2 : W4.cell? ⟨sb, 2, none⟩ = some (.int .i64 xq) := by simp [World.cell?, hk4]
      have hP4 := hP.on hb4
      have hsw := hbel.size
      have hbw4 : Below w.heap.size w W4 := hbel.trans (hb4.mono hsw)
      have hsbb : sb ≠ bb := by rw [hsb]; have := hP.lt.1; omega
      have HWd := hidLL (words_p xa xb xq W4)
      have HK4 := hidLL (And.intro hk4 (And.intro hP4 (And.intro hbw4 hsbb)))
      have HW4 := hidLL (And.intro hW4 hsb)
      have hws := wordB_size xa xb
      have hls := litB_size HE.out.2.2.1 xq
      have HL2 := hidLL (And.intro hws (And.intro hls hlen))
      clear hx hP hbel hz hW4 hsb hb4 hk4 hP4 hbw4 hws hls hlen
      go_upto_region 5 with fail
      rw [← HW4.out.1, ← HW4.out.2]
      clear y0 y1 y2
      go_wp2_with fail
      refine HWd.out.mono ?_
      rintro e w5 ⟨rfl, hb5⟩
      have hP5 := HK4.out.2.1.on hb5
      have hk5 := (hb5.block sb (lt_of_block HK4.out.1)).trans HK4.out.1
      have hbw5 : Below w.heap.size w w5 := HK4.out.2.2.1.trans (hb5.mono HK4.out.2.2.1.size)
      have HC5 := hidLL (ws_any w.heap.size bb _ (wordB xa xb) w5 hP5 (by have := HL2.out; omega))
      have HK5 := hidLL (And.intro hk5 hbw5)
      clear hb5 hP5 hk5 hbw5 c0 c1 c2
      generalize wordB xa xb = wd at *
      go_wp2_with fail
      refine HC5.out.mono ?_
      rintro e w6 ⟨rfl, hP6, hst6⟩
      have hk6 := (hst6.kp sb _ _ _ HK4.out.2.2.2 HK5.out.1 (by decide)).trans HK5.out.1
      have hbw6 : Below w.heap.size w w6 := HK5.out.2.trans hst6.bel
      have d2 : w6.cell? ⟨sb, 2, none⟩ = some (.int .i64 xq) := by simp [World.cell?, hk6]
      have HC6 := hidLL (litText_p (HX.out w6 hbw6).2 HE.out.2.1 hfew HE.out.2.2.1 xq hxw.1 hxw.2)
      have HP6 := hidLL (And.intro hP6 hbw6)
      have hsl6 : sb < w6.heap.size := lt_of_block hk6
      clear hP6 hst6 hk6 hbw6
      generalize litB nm xq = lt at *
      go_wp2_with fail
      refine HC6.out.mono ?_
      rintro e w7 ⟨rfl, ew⟩
      subst ew
      have HC7 := hidLL (ws_any w.heap.size bb _ lt w7 HP6.out.1 (by have := HL2.out; rw [List.length_append, size_bl]; omega))
      go_wp2_with fail
      refine HC7.out.mono ?_
      rintro e w8 ⟨rfl, hP8, hst8⟩
      have HC8 := hidLL (ws_any w.heap.size bb _ ⟨#[10]⟩ w8 hP8 (by have := HL2.out; have e9 : (⟨#[10]⟩ : ByteArray).size = 1 := rfl; rw [List.length_append, List.length_append, size_bl, size_bl, e9]; omega))
      have HB8 := hidLL (HP6.out.2.trans hst8.bel)
      clear hP8 hst8
      go_wp2_with fail
      refine HC8.out.mono ?_
      rintro e w9 ⟨rfl, hP9, hst9⟩
      have HP9 := hidLL (And.intro hP9 (HB8.out.trans hst9.bel))
      clear hP9 hst9
      go_wp2
      go_roundw
      case rel =>
        refine ⟨j + 1, by omega, by go_num, ?_, HP9.out.2, fun e => by omega⟩
        rw [HTk.out]
        have h9 := HP9.out.1
        rw [List.append_assoc, List.append_assoc] at h9
        exact h9
      case measure => simp [RowKit.intOf]; omega
    · have hje : j = l.length := by have := HE.out.1; omega
      have hge : ¬ (j : Int) < ln := by omega
      have HT : Hid (textL nm (l.take j) = textL nm l) := by show _ = _; rw [hje, List.take_of_length_le (Nat.le_refl _)]
      by_cases hnil : textL nm l = []
      · have hj0 : j = 0 := by
          refine Nat.eq_zero_of_not_pos fun h0 => ?_
          cases l with
          | nil => simp at hje; omega
          | cons x l' =>
            rw [textL] at hnil
            exact stepL_ne nm x (List.append_eq_nil_iff.1 hnil).1
        have hw := hz hj0
        subst hw
        have HC := hidLL (string_nil w.heap.size bb w3 (by rw [HBB.out]; exact H0.out.2.2))
        have HB := hidLL hbel
        have HNil := hidLL hnil
        clear hP hbel hz hnil
        go_wp2_with fail
        refine HC.out.mono ?_
        rintro e w9 ⟨rfl, hb9⟩
        have HB9 := hidLL hb9
        clear hb9
        go_wp2
        go_ret
        exact ⟨by rw [HNil.out]; rfl, HB.out.trans HB9.out⟩
      · have HC := hidLL (string_any w.heap.size bb _ w3 hP (by rw [HT.out]; exact hnil))
        rw [HT.out] at HC
        have HB := hidLL hbel
        clear hP hbel hz hnil
        go_wp2_with fail
        refine HC.out.mono ?_
        rintro e w9 ⟨rfl, hb9⟩
        have HB9 := hidLL hb9
        clear hb9
        go_wp2
        go_ret
        exact ⟨rfl, HB.out.trans HB9.out⟩
end Go.Proofs.YtfnlcblalieolaaDoor

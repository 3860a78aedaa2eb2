/-
  Package script: Less, by contracts.
-/
import Derived.Test.YtgfaeeacndpniaaDoorLabP2
import Derived.Test.YtgfaeeacndpniaaDoorLabP4
namespace Go.Proofs.YtgfaeeacndpniaaDoor
open Go.RowKit Go.Extern.Stop Go.Stop Go.Extern

theorem lessB_no1 {a b : ByteArray} (h : ¬ ∃ k l, Lab a k l) : lessB a b = false := by unfold lessB; rw [labK_no h]; simp
theorem lessB_no2 {a b : ByteArray} (h : ¬ ∃ k l, Lab b k l) : lessB a b = false := by unfold lessB; rw [labK_no h]; simp
theorem lessB_same {a b : ByteArray} {k k' : Nat} {l : Bool} (ha : Lab a k l) (hb : Lab b k' l) : decide (orI (sf (a.extract 0 k) (b.extract 0 k')) (sf (a.extract k a.size) (b.extract k' b.size)) < 0) = lessB a b := by
  refine (key_same ha hb (sf (a.extract 0 k) (b.extract 0 k')) (sf (a.extract k a.size) (b.extract k' b.size)) _ ?_ ?_ ?_).symm
  · have := sf_cmp (a := a.extract 0 k) (b := b.extract 0 k') (by rw [bl_stem]; exact ha.nz1) (by rw [bl_stem]; exact hb.nz1)
    rw [bl_stem, bl_stem] at this
    exact this
  · have := sf_cmp (a := a.extract k a.size) (b := b.extract k' b.size) (by rw [bl_caps]; exact ha.nz2) (by rw [bl_caps]; exact hb.nz2)
    rw [bl_caps, bl_caps] at this
    exact this
  · unfold orI
    by_cases h : sf (a.extract 0 k) (b.extract 0 k') = 0
    · exact .inr ⟨h, if_pos h⟩
    · exact .inl ⟨h, if_neg h⟩

set_option maxHeartbeats 4000000 in
set_option maxRecDepth 10000 in
theorem less_any (a b : ByteArray) (ha : a.size ≤ 3000) (hb : b.size ≤ 3000) (w : World) (hT : Lib.Utf8Tabs 3 4 w) :
    Calls Tryd.prog 5 #[.string a, .string b] w fun e w' => e = .returned (.bool (lessB a b)) ∧ Below w.heap.size w w' := by
  have HT := hidL hT
  have HA := hidL (readLabel_any a (by omega) w hT)
  have HB := hidL (fun W hT => readLabel_any b (by omega) W hT)
  clear hT
  go_enter Tryd.func5, Tryd.ntmps5
  go_wp2_with fail
  refine HA.out.mono ?_
  rintro e W1 ⟨hb1, hA⟩
  have H1 := hidL hb1
  clear hb1
  rcases hA with ⟨k, l, hL, rfl⟩ | ⟨hN, v0, v1, v2, rfl⟩
  · have HL := hidL hL
    have H2 := hidL (H1.out.trans ((belA W1 (.cells #[.bool l, .string (a.extract 0 k), .string (a.extract k a.size)] 43)).mono H1.out.size))
    have HX := hidL (L3.mk' W1 l (a.extract 0 k) (a.extract k a.size) 43)
    clear hL
    generalize hs1 : a.extract 0 k = s1 at *
    generalize hc1 : a.extract k a.size = c1 at *
    have Hs1 := hidL hs1
    have Hc1 := hidL hc1
    clear hs1 hc1
    go_wp2_with fail
    refine (HB.out _ (tabs_below HT.out H2.out)).mono ?_
    rintro e W2 ⟨hb2, hB⟩
    have HX2 := hidL (HX.out.on hb2)
    have H3 := hidL (H2.out.trans (hb2.mono H2.out.size))
    clear hb2
    rcases hB with ⟨k', l', hL', rfl⟩ | ⟨hN, v0, v1, v2, rfl⟩
    · have HL' := hidL hL'
      clear hL'
      generalize hs2 : b.extract 0 k' = s2 at *
      generalize hc2 : b.extract k' b.size = c2 at *
      have Hs2 := hidL hs2
      have Hc2 := hidL hc2
      clear hs2 hc2
      have HX3 := hidL (HX2.out.on (belA W2 (.cells #[.bool l', .string s2, .string c2] 43)))
      have H4 := hidL (H3.out.trans ((belA W2 (.cells #[.bool l', .string s2, .string c2] 43)).mono H3.out.size))
      have x0 := HX3.out.c0
      have x1 := HX3.out.c1
      have x2 := HX3.out.c2
      by_cases hll : l = l'
      · subst hll
        have HE : Hid (decide (orI (sf s1 s2) (sf c1 c2) < 0) = lessB a b) := by
          show _ = _
          rw [← Hs1.out, ← Hs2.out, ← Hc1.out, ← Hc2.out]
          exact lessB_same HL.out HL'.out
        go_wp2_with fail
        refine (ahead_same l s1 c1 s2 c2 _).mono ?_
        rintro e W3 ⟨rfl, hb3⟩
        have H5 := hidL (H4.out.trans (hb3.mono H4.out.size))
        clear hb3
        rw [HE.out]
        go_wp2
        go_ret
        exact ⟨rfl, H5.out⟩
      · have HE := hidL (key_diff HL.out HL'.out hll)
        have HH := hidL hll
        clear hll
        go_wp2_with fail
        refine (ahead_diff l l' s1 c1 s2 c2 _ HH.out).mono ?_
        rintro e W3 ⟨rfl, hb3⟩
        have H5 := hidL (H4.out.trans (hb3.mono H4.out.size))
        clear hb3
        go_wp2
        go_ret
        exact ⟨ret_b HE.out.symm, H5.out⟩
    · have HE := hidL (lessB_no2 (a := a) hN)
      clear hN
      have H4 := hidL (H3.out.trans ((belA W2 (.cells #[.bool v0, .string v1, .string v2] 43)).mono H3.out.size))
      go_wp2
      go_ret
      exact ⟨ret_b HE.out.symm, H4.out⟩
  · have HE := hidL (lessB_no1 (b := b) hN)
    clear hN
    have H2 := hidL (H1.out.trans ((belA W1 (.cells #[.bool v0, .string v1, .string v2] 43)).mono H1.out.size))
    go_wp2_with fail
    refine (HB.out _ (tabs_below HT.out H2.out)).mono ?_
    rintro e W2 ⟨hb2, hB⟩
    have H3 := hidL (H2.out.trans (hb2.mono H2.out.size))
    clear hb2
    rcases hB with ⟨k', l', hL', rfl⟩ | ⟨hN, u0, u1, u2, rfl⟩
    · have H4 := hidL (H3.out.trans ((belA W2 (.cells #[.bool l', .string (b.extract 0 k'), .string (b.extract k' b.size)] 43)).mono H3.out.size))
      go_wp2
      go_ret
      exact ⟨ret_b HE.out.symm, H4.out⟩
    · have H4 := hidL (H3.out.trans ((belA W2 (.cells #[.bool u0, .string u1, .string u2] 43)).mono H3.out.size))
      go_wp2
      go_ret
      exact ⟨ret_b HE.out.symm, H4.out⟩
end Go.Proofs.YtgfaeeacndpniaaDoor

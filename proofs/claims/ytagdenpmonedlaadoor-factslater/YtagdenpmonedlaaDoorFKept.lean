/-
  FactsKept: the law's walk.
-/
import Derived.Test.YtagdenpmonedlaaDoorFFiles
import Derived.Test.YtagdenpmonedlaaDoorFVal
import Derived.Test.YtagdenpmonedlaaDoorFLat2
import Derived.Test.YtagdenpmonedlaaDoorFTurnR
namespace Go.Proofs.YtagdenpmonedlaaDoor
open Go.RowKit Go.Extern.Stop Go.Stop Go.Extern

theorem few_short {l : List Fct} (h : fewB l = true) : (∀ x ∈ l, x.nm.size ≤ 100000) ∧ l.length ≤ 502 := by
  unfold fewB at h
  simp at h
  exact ⟨fun x hx => by have := h.1 x hx; omega, h.2⟩
theorem others_few (L : List Fct) (who : Int) (nm : ByteArray) (on known : Int) : (othersL L who nm on known).length ≤ 100000 := by
  have := othersTo_len L who nm on known 40
  unfold othersTo at this
  unfold othersL
  omega
theorem turns_few {L : List Fct} (h : L.length ≤ 500) (who known : Int) : (turnsL L who known).length ≤ 100000 := by
  have h1 := insF_len (turnsRaw L who known) []
  have h2 := turns_len L who known
  unfold turnsL
  simp only [List.length_nil] at h1
  omega
theorem learnt_few {L : List Fct} (h : L.length ≤ 500) : (learntL L).length ≤ 100000 := by
  have h1 := insF_len (L.map Fct.lrn) []
  unfold learntL
  rw [List.length_map] at h1
  simp only [List.length_nil] at h1
  omega
set_option maxHeartbeats 8000000 in
set_option maxRecDepth 100000 in
theorem kept_walk {w : World} {a : Option Addr} {c : Nat} {l : List Fct} (hr : FRead w a l) (hl : l.length ≤ 9223372036854775807) (p : Nat → Addr) (Lw : Laid w p) (who : Int) (nm : ByteArray) (on known : Int) :
    Calls Tryd.prog 3 #[.slice a l.length c, .int .i64 who, .string nm, .int .i64 on, .int .i64 known] w fun e w' => e = .returned (.bool true) ∧ Below w.heap.size w w' := by
  have HFew := hidLL (few_l (c := c) hr hl)
  have HNil := hidLL (files_l (w := w) (a := none) (c := 0) (l := []) (fun i x hx => by simp at hx) (by simp) (by simp) p Lw)
  have HFil : Hid (fewB l = true → ∀ W : World, Below w.heap.size w W → Calls Tryd.prog 6 #[.slice a l.length c] W fun e w' => ∃ B b1 b2, e = .returned (.tuple #[.pointer (some ⟨b1, 0, none⟩), .pointer (some ⟨b2, 0, none⟩), .bool true]) ∧ Two W.heap.size W w' B b1 b2 (filesL l)) := fun hf W hW =>
    files_l (hr.bel hW) hl (few_short hf).1 p (Lw.below hW)
  clear hr Lw
  obtain ⟨m, hm⟩ : ∃ m, m = l.length := ⟨_, rfl⟩
  rw [← hm] at hl HFew HFil ⊢
  clear hm
  cases hfw : fewB l
  · rw [hfw] at HFew
    clear hfw HFil
    go_enter Tryd.func3, Tryd.ntmps3
    go_wp2_with fail
    refine HFew.out.mono ?_
    rintro e w1 ⟨rfl, ew⟩
    subst w1
    go_wp2_with fail
    refine HNil.out.mono ?_
    rintro e w1 ⟨B, b1, b2, rfl, ht⟩
    have HB := hidLL ht.bel
    clear ht
    go_wp2
    go_ret
    exact ⟨rfl, HB.out⟩
  · have HFL := hidLL (HFil.out hfw)
    rw [hfw] at HFew
    clear hfw HFil
    by_cases hlong : nm.size ≤ 3000
    · have hlz : ¬ (3000 : Int) < nm.size := by omega
      have HOk := hidLL (files_ok l)
      go_enter Tryd.func3, Tryd.ntmps3
      go_wp2_with fail
      refine HFew.out.mono ?_
      rintro e w1 ⟨rfl, ew⟩
      subst w1
      go_wp2_with fail
      refine HNil.out.mono ?_
      rintro e w1 ⟨B0, b01, b02, rfl, ht⟩
      have HB1 := hidLL ht.bel
      clear ht HNil
      go_wp2_with fail
      refine (HFL.out w1 HB1.out).mono ?_
      rintro e w2 ⟨B, b1, b2, rfl, ht2⟩
      have HT2 := hidLL ht2
      have HB2 := hidLL (HB1.out.trans (ht2.bel.mono HB1.out.size))
      clear ht2
      generalize filesL l = L at *
      have hlen := HOk.out.1
      have HGd := hidLL HOk.out.2
      obtain ⟨n, hn⟩ : ∃ n, n = L.length := ⟨_, rfl⟩
      have HN := hidLL hn
      obtain ⟨s1, hp1⟩ := HT2.out.p
      obtain ⟨s2, hr1⟩ := HT2.out.r
      have HSz : Hid (∀ q : Nat, Calls Tryd.prog 7 #[.pointer (some ⟨b1, 0, none⟩)] (w2.drewN q) fun e w' => e = .returned (.int .i64 n) ∧ w' = w2.drewN q) := fun q => by
        rw [hn]
        exact size_f (hp1.bel (bdrewN (Below.refl _ _) q))
      obtain ⟨ra, rc, hs2, _⟩ := hr1.row.slice
      subst hs2
      have hc2 := hr1.cell
      have hb2 := hr1.inH
      rw [← hn] at hc2 hlen
      clear hp1 hr1 hn
      go_wp2_with fail
      go_quiet ((go_at_call 7; exact Calls.quiet_of_same (HSz.out _)))
      go_wp2_with fail
      go_loopw [15] (fun t wr => ∃ k : Int, -1 ≤ k ∧ k ≤ n + 1 ∧ t = .int .i64 k ∧ Two w1.heap.size w1 wr B b1 b2 L) (fun t _ => (n + 1 - RowKit.intOf t).toNat)
      case atStart => exact ⟨-1, by omega, by omega, rfl, HT2.out.on (bdrewN (Below.refl _ _) _)⟩
      case round =>
        clear HSz hc2 hb2
        obtain ⟨k, hk1, hk2, rfl, ht⟩ := hrel
        have HT := hidLL ht
        obtain ⟨s1, hp1⟩ := ht.p
        obtain ⟨s2, hr1⟩ := ht.r
        obtain ⟨ra, rc, hs2, hrd, _⟩ := hr1.row.slice
        subst hs2
        have hcl := hr1.cell
        have hbl := hr1.inH
        rw [← HN.out] at hcl
        have HRd := hidLL hrd
        have HP := hidLL hp1
        clear ht hp1 hr1 hrd
        have HA7 : Hid (∀ (W : World) (o : Obj), Below wr.heap.size wr W → Below wr.heap.size wr (W.alloc o)) := fun W o hW => hW.alloc hW.size o
        by_cases hkn : k ≤ n
        · by_cases hin : 0 ≤ k ∧ k < n
          · obtain ⟨j, rfl⟩ : ∃ j : Nat, k = j := ⟨k.toNat, by omega⟩
            have hjn : j < n := by omega
            obtain ⟨x, hx⟩ : ∃ x, L[j]? = some x := ⟨_, List.getElem?_eq_getElem (by have := HN.out; omega)⟩
            have HHit := hidLL (fact_hit HP.out j x hx)
            have HFa := hidLL (fact_l x)
            obtain ⟨g, o, rfl, hg, x0, x1, x2, x3, x4, x5, x6⟩ := HRd.out.cells hx
            clear hx
            obtain ⟨xw, xn, xo, xv, xf, xt, xl⟩ := x
            simp only at x0 x1 x2 x3 x4 x5 x6 HHit HFa
            have h0j : (0 : Int) ≤ j := by omega
            have hjz : (j : Int) < n := by omega
            go_wp2_with fail
            refine HHit.out.mono ?_
            rintro e w3 ⟨rfl, hb3⟩
            have HB3 := hidLL hb3
            have hcl3 := (hb3.cell (p := ⟨b2, 0, none⟩) hbl).trans hcl
            have hs3 := hb3.size
            have hbl3 : b2 < w3.heap.size := by omega
            clear hb3
            go_wp2_with fail
            generalize hW : w3.alloc (.cells #[.int .i64 xw, .string xn, .int .i64 xo, .int .i64 xv, .int .i64 xf, .int .i64 xt, .int .i64 xl] 32) = W at *
            have HBW : Hid (Below wr.heap.size wr W) := by show Below _ _ _; rw [← hW]; exact HB3.out.alloc hs3 _
            have hsW : W.heap.size = w3.heap.size + 1 := by rw [← hW]; simp
            have z0 : W.cell? ⟨w3.heap.size, 0, none⟩ = some (.int .i64 xw) := by rw [← hW]; simp
            have y0 := (HBW.out.cell (p := ⟨g, o + j * 7, none⟩) hg).trans x0
            have z1 : W.cell? ⟨w3.heap.size, 1, none⟩ = some (.string xn) := by rw [← hW]; simp
            have y1 := (HBW.out.cell (p := ⟨g, o + j * 7 + 1, none⟩) hg).trans x1
            have z2 : W.cell? ⟨w3.heap.size, 2, none⟩ = some (.int .i64 xo) := by rw [← hW]; simp
            have y2 := (HBW.out.cell (p := ⟨g, o + j * 7 + 2, none⟩) hg).trans x2
            have z3 : W.cell? ⟨w3.heap.size, 3, none⟩ = some (.int .i64 xv) := by rw [← hW]; simp
            have y3 := (HBW.out.cell (p := ⟨g, o + j * 7 + 3, none⟩) hg).trans x3
            have z4 : W.cell? ⟨w3.heap.size, 4, none⟩ = some (.int .i64 xf) := by rw [← hW]; simp
            have y4 := (HBW.out.cell (p := ⟨g, o + j * 7 + 4, none⟩) hg).trans x4
            have z5 : W.cell? ⟨w3.heap.size, 5, none⟩ = some (.int .i64 xt) := by rw [← hW]; simp
            have y5 := (HBW.out.cell (p := ⟨g, o + j * 7 + 5, none⟩) hg).trans x5
            have z6 : W.cell? ⟨w3.heap.size, 6, none⟩ = some (.int .i64 xl) := by rw [← hW]; simp
            have y6 := (HBW.out.cell (p := ⟨g, o + j * 7 + 6, none⟩) hg).trans x6
            have cW := (HBW.out.cell (p := ⟨b2, 0, none⟩) hbl).trans hcl
            have hin5 : w3.heap.size < W.heap.size := by omega
            clear hW x0 x1 x2 x3 x4 x5 x6 hcl hcl3
            go_region_law (first | (go_simp; go_at_call 9; refine (HFa.out _).mono ?_; rintro e w5 ⟨rfl, hb5⟩; have v0 := (hb5.cell (p := ⟨w3.heap.size, 0, none⟩) hin5).trans z0; have v1 := (hb5.cell (p := ⟨w3.heap.size, 1, none⟩) hin5).trans z1; have v2 := (hb5.cell (p := ⟨w3.heap.size, 2, none⟩) hin5).trans z2; have v3 := (hb5.cell (p := ⟨w3.heap.size, 3, none⟩) hin5).trans z3; have v4 := (hb5.cell (p := ⟨w3.heap.size, 4, none⟩) hin5).trans z4; have v5 := (hb5.cell (p := ⟨w3.heap.size, 5, none⟩) hin5).trans z5; have v6 := (hb5.cell (p := ⟨w3.heap.size, 6, none⟩) hin5).trans z6; have HB5 := hidLL hb5; clear hb5))
            all_goals
              go_wp2_with fail
              go_roundw
              case rel => exact ⟨j + 1, by omega, by omega, by go_num, HT.out.on (HBW.out.drew.trans (HB5.out.mono (show wr.heap.size ≤ W.heap.size by omega)))⟩
              case measure => simp [RowKit.intOf]; omega
          · have HMiss := hidLL (fact_miss HP.out k (by rw [← HN.out]; omega))
            have HEnd : Hid (∀ W : World, Below wr.heap.size wr W → ∀ o q, Two w1.heap.size w1 ((W.alloc o).drewN q) B b1 b2 L) := fun W hW o q => HT.out.on (bdrewN (hW.alloc hW.size o) q)
            by_cases hk0 : k < 0
            · obtain rfl : k = -1 := by omega
              have hm1 : (-1 : Int) ≤ n := by omega
              clear hin hk1 hk2 hkn hk0
              go_wp2_with fail
              refine HMiss.out.mono ?_
              rintro e w3 ⟨rfl, hb3⟩
              have HE3 := hidLL (HEnd.out w3 hb3)
              have hcl3 := (hb3.cell (p := ⟨b2, 0, none⟩) hbl).trans hcl
              clear hb3
              go_wp2_with fail
              go_quiet (fail)
              go_wp2_with fail
              go_roundw
              case rel => exact ⟨0, by omega, by omega, by go_num, HE3.out _ _⟩
              case measure => simp [RowKit.intOf]; omega
            · obtain rfl : k = n := by omega
              have hm1 : (0 : Int) ≤ n := by omega
              have hm2 : ¬ (n : Int) < 0 := by omega
              clear hin hk1 hk2 hkn hk0
              go_wp2_with fail
              refine HMiss.out.mono ?_
              rintro e w3 ⟨rfl, hb3⟩
              have HE3 := hidLL (HEnd.out w3 hb3)
              have hcl3 := (hb3.cell (p := ⟨b2, 0, none⟩) hbl).trans hcl
              have hs3 := hb3.size
              have hbl3 : b2 < w3.heap.size := by omega
              clear hb3
              go_wp2_with fail
              go_quiet (fail)
              go_wp2_with fail
              go_roundw
              case rel => exact ⟨n + 1, by omega, by omega, by go_num, HE3.out _ _⟩
              case measure => simp [RowKit.intOf]
        · have hkz : ¬ k ≤ (n : Int) := hkn
          have hkz2 : (n : Int) < k := by omega
          clear HRd hk1 hk2 hkn
          have hl5 : L.length ≤ 500 := by rw [← HN.out]; exact hlen
          have HV1 := hidLL (value_f HP.out HGd.out hl5 who nm on known)
          generalize hvv : valL L who nm on known = vv at *
          go_wp2_with fail
          refine HV1.out.mono ?_
          rintro e w3 ⟨rfl, hb⟩
          have HT3 := hidLL (HT.out.on hb)
          have hr3 := (HT.out.on hb).r
          clear hb HV1
          obtain ⟨t2, hr3⟩ := hr3
          have HV2 := hidLL (value_r hr3 hl5 who nm on known)
          rw [hvv] at HV2
          clear hr3
          go_wp2_with fail
          refine HV2.out.mono ?_
          rintro e w4 ⟨rfl, hb⟩
          have HT4 := hidLL (HT3.out.on hb)
          have hp4 := (HT3.out.on hb).p
          clear hb HV2 hvv
          obtain ⟨t1, hp4⟩ := hp4
          have HO1 := hidLL (others_f hp4 HGd.out hl5 who nm on known)
          clear hp4
          go_wp2_with fail
          refine HO1.out.mono ?_
          rintro e w5 ⟨o1, rfl, hi1, hb⟩
          have HT5 := hidLL (HT4.out.on hb)
          have hr5 := (HT4.out.on hb).r
          have HI1 := hidLL hi1
          clear hb HO1 hi1
          obtain ⟨t2, hr5⟩ := hr5
          have HO2 := hidLL (others_r hr5 hl5 who nm on known)
          clear hr5
          go_wp2_with fail
          refine HO2.out.mono ?_
          rintro e w6 ⟨o2, rfl, hi2, hb⟩
          have HT6 := hidLL (HT5.out.on hb)
          have HS := hidLL (same_l (HI1.out.bel hb) hi2 (others_few L who nm on known))
          clear hb HO2 hi2 HI1
          go_wp2_with fail
          refine HS.out.mono ?_
          rintro e w7 ⟨rfl, hb⟩
          have HT7 := hidLL (HT6.out.on hb)
          have hp7 := (HT6.out.on hb).p
          clear hb HS
          obtain ⟨t1, hp7⟩ := hp7
          have HU1 := hidLL (turns_f hp7 hl5 who known)
          clear hp7
          go_wp2_with fail
          refine HU1.out.mono ?_
          rintro e w8 ⟨o3, rfl, hi1, hb⟩
          have HT8 := hidLL (HT7.out.on hb)
          have hr8 := (HT7.out.on hb).r
          have HI1 := hidLL hi1
          clear hb HU1 hi1
          obtain ⟨t2, hr8⟩ := hr8
          have HU2 := hidLL (turns_r hr8 hl5 who known)
          clear hr8
          go_wp2_with fail
          refine HU2.out.mono ?_
          rintro e w9 ⟨o4, rfl, hi2, hb⟩
          have HT9 := hidLL (HT8.out.on hb)
          have HS := hidLL (same_l (HI1.out.bel hb) hi2 (turns_few hl5 who known))
          clear hb HU2 hi2 HI1
          go_wp2_with fail
          refine HS.out.mono ?_
          rintro e w10 ⟨rfl, hb⟩
          have HT10 := hidLL (HT9.out.on hb)
          have hp10 := (HT9.out.on hb).p
          clear hb HS
          obtain ⟨t1, hp10⟩ := hp10
          have HU1 := hidLL (learnt_f hp10 hl5)
          clear hp10
          go_wp2_with fail
          refine HU1.out.mono ?_
          rintro e w11 ⟨o5, rfl, hi1, hb⟩
          have HT11 := hidLL (HT10.out.on hb)
          have hr11 := (HT10.out.on hb).r
          have HI1 := hidLL hi1
          clear hb HU1 hi1
          obtain ⟨t2, hr11⟩ := hr11
          have HU2 := hidLL (learnt_r hr11 hl5)
          clear hr11
          go_wp2_with fail
          refine HU2.out.mono ?_
          rintro e w12 ⟨o6, rfl, hi2, hb⟩
          have HT12 := hidLL (HT11.out.on hb)
          have HS := hidLL (same_l (HI1.out.bel hb) hi2 (learnt_few hl5))
          clear hb HU2 hi2 HI1
          go_wp2_with fail
          refine HS.out.mono ?_
          rintro e w13 ⟨rfl, hb⟩
          have HT13 := hidLL (HT12.out.on hb)
          clear hb HS
          go_wp2
          go_ret
          exact ⟨retB (by simp), HB1.out.trans (HT13.out.bel.mono HB1.out.size)⟩
    · have hlz : (3000 : Int) < nm.size := by omega
      clear HFL
      go_enter Tryd.func3, Tryd.ntmps3
      go_wp2_with fail
      refine HFew.out.mono ?_
      rintro e w1 ⟨rfl, ew⟩
      subst w1
      go_wp2_with fail
      refine HNil.out.mono ?_
      rintro e w1 ⟨B, b1, b2, rfl, ht⟩
      have HB := hidLL ht.bel
      clear ht
      go_wp2
      go_ret
      exact ⟨rfl, HB.out⟩
end Go.Proofs.YtagdenpmonedlaaDoor

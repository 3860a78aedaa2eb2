/-
  Package reason: from which claims one follows: whyFails.
-/
import Derived.Test.YtmbclnaenjcocaaGreatDoorRsCat
namespace Go.Proofs.YtmbclnaenjcocaaGreatDoor
open Go.RowKit
variable {w : World} {bL bR hi : Nat} {H : Sh} {V : Vs} {s : St}

theorem allC_len {hi' i : Nat} (hi : i < H.R) (h : Net w bL bR hi' H V s) (a : Bool) : (allC H i a).length ≤ 120 := by
  unfold allC; rw [List.length_map]; exact (h.bd i hi).2
theorem noneC_len {l : List Nat} (hl : l.length ≤ 100000) : (l.flatMap (gMay H s)).length ≤ 100000 := by
  have := flat_bd (f := gMay H s) (m := 1) gMay_bd l
  omega
theorem cells3 (W : World) (a b c : Value) (t : TypeId) : (W.alloc (.cells #[a, b, c] t)).cell? ⟨W.heap.size, 0, none⟩ = some a ∧ (W.alloc (.cells #[a, b, c] t)).cell? ⟨W.heap.size, 1, none⟩ = some b ∧ (W.alloc (.cells #[a, b, c] t)).cell? ⟨W.heap.size, 2, none⟩ = some c := by
  have h := Go.Deep.blk_alloc_new W (.cells #[a, b, c] t)
  exact ⟨by rw [cell_of_row _ _ 0 #[a, b, c] t (0, 0) h]; rfl, by rw [cell_of_row _ _ 1 #[a, b, c] t (0, 0) h]; rfl, by rw [cell_of_row _ _ 2 #[a, b, c] t (0, 0) h]; rfl⟩
set_option maxHeartbeats 4000000 in
set_option maxRecDepth 100000 in
theorem whyFails_p (h : Net w bL bR hi H V s) {p : Nat} (hp : p < 2 * H.N) (hq1 : -1000000 ≤ litOf p) (hq2 : litOf p ≤ 1000000) (hU : ∀ i, 0 ≤ s.uh i) : Calls Tryz.prog 68 #[.pointer (some ⟨bL, p * 6, none⟩)] w (FrR w (fFail H s p) (failC H s p)) := by
  obtain ⟨x0, x1, x2, x3, x4, x5, xf⟩ := h.lit hp
  obtain ⟨o0, o1, o2, o3, o4, o5, of⟩ := h.lit (opp_lt hp)
  have hr := h.ru p hp
  have hr' := h.ru (opp p) (opp_lt hp)
  have hr2 := hr
  obtain ⟨ra, rc, er, hrl, _⟩ := hr2
  have hr3 := hr'
  obtain ⟨qa, qc, eq, hql, _⟩ := hr3
  rw [er] at x2 hr
  rw [eq] at o2 hr'
  have HR' := hidLL hr'
  have HN := hidLL h
  have HNone : Hid (∀ W, Below w.heap.size w W → Calls Tryz.prog 84 #[.slice ra (H.ru p).length rc] W (FrR W (!(H.ru p).any (bMay H s)) ((H.ru p).flatMap (gMay H s)))) := fun W hb => by
    have hg := h.grown hb
    have := whyNone_p hg (hg.ru p hp)
    rw [er] at this
    exact this
  have HAll : Hid (∀ W i, Below w.heap.size w W → i < H.R → Calls Tryz.prog 82 #[.pointer (some ⟨bR, i * 7, none⟩), .bool false] W fun e w' => ∃ ad n c, e = .returned (.slice ad n c) ∧ Below W.heap.size W w' ∧ CRow w' W.heap.size (.slice ad n c) (allC H i false) ∧ Below w.heap.size w w') := fun W i hb hi => by
    refine (all_p (h.grown hb) hi false).mono ?_
    rintro e w' ⟨ad, n, c, rfl, h1, h2⟩
    exact ⟨ad, n, c, rfl, h1, h2, hb.trans (h1.mono hb.size)⟩
  have HALn : Hid (∀ i, i < H.R → (allC H i false).length ≤ 120) := fun i hi => allC_len hi h false
  have HAbs : Hid (∀ W i, Below w.heap.size w W → i < H.R → ∃ (ba : Option Addr) (bc : Nat), W.cell? ⟨bR, i * 7 + 2, none⟩ = some (.slice ba (H.ab i).length bc) ∧ W.cell? ⟨bR, i * 7 + 4, none⟩ = some (.int .i64 (s.uh i)) ∧ (H.ab i).length ≤ 100000 ∧ Calls Tryz.prog 84 #[.slice ba (H.ab i).length bc] W (FrR W (!(H.ab i).any (bMay H s)) ((H.ab i).flatMap (gMay H s)))) := fun W i hb hi => by
    have hN := h.grown hb
    obtain ⟨y0, y1, y2, y3, y4, y5, y6, yf⟩ := hN.std hi
    have hab := hN.ab i hi
    have hab2 := hab
    obtain ⟨ba, bc, e, hlen, _⟩ := hab2
    have hc := whyNone_p hN hab
    rw [e] at y2 hc
    exact ⟨ba, bc, y2, y4, hlen, hc⟩
  have HF : Hid (fFail H s p = (s.su p == 2 && (s.su (opp p) == 1 || !(H.ru p).any (bMay H s) || (H.ru (opp p)).any (bStop H s)))) := rfl
  have HHC : Hid (failC H s p = if s.su (opp p) = 1 then [(true, false, litOf p), (true, true, -litOf p)] else if (H.ru p).any (bMay H s) then (match (H.ru (opp p)).find? (bStop H s) with
  | some k => (true, false, litOf p) :: (allC H k false ++ (H.ab k).flatMap (gMay H s))
  | none => []) else (true, false, litOf p) :: (H.ru p).flatMap (gMay H s)) := rfl
  have HNL : Hid (((H.ru p).flatMap (gMay H s)).length ≤ 100000) := noneC_len hrl
  have hLw : bL < w.heap.size := h.rowL.lt
  have HUu := hidLL hU
  clear h er eq hr hr' x3 x5 xf o0 o1 o3 o5 of hU
  generalize fFail H s p = F at *
  generalize failC H s p = Z at *
  generalize s.su p = k1 at *
  generalize s.su (opp p) = k2 at *
  generalize litOf p = q at *
  obtain ⟨X, hX⟩ : ∃ X, X = p * 6 := ⟨_, rfl⟩
  rw [← hX] at x0 x1 x2 x4 ⊢
  obtain ⟨Y, hY⟩ : ∃ Y, Y = opp p * 6 := ⟨_, rfl⟩
  rw [← hY] at x1 o2 o4
  clear hX hY
  obtain ⟨l, hl⟩ : ∃ l, l = H.ru (opp p) := ⟨_, rfl⟩
  rw [← hl] at o2 HR' hql HF HHC
  clear hl
  generalize (H.ru p).flatMap (gMay H s) = NC at *
  generalize (H.ru p).any (bMay H s) = NB at *
  generalize (H.ru p).length = L at *
  have hwq : IntKind.i64.wrap (-q) = -q := by rw [IntKind.wrap_i64]; omega
  by_cases h1 : k1 = 2
  · subst h1
    obtain ⟨W0, hW0⟩ : ∃ W0 : World, W0 = w.alloc (.cells #[.bool true, .bool false, .int .i64 q] 65) := ⟨_, rfl⟩
    have hb0 : Below w.heap.size w W0 := by rw [hW0]; exact (Below.refl _ _).alloc (Nat.le_refl _) _
    have hc0 : CRow W0 w.heap.size (.slice (some ⟨w.heap.size, 0, none⟩) 1 1) [(true, false, q)] := by rw [hW0]; exact ⟨World.ownsRow_lit (size := 3) w #[.bool true, .bool false, .int .i64 q] 1 (Nat.le_refl _) (by unfold maxLen; omega) rfl, by simp⟩
    have z0 := (hb0.cell (p := ⟨bL, X, none⟩) hLw).trans x0
    have z1 := (hb0.cell (p := ⟨bL, X + 1, none⟩) hLw).trans x1
    have z2 := (hb0.cell (p := ⟨bL, X + 2, none⟩) hLw).trans x2
    have z4 := (hb0.cell (p := ⟨bL, Y + 4, none⟩) hLw).trans o4
    have hs0 := hb0.size
    have HW0 := hidLL hW0
    have HB0 := hidLL (And.intro hb0 hc0)
    have HNW := hidLL (HNone.out W0 hb0)
    clear hW0 hb0 hc0
    obtain ⟨g0, hg0⟩ : ∃ g0, g0 = w.heap.size := ⟨_, rfl⟩
    have HG0 := hidLL hg0
    by_cases h2 : k2 = 1
    · have HZ : Hid (Z = [(true, false, q), (true, true, -q)]) := by show _ = _; rw [HHC.out, if_pos h2]
      have HF1 : Hid (F = true) := by show _ = _; rw [HF.out, h2]; rfl
      subst h2
      clear HHC HF hg0
      go_enter Tryz.func68, Tryz.ntmps68
      go_upto_region 4 with fail
      rw [← HW0.out]
      go_wp2_with (first
        | (at_builtin; refine wpList_push_clm (W := W0) rfl (.tmp 30) (.tmp 37) rfl w.heap.size (.slice (some ⟨w.heap.size, 0, none⟩) 1 1) [(true, false, q)] true true (-q) rfl HB0.out.2 (by simp [Act.eval]) hs0 (by simp) ?_; intro v' w3 hr3 hb3)
        | go_in)
      obtain ⟨ad', c', ev⟩ := hr3.any
      subst ev
      have HR3 := hidLL (And.intro hr3 hb3)
      clear hr3 hb3
      go_ret2
      exact ⟨_, _, _, by rw [HF1.out]; rfl, HB0.out.1.trans HR3.out.2, fun _ => by rw [HZ.out]; exact HR3.out.1⟩
    · have hk2 : (k2 == 1) = false := by simpa using h2
      cases NB with
      | false =>
        have HZ : Hid (Z = [(true, false, q)] ++ NC) := by show _ = _; rw [HHC.out, if_neg h2]; rfl
        have HF1 : Hid (F = true) := by show _ = _; rw [HF.out]; simp
        clear HHC HF hg0
        go_enter Tryz.func68, Tryz.ntmps68
        go_upto_region 4 with fail
        rw [← HW0.out]
        go_wp2_with fail
        refine HNW.out.mono ?_
        rintro e w5 ⟨ad5, n5, c5, rfl, hb5, hr5⟩
        have hs5 := hb5.size
        have H5 := hidLL (And.intro hb5 (hr5 rfl))
        clear hb5 hr5
        go_wp2_with (first
          | (at_builtin; refine wpList_app_clm (W := w5) rfl (.tmp 48) (.tmp 49) rfl w.heap.size (.slice (some ⟨w.heap.size, 0, none⟩) 1 1) (.slice ad5 n5 c5) [(true, false, q)] NC rfl (HB0.out.2.below H5.out.1) rfl H5.out.2.rd (by omega) (by have := HNL.out; simp only [List.length_cons, List.length_nil]; omega) ?_; intro v' w3 hr3 hb3)
          | go_in)
        obtain ⟨ad', c', ev⟩ := hr3.any
        obtain ⟨n8, hn8⟩ : ∃ n, n = ([(true, false, q)] ++ NC).length := ⟨_, rfl⟩
        rw [← hn8] at ev
        clear hn8
        subst ev
        have HR3 := hidLL (And.intro hr3 hb3)
        clear hr3 hb3
        go_ret2
        exact ⟨_, _, _, by rw [HF1.out]; rfl, (HB0.out.1.trans (H5.out.1.mono HB0.out.1.size)).trans HR3.out.2, fun _ => by rw [HZ.out]; exact HR3.out.1⟩
      | true =>
        have HF2 : Hid (F = l.any (bStop H s)) := by show _ = _; rw [HF.out, hk2]; simp
        have HZ : Hid (Z = match l.find? (bStop H s) with
          | some k => (true, false, q) :: (allC H k false ++ (H.ab k).flatMap (gMay H s))
          | none => []) := by show _ = _; rw [HHC.out, if_neg h2]; rfl
        obtain ⟨L', hL'⟩ : ∃ L', L' = l.length := ⟨_, rfl⟩
        rw [← hL'] at o2 HR' hql
        have HL' := hidLL hL'
        clear hL' HF HHC hg0
        go_enter Tryz.func68, Tryz.ntmps68
        go_upto_region 4 with fail
        rw [← HW0.out]
        go_wp2_with fail
        refine HNW.out.mono ?_
        rintro e w5 ⟨ad5, n5, c5, rfl, hb5, _⟩
        have hs5 := hb5.size
        have hbw5 := HB0.out.1.trans (hb5.mono HB0.out.1.size)
        have y1 := (hbw5.cell (p := ⟨bL, X + 1, none⟩) hLw).trans x1
        have y2 := (hbw5.cell (p := ⟨bL, Y + 2, none⟩) hLw).trans o2
        have H5 := hidLL (And.intro hbw5 (HB0.out.2.below hb5))
        clear hb5 hbw5 z0 z1 z2 z4
        go_wp2_with fail
        go_loopw [59] (fun t wr => ∃ j : Nat, j ≤ L' ∧ t = .int .i64 j ∧ Below w.heap.size w wr ∧ CRow wr w.heap.size (.slice (some ⟨w.heap.size, 0, none⟩) 1 1) [(true, false, q)] ∧ ∀ k x, k < j → l[k]? = some x → bStop H s x = false) (fun t _ => L' - (RowKit.intOf t).toNat)
        case atStart => exact ⟨0, by omega, rfl, H5.out.1, H5.out.2, by intro k x hk; omega⟩
        case round =>
          obtain ⟨j, hj, rfl, hbel, hrow, hall⟩ := hrel
          have HA := hidLL hall
          have HQ := hidLL (And.intro hbel hrow)
          have hsz := hbel.size
          clear hall hbel hrow
          by_cases hlt : j < L'
          · have hjz : (j : Int) < L' := by omega
            obtain ⟨i, hi2⟩ : ∃ i, l[j]? = some i := ⟨_, List.getElem?_eq_getElem (by have := HL'.out; omega)⟩
            obtain ⟨hiR, g', eg', _, hgh', cx0⟩ := HR'.out.at' hi2
            subst eg'
            have hgW : g' < w.heap.size := by have := HN.out.lt3; omega
            have cx : wr.cell? ⟨g', j, none⟩ = some (.pointer (some ⟨bR, i * 7, none⟩)) := (HQ.out.1.cell (p := ⟨g', j, none⟩) hgW).trans cx0
            obtain ⟨ba, bc, v2, v4, hlen, hnone⟩ := HAbs.out wr i HQ.out.1 hiR
            have hu := HUu.out i
            have HI := hidLL hi2
            have HB1 : Hid (bStop H s i = (s.uh i == 0 && !(H.ab i).any (bMay H s))) := rfl
            have HM : Hid (bStop H s i = false → ∀ k y, k < j + 1 → l[k]? = some y → bStop H s y = false) := fun hb k y hk hy => by
              rcases Nat.lt_or_ge k j with h | h
              · exact HA.out k y h hy
              · obtain rfl : k = j := by omega
                rw [HI.out] at hy
                obtain rfl := Option.some.inj hy
                exact hb
            have HNO := hidLL hnone
            have HLN : Hid (((H.ab i).flatMap (gMay H s)).length ≤ 100000) := noneC_len hlen
            have HAW := fun W hb => HAll.out W i hb hiR
            have HAW2 := hidLL HAW
            have HAi := HALn.out i hiR
            clear hi2 cx0 hnone HAW
            generalize s.uh i = n0 at *
            by_cases hn : n0 = 0
            · subst hn
              cases hNB : (H.ab i).any (bMay H s) with
              | true =>
                rw [hNB] at HNO HB1
                clear hNB
                have HM2 := hidLL (HM.out (by rw [HB1.out]; rfl))
                clear HAW2 HLN HAi
                generalize (H.ab i).length = La at *
                generalize i * 7 = Yi at *
                go_wp2_with fail
                refine HNO.out.mono ?_
                rintro e w6 ⟨ad6, n6, c6, rfl, hb6, _⟩
                have H6 := hidLL hb6
                clear hb6
                go_wp2
                go_roundw
                case rel => exact ⟨j + 1, by omega, by go_num, HQ.out.1.trans (H6.out.mono hsz), HQ.out.2.below H6.out, HM2.out⟩
                case measure => simp [RowKit.intOf]; omega
              | false =>
                rw [hNB] at HNO HB1
                clear hNB
                have HFt : Hid (F = true) := by show _ = _; rw [HF2.out]; exact any_at HI.out (by rw [HB1.out]; rfl)
                have HZ2 : Hid (Z = [(true, false, q)] ++ allC H i false ++ (H.ab i).flatMap (gMay H s)) := by
                  show _ = _
                  rw [HZ.out]
                  have hfind : l.find? (bStop H s) = some i := by
                    rw [List.find?_eq_some_iff_getElem]
                    obtain ⟨hjl, ej⟩ := List.getElem?_eq_some_iff.1 HI.out
                    refine ⟨by rw [HB1.out]; rfl, j, hjl, ej, fun k hk => ?_⟩
                    rw [HA.out k _ hk (List.getElem?_eq_getElem (by omega))]; rfl
                  rw [hfind]
                  simp
                generalize (H.ab i).flatMap (gMay H s) = N2 at *
                generalize allC H i false = A2 at *
                generalize (H.ab i).length = La at *
                generalize i * 7 = Yi at *
                go_wp2_with fail
                refine HNO.out.mono ?_
                rintro e w6 ⟨ad6, n6, c6, rfl, hb6, hr6⟩
                have hq6 := hr6 rfl
                have hbw6 := HQ.out.1.trans (hb6.mono hsz)
                have HAX := hidLL (HAW2.out w6 hbw6)
                have H6 := hidLL (And.intro hb6 (And.intro hq6 hbw6))
                clear hb6 hr6 hq6 hbw6
                go_wp2_with fail
                refine HAX.out.mono ?_
                rintro e w7 ⟨ad7, n7, c7, rfl, hb7, hr7, hz7⟩
                have hcat : Calls Tryz.prog 85 #[.slice (some ⟨w7.heap.size, 0, none⟩) 3 3] (w7.alloc (.cells #[.slice (some ⟨w.heap.size, 0, none⟩) 1 1, .slice ad7 n7 c7, .slice ad6 n6 c6] 66)) fun e w' => ∃ ad n c, e = .returned (.slice ad n c) ∧ Below w.heap.size w w' ∧ CRow w' w.heap.size (.slice ad n c) ([(true, false, q)] ++ A2 ++ N2) := by
                  have hal : Below w7.heap.size w7 (w7.alloc (.cells #[.slice (some ⟨w.heap.size, 0, none⟩) 1 1, .slice ad7 n7 c7, .slice ad6 n6 c6] 66)) := (Below.refl _ _).alloc (Nat.le_refl _) _
                  obtain ⟨q0, q1, q2⟩ := cells3 w7 (.slice (some ⟨w.heap.size, 0, none⟩) 1 1) (.slice ad7 n7 c7) (.slice ad6 n6 c6) 66
                  have r0 := (((HQ.out.2.below H6.out.1).below hb7).below hal).rd
                  have r1 := (hr7.below hal).rd
                  have r2 := ((H6.out.2.1.below hb7).below hal).rd
                  refine (concat_p q0 q1 q2 r0 r1 r2 (by have := HLN.out; simp only [List.length_cons, List.length_nil]; omega)).mono ?_
                  rintro e w' ⟨ad, n, c, rfl, g1, g2⟩
                  have hsz7 := hz7.size
                  exact ⟨ad, n, c, rfl, (hz7.trans (hal.mono hsz7)).trans (g1.mono (by simp; omega)), g2.mono (by simp; omega)⟩
                have HCat := hidLL hcat
                clear hb7 hr7 hz7 hcat
                go_wp2_with fail
                refine HCat.out.mono ?_
                rintro e w8 ⟨ad8, n8, c8, rfl, hb8, hr8⟩
                have H8 := hidLL (And.intro hb8 hr8)
                clear hb8 hr8
                go_wp2
                go_ret2
                exact ⟨_, _, _, by rw [HFt.out]; rfl, H8.out.1, fun _ => by rw [HZ2.out]; exact H8.out.2⟩
            · have hn2 : 0 < n0 := by omega
              have HM2 := hidLL (HM.out (by rw [HB1.out]; simp [hn]))
              clear HNO HAW2 HLN HAi
              generalize i * 7 = Yi at *
              go_wp2
              go_roundw
              case rel => exact ⟨j + 1, by omega, by go_num, HQ.out.1, HQ.out.2, HM2.out⟩
              case measure => simp [RowKit.intOf]; omega
          · obtain rfl : j = L' := by omega
            have hge : ¬ (j : Int) < j := by omega
            have HT : Hid (F = false) := by show _ = _; rw [HF2.out, none_any fun k x hk => HA.out k x (by have := (List.getElem?_eq_some_iff.1 hk).1; have := HL'.out; omega) hk]
            go_wp2
            go_ret2
            exact ⟨none, 0, 0, by rw [HT.out]; rfl, HQ.out.1, fun e => by rw [HT.out] at e; cases e⟩
  · have hk1 : (k1 != 2) = true := by simpa using h1
    have HF2 : Hid (F = false) := by show _ = _; rw [HF.out]; simp [h1]
    clear HHC HF
    generalize l.length = L' at *
    go_enter Tryz.func68, Tryz.ntmps68
    go_wp2
    go_ret2
    exact ⟨none, 0, 0, by rw [HF2.out]; rfl, Below.refl _ _, fun e => by rw [HF2.out] at e; cases e⟩
end Go.Proofs.YtmbclnaenjcocaaGreatDoor

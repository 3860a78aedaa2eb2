/-
  Package reason: from which claims one follows: whySure, whyNotSure, whyNoneCarries.
-/
import Derived.Test.YtmbclnaenjcocaaGreatDoorRsFrom1
namespace Go.Proofs.YtmbclnaenjcocaaGreatDoor
open Go.RowKit
variable {w : World} {bL bR hi : Nat} {H : Sh} {V : Vs} {s : St}

theorem PRow.at' {w : World} {bR hi R n c : Nat} {a : Option Addr} {l : List Nat} (h : PRow w bR hi R (.slice a n c) l) {j i : Nat} (hj : l[j]? = some i) : i < R ∧ ∃ g, a = some ⟨g, 0, none⟩ ∧ bR < g ∧ g < hi ∧ w.cell? ⟨g, j, none⟩ = some (.pointer (some ⟨bR, i * 7, none⟩)) := by
  obtain ⟨a', c', e, _, hx⟩ := h
  injection e with e1 _ _
  subst e1
  exact hx j i hj
set_option maxHeartbeats 1000000 in
theorem whySure_p (h : Net w bL bR hi H V s) {p : Nat} (hp : p < 2 * H.N) : Calls Tryz.prog 65 #[.pointer (some ⟨bL, p * 6, none⟩)] w (FrR w ((H.ru p).any (bSure H s)) (sureC H s p)) := by
  obtain ⟨x0, x1, x2, x3, x4, x5, xf⟩ := h.lit hp
  have hr := h.ru p hp
  have HC := hidLL (ix_sure h hr)
  have hr2 := hr
  obtain ⟨ra, rc, er, hrl, _⟩ := hr2
  rw [er] at x2 HC hr
  have HR := hidLL hr
  have HAll : Hid (∀ i, i < H.R → Calls Tryz.prog 82 #[.pointer (some ⟨bR, i * 7, none⟩), .bool true] w fun e w' => ∃ ad n c, e = .returned (.slice ad n c) ∧ Below w.heap.size w w' ∧ CRow w' w.heap.size (.slice ad n c) (allC H i true)) := fun i hi => all_p h hi true
  clear h er hr x0 x1 x3 x4 x5 xf
  generalize p * 6 = X at *
  rcases ix_cases (bSure H s) (H.ru p) with ⟨e1, e2, e3⟩ | ⟨j, x, e1, e2, e3, e4, e5⟩
  · rw [e1] at HC
    rw [e2]
    clear e1 e2
    generalize (H.ru p).length = L at *
    go_enter Tryz.func65, Tryz.ntmps65
    go_wp2_with fail
    refine HC.out.mono ?_
    rintro e w' ⟨rfl, ew⟩
    subst w'
    go_wp2
    go_ret2
    exact ⟨none, 0, 0, rfl, Below.refl _ _, fun e => by cases e⟩
  · rw [e1] at HC
    rw [e4]
    have HS : Hid (sureC H s p = allC H x true) := by show _ = _; unfold sureC; rw [e5]
    obtain ⟨hxR, g, eg, _, _, cx⟩ := HR.out.at' e2
    subst eg
    have hjl : (j : Int) < ((H.ru p).length : Int) := by have := (List.getElem?_eq_some_iff.1 e2).1; omega
    have HA := hidLL (HAll.out x hxR)
    clear e1 e2 e3 e4 e5 HR HAll
    generalize sureC H s p = O at *
    generalize allC H x true = Z at *
    generalize (H.ru p).length = L at *
    generalize x * 7 = Y at *
    go_enter Tryz.func65, Tryz.ntmps65
    go_wp2_with fail
    refine HC.out.mono ?_
    rintro e w' ⟨rfl, ew⟩
    subst w'
    go_wp2_with fail
    refine HA.out.mono ?_
    rintro e w2 ⟨ad, n, c, rfl, hb, hc⟩
    have HQ := hidLL (And.intro hb hc)
    clear hb hc
    go_wp2
    go_ret2
    exact ⟨_, _, _, rfl, HQ.out.1, fun _ => by rw [HS.out]; exact HQ.out.2⟩
theorem gNot_bd (i : Nat) : (gNot H s i).length ≤ 1 := by unfold gNot; split <;> simp
theorem gMay_bd (i : Nat) : (gMay H s i).length ≤ 1 := by unfold gMay; split <;> simp
theorem any_at {f : Nat → Bool} {l : List Nat} {j x : Nat} (hj : l[j]? = some x) (hf : f x = true) : l.any f = true := List.any_eq_true.2 ⟨x, List.mem_of_getElem? hj, hf⟩
theorem none_any {f : Nat → Bool} {l : List Nat} (h : ∀ (j x : Nat), l[j]? = some x → f x = false) : l.any f = false := by
  rw [List.any_eq_false]
  intro x hx
  obtain ⟨j, hj⟩ := List.getElem?_of_mem hx
  rw [h j x hj]; decide
set_option maxHeartbeats 2000000 in
theorem whyNot_p (h : Net w bL bR hi H V s) {p : Nat} (hp : p < 2 * H.N) : Calls Tryz.prog 66 #[.pointer (some ⟨bL, p * 6, none⟩)] w (FrR w (!(H.ru p).any (bNot H s)) ((H.ru p).flatMap (gNot H s))) := by
  obtain ⟨x0, x1, x2, x3, x4, x5, xf⟩ := h.lit hp
  have hr := h.ru p hp
  have hr2 := hr
  obtain ⟨ra, rc, er, hrl, _⟩ := hr2
  rw [er] at x2 hr
  have HR := hidLL hr
  have HN := hidLL h
  obtain ⟨l, hl⟩ : ∃ l, l = H.ru p := ⟨_, rfl⟩
  rw [← hl] at x2 HR hrl ⊢
  obtain ⟨L, hL⟩ : ∃ L, L = l.length := ⟨_, rfl⟩
  rw [← hL] at x2 HR hrl
  have HL := hidLL hL
  obtain ⟨O, hO⟩ : ∃ O, O = l.any (bNot H s) := ⟨_, rfl⟩
  obtain ⟨Z, hZ⟩ : ∃ Z, Z = l.flatMap (gNot H s) := ⟨_, rfl⟩
  rw [← hO, ← hZ]
  have HO := hidLL hO
  have HZ := hidLL hZ
  clear hO hZ hL hl hr er h x0 x1 x3 x4 x5 xf
  generalize p * 6 = X at *
  go_enter Tryz.func66, Tryz.ntmps66
  go_wp2_with fail
  go_loopw [4, 12] (fun t4 t wr => ∃ (j : Nat) (ad : Option Addr) (n c : Nat), j ≤ L ∧ t = .int .i64 j ∧ t4 = .slice ad n c ∧ Below w.heap.size w wr ∧ CRow wr w.heap.size (.slice ad n c) ((l.take j).flatMap (gNot H s)) ∧ ∀ k x, k < j → l[k]? = some x → bNot H s x = false) (fun _ t _ => L - (RowKit.intOf t).toNat)
  case atStart => exact ⟨0, none, 0, 0, by omega, rfl, rfl, Below.refl _ _, CRow.nil _ _, by intro k x hk; omega⟩
  case round =>
    obtain ⟨j, ad, n, c, hj, rfl, rfl, hbel, hrow, hall⟩ := hrel
    have HA := hidLL hall
    have HQ := hidLL (And.intro hbel hrow)
    have hN := HN.out.grown hbel
    have hsz := hbel.size
    clear hall hbel hrow
    by_cases hlt : j < L
    · have hjz : (j : Int) < L := by omega
      obtain ⟨i, hi2⟩ : ∃ i, l[j]? = some i := ⟨_, List.getElem?_eq_getElem (by have := HL.out; omega)⟩
      obtain ⟨hiR, g, eg, _, hgh, cx0⟩ := HR.out.at' hi2
      subst eg
      have hgW : g < w.heap.size := by have := HN.out.lt3; omega
      have cx : wr.cell? ⟨g, j, none⟩ = some (.pointer (some ⟨bR, i * 7, none⟩)) := (HQ.out.1.cell (p := ⟨g, j, none⟩) hgW).trans cx0
      obtain ⟨y0, y1, y2, y3, y4, y5, y6, yf⟩ := hN.std hiR
      have HI := hidLL hi2
      have HSn : Hid ((l.take (j + 1)).flatMap (gNot H s) = (l.take j).flatMap (gNot H s) ++ gNot H s i) := flat_snoc hi2
      have HB1 : Hid (bNot H s i = (H.kd i == 0 && s.ns i == 0)) := rfl
      have HB2 : Hid (gNot H s i = if H.kd i = 0 then [(true, false, s.ns i)] else []) := rfl
      have HLE := hidLL (flat_take_bd (f := gNot H s) (m := 1) gNot_bd l j (by rw [← HL.out]; exact hrl) (by omega))
      clear hi2 hN cx0 yf y1 y2 y3 y4 y6
      obtain ⟨B, hB⟩ : ∃ B, B = bNot H s i := ⟨_, rfl⟩
      rw [← hB] at HB1
      have HBB := hidLL hB
      clear hB
      generalize gNot H s i = G at *
      generalize H.kd i = k0 at *
      generalize s.ns i = n0 at *
      generalize i * 7 = Y at *
      have HM : Hid (B = false → ∀ k y, k < j + 1 → l[k]? = some y → bNot H s y = false) := fun hb k y hk hy => by
        rcases Nat.lt_or_ge k j with h | h
        · exact HA.out k y h hy
        · obtain rfl : k = j := by omega
          rw [HI.out] at hy
          obtain rfl := Option.some.inj hy
          rw [← HBB.out]; exact hb
      by_cases hk : k0 = 0
      · subst hk
        by_cases hn : n0 = 0
        · subst hn
          have HT : Hid (O = true) := HO.out.trans (any_at HI.out (by rw [← HBB.out, HB1.out]; rfl))
          go_wp2
          go_ret2
          exact ⟨none, 0, 0, by rw [HT.out]; rfl, HQ.out.1, fun e => by rw [HT.out] at e; cases e⟩
        · go_wp2_with (first
            | (at_builtin; go_loud (refine wpList_push_clm rfl (.tmp 26) (.tmp 32) rfl w.heap.size (.slice ad n c) ((l.take j).flatMap (gNot H s)) true false n0 rfl HQ.out.2 (by first | (simp [Act.eval]; done) | simp [Act.eval, Act.put]) hsz (by have := HLE.out; omega) ?_); intro v' w3 hr3 hb3)
            | go_in)
          obtain ⟨ad', c', ev⟩ := hr3.any
          subst ev
          have HR3 := hidLL (And.intro hr3 hb3)
          clear hr3 hb3
          go_roundw
          case rel => exact ⟨j + 1, _, _, _, by omega, by go_num, rfl, HQ.out.1.trans HR3.out.2, by rw [HSn.out, HB2.out, if_pos rfl]; exact HR3.out.1, HM.out (by rw [HB1.out]; simp [hn])⟩
          case measure => simp [RowKit.intOf]; omega
      · go_wp2
        go_roundw
        case rel => exact ⟨j + 1, _, _, _, by omega, by go_num, rfl, HQ.out.1, by rw [HSn.out, HB2.out, if_neg hk, List.append_nil]; exact HQ.out.2, HM.out (by rw [HB1.out]; simp [hk])⟩
        case measure => simp [RowKit.intOf]; omega
    · obtain rfl : j = L := by omega
      have hge : ¬ (j : Int) < j := by omega
      have HT : Hid (O = false) := HO.out.trans (none_any fun k x hk => HA.out k x (by have := (List.getElem?_eq_some_iff.1 hk).1; have := HL.out; omega) hk)
      have HF : Hid ((l.take j).flatMap (gNot H s) = Z) := by show _ = _; rw [List.take_of_length_le (by rw [HL.out]; exact Nat.le_refl _)]; exact HZ.out.symm
      clear hN
      go_wp2
      go_ret2
      exact ⟨_, _, _, by rw [HT.out]; rfl, HQ.out.1, fun _ => by rw [← HF.out]; exact HQ.out.2⟩
set_option maxHeartbeats 2000000 in
theorem whyNone_p (h : Net w bL bR hi H V s) {v : Value} {l : List Nat} (hv : PRow w bR hi H.R v l) : Calls Tryz.prog 84 #[v] w (FrR w (!l.any (bMay H s)) (l.flatMap (gMay H s))) := by
  have hr := hv
  obtain ⟨ra, rc, er, hrl, _⟩ := hv
  subst er
  have HR := hidLL hr
  have HN := hidLL h
  obtain ⟨L, hL⟩ : ∃ L, L = l.length := ⟨_, rfl⟩
  rw [← hL] at HR hrl ⊢
  have HL := hidLL hL
  obtain ⟨O, hO⟩ : ∃ O, O = l.any (bMay H s) := ⟨_, rfl⟩
  obtain ⟨Z, hZ⟩ : ∃ Z, Z = l.flatMap (gMay H s) := ⟨_, rfl⟩
  rw [← hO, ← hZ]
  have HO := hidLL hO
  have HZ := hidLL hZ
  clear hO hZ hL hr h
  go_enter Tryz.func84, Tryz.ntmps84
  go_wp2_with fail
  go_loopw [4, 9] (fun t4 t wr => ∃ (j : Nat) (ad : Option Addr) (n c : Nat), j ≤ L ∧ t = .int .i64 j ∧ t4 = .slice ad n c ∧ Below w.heap.size w wr ∧ CRow wr w.heap.size (.slice ad n c) ((l.take j).flatMap (gMay H s)) ∧ ∀ k x, k < j → l[k]? = some x → bMay H s x = false) (fun _ t _ => L - (RowKit.intOf t).toNat)
  case atStart => exact ⟨0, none, 0, 0, by omega, rfl, rfl, Below.refl _ _, CRow.nil _ _, by intro k x hk; omega⟩
  case round =>
    obtain ⟨j, ad, n, c, hj, rfl, rfl, hbel, hrow, hall⟩ := hrel
    have HA := hidLL hall
    have HQ := hidLL (And.intro hbel hrow)
    have hN := HN.out.grown hbel
    have hsz := hbel.size
    clear hall hbel hrow
    by_cases hlt : j < L
    · have hjz : (j : Int) < L := by omega
      obtain ⟨i, hi2⟩ : ∃ i, l[j]? = some i := ⟨_, List.getElem?_eq_getElem (by have := HL.out; omega)⟩
      obtain ⟨hiR, g, eg, _, hgh, cx0⟩ := HR.out.at' hi2
      subst eg
      have hgW : g < w.heap.size := by have := HN.out.lt3; omega
      have cx : wr.cell? ⟨g, j, none⟩ = some (.pointer (some ⟨bR, i * 7, none⟩)) := (HQ.out.1.cell (p := ⟨g, j, none⟩) hgW).trans cx0
      obtain ⟨y0, y1, y2, y3, y4, y5, y6, yf⟩ := hN.std hiR
      have HI := hidLL hi2
      have HSn : Hid ((l.take (j + 1)).flatMap (gMay H s) = (l.take j).flatMap (gMay H s) ++ gMay H s i) := flat_snoc hi2
      have HB1 : Hid (bMay H s i = (!(H.kd i == 2) && s.fa i == 0)) := rfl
      have HB2 : Hid (gMay H s i = if H.kd i = 2 then [] else [(false, false, s.fa i)]) := rfl
      have HLE := hidLL (flat_take_bd (f := gMay H s) (m := 1) gMay_bd l j (by rw [← HL.out]; exact hrl) (by omega))
      clear hi2 hN cx0 yf y1 y2 y3 y4 y5
      obtain ⟨B, hB⟩ : ∃ B, B = bMay H s i := ⟨_, rfl⟩
      rw [← hB] at HB1
      have HBB := hidLL hB
      clear hB
      generalize gMay H s i = G at *
      generalize H.kd i = k0 at *
      generalize s.fa i = n0 at *
      generalize i * 7 = Y at *
      have HM : Hid (B = false → ∀ k y, k < j + 1 → l[k]? = some y → bMay H s y = false) := fun hb k y hk hy => by
        rcases Nat.lt_or_ge k j with h | h
        · exact HA.out k y h hy
        · obtain rfl : k = j := by omega
          rw [HI.out] at hy
          obtain rfl := Option.some.inj hy
          rw [← HBB.out]; exact hb
      by_cases hk : k0 = 2
      · subst hk
        go_wp2
        go_roundw
        case rel => exact ⟨j + 1, _, _, _, by omega, by go_num, rfl, HQ.out.1, by rw [HSn.out, HB2.out, if_pos rfl, List.append_nil]; exact HQ.out.2, HM.out (by rw [HB1.out]; rfl)⟩
        case measure => simp [RowKit.intOf]; omega
      · by_cases hn : n0 = 0
        · subst hn
          have HT : Hid (O = true) := HO.out.trans (any_at HI.out (by rw [← HBB.out, HB1.out]; simp [hk]))
          go_wp2
          go_ret2
          exact ⟨none, 0, 0, by rw [HT.out]; rfl, HQ.out.1, fun e => by rw [HT.out] at e; cases e⟩
        · go_wp2_with (first
            | (at_builtin; refine wpList_push_clm rfl (.tmp 23) (.tmp 29) rfl w.heap.size (.slice ad n c) ((l.take j).flatMap (gMay H s)) false false n0 rfl HQ.out.2 (by first | (simp [Act.eval]; done) | simp [Act.eval, Act.put]) hsz (by have := HLE.out; omega) ?_; intro v' w3 hr3 hb3)
            | go_in)
          obtain ⟨ad', c', ev⟩ := hr3.any
          subst ev
          have HR3 := hidLL (And.intro hr3 hb3)
          clear hr3 hb3
          go_roundw
          case rel => exact ⟨j + 1, _, _, _, by omega, by go_num, rfl, HQ.out.1.trans HR3.out.2, by rw [HSn.out, HB2.out, if_neg hk]; exact HR3.out.1, HM.out (by rw [HB1.out]; simp [hn])⟩
          case measure => simp [RowKit.intOf]; omega
    · obtain rfl : j = L := by omega
      have hge : ¬ (j : Int) < j := by omega
      have HT : Hid (O = false) := HO.out.trans (none_any fun k x hk => HA.out k x (by have := (List.getElem?_eq_some_iff.1 hk).1; have := HL.out; omega) hk)
      have HF : Hid ((l.take j).flatMap (gMay H s) = Z) := by show _ = _; rw [List.take_of_length_le (by rw [HL.out]; exact Nat.le_refl _)]; exact HZ.out.symm
      clear hN
      go_wp2
      go_ret2
      exact ⟨_, _, _, by rw [HT.out]; rfl, HQ.out.1, fun _ => by rw [← HF.out]; exact HQ.out.2⟩
end Go.Proofs.YtmbclnaenjcocaaGreatDoor

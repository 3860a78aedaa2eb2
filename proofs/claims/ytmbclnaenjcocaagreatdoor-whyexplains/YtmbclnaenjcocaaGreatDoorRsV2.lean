/-
  Package reason: Valid, over what isOrdered answers.
-/
import Derived.Test.YtmbclnaenjcocaaGreatDoorRsV1
import Derived.Test.YtmbclnaenjcocaaGreatDoorRsOrdD
namespace Go.Proofs.YtmbclnaenjcocaaGreatDoor
open Go.RowKit

/-- The theory's box, and what it stands on. -/
theorem box_v {T : Thy} {rv ov : Value} {B : Nat} {w : World} (hM : TM w B T rv ov) (hB : B ≤ w.heap.size) :
    ∃ W0 : World, W0 = w.alloc (.cells #[.int .i64 T.names, rv, ov] 35) ∧ Below w.heap.size w W0 ∧ (∀ W, Below W0.heap.size W0 W → W.cell? ⟨w.heap.size, 0, none⟩ = some (.int .i64 T.names) ∧ W.cell? ⟨w.heap.size, 1, none⟩ = some rv ∧ W.cell? ⟨w.heap.size, 2, none⟩ = some ov ∧ TM W B T rv ov ∧ w.heap.size < W.heap.size) := by
  refine ⟨_, rfl, (Below.refl _ _).alloc (Nat.le_refl _) _, fun W hW => ?_⟩
  have hb := (hW.block w.heap.size (by simp)).trans (blk_new w _)
  have hs := hW.size
  have h0 : Below w.heap.size w (w.alloc (.cells #[.int .i64 T.names, rv, ov] 35)) := (Below.refl _ _).alloc (Nat.le_refl _) _
  refine ⟨by simp [World.cell?, hb], by simp [World.cell?, hb], by simp [World.cell?, hb], (hM.below h0 hB).below hW (by simp; omega), ?_⟩
  rw [World.size_alloc] at hs
  omega
set_option maxHeartbeats 1000000 in
theorem inB_v {T : Thy} {rv ov : Value} {B : Nat} {w : World} (hM : TM w B T rv ov) (hB : B ≤ w.heap.size) : Calls Tryz.prog 44 #[.agg #[.int .i64 T.names, rv, ov]] w fun e w' => e = .returned (.bool (inB T)) ∧ Below w.heap.size w w' := by
  obtain ⟨W0, hW0, hb0, hX⟩ := box_v hM hB
  obtain ⟨c0, c1, c2, hTM, _⟩ := hX W0 (Below.refl _ _)
  obtain ⟨ra, rc, hrv, hrl, _⟩ := hM.r
  obtain ⟨oa, oc, hov, hol, _⟩ := hM.o
  subst hrv hov
  have hz0 := hb0.size
  have HC := hidLL (hasLong hTM.r (by omega) hrl)
  have HI : Hid (inB T = (!sizeB T && !T.rules.any longB)) := rfl
  have HS : Hid (sizeB T = (decide (T.names < 0) || decide (120 < T.names) || decide (120 < T.rules.length) || decide (1200 < T.over.length))) := rfl
  have HW0 := hidLL hW0
  have HB0 := hidLL hb0
  clear hW0 hb0 hX hM hTM
  generalize inB T = O at *
  generalize sizeB T = S at *
  generalize T.rules.any longB = LL at *
  generalize T.names = nm at *
  generalize T.rules.length = R at *
  generalize T.over.length = OO at *
  by_cases h1 : nm < 0
  · have e : S = true := by rw [HS.out, decide_eq_true h1]; rfl
    have h1' : decide (nm < 0) = true := decide_eq_true h1
    go_enter Tryz.func44, Tryz.ntmps44
    go_upto_region 1 with fail
    rw [← HW0.out]
    go_wp2
    go_ret
    exact ⟨retB (by rw [HI.out, e]; rfl), HB0.out⟩
  · by_cases h2 : 120 < nm
    · have e : S = true := by rw [HS.out, decide_eq_true h2]; simp
      go_enter Tryz.func44, Tryz.ntmps44
      go_upto_region 1 with fail
      rw [← HW0.out]
      go_wp2
      go_ret
      exact ⟨retB (by rw [HI.out, e]; rfl), HB0.out⟩
    · by_cases h3 : 120 < R
      · have e : S = true := by rw [HS.out, decide_eq_true h3]; simp
        have h3z : (120 : Int) < R := by omega
        go_enter Tryz.func44, Tryz.ntmps44
        go_upto_region 1 with fail
        rw [← HW0.out]
        go_wp2
        go_ret
        exact ⟨retB (by rw [HI.out, e]; rfl), HB0.out⟩
      · have h3z : ¬ (120 : Int) < R := by omega
        by_cases h4 : 1200 < OO
        · have e : S = true := by rw [HS.out, decide_eq_true h4]; simp
          have h4z : (1200 : Int) < OO := by omega
          go_enter Tryz.func44, Tryz.ntmps44
          go_upto_region 1 with fail
          rw [← HW0.out]
          go_wp2
          go_ret
          exact ⟨retB (by rw [HI.out, e]; rfl), HB0.out⟩
        · have e : S = false := by rw [HS.out, decide_eq_false h1, decide_eq_false h2, decide_eq_false h3, decide_eq_false h4]; rfl
          have h4z : ¬ (1200 : Int) < OO := by omega
          go_enter Tryz.func44, Tryz.ntmps44
          go_upto_region 1 with fail
          rw [← HW0.out]
          go_wp2_with fail
          refine HC.out.mono ?_
          rintro e' w' ⟨rfl, hb⟩
          have HB := hidLL hb
          clear hb
          go_wp2
          go_ret
          exact ⟨retB (by rw [HI.out, e]; rfl), HB0.out.trans (HB.out.mono HB0.out.size)⟩
set_option maxHeartbeats 2000000 in
theorem hasN_v {T : Thy} {rv ov : Value} {B : Nat} {w : World} (hM : TM w B T rv ov) (hB : B ≤ w.heap.size) (h1 : 0 ≤ T.names) (h2 : T.names ≤ 120) : Calls Tryz.prog 47 #[.agg #[.int .i64 T.names, rv, ov]] w fun e w' => e = .returned (.bool (hasN T)) ∧ Below w.heap.size w w' := by
  obtain ⟨W0, hW0, hb0, hX⟩ := box_v hM hB
  obtain ⟨ra, rc, hrv, hrl, _⟩ := hM.r
  obtain ⟨oa, oc, hov, hol, _⟩ := hM.o
  subst hrv hov
  have hz0 := hb0.size
  obtain ⟨W1, hW1⟩ : ∃ W1 : World, W1 = W0.alloc (.cells #[.func (.func 72) #[] #[.pointer (some ⟨w.heap.size, 0, none⟩)]] 41) := ⟨_, rfl⟩
  obtain ⟨bn, hbn⟩ : ∃ bn, bn = W0.heap.size := ⟨_, rfl⟩
  have hb1 : Below W0.heap.size W0 W1 := by rw [hW1]; exact (Below.refl _ _).alloc (Nat.le_refl _) _
  have hfn : W1.heap[bn]? = some (.cells #[.func (.func 72) #[] #[.pointer (some ⟨w.heap.size, 0, none⟩)]] 41) := by rw [hW1, hbn]; exact blk_new _ _
  have hfc : W1.cell? ⟨bn, 0, none⟩ = some (.func (.func 72) #[] #[.pointer (some ⟨w.heap.size, 0, none⟩)]) := by simp [World.cell?, hfn]
  have hlt1 : bn < W1.heap.size := blk_lt hfn
  obtain ⟨c0, c1, c2, hTM, hw1⟩ := hX W1 hb1
  have HX : Hid (∀ W, Below W1.heap.size W1 W → W.cell? ⟨w.heap.size, 0, none⟩ = some (.int .i64 T.names) ∧ W.cell? ⟨w.heap.size, 1, none⟩ = some (.slice ra T.rules.length rc) ∧ W.cell? ⟨w.heap.size, 2, none⟩ = some (.slice oa T.over.length oc) ∧ TM W B T (.slice ra T.rules.length rc) (.slice oa T.over.length oc) ∧ W.cell? ⟨bn, 0, none⟩ = some (.func (.func 72) #[] #[.pointer (some ⟨w.heap.size, 0, none⟩)]) ∧ B ≤ W.heap.size) := fun W hW => by
    obtain ⟨x0, x1, x2, x3, x4⟩ := hX W (hb1.trans (hW.mono hb1.size))
    exact ⟨x0, x1, x2, x3, (hW.cell (p := ⟨bn, 0, none⟩) hlt1).trans hfc, by omega⟩
  have HN : Hid (hasN T = (!T.rules.any (badRl T) && !T.over.any (noPair T))) := rfl
  have HLc : Hid (∀ q W, Below W1.heap.size W1 W → Calls Tryz.prog 39 #[.agg #[.int .i64 T.names, .slice ra T.rules.length rc, .slice oa T.over.length oc], .int .i64 q] W fun e w' => e = .returned (.bool (noLit T q)) ∧ Below W.heap.size W w') := fun q W hW => lit_v T q ra oa T.rules.length rc T.over.length oc W h1 h2
  have HW0 := hidLL (And.intro hW0 (And.intro hW1 hbn))
  have HB1 : Hid (Below w.heap.size w W1) := hb0.trans (hb1.mono hz0)
  clear hW0 hW1 hbn hb0 hX hM hTM hb1 hfn hfc hz0
  obtain ⟨R, hR⟩ : ∃ R, R = T.rules.length := ⟨_, rfl⟩
  obtain ⟨OO, hOO⟩ : ∃ OO, OO = T.over.length := ⟨_, rfl⟩
  obtain ⟨nm, hnm⟩ : ∃ nm, nm = T.names := ⟨_, rfl⟩
  rw [← hR, ← hOO, ← hnm] at HX HW0 HLc
  rw [← hR] at hrl c1 ⊢
  rw [← hOO] at hol c2 ⊢
  rw [← hnm] at c0 ⊢
  have HRR := hidLL (And.intro hR (And.intro hOO hnm))
  clear hR hOO hnm
  generalize hasN T = O at *
  go_enter Tryz.func47, Tryz.ntmps47
  go_upto_region 1 with fail
  rw [← HW0.out.1]
  go_upto_region 2 with fail
  rw [← HW0.out.2.1, ← HW0.out.2.2]
  go_wp2_with fail
  go_loopw [10] (fun t wr => ∃ i : Nat, i ≤ R ∧ t = .int .i64 i ∧ (∀ j x, j < i → T.rules[j]? = some x → badRl T x = false) ∧ Below W1.heap.size W1 wr) (fun t _ => R - (RowKit.intOf t).toNat)
  case atStart => exact ⟨0, by omega, rfl, by intro j x h; omega, Below.refl _ _⟩
  case round =>
    obtain ⟨i, hi, rfl, hall, hbel⟩ := hrel
    have HA := hidLL hall
    clear hall
    by_cases hlt : i < R
    · have hiz : (i : Int) < R := by omega
      obtain ⟨x, hx⟩ : ∃ x, T.rules[i]? = some x := ⟨_, List.getElem?_eq_getElem (by have := HRR.out.1; omega)⟩
      obtain ⟨x0, x1, x2, x3, x4, x5⟩ := HX.out wr hbel
      obtain ⟨g, o, bv, er, hgB, y0, y1, y2, hbd⟩ := x3.r.at hx
      subst er
      have hbd2 := hbd
      obtain ⟨ba, bc, ebv, hbl, _⟩ := hbd2
      subst ebv
      obtain ⟨W6, hW6⟩ : ∃ W6 : World, W6 = wr.alloc (.cells #[.int .i64 x.kind, .int .i64 x.head, .slice ba x.body.length bc] 56) := ⟨_, rfl⟩
      obtain ⟨bx, hbx⟩ : ∃ bx, bx = wr.heap.size := ⟨_, rfl⟩
      have hb6 : Below wr.heap.size wr W6 := by rw [hW6]; exact (Below.refl _ _).alloc (Nat.le_refl _) _
      have hx6 : W6.heap[bx]? = some (.cells #[.int .i64 x.kind, .int .i64 x.head, .slice ba x.body.length bc] 56) := by rw [hW6, hbx]; exact blk_new _ _
      have z1 : W6.cell? ⟨bx, 1, none⟩ = some (.int .i64 x.head) := by simp [World.cell?, hx6]
      have z2 : W6.cell? ⟨bx, 2, none⟩ = some (.slice ba x.body.length bc) := by simp [World.cell?, hx6]
      have hbW6 : Below W1.heap.size W1 W6 := hbel.trans (hb6.mono hbel.size)
      have HL1 := hidLL (HLc.out x.head W6 hbW6)
      have HL2 : Hid (∀ W, Below W6.heap.size W6 W → Calls Tryz.prog 73 #[.slice ba x.body.length bc, .func (.func 39) #[.agg #[.int .i64 nm, .slice (some ⟨g, o, none⟩) R rc, .slice oa OO oc]] #[]] W fun e w' => e = .returned (.bool (x.body.any (noLit T))) ∧ Below W.heap.size W w') := fun W hW => by
        have h9 := HX.out W (hbW6.trans (hW.mono hbW6.size))
        rw [HRR.out.2.2]
        exact hasLit T (some ⟨g, o, none⟩) oa R rc OO oc ((hbd.on fun k hk => hb6.block k (by omega)).on fun k hk => hW.block k (by have := hb6.size; omega)) h9.2.2.2.2.2 hbl h1 h2
      obtain ⟨t0, t1, t2, _, _, _⟩ := HX.out W6 hbW6
      have HT9 : Hid (∀ W, Below W6.heap.size W6 W → W.cell? ⟨w.heap.size, 0, none⟩ = some (.int .i64 nm) ∧ W.cell? ⟨w.heap.size, 1, none⟩ = some (.slice (some ⟨g, o, none⟩) R rc) ∧ W.cell? ⟨w.heap.size, 2, none⟩ = some (.slice oa OO oc)) := fun W hW => by
        have h9 := HX.out W (hbW6.trans (hW.mono hbW6.size))
        exact ⟨h9.1, h9.2.1, h9.2.2.1⟩
      have HBd : Hid (badRl T x = (noLit T x.head || x.body.any (noLit T))) := rfl
      have HY := hidLL hx
      have HBe := hidLL hbW6
      have HW6 := hidLL (And.intro hW6 hbx)
      have hl6 : bx < W6.heap.size := blk_lt hx6
      clear hx hbel hbd hW6 hbx hb6 hx6 hbW6 x0 x1 x2 x3 x4 x5
      generalize x.kind = xk at *
      generalize x.body.length = xn at *
      cases hn1 : noLit T x.head with
      | true =>
        rw [hn1] at HL1 HBd
        clear hn1
        have HE : Hid (T.rules.any (badRl T) = true) := List.any_eq_true.2 ⟨x, List.mem_of_getElem? HY.out, HBd.out⟩
        generalize x.head = xh at *
        go_upto_region 5 with fail
        rw [← HW6.out.1, ← HW6.out.2]
        go_wp2_with fail
        refine HL1.out.mono ?_
        rintro e w9 ⟨rfl, hb9⟩
        have H9 := hidLL hb9
        clear hb9
        go_wp2
        go_ret
        exact ⟨retB (by rw [HN.out, HE.out]; rfl), HB1.out.trans ((HBe.out.trans (H9.out.mono HBe.out.size)).mono HB1.out.size)⟩
      | false =>
        rw [hn1] at HL1 HBd
        clear hn1
        cases hn2 : x.body.any (noLit T) with
        | true =>
          rw [hn2] at HL2 HBd
          clear hn2
          have HE : Hid (T.rules.any (badRl T) = true) := List.any_eq_true.2 ⟨x, List.mem_of_getElem? HY.out, HBd.out⟩
          generalize x.head = xh at *
          go_upto_region 5 with fail
          rw [← HW6.out.1, ← HW6.out.2]
          go_wp2_with fail
          refine HL1.out.mono ?_
          rintro e w9 ⟨rfl, hb9⟩
          have z2' := (hb9.cell (p := ⟨bx, 2, none⟩) hl6).trans z2
          obtain ⟨v0, v1, v2⟩ := HT9.out w9 hb9
          have HL3 := hidLL (HL2.out w9 hb9)
          have H9 := hidLL hb9
          clear hb9 HL1 HL2
          go_wp2_with fail
          refine HL3.out.mono ?_
          rintro e w10 ⟨rfl, hb10⟩
          have H10 := hidLL hb10
          clear hb10
          go_wp2
          go_ret
          exact ⟨retB (by rw [HN.out, HE.out]; rfl), HB1.out.trans (((HBe.out.trans (H9.out.mono HBe.out.size)).trans (H10.out.mono (Nat.le_trans HBe.out.size H9.out.size))).mono HB1.out.size)⟩
        | false =>
          rw [hn2] at HL2 HBd
          clear hn2
          have HM : Hid (∀ j y, j < i + 1 → T.rules[j]? = some y → badRl T y = false) := fun j y hj hy => by
            rcases Nat.lt_or_ge j i with h | h
            · exact HA.out j y h hy
            · obtain rfl : j = i := by omega
              rw [HY.out] at hy
              obtain rfl := Option.some.inj hy
              exact HBd.out
          generalize x.head = xh at *
          go_upto_region 5 with fail
          rw [← HW6.out.1, ← HW6.out.2]
          go_wp2_with fail
          refine HL1.out.mono ?_
          rintro e w9 ⟨rfl, hb9⟩
          have z2' := (hb9.cell (p := ⟨bx, 2, none⟩) hl6).trans z2
          obtain ⟨v0, v1, v2⟩ := HT9.out w9 hb9
          have HL3 := hidLL (HL2.out w9 hb9)
          have H9 := hidLL hb9
          clear hb9 HL1 HL2
          go_wp2_with fail
          refine HL3.out.mono ?_
          rintro e w10 ⟨rfl, hb10⟩
          have H10 := hidLL hb10
          clear hb10
          go_wp2
          go_roundw
          case rel => exact ⟨i + 1, by omega, by go_num, HM.out, (HBe.out.trans (H9.out.mono HBe.out.size)).trans (H10.out.mono (Nat.le_trans HBe.out.size H9.out.size))⟩
          case measure => simp [RowKit.intOf]; omega
    · have hge : ¬ (i : Int) < R := by omega
      have HE : Hid (T.rules.any (badRl T) = false) := by
        show _ = _
        rw [List.any_eq_false]
        intro x hx
        obtain ⟨j, hj⟩ := List.getElem?_of_mem hx
        have := HA.out j x (by
          have h9 := (List.getElem?_eq_some_iff.1 hj).1
          have := HRR.out.1
          omega) hj
        rw [this]; decide
      obtain ⟨x0, x1, x2, x3, x4, x5⟩ := HX.out wr hbel
      have HP : Hid (Calls Tryz.prog 74 #[.slice oa OO oc, .func (.func 75) #[] #[.pointer (some ⟨bn, 0, none⟩)]] wr fun e w' => e = .returned (.bool (T.over.any (noPair T))) ∧ Below wr.heap.size wr w') := by
        have ho := x3.o
        rw [HRR.out.2.1] at ho hol ⊢
        rw [HRR.out.1] at x1 hrl
        exact hasPair T ho x5 hol x1 x4 hrl
      have HBe := hidLL hbel
      clear hbel x3
      go_wp2_with fail
      refine HP.out.mono ?_
      rintro e w9 ⟨rfl, hb9⟩
      have H9 := hidLL hb9
      clear hb9
      go_wp2
      go_ret
      exact ⟨retB (by rw [HN.out, HE.out]; rfl), HB1.out.trans ((HBe.out.trans (H9.out.mono HBe.out.size)).mono HB1.out.size)⟩
end Go.Proofs.YtmbclnaenjcocaaGreatDoor

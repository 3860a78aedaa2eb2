/-
  Package reason: whether each claim of a list follows from those ahead of it (Right).
-/
import Derived.Test.YtmbclnaenjcocaaGreatDoorWhPl
import Derived.Test.YtmbclnaenjcocaaGreatDoorRsV3
import Derived.Test.YtmbclnaenjcocaaGreatDoorRsP8
namespace Go.Proofs.YtmbclnaenjcocaaGreatDoor
open Go.RowKit
variable {w : World} {bL bR hi : Nat} {H : Sh} {V : Vs} {s : St}

theorem rcopy3 (W : World) (a b c : Value) (t : TypeId) : ∃ (W6 : World) (bx : Nat), W6 = W.alloc (.cells #[a, b, c] t) ∧ bx = W.heap.size ∧ Below W.heap.size W W6 ∧ W6.cell? ⟨bx, 0, none⟩ = some a ∧ W6.cell? ⟨bx, 1, none⟩ = some b ∧ W6.cell? ⟨bx, 2, none⟩ = some c ∧ bx < W6.heap.size := by
  have h := Go.Deep.blk_alloc_new W (.cells #[a, b, c] t)
  refine ⟨_, _, rfl, rfl, (Below.refl _ _).alloc (Nat.le_refl _) _, ?_, ?_, ?_, ?_⟩
  · rw [cell_of_row _ _ 0 #[a, b, c] t (0, 0) h]; rfl
  · rw [cell_of_row _ _ 1 #[a, b, c] t (0, 0) h]; rfl
  · rw [cell_of_row _ _ 2 #[a, b, c] t (0, 0) h]; rfl
  · simp
set_option maxHeartbeats 1000000 in
theorem hasC_p (h : Net w bL bR hi H V s) {p : Nat} (hp : p < 2 * H.N) (a b : Bool) (q : Int) : Calls Tryz.prog 41 #[.pointer (some ⟨bL, p * 6, none⟩), .agg #[.bool a, .bool b, .int .i64 q]] w fun e w' => e = .returned (.bool (shwn s p a == ansOf b)) ∧ Below w.heap.size w w' := by
  obtain ⟨W0, hW0⟩ : ∃ W0 : World, W0 = w.alloc (.cells #[.bool a, .bool b, .int .i64 q] 65) := ⟨_, rfl⟩
  have hb0 : Below w.heap.size w W0 := by rw [hW0]; exact (Below.refl _ _).alloc (Nat.le_refl _) _
  have hk0 : W0.heap[w.heap.size]? = some (.cells #[.bool a, .bool b, .int .i64 q] 65) := by rw [hW0]; exact blk_new _ _
  have c0 : W0.cell? ⟨w.heap.size, 0, none⟩ = some (.bool a) := by simp [World.cell?, hk0]
  have c1 : W0.cell? ⟨w.heap.size, 1, none⟩ = some (.bool b) := by simp [World.cell?, hk0]
  have c2 : W0.cell? ⟨w.heap.size, 2, none⟩ = some (.int .i64 q) := by simp [World.cell?, hk0]
  have hl0 := blk_lt hk0
  have HS : Hid (∀ W, Below w.heap.size w W → Calls Tryz.prog 63 #[.pointer (some ⟨bL, p * 6, none⟩), .bool a] W fun e w' => e = .returned (.int .i64 (shwn s p a)) ∧ w' = W) := fun W hb => shown_p (h.grown hb) hp a
  have HA : Hid (∀ w, Calls Tryz.prog 64 #[.agg #[.bool a, .bool b, .int .i64 q]] w fun e w' => e = .returned (.int .i64 (ansOf b)) ∧ w' = w.alloc (.cells #[.bool a, .bool b, .int .i64 q] 65)) := fun w => answer_p a b q w
  have HW0 := hidLL hW0
  have HB0 := hidLL hb0
  clear h hW0 hb0 hk0
  generalize shwn s p a = x at *
  generalize ansOf b = y at *
  generalize p * 6 = X at *
  go_enter Tryz.func41, Tryz.ntmps41
  go_upto_region 1 with fail
  rw [← HW0.out]
  go_region_with (first
    | (go_at_call 63; refine (HS.out _ (by first | exact HB0.out.trans ⟨rfl, rfl, rfl, Nat.le_refl _, fun _ _ => rfl⟩ | exact HB0.out.trans ((Below.refl _ _).drew.alloc HB0.out.size _) | exact HB0.out.trans ((Below.refl _ _).alloc HB0.out.size _).drew)).mono ?_; rintro e w' ⟨rfl, ew⟩; subst w')
    | (go_at_call 64; refine (HA.out _).mono ?_; rintro e w' ⟨rfl, ew⟩; subst w'))
  all_goals
    go_wp2
    go_ret
    refine ⟨rfl, ?_⟩
    first
      | exact HB0.out.trans ((Below.refl _ _).drew.alloc HB0.out.size _)
      | exact HB0.out.trans ((Below.refl _ _).alloc HB0.out.size _).drew
      | exact HB0.out.trans ((Below.refl _ _).alloc HB0.out.size _)
def RgtR (T : Thy) (p : Nat → Addr) (l : List Clm) (w : World) (e : Ending) (w' : World) : Prop :=
  Below w.heap.size w w' ∧ ((∃ k, errIs T (some k) ∧ e = .returned (.tuple #[.bool false, errV p (some k)])) ∨
    (errIs T none ∧ ∃ b, e = .returned (.tuple #[.bool b, .nilIface]) ∧ (b = true ↔ goodL T (fun _ _ => False) l)))
theorem errIs_okt {T : Thy} (h : errIs T none) : Okt T := by
  rcases h with ⟨e, _⟩ | ⟨e, _⟩ | ⟨e, _⟩ | ⟨e, _⟩ | ⟨_, h1, _, h3, _⟩
  · cases e
  · cases e
  · cases e
  · cases e
  · exact okt_of h1 h3
set_option maxHeartbeats 4000000 in
set_option maxRecDepth 100000 in
theorem right_p {T : Thy} {rv ov : Value} {B : Nat} (hM : TM w B T rv ov) (hB : B ≤ w.heap.size) {p : Nat → Addr} (hE : Sent4 w p) (hO : Okt T → ∀ W, Below w.heap.size w W → OrdC T rv ov W) {ca : Option Addr} {cn cc : Nat} {l : List Clm} (hC : SRd w w.heap.size (.slice ca cn cc) l) (hcn : cn = l.length) : Calls Tryz.prog 27 #[.agg #[.int .i64 T.names, rv, ov], .slice ca cn cc] w (RgtR T p l w) := by
  obtain ⟨ra, rc, hrv, hrl, _⟩ := hM.r
  obtain ⟨oa, oc, hov, hol, _⟩ := hM.o
  have hcl : cn ≤ 8796093022208 := by
    obtain ⟨a', c', e, h9, _⟩ := hC
    omega
  obtain ⟨W0, hW0, hb0, hX⟩ := box_v hM hB
  have hz0 : w.heap.size < W0.heap.size := by rw [hW0]; simp
  have HX := hidLL hX
  obtain ⟨c0, c1, c2, _, _⟩ := hX W0 (Below.refl _ _)
  have HV := hidLL (valid_v (hM.below hb0 hB) (by omega) (hE.bel hb0) (fun h W hW => hO h W (hb0.trans (hW.mono (by omega)))))
  have HCl := hidLL (And.intro hC hcn)
  have HB0 := hidLL hb0
  have HW0 := hidLL hW0
  have HMM := hidLL hM
  clear hX hM hE hO hC hcn hb0 hW0
  subst hrv hov
  obtain ⟨nm, hnm⟩ : ∃ nm, nm = T.names := ⟨_, rfl⟩
  obtain ⟨R, hR⟩ : ∃ R, R = T.rules.length := ⟨_, rfl⟩
  obtain ⟨OO, hOO⟩ : ∃ OO, OO = T.over.length := ⟨_, rfl⟩
  rw [← hR, ← hOO, ← hnm] at HX HW0 HV
  rw [← hR] at c1 hrl HMM ⊢
  rw [← hOO] at c2 hol HMM ⊢
  rw [← hnm] at c0 ⊢
  have HRR := hidLL (And.intro hR (And.intro hOO hnm))
  clear hR hOO hnm
  go_enter Tryz.func27, Tryz.ntmps27
  go_upto_region 1 with fail
  rw [← HW0.out]
  go_wp2_with fail
  refine HV.out.mono ?_
  rintro e w1 ⟨k, rfl, hk, hb1⟩
  obtain ⟨d0, d1, d2, hTM1, hs1⟩ := HX.out w1 hb1
  cases k with
  | some k =>
    have HK := hidLL (And.intro hk hb1)
    clear hk hb1 hTM1
    unfold errV
    go_wp2
    go_ret2
    exact ⟨HB0.out.trans (HK.out.2.mono (by omega)), .inl ⟨k, HK.out.1, rfl⟩⟩
  | none =>
    have hOk := errIs_okt hk
    have HOk := hidLL hOk
    have hn1 := hOk.n0
    have hn2 := hOk.n1
    have HLi : Hid (Calls Tryz.prog 38 #[.agg #[.int .i64 nm, .slice ra R rc, .slice oa OO oc]] w1 (LitsR T B w1)) := by
      have := literals_p hOk hTM1 (by omega)
      unfold LitsC at this
      rw [HRR.out.2.2]
      exact this
    have HK := hidLL (And.intro hk hb1)
    have hz1 := hb1.size
    clear hk hb1 hTM1 hOk
    unfold errV
    go_wp2_with fail
    refine HLi.out.mono ?_
    rintro e w2 ⟨bL, bR, V, rfl, hNet, hVB, hlo, hb2⟩
    obtain ⟨NN, hNN⟩ : ∃ NN, NN = 2 * (shOf T).N := ⟨_, rfl⟩
    rw [← hNN]
    have HNN := hidLL hNN
    obtain ⟨hi0, hhi0⟩ : ∃ h, h = w2.heap.size := ⟨_, rfl⟩
    rw [← hhi0] at hNet
    have hb02 : Below W0.heap.size W0 w2 := HK.out.2.trans (hb2.mono hz1)
    have HN0 := hidLL (And.intro hNet hb02)
    have hlt1 := hNet.lt
    have hbL0 : W0.heap.size ≤ bL := by omega
    have hbR0 : W0.heap.size ≤ bR := by omega
    have hfew : NN ≤ 1000 := by rw [hNN]; show 2 * T.names.toNat ≤ 1000; have := HOk.out.n1; omega
    clear hNet hb2 hb02 hNN hhi0
    go_wp2_with fail
    go_loopw [22] (fun t wr => ∃ (j : Nat) (s : St), j ≤ cn ∧ t = .int .i64 j ∧ Net wr bL bR hi0 (shOf T) V s ∧ Fine T s ∧ Below W0.heap.size W0 wr ∧ (goodL T (fun _ _ => False) l ↔ goodL T (mk T s) (l.drop j))) (fun t _ => cn - (RowKit.intOf t).toNat)
    case atStart => exact ⟨0, st0 T, by omega, rfl, HN0.out.1, Fine.start T, HN0.out.2, by rw [mk_st0, List.drop_zero]⟩
    case round =>
      obtain ⟨j, s, hj, rfl, hNet, hF, hbel, hg⟩ := hrel
      have HS := hidLL (And.intro hNet (And.intro hF (And.intro hbel hg)))
      by_cases hlt : j < cn
      · have hjz : (j : Int) < cn := by omega
        obtain ⟨x, hx⟩ : ∃ x, l[j]? = some x := ⟨_, List.getElem?_eq_getElem (by have := HCl.out.2; omega)⟩
        have hdrop : l.drop j = x :: l.drop (j + 1) := by
          obtain ⟨h9, e9⟩ := List.getElem?_eq_some_iff.1 hx
          rw [← e9]
          exact List.drop_eq_getElem_cons h9
        have hbw := HB0.out.trans (hbel.mono (by omega))
        obtain ⟨g, o, ea, hgB, y0, y1, y2⟩ := (HCl.out.1.on fun k hk => hbw.block k hk).at hx
        subst ea
        obtain ⟨a, b, q⟩ := x
        simp only at y0 y1 y2
        obtain ⟨W6, bx, hW6, hbx, hb6, z0, z1, z2, hl6⟩ := rcopy3 wr (.bool a) (.bool b) (.int .i64 q) 65
        have hbw6 : Below W0.heap.size W0 W6 := hbel.trans (hb6.mono hbel.size)
        obtain ⟨t0, t1, t2, _, _⟩ := HX.out W6 hbw6
        have HNot : Hid (Calls Tryz.prog 39 #[.agg #[.int .i64 nm, .slice ra R rc, .slice oa OO oc], .int .i64 q] W6 fun e w' => e = .returned (.bool (noLit T q)) ∧ Below W6.heap.size W6 w') := by
          rw [HRR.out.2.2]
          exact lit_v T q ra oa R rc OO oc W6 HOk.out.n0 HOk.out.n1
        have HD := hidLL hdrop
        have HW6 := hidLL (And.intro hW6 hbx)
        have HB6 := hidLL (And.intro hb6 hbw6)
        have hbxW : W0.heap.size ≤ bx := by rw [hbx]; exact hbel.size
        have hhix : hi0 ≤ bx := by rw [hbx]; exact hNet.lt3
        have hhl := hNet.lt2
        clear hx hdrop hW6 hbx hb6 hbw6 hNet hF hbel hg hbw
        cases hnl : noLit T q with
        | true =>
          rw [hnl] at HNot
          have HG : Hid (¬ goodL T (fun _ _ => False) l) := by
            show ¬ _
            rw [HS.out.2.2.2, HD.out]
            exact good_lit fun e => by rw [noLit_iff.2 e] at hnl; cases hnl
          clear hnl
          go_upto_region 8 with fail
          rw [← HW6.out.1, ← HW6.out.2]
          go_wp2_with fail
          refine HNot.out.mono ?_
          rintro e w9 ⟨rfl, hb9⟩
          have H9 := hidLL hb9
          clear hb9
          go_wp2
          go_ret2
          exact ⟨HB0.out.trans ((HB6.out.2.trans (H9.out.mono HB6.out.2.size)).mono (by omega)), .inr ⟨HK.out.1, false, rfl, ⟨(fun e => by cases e), fun e => (HG.out e).elim⟩⟩⟩
        | false =>
          rw [hnl] at HNot
          have hlit := noLit_iff.1 hnl
          clear hnl
          have hlo2 := hlit.ok HOk.out
          obtain ⟨q0, q1, q2, q3⟩ := hlo2
          have hpz : (pl q : Int) < (NN : Int) := by rw [HNN.out]; omega
          have HP : Hid (∀ w, Calls Tryz.prog 40 #[.int .i64 q] w fun e w' => e = .returned (.int .i64 (pl q)) ∧ w' = w) := fun w => place_p q q0 q1 q2 w
          have HHas : Hid (∀ W, Below wr.heap.size wr W → Calls Tryz.prog 41 #[.pointer (some ⟨bL, pl q * 6, none⟩), .agg #[.bool a, .bool b, .int .i64 q]] W fun e w' => e = .returned (.bool (shwn s (pl q) a == ansOf b)) ∧ Below W.heap.size W w') := fun W hW => hasC_p (HS.out.1.grown hW) q3 a b q
          have HFrom : Hid (∀ W, Below wr.heap.size wr W → Calls Tryz.prog 42 #[.pointer (some ⟨bL, pl q * 6, none⟩), .agg #[.bool a, .bool b, .int .i64 q]] W (FrR W (fol4 (shOf T) s (pl q) a b) (fromC (shOf T) s (pl q) a b))) := fun W hW => from_p (HS.out.1.grown hW) q3 (by rw [litOf_pl q0]; exact q1) (by rw [litOf_pl q0]; exact q2) ((stays HOk.out).up _ HS.out.2.1) a b q
          have HTake : Hid (∀ W, Below wr.heap.size wr W → Calls Tryz.prog 43 #[.pointer (some ⟨bL, pl q * 6, none⟩), .agg #[.bool a, .bool b, .int .i64 q]] W fun e w' => e = .returned (.tuple #[]) ∧ Net w' bL bR hi0 (shOf T) V (litTake (shOf T) s (pl q) a b) ∧ Chg [bL, bR] W w') := fun W hW => ltake_p (HS.out.1.grown hW) q3 ((stays HOk.out).bd _ HS.out.2.1) a b q (litOf_pl q0)
          have HC3 : Hid (∀ W, Below W6.heap.size W6 W → W.cell? ⟨bx, 0, none⟩ = some (.bool a) ∧ W.cell? ⟨bx, 1, none⟩ = some (.bool b) ∧ W.cell? ⟨bx, 2, none⟩ = some (.int .i64 q)) := fun W hW => ⟨(hW.cell (p := ⟨bx, 0, none⟩) hl6).trans z0, (hW.cell (p := ⟨bx, 1, none⟩) hl6).trans z1, (hW.cell (p := ⟨bx, 2, none⟩) hl6).trans z2⟩
          have HGo : Hid (goodL T (fun _ _ => False) l ↔ goodL T (mk T s) ((a, b, q) :: l.drop (j + 1))) := by
            have := HS.out.2.2.2
            rw [HD.out] at this
            exact this
          have HLit := hidLL hlit
          have hB6s := HB6.out.1.size
          clear hlit q0 q1 q2
          cases hh : (shwn s (pl q) a == ansOf b) with
          | true =>
            rw [hh] at HHas
            have HG2 : Hid (goodL T (fun _ _ => False) l ↔ goodL T (mk T s) (l.drop (j + 1))) := HGo.out.trans (good_has HS.out.2.1 HLit.out (by simpa using hh) _)
            clear hh HFrom HTake
            generalize pl q = P at *
            go_upto_region 8 with fail
            rw [← HW6.out.1, ← HW6.out.2]
            go_wp2_with fail
            refine HNot.out.mono ?_
            rintro e w9 ⟨rfl, hb9⟩
            obtain ⟨u0, u1, u2⟩ := HC3.out w9 hb9
            have HH9 := hidLL (HHas.out w9 (HB6.out.1.trans (hb9.mono hB6s)))
            have H9 := hidLL hb9
            clear hb9 HHas
            go_wp2_with fail
            refine (HP.out _).mono ?_
            rintro e w' ⟨rfl, ew⟩
            subst w'
            go_wp2_with fail
            refine HH9.out.mono ?_
            rintro e w10 ⟨rfl, hb10⟩
            have H10 := hidLL (H9.out.trans (hb10.mono H9.out.size))
            clear hb10
            go_wp2
            go_roundw
            case rel => exact ⟨j + 1, s, by omega, by go_num, HS.out.1.grown (HB6.out.1.trans (H10.out.mono hB6s)), HS.out.2.1, HB6.out.2.trans (H10.out.mono HB6.out.2.size), HG2.out⟩
            case measure => simp [RowKit.intOf]; omega
          | false =>
            rw [hh] at HHas
            have hne : shwn s (pl q) a ≠ ansOf b := by simpa using hh
            have HNE := hidLL hne
            clear hh hne
            cases hf : fol4 (shOf T) s (pl q) a b with
            | false =>
              rw [hf] at HFrom
              have HG2 : Hid (¬ goodL T (fun _ _ => False) l) := by
                show ¬ _
                rw [HGo.out]
                exact good_not HOk.out HS.out.2.1 HLit.out hf _
              clear hf HTake
              generalize fromC (shOf T) s (pl q) a b = FC at *
              generalize pl q = P at *
              go_upto_region 8 with fail
              rw [← HW6.out.1, ← HW6.out.2]
              go_wp2_with fail
              refine HNot.out.mono ?_
              rintro e w9 ⟨rfl, hb9⟩
              obtain ⟨u0, u1, u2⟩ := HC3.out w9 hb9
              have HH9 := hidLL (HHas.out w9 (HB6.out.1.trans (hb9.mono hB6s)))
              have H9 := hidLL hb9
              clear hb9 HHas
              go_wp2_with fail
              refine (HP.out _).mono ?_
              rintro e w' ⟨rfl, ew⟩
              subst w'
              go_wp2_with fail
              refine HH9.out.mono ?_
              rintro e w10 ⟨rfl, hb10⟩
              have hb610 := H9.out.trans (hb10.mono H9.out.size)
              obtain ⟨v0, v1, v2⟩ := HC3.out w10 hb610
              have HF10 := hidLL (HFrom.out w10 (HB6.out.1.trans (hb610.mono hB6s)))
              have H10 := hidLL hb610
              clear hb10 hb610 HFrom
              go_wp2_with fail
              refine HF10.out.mono ?_
              rintro e w11 ⟨ad, n, c, rfl, hb11, _⟩
              have H11 := hidLL (H10.out.trans (hb11.mono H10.out.size))
              clear hb11
              go_wp2
              go_ret2
              exact ⟨HB0.out.trans ((HB6.out.2.trans (H11.out.mono HB6.out.2.size)).mono (by omega)), .inr ⟨HK.out.1, false, rfl, ⟨(fun e => by cases e), fun e => (HG2.out e).elim⟩⟩⟩
            | true =>
              rw [hf] at HFrom
              have hgt := good_take HOk.out HS.out.2.1 HLit.out HNE.out hf (l.drop (j + 1))
              have HG2 : Hid (Fine T (litTake (shOf T) s (pl q) a b) ∧ (goodL T (fun _ _ => False) l ↔ goodL T (mk T (litTake (shOf T) s (pl q) a b)) (l.drop (j + 1)))) := ⟨hgt.1, HGo.out.trans hgt.2⟩
              clear hf hgt
              generalize fromC (shOf T) s (pl q) a b = FC at *
              generalize litTake (shOf T) s (pl q) a b = s' at *
              generalize pl q = P at *
              go_upto_region 8 with fail
              rw [← HW6.out.1, ← HW6.out.2]
              go_wp2_with fail
              refine HNot.out.mono ?_
              rintro e w9 ⟨rfl, hb9⟩
              obtain ⟨u0, u1, u2⟩ := HC3.out w9 hb9
              have HH9 := hidLL (HHas.out w9 (HB6.out.1.trans (hb9.mono hB6s)))
              have H9 := hidLL hb9
              clear hb9 HHas
              go_wp2_with fail
              refine (HP.out _).mono ?_
              rintro e w' ⟨rfl, ew⟩
              subst w'
              go_wp2_with fail
              refine HH9.out.mono ?_
              rintro e w10 ⟨rfl, hb10⟩
              have hb610 := H9.out.trans (hb10.mono H9.out.size)
              obtain ⟨v0, v1, v2⟩ := HC3.out w10 hb610
              have HF10 := hidLL (HFrom.out w10 (HB6.out.1.trans (hb610.mono hB6s)))
              have H10 := hidLL hb610
              clear hb10 hb610 HFrom
              go_wp2_with fail
              refine HF10.out.mono ?_
              rintro e w11 ⟨ad, n, c, rfl, hb11, _⟩
              have hb611 := H10.out.trans (hb11.mono H10.out.size)
              obtain ⟨r0, r1, r2⟩ := HC3.out w11 hb611
              have HT11 := hidLL (HTake.out w11 (HB6.out.1.trans (hb611.mono hB6s)))
              have H11 := hidLL hb611
              clear hb11 hb611 HTake
              go_wp2_with fail
              refine HT11.out.mono ?_
              rintro e w12 ⟨rfl, hN12, hC12⟩
              have H12 := hidLL (And.intro hN12 hC12)
              clear hN12 hC12
              go_wp2
              go_roundw
              case rel =>
                have hb11 : Below W0.heap.size W0 w11 := HB6.out.2.trans (H11.out.mono HB6.out.2.size)
                exact ⟨j + 1, s', by omega, by go_num, H12.out.1, HG2.out.1, hb11.trans (H12.out.2.below hb11.size (by intro k hk; simp at hk; omega)), HG2.out.2⟩
              case measure => simp [RowKit.intOf]; omega
      · have hge : ¬ (j : Int) < cn := by omega
        have HGT : Hid (goodL T (fun _ _ => False) l) := by
          rw [HS.out.2.2.2, List.drop_eq_nil_of_le (by have := HCl.out.2; omega)]
          trivial
        clear hNet hF hbel hg
        go_wp2
        go_ret2
        exact ⟨HB0.out.trans (HS.out.2.2.1.mono (by omega)), .inr ⟨HK.out.1, true, rfl, ⟨fun _ => HGT.out, fun _ => rfl⟩⟩⟩
end Go.Proofs.YtmbclnaenjcocaaGreatDoor

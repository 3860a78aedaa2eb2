/-
  Package amend: move.
-/
import Derived.Test.YtpbolcjcmkmalaaGreatDoorCo16
import Derived.Test.YtpbolcjcmkmalaaGreatDoorCo21
import Derived.Test.YtpbolcjcmkmalaaGreatDoorCo30
import Derived.Test.YtpbolcjcmkmalaaGreatDoorCo17
import Derived.Deep.DeepCutAuto
import Derived.Deep.RegionHeld3
namespace Go.Proofs.YtpbolcjcmkmalaaGreatDoor
open Go.RowKit Go.Extern.Stop Go.Stop Go.Extern

theorem dbel {w w' : World} (h : Below w.drew.heap.size w.drew w') : Below w.heap.size w w' := ⟨h.os, h.tape, h.output, h.size, h.block⟩
theorem dbelN {w w' : World} {n : Nat} (h : Below (w.drewN n).heap.size (w.drewN n) w') : Below w.heap.size w w' := ⟨h.os, h.tape, h.output, h.size, h.block⟩
set_option maxHeartbeats 8000000 in
set_option maxRecDepth 20000 in
theorem move_a {w : World} {B b o : Nat} {t : It} {S : Nat → Prop} {v : Nat → Value} (h : ItAt w B b o t S v) (hL : Law t) (hB : B ≤ w.heap.size) {p : Nat → Addr} {m : Int} (hE : Env w p m) (op : OpW) (hok : OpOk op) (iv : Nat → Value) :
    Calls Tryz.prog 35 #[.pointer (some ⟨b, o, none⟩), .agg (opV op iv)] w (ChO w B b o S p (moveC t op)) := by
  have ht := hok.path
  have htn := hok.new
  clear hok
  have R1 := mv_no1 (t := t) (o := op)
  have R2 := mv_no2 (t := t) (o := op)
  have R3 := fun x i k y => mv_in (t := t) (x := x) (i := i) (k := k) (y := y) (o := op)
  have R4 := fun x i k y => mv_at (t := t) (x := x) (i := i) (k := k) (y := y) (o := op)
  have R5 := fun x i k y => mv_name (t := t) (x := x) (i := i) (k := k) (y := y) (o := op)
  have R6 := fun x i k y => mv_deep (t := t) (x := x) (i := i) (k := k) (y := y) (o := op)
  have R7 := fun x i k y => mv_ok (t := t) (x := x) (i := i) (k := k) (y := y) (o := op)
  generalize moveC t op = r at *
  cases op with
  | mk kind path at' text new line item =>
    have ht : path.size ≤ 6000 := ht
    have htn : new.size ≤ 6000 := htn
    show Calls Tryz.prog 35 #[.pointer (some ⟨b, o, none⟩), .agg #[.int .i64 kind, .string path, .string at', .string text, .string new, .int .i64 line, iv 0, iv 1, iv 2, iv 3]] w (ChO w B b o S p r)
    generalize iv 0 = i0, iv 1 = i1, iv 2 = i2, iv 3 = i3
    obtain ⟨WB, hWB⟩ : ∃ WB, WB = w.alloc (.cells #[.int .i64 kind, .string path, .string at', .string text, .string new, .int .i64 line, i0, i1, i2, i3] 46) := ⟨_, rfl⟩
    have hb0 : Below w.heap.size w WB := by rw [hWB]; exact (Below.refl _ _).alloc (Nat.le_refl _) _
    have hbx : WB.heap[w.heap.size]? = some (.cells #[.int .i64 kind, .string path, .string at', .string text, .string new, .int .i64 line, i0, i1, i2, i3] 46 (0, 0)) := by rw [hWB]; exact heap_alloc_new _ _
    obtain ⟨y0, y1, y2, y3, y4, y5, y6, y7, y8, y9⟩ := ten hbx
    have hw1 : w.heap.size < WB.heap.size := by rw [hWB]; simp
    have HL1 : Hid (∀ W, Below WB.heap.size WB W → Calls Tryz.prog 30 #[.string path] W fun e w' => (∃ a c, e = .returned (.slice a (partsB path).length c) ∧ StrsN w.heap.size w' a (partsB path) ∧ (partsB path).length ≤ c) ∧ Below WB.heap.size WB w') := fun W hW => (labelsOf_b path (by omega) m w.heap.size W (Nat.le_trans hb0.size hW.size) (hE.on (hb0.trans (hW.mono hb0.size))).M).mono fun e w' h => ⟨h.1, hW.trans (h.2.mono hW.size)⟩
    have HL2 : Hid (∀ W, Below WB.heap.size WB W → Calls Tryz.prog 30 #[.string new] W fun e w' => (∃ a c, e = .returned (.slice a (partsB new).length c) ∧ StrsN w.heap.size w' a (partsB new) ∧ (partsB new).length ≤ c) ∧ Below WB.heap.size WB w' ∧ Below W.heap.size W w') := fun W hW => (labelsOf_b new (by omega) m w.heap.size W (Nat.le_trans hb0.size hW.size) (hE.on (hb0.trans (hW.mono hb0.size))).M).mono fun e w' h => ⟨h.1, hW.trans (h.2.mono hW.size), h.2⟩
    have HX := hidLL hWB
    have H0 := hidLL h
    have HLaw := hidLL hL
    have HF := hidLL (law_few hL)
    have HB0 := hidLL hb0
    have HEn := hidLL (fun w' (hb : Below w.heap.size w w') => hE.on hb)
    have HR1 : Hid (arW t (partsB path) = none → r = .bad 5) := R1
    have HR2 : Hid (findW t (partsB new) = none → r = .bad 5) := R2
    have HR3 : Hid (∀ x i k y, Mv t (partsB path) (partsB new) x i k y → partsB path <+: partsB new → r = .bad 5) := R3
    have HR4 : Hid (∀ x i k y, Mv t (partsB path) (partsB new) x i k y → ¬ partsB path <+: partsB new → (behIx y.kids at' = none ∨ (partsB path).dropLast = partsB new ∧ at' = k.label) → r = .bad 5) := R4
    have HR5 : Hid (∀ x i k y, Mv t (partsB path) (partsB new) x i k y → ¬ partsB path <+: partsB new → ¬ (behIx y.kids at' = none ∨ (partsB path).dropLast = partsB new ∧ at' = k.label) → ((partsB path).dropLast ≠ partsB new ∧ (kidIx y.kids k.label).isSome) → r = .bad 7) := R5
    have HR6 : Hid (∀ x i k y, Mv t (partsB path) (partsB new) x i k y → ¬ partsB path <+: partsB new → ¬ (behIx y.kids at' = none ∨ (partsB path).dropLast = partsB new ∧ at' = k.label) → ¬ ((partsB path).dropLast ≠ partsB new ∧ (kidIx y.kids k.label).isSome) → 6 < (partsB new).length + levIt k → r = .bad 2) := R6
    have HR7 : Hid (∀ x i k y, Mv t (partsB path) (partsB new) x i k y → ¬ partsB path <+: partsB new → ¬ (behIx y.kids at' = none ∨ (partsB path).dropLast = partsB new ∧ at' = k.label) → ¬ ((partsB path).dropLast ≠ partsB new ∧ (kidIx y.kids k.label).isSome) → ¬ 6 < (partsB new).length + levIt k → ∀ z j, findW (lessW t x i (partsB path).dropLast) (partsB new) = some z → behIx z.kids at' = some j → r = .ok (setW (fun _ => z.setKids (z.kids.insertIdx j k)) (partsB new) (lessW t x i (partsB path).dropLast))) := R7
    have hpl : (partsB path).length ≤ 100000 := by have := parts_len path; omega
    have hql : (partsB new).length ≤ 100000 := by have := parts_len new; omega
    have HPl := hidLL (And.intro hpl hql)
    have HW1 := hidLL hw1
    clear hWB h hL hE y0 y3 y5 y6 y7 y8 y9 hbx hb0 R1 R2 R3 R4 R5 R6 R7 hpl hql hw1
    generalize partsB path = ps at *
    generalize partsB new = qs at *
    go_enter Tryz.func35, Tryz.ntmps35
    go_upto_region 1 with fail
    rw [← HX.out]
    go_cut [5, 6] (fun x1 x2 wx => ∃ pa pc qa qc, x1 = .slice pa ps.length pc ∧ x2 = .slice qa qs.length qc ∧ StrsN w.heap.size wx pa ps ∧ StrsN w.heap.size wx qa qs ∧ ps.length ≤ pc ∧ qs.length ≤ qc ∧ Below WB.heap.size WB wx)
    case first =>
      go_region_with (go_at_call 30; first | (refine (HL1.out _ ?_).mono ?_; (· first | exact Below.refl _ _ | exact (Below.refl _ _).drew | exact bdrewN (Below.refl _ _) _); rintro e w1 ⟨⟨pa, pc, rfl, hst, hpc⟩, hb1⟩; have z4 := (hb1.cell (p := ⟨w.heap.size, 4, none⟩) HW1.out).trans y4; have H1 := hidLL (And.intro hst (And.intro hpc hb1)); clear hst hpc hb1) | (refine (HL2.out _ ?_).mono ?_; (· first | exact H1.out.2.2 | exact H1.out.2.2.drew | exact bdrewN H1.out.2.2 _); rintro e w2 ⟨⟨qa, qc, rfl, hst, hpc⟩, hb2, hb3⟩; have H2 := hidLL (And.intro hst (And.intro hpc (And.intro hb2 (H1.out.1.on (by first | exact hb3 | exact dbel hb3 | exact dbelN hb3))))); clear hst hpc hb2 hb3))
      all_goals go_wp2_with fail
      all_goals go_meet
      all_goals first | exact ⟨_, _, _, _, rfl, rfl, H2.out.2.2.2, H2.out.1, H1.out.2.1, H2.out.2.1, H2.out.2.2.1⟩ | trace_state
    case rest =>
      obtain ⟨pa, pc, qa, qc, rfl, rfl, hsp, hsq, hpc, hqc, hb1⟩ := hcut
      have hbw1 := HB0.out.trans (hb1.mono HB0.out.size)
      have HB1 := hidLL hbw1
      have HS := hidLL (And.intro hsp hsq)
      have HC := hidLL (And.intro hpc hqc)
      have z2 := (hb1.cell (p := ⟨w.heap.size, 2, none⟩) HW1.out).trans y2
      have HAr := hidLL (around_a (H0.out.on hbw1) HF.out hsp.at' HPl.out.1 hpc)
      clear hsp hsq hpc hqc hb1 hbw1 y1 y2 y4 HL1 HL2
      go_wp2_with fail
      refine HAr.out.mono ?_
      rintro e w2 ⟨har, hb2⟩
      unfold ArO at har
      have HB2 := hidLL (HB1.out.trans (hb2.mono HB1.out.size))
      have HQ2 := hidLL (HS.out.2.on hb2)
      have HP2 := hidLL (HS.out.1.on hb2)
      have x2 := (hb2.cell (p := ⟨w.heap.size, 2, none⟩) (cell_lt z2)).trans z2
      have HFd := hidLL (find_a (pc := qc) (H0.out.on HB2.out) HF.out HQ2.out.at' HPl.out.2)
      clear z2 HAr
      cases hq : arW t ps with
      | none =>
        rw [hq] at har
        have har : e = _ := har
        subst har
        have HO := hidLL (HR1.out hq)
        clear hq hb2
        go_wp2_with fail
        refine HFd.out.mono ?_
        rintro e w3 ⟨hfi, hb3⟩
        have he : ∃ q, e = .returned (.pointer q) := by
          unfold FindO at hfi
          split at hfi
          · exact ⟨_, hfi⟩
          · obtain ⟨_, _, _, _, h9, _⟩ := hfi
            exact ⟨_, h9⟩
        obtain ⟨q, rfl⟩ := he
        have HB3 := hidLL (HB2.out.trans (hb3.mono HB2.out.size))
        clear hfi hb3
        have e1 : w3.cell? ⟨4, 0, none⟩ = some (.iface 214 (.pointer (some (p 4)))) := (HEn.out _ HB3.out).L.cell 4 (by omega)
        go_wp2
        go_ret
        rw [HO.out]
        exact ⟨by omega, EO.err 4 (by omega), HB3.out.mono hB⟩
      | some xi =>
        obtain ⟨x, i⟩ := xi
        rw [hq] at har
        obtain ⟨b1, o1, S1, v1, rfl, hf1⟩ := har
        have hf1 := hf1.on (by have := H0.out.lt; have := HB1.out.size; omega) hb2
        have HF1 := hidLL hf1
        have HQ := hidLL hq
        clear hq hb2 hf1
        go_wp2_with fail
        refine HFd.out.mono ?_
        rintro e w3 ⟨hfi, hb3⟩
        have HB3 := hidLL (HB2.out.trans (hb3.mono HB2.out.size))
        have x2 := (hb3.cell (p := ⟨w.heap.size, 2, none⟩) (cell_lt x2)).trans x2
        unfold FindO at hfi
        cases hq2 : findW t qs with
        | none =>
          rw [hq2] at hfi
          have hfi : e = _ := hfi
          subst hfi
          have HO := hidLL (HR2.out hq2)
          clear hq2 hb3
          have e1 : w3.cell? ⟨4, 0, none⟩ = some (.iface 214 (.pointer (some (p 4)))) := (HEn.out _ HB3.out).L.cell 4 (by omega)
          go_wp2
          go_ret
          rw [HO.out]
          exact ⟨by omega, EO.err 4 (by omega), HB3.out.mono hB⟩
        | some y =>
          rw [hq2] at hfi
          obtain ⟨b2, o2, S2, v2, rfl, hf2⟩ := hfi
          have hf2 := hf2.on (by have := H0.out.lt; have := HB2.out.size; omega) hb3
          have hf1 := HF1.out.on (by have := H0.out.lt; have := HB2.out.size; omega) hb3
          obtain ⟨p0, l, k, hp, h1, h2, h3, h4⟩ := ar_some HQ.out
          have HMv : Hid (Mv t ps qs x i k y) := ⟨HQ.out, hq2, h3⟩
          have HLi := hidLL (lies_a (pc := qc) (qc := pc) (HQ2.out.on hb3).at' (HP2.out.on hb3).at' HPl.out.1 HC.out.2)
          have hlt := H0.out.lt
          have HF2 := hidLL hf2
          have HF1' := hidLL hf1
          have HP := hidLL (And.intro hp (And.intro h1 (And.intro h2 (And.intro h3 h4))))
          have HP3 := hidLL (And.intro (HP2.out.on hb3) (HQ2.out.on hb3))
          clear hq2 hb3 hf1 hf2 hp h1 h2 h3 h4 HFd HS HP2 HQ2 HF1 HB1 HB2
          have hle := liesB_iff qs ps
          cases hli : liesB qs ps
          · have HN : Hid (¬ ps <+: qs) := fun e => by rw [hle.2 e] at hli; cases hli
            rw [hli] at HLi
            clear hli hle
            go_wp2_with fail
            refine HLi.out.mono ?_
            rintro e w4 ⟨rfl, hb4⟩
            have hf1 := HF1'.out.on (by have := HB3.out.size; omega) hb4
            have hf2 := HF2.out.on (by have := HB3.out.size; omega) hb4
            obtain ⟨g, cap, K, T, e3, hk, hat⟩ := hf1.at'.kid HP.out.2.2.2.1
            have c3 := hf1.at'.cell (c := 3) (by omega)
            rw [e3] at c3
            obtain ⟨g0, g1, ⟨la, lc, g2⟩, ka, kc, g3⟩ := hat.own.lies.forms
            have k0 := hat.cell (c := 0) (by omega)
            have k1 := hat.cell (c := 1) (by omega)
            have k2 := hat.cell (c := 2) (by omega)
            have k3 := hat.cell (c := 3) (by omega)
            rw [g0, Nat.add_zero] at k0
            rw [g1] at k1
            rw [g2] at k2
            rw [g3] at k3
            have hil := (List.getElem?_eq_some_iff.1 HP.out.2.2.2.1).1
            have hiz : (i : Int) < (x.kids.length : Int) := by omega
            have hkl := (find_few _ t x HF.out HP.out.2.1).get.2.1
            obtain ⟨W6, hW6⟩ : ∃ W6, W6 = w4.alloc (.cells #[.string k.label, .string k.head, .slice la k.lines.length lc, .slice ka k.kids.length kc] 25) := ⟨_, rfl⟩
            have hb6 : Below w4.heap.size w4 W6 := by rw [hW6]; exact (Below.refl _ _).alloc (Nat.le_refl _) _
            have hbi : W6.heap[w4.heap.size]? = some (.cells #[.string k.label, .string k.head, .slice la k.lines.length lc, .slice ka k.kids.length kc] 25 (0, 0)) := by rw [hW6]; exact heap_alloc_new _ _
            have x4 := (hb4.cell (p := ⟨w.heap.size, 2, none⟩) (cell_lt x2)).trans x2
            have HB4 := hidLL (HB3.out.trans (hb4.mono HB3.out.size))
            have HW6 := hidLL hW6
            have HF1 := hidLL hf1
            have HF2 := hidLL hf2
            have HK := hidLL (And.intro hk (And.intro e3 hat))
            have HG := hidLL (And.intro g0 (And.intro g1 (And.intro g2 g3)))
            have HP4 := hidLL (And.intro (HP3.out.1.on hb4) (HP3.out.2.on hb4))
            have HB6 := hidLL hb6
            have HBi := hidLL hbi
            clear hW6 hf1 hf2 hk e3 hat g0 g1 g2 g3 hb4 hb6 hbi x2 HLi HP3
            generalize hkn : x.kids.length = kn at *
            have HKn := hidLL hkn
            clear hkn
            go_upto_region 7 with fail
            rw [← HW6.out]
            obtain ⟨m0, m1, m2, m3, mf⟩ := four HBi.out
            have x6 := (HB6.out.cell (p := ⟨w.heap.size, 2, none⟩) (cell_lt x4)).trans x4
            have hf2 := HF2.out.on (by have := HB4.out.size; omega) HB6.out
            obtain ⟨ka2, kc2, hv3, d3⟩ := hf2.at'.kidsV
            have hyl := (find_few _ t y HF.out HMv.out.fd).get.2.1
            have HBe : Hid (∀ W, Below W6.heap.size W6 W → Calls Tryz.prog 76 #[.slice ka2 y.kids.length kc2, .string at'] W fun e w' => e = .returned (.int .i64 (ixI (behIx y.kids at'))) ∧ Below W6.heap.size W6 w') := fun W hW => (behind_lies (hf2.at'.on hW).own.lies hv3 (by omega) at').mono fun e w' h => ⟨h.1, hW.trans (h.2.mono hW.size)⟩
            have HLd : Hid (∀ W, Below W6.heap.size W6 W → Calls Tryz.prog 69 #[.slice ka2 y.kids.length kc2, .string k.label] W fun e w' => e = .returned (.int .i64 (ixI (kidIx y.kids k.label))) ∧ Below W6.heap.size W6 w') := fun W hW => (amLab_lies (hf2.at'.on hW).own.lies hv3 (by omega) k.label).mono fun e w' h => ⟨h.1, hW.trans (h.2.mono hW.size)⟩
            have hs1 := Foc.same ((H0.out.on HB4.out).on HB6.out) (HF1.out.on (by have := HB4.out.size; omega) HB6.out) hf2
            have HSm : Hid ((b2 = b1 ∧ o2 = o1) ↔ ps.dropLast = qs) := by
              refine ⟨fun h => ?_, fun h => ?_⟩
              · have := hs1.1 ⟨h.1.symm, h.2.symm⟩
                exact this
              · have := hs1.2 h
                exact ⟨this.1.symm, this.2.symm⟩
            have HV3 := hidLL hv3
            obtain ⟨bad, hbad⟩ : ∃ bad : Bool, (bad = true ↔ (behIx y.kids at' = none ∨ ps.dropLast = qs ∧ at' = k.label)) := ⟨@decide _ (Classical.propDecidable _), @decide_eq_true_iff _ (Classical.propDecidable _)⟩
            have HBad := hidLL hbad
            have H46 : Hid (w4.heap.size < W6.heap.size) := cell_lt m0
            clear hf2 hv3 hs1 hbad x4 c3 k0 k1 k2 k3
            generalize hyn : y.kids.length = yn at *
            have HYn := hidLL hyn
            clear hyn
            go_cut [64] (fun c wx => c = .bool bad ∧ Below W6.heap.size W6 wx)
            case first =>
              have HCl : Hid (∀ W, Below W6.heap.size W6 W → W.cell? ⟨b2, o2 + 3, none⟩ = some (.slice ka2 yn kc2) ∧ W.cell? ⟨w.heap.size, 2, none⟩ = some (.string at') ∧ W.cell? ⟨w4.heap.size, 0, none⟩ = some (.string k.label)) := fun W hW => ⟨(hW.cell (p := ⟨b2, o2 + 3, none⟩) (cell_lt d3)).trans d3, (hW.cell (p := ⟨w.heap.size, 2, none⟩) (cell_lt x6)).trans x6, (hW.cell (p := ⟨w4.heap.size, 0, none⟩) (cell_lt m0)).trans m0⟩
              clear m1 m2 m3 mf
              cases hbe : behIx y.kids at' with
              | none =>
                obtain ⟨n1, hn1⟩ : ∃ n1 : Int, ixI (none : Option Nat) = n1 := ⟨_, rfl⟩
                have hn0 : n1 < 0 := by rw [← hn1]; decide
                have hb1 : bad = true := HBad.out.2 (.inl hbe)
                rw [hbe, hn1] at HBe
                clear hbe hn1
                subst hb1
                refine wp_region_quiet_C (C := fun W => Below W6.heap.size W6 W) (by kernel_rfl) (by kernel_rfl) (Below.refl _ _).drew ?_
                refine quiet_MA 45 20 ?_
                refine mvA_neg (same := true) (b1 := b1) (o1 := o1) (b2 := b2) (o2 := o2) (g0 := w.heap.size) (g1 := w4.heap.size) (lab := k.label) rfl rfl rfl rfl rfl rfl (fun W hW => (HCl.out W hW).1) (fun W hW => (HCl.out W hW).2.1) (fun W hW => (HCl.out W hW).2.2) HBe.out hn0 ?_
                rintro m hm hl W7 hW7
                obtain ⟨u0, u1, u2, u3, u4, u5, u6, u7, u8, u9, u10, u11, u12, u13, u14, u15, u16, u17, u18, u19, rfl⟩ := twenty hm
                obtain rfl : u19 = .bool true := by injection hl
                clear hm hl
                simp only [MA, List.take_succ_cons, List.take_zero, List.drop_succ_cons, List.drop_zero, List.cons_append, List.nil_append]
                go_wp2_with fail
                go_meet
                exact ⟨rfl, hW7⟩
              | some j =>
                rw [hbe, show ixI (some j) = (j : Int) from rfl] at HBe
                have hj0 : ¬ ((j : Int) < 0) := by omega
                by_cases hsm : b2 = b1 ∧ o2 = o1
                · obtain ⟨e1, e2⟩ := hsm
                  have hpq := HSm.out.1 ⟨e1, e2⟩
                  have hbd : (at'.toList == k.label.toList) = bad := by
                    rw [Bool.eq_iff_iff, HBad.out, hbe, beq_iff_eq]
                    exact ⟨fun h => .inr ⟨hpq, list_injA h⟩, fun h => h.elim (fun h => by cases h) (fun h => by rw [h.2])⟩
                  have hE : ∀ W, Below W6.heap.size W6 W → (binOp .eql 51 (.pointer (some ⟨b2, o2, none⟩)) (.pointer (some ⟨b1, o1, none⟩))).run Tryz.prog W = .ok (.bool true) W := fun W _ => by rw [e1, e2]; exact ptr_same _ W
                  clear hbe hpq e1 e2
                  refine wp_region_quiet_C (C := fun W => Below W6.heap.size W6 W) (by kernel_rfl) (by kernel_rfl) (Below.refl _ _).drew ?_
                  refine quiet_MA 45 20 ?_
                  refine mvA_same (b1 := b1) (o1 := o1) (b2 := b2) (o2 := o2) (g0 := w.heap.size) (g1 := w4.heap.size) (lab := k.label) rfl rfl rfl rfl rfl rfl (fun W hW => (HCl.out W hW).1) (fun W hW => (HCl.out W hW).2.1) (fun W hW => (HCl.out W hW).2.2) HBe.out hj0 hE hbd ?_
                  rintro m hm hl W7 hW7
                  obtain ⟨u0, u1, u2, u3, u4, u5, u6, u7, u8, u9, u10, u11, u12, u13, u14, u15, u16, u17, u18, u19, rfl⟩ := twenty hm
                  obtain rfl : u19 = .bool bad := by injection hl
                  clear hm hl
                  simp only [MA, List.take_succ_cons, List.take_zero, List.drop_succ_cons, List.drop_zero, List.cons_append, List.nil_append]
                  go_wp2_with fail
                  go_meet
                  exact ⟨rfl, hW7⟩
                · have hbd : bad = false := by
                    cases hbv : bad
                    · rfl
                    · rcases HBad.out.1 hbv with h9 | h9
                      · rw [hbe] at h9; cases h9
                      · exact absurd (HSm.out.2 h9.1) hsm
                  clear hbe
                  subst hbd
                  have hE : ∀ W, Below W6.heap.size W6 W → (binOp .eql 51 (.pointer (some ⟨b2, o2, none⟩)) (.pointer (some ⟨b1, o1, none⟩))).run Tryz.prog W = .ok (.bool false) W := fun W hW => ptr_other ((HF2.out.at'.on HB6.out).on hW) ((HF1.out.at'.on HB6.out).on hW) hsm
                  clear hsm
                  refine wp_region_quiet_C (C := fun W => Below W6.heap.size W6 W) (by kernel_rfl) (by kernel_rfl) (Below.refl _ _).drew ?_
                  refine quiet_MA 45 20 ?_
                  refine mvA_other (same := true) (b1 := b1) (o1 := o1) (b2 := b2) (o2 := o2) (g0 := w.heap.size) (g1 := w4.heap.size) (lab := k.label) rfl rfl rfl rfl rfl rfl (fun W hW => (HCl.out W hW).1) (fun W hW => (HCl.out W hW).2.1) (fun W hW => (HCl.out W hW).2.2) HBe.out hj0 hE ?_
                  rintro m hm hl W7 hW7
                  obtain ⟨u0, u1, u2, u3, u4, u5, u6, u7, u8, u9, u10, u11, u12, u13, u14, u15, u16, u17, u18, u19, rfl⟩ := twenty hm
                  obtain rfl : u19 = .bool false := by injection hl
                  clear hm hl
                  simp only [MA, List.take_succ_cons, List.take_zero, List.drop_succ_cons, List.drop_zero, List.cons_append, List.nil_append]
                  go_wp2_with fail
                  go_meet
                  exact ⟨rfl, hW7⟩
            case rest =>
              obtain ⟨rfl, hb7⟩ := hcut
              obtain ⟨w7, e7, hb7⟩ : ∃ w7, w7 = _ ∧ Below W6.heap.size W6 w7 := ⟨_, rfl, hb7⟩
              subst e7
              have hbw7 : Below w.heap.size w w7 := HB4.out.trans ((HB6.out.trans (hb7.mono HB6.out.size)).mono HB4.out.size)
              have HB7 := hidLL hb7
              have HBw7 := hidLL hbw7
              clear hb7 hbw7 HBe
              cases bad
              · have HBf : Hid (¬ (behIx y.kids at' = none ∨ ps.dropLast = qs ∧ at' = k.label)) := fun e => by have := HBad.out.2 e; cases this
                clear HBad
                obtain ⟨nm, hnm⟩ : ∃ nm : Bool, (nm = true ↔ (ps.dropLast ≠ qs ∧ (kidIx y.kids k.label).isSome)) := ⟨@decide _ (Classical.propDecidable _), @decide_eq_true_iff _ (Classical.propDecidable _)⟩
                have HNm := hidLL hnm
                have HCl : Hid (∀ W, Below W6.heap.size W6 W → W.cell? ⟨b2, o2 + 3, none⟩ = some (.slice ka2 yn kc2) ∧ W.cell? ⟨w.heap.size, 2, none⟩ = some (.string at') ∧ W.cell? ⟨w4.heap.size, 0, none⟩ = some (.string k.label)) := fun W hW => ⟨(hW.cell (p := ⟨b2, o2 + 3, none⟩) (cell_lt d3)).trans d3, (hW.cell (p := ⟨w.heap.size, 2, none⟩) (cell_lt x6)).trans x6, (hW.cell (p := ⟨w4.heap.size, 0, none⟩) (cell_lt m0)).trans m0⟩
                have HM6 := hidLL (And.intro x6 (And.intro m0 (And.intro m1 (And.intro m2 m3))))
                have HD3 := hidLL d3
                clear hnm x6 m0 m1 m2 m3 mf d3
                go_upto_region 9 with fail
                go_cut [78] (fun c wx => c = .bool nm ∧ Below W6.heap.size W6 wx)
                case first =>
                  by_cases hsm : b2 = b1 ∧ o2 = o1
                  · obtain ⟨e1, e2⟩ := hsm
                    have hpq := HSm.out.1 ⟨e1, e2⟩
                    have hbd : nm = false := by
                      cases hbv : nm
                      · rfl
                      · exact absurd hpq (HNm.out.1 hbv).1
                    subst hbd
                    have hE : ∀ W, Below W6.heap.size W6 W → (binOp .neq 51 (.pointer (some ⟨b2, o2, none⟩)) (.pointer (some ⟨b1, o1, none⟩))).run Tryz.prog W = .ok (.bool false) W := fun W _ => by rw [e1, e2]; exact ptr_nsame _ W
                    clear hpq e1 e2
                    refine wp_region_quiet_C (C := fun W => Below W6.heap.size W6 W) (by kernel_rfl) (by kernel_rfl) HB7.out.drew ?_
                    refine quiet_MA 66 13 ?_
                    refine mvB_same (same := true) (b1 := b1) (o1 := o1) (b2 := b2) (o2 := o2) (g1 := w4.heap.size) (lab := k.label) rfl rfl rfl rfl rfl (fun W hW => (HCl.out W hW).1) (fun W hW => (HCl.out W hW).2.2) HLd.out hE ?_
                    rintro m hm hl W7 hW7
                    obtain ⟨u0, u1, u2, u3, u4, u5, u6, u7, u8, u9, u10, u11, u12, rfl⟩ := thirteen hm
                    obtain rfl : u12 = .bool false := by injection hl
                    clear hm hl
                    simp only [MA, List.take_succ_cons, List.take_zero, List.drop_succ_cons, List.drop_zero, List.cons_append, List.nil_append]
                    go_wp2_with fail
                    go_meet
                    exact ⟨rfl, hW7⟩
                  · have hs9 : decide (0 ≤ ixI (kidIx y.kids k.label)) = nm := by
                      rw [Bool.eq_iff_iff, HNm.out, decide_eq_true_iff]
                      constructor
                      · intro h9
                        refine ⟨fun e => hsm (HSm.out.2 e), ?_⟩
                        cases hk9 : kidIx y.kids k.label with
                        | none => rw [hk9] at h9; revert h9; decide
                        | some z => rfl
                      · rintro ⟨_, h9⟩
                        obtain ⟨z, hz⟩ := Option.isSome_iff_exists.1 h9
                        rw [hz]
                        exact Int.natCast_nonneg z
                    have hE : ∀ W, Below W6.heap.size W6 W → (binOp .neq 51 (.pointer (some ⟨b2, o2, none⟩)) (.pointer (some ⟨b1, o1, none⟩))).run Tryz.prog W = .ok (.bool true) W := fun W hW => ptr_nother ((HF2.out.at'.on HB6.out).on hW) ((HF1.out.at'.on HB6.out).on hW) hsm
                    clear hsm
                    refine wp_region_quiet_C (C := fun W => Below W6.heap.size W6 W) (by kernel_rfl) (by kernel_rfl) HB7.out.drew ?_
                    refine quiet_MA 66 13 ?_
                    refine mvB_other (b1 := b1) (o1 := o1) (b2 := b2) (o2 := o2) (g1 := w4.heap.size) (lab := k.label) rfl rfl rfl rfl rfl (fun W hW => (HCl.out W hW).1) (fun W hW => (HCl.out W hW).2.2) HLd.out hE hs9 ?_
                    rintro m hm hl W7 hW7
                    obtain ⟨u0, u1, u2, u3, u4, u5, u6, u7, u8, u9, u10, u11, u12, rfl⟩ := thirteen hm
                    obtain rfl : u12 = .bool nm := by injection hl
                    clear hm hl
                    simp only [MA, List.take_succ_cons, List.take_zero, List.drop_succ_cons, List.drop_zero, List.cons_append, List.nil_append]
                    go_wp2_with fail
                    go_meet
                    exact ⟨rfl, hW7⟩
                case rest =>
                  obtain ⟨rfl, hb8⟩ := hcut
                  obtain ⟨w8, e8, hb8⟩ : ∃ w8, w8 = _ ∧ Below W6.heap.size W6 w8 := ⟨_, rfl, hb8⟩
                  subst e8
                  have hbw8 : Below w.heap.size w w8 := HB4.out.trans ((HB6.out.trans (hb8.mono HB6.out.size)).mono HB4.out.size)
                  have HB8 := hidLL hb8
                  have HBw8 := hidLL hbw8
                  clear hb8 hbw8 hf1 hf2 x2 HF1' HCl HLd HD3 HBw7 HB7 HV3
                  cases nm
                  · have HNf : Hid (¬ (ps.dropLast ≠ qs ∧ (kidIx y.kids k.label).isSome)) := fun e => by have := HNm.out.2 e; cases this
                    clear HNm
                    have hlk : levIt k ≤ 7 := by
                      have h1 := (find_rgt p0 0 t x HLaw.out.1 HP.out.2.1).deep
                      have h2 := lev_mem x.kids k (List.mem_of_getElem? HP.out.2.2.2.1)
                      rw [levIt_eq] at h1
                      omega
                    have HLk := hidLL hlk
                    obtain ⟨z2, z3, z4, z5, z6⟩ := HM6.out
                    have n0 := (HB8.out.cell (p := ⟨w4.heap.size, 0, none⟩) (cell_lt z3)).trans z3
                    have n1 := (HB8.out.cell (p := ⟨w4.heap.size, 1, none⟩) (cell_lt z4)).trans z4
                    have n2 := (HB8.out.cell (p := ⟨w4.heap.size, 2, none⟩) (cell_lt z5)).trans z5
                    have n3 := (HB8.out.cell (p := ⟨w4.heap.size, 3, none⟩) (cell_lt z6)).trans z6
                    clear z2 z3 z4 z5 z6
                    have HFk := hidLL ((find_few _ t x HF.out HP.out.2.1).get.2.2.2.2.2 k (List.mem_of_getElem? HP.out.2.2.2.1))
                    have hb48 : Below w4.heap.size w4 w8 := HB6.out.trans (HB8.out.mono HB6.out.size)
                    have hlev := levels_a (sizeIt k) k (Nat.le_refl _) HFk.out (by omega) (K i) w8 _ ((HK.out.1.on hb48).hr i k HP.out.2.2.2.1).lies
                    rw [HG.out.1, HG.out.2.1, HG.out.2.2.1, HG.out.2.2.2] at hlev
                    have HLev := hidLL hlev
                    have HB48 := hidLL hb48
                    have hql := HPl.out.2
                    obtain ⟨lk, hlk2⟩ : ∃ lk, lk = levIt k := ⟨_, rfl⟩
                    have HLq := hidLL hlk2
                    rw [← hlk2] at HLev hlk
                    have hwr : IntKind.i64.wrap ((qs.length : Int) + (lk : Int)) = (qs.length : Int) + (lk : Int) := by rw [IntKind.wrap_i64]; omega
                    clear hlev hb48 hlk2
                    go_wp2_with fail
                    refine HLev.out.mono ?_
                    rintro e w9 ⟨rfl, hb9⟩
                    have HB9 := hidLL hb9
                    have HBw9 := hidLL (HBw8.out.trans (hb9.mono HBw8.out.size))
                    clear hb9 HLev
                    by_cases h6 : (6 : Int) < (qs.length : Int) + (lk : Int)
                    · have HO := hidLL (HR6.out _ _ _ _ HMv.out HN.out HBf.out HNf.out (by have := HLq.out; omega))
                      have e1 : w9.cell? ⟨0, 0, none⟩ = some (.iface 214 (.pointer (some (p 1)))) := (HEn.out _ HBw9.out).L.cell 1 (by omega)
                      clear n0 n1 n2 n3
                      go_wp2
                      go_ret
                      rw [HO.out]
                      exact ⟨by omega, EO.err 1 (by omega), HBw9.out.mono hB⟩
                    · have H6 : Hid (¬ 6 < qs.length + levIt k) := fun e => h6 (by have := HLq.out; omega)
                      have HN9 := hidLL (And.intro ((HB9.out.cell (p := ⟨w4.heap.size, 0, none⟩) (cell_lt n0)).trans n0) (And.intro ((HB9.out.cell (p := ⟨w4.heap.size, 1, none⟩) (cell_lt n1)).trans n1) (And.intro ((HB9.out.cell (p := ⟨w4.heap.size, 2, none⟩) (cell_lt n2)).trans n2) ((HB9.out.cell (p := ⟨w4.heap.size, 3, none⟩) (cell_lt n3)).trans n3))))
                      have HX9 := hidLL ((HB9.out.cell (p := ⟨w.heap.size, 2, none⟩) (cell_lt ((HB8.out.cell (p := ⟨w.heap.size, 2, none⟩) (cell_lt HM6.out.1)).trans HM6.out.1))).trans ((HB8.out.cell (p := ⟨w.heap.size, 2, none⟩) (cell_lt HM6.out.1)).trans HM6.out.1))
                      have hb49 : Below w4.heap.size w4 w9 := HB48.out.trans (HB9.out.mono HB48.out.size)
                      have hf1 := HF1.out.on (by have := HB4.out.size; omega) hb49
                      have HK9 := hidLL (HK.out.1.on hb49)
                      have hxl : x.kids.length ≤ 1000000 := by rw [HKn.out]; omega
                      have e3 : v1 3 = .slice (some ⟨g, 0, none⟩) x.kids.length cap := by rw [HKn.out]; exact HK.out.2.1
                      have hc3 := hf1.at'.cell (c := 3) (by omega)
                      have hdr := dropI_c hf1.at' HK9.out HP.out.2.2.2.1 hxl e3
                      rw [e3] at hc3
                      rw [HKn.out] at hdr hc3
                      have HD := hidLL hdr
                      have HF1n := hidLL hf1
                      have HP9 := hidLL (And.intro (HP4.out.1.on hb49) (HP4.out.2.on hb49))
                      have HB49 := hidLL hb49
                      have hwr2 : IntKind.i64.wrap ((i : Int) + 1) = (i : Int) + 1 := by rw [IntKind.wrap_i64]; omega
                      clear hdr hf1 n0 n1 n2 n3 hb49 hxl e3 hwr HF1 HF2 HP4 HB48 HLk HM6
                      go_wp2_with fail
                      refine HD.out.mono ?_
                      rintro e w10 ⟨ra, rn, rc, rfl, hst⟩
                      obtain ⟨old, hcl⟩ := hst.cell
                      have hfz := hst.frz
                      have HST := hidLL hst.fin
                      clear hst HD hc3 hwr2
                      obtain ⟨w11, h11⟩ : ∃ w11, w11 = w10.setCell ⟨b1, o1 + 3, none⟩ (.slice ra rn rc) := ⟨_, rfl⟩
                      have H11 := hidLL h11
                      clear h11
                      go_upto_region 14 with fail
                      rw [← H11.out]
                      have hpd : ps.dropLast = p0 := by rw [HP.out.1]; simp
                      have hps : ps = ps.dropLast ++ [l] := by rw [hpd]; exact HP.out.1
                      have hSw : ∀ q, S q → q < w.heap.size := fun q hq => (H0.out.own.in q hq).2
                      have hb1w : b1 < w.heap.size := by
                        by_cases h0 : ps.dropLast = []
                        · rw [(HF1n.out.root h0).1]; exact H0.out.lt
                        · exact hSw b1 (HF1n.out.inn h0)
                      obtain ⟨v5, q1, q2, q3⟩ := HST.out w11 (by rw [H11.out]) (by rw [H11.out]; rfl) (by rw [H11.out]; rfl) (by rw [H11.out]; rfl)
                      have hS1w : ∀ q, S1 q → q < w.heap.size := fun q hq => hSw q (HF1n.out.sub q hq)
                      obtain ⟨S3, v3', e1, e2, e4, e5⟩ := mv_less H0.out HBw9.out HF1n.out HK9.out (by rw [HKn.out]; exact hil) q1 q3
                      have hlaw := less_law HLaw.out HF1n.out.fnd HP.out.2.2.2.1
                      obtain ⟨z, j, hz, hj, hjl⟩ := move_goes (a := at') HLaw.out.1.ds HF1n.out.fnd HP.out.2.2.2.1 HP.out.2.2.2.2 (by rw [← hps]; exact HN.out) HMv.out.fd (fun e => HBf.out (.inl e)) (fun e => HBf.out (.inr ⟨e.1, by rw [HP.out.2.2.2.2]; exact e.2⟩))
                      have hfar : ∀ q c u, w.heap.size ≤ q → w9.cell? ⟨q, c, none⟩ = some u → w11.cell? ⟨q, c, none⟩ = some u := fun q c u hq hc => (World.cell?_of_block (a := ⟨q, c, none⟩) (q3.block q (cell_lt hc) (fun e => by have := hS1w q e; omega) (by omega))).trans hc
                      have HN11 := hidLL (And.intro (hfar _ _ _ HB4.out.size HN9.out.1) (And.intro (hfar _ _ _ HB4.out.size HN9.out.2.1) (And.intro (hfar _ _ _ HB4.out.size HN9.out.2.2.1) (hfar _ _ _ HB4.out.size HN9.out.2.2.2))))
                      have HX11 := hidLL (hfar _ _ _ (Nat.le_refl _) HX9.out)
                      have hq11 := HP9.out.2.upd q3 hb1w hS1w
                      have HFd := hidLL (find_a (pc := qc) e1 (law_few hlaw) hq11.at' HPl.out.2)
                      have HE1 := hidLL e1
                      have HE2 := hidLL (And.intro e2 (And.intro e4 (And.intro e5 (And.intro q2 (And.intro hSw (law_few hlaw))))))
                      have HZ := hidLL (And.intro hz (And.intro hj hjl))
                      clear hpd hps hb1w q1 q2 q3 hS1w e1 e2 e4 e5 hlaw hz hj hjl hfar hq11 hSw HST hcl hfz HK9 HP9 HN9 HX9
                      go_wp2_with fail
                      refine HFd.out.mono ?_
                      rintro e w12 ⟨hfi, hb12⟩
                      unfold FindO at hfi
                      rw [HZ.out.1] at hfi
                      obtain ⟨b3, o3, S4, v4, rfl, hf3⟩ := hfi
                      have hb11 : b < w11.heap.size := HE1.out.lt
                      have hf4 := hf3.on hb11 hb12
                      obtain ⟨za, zc, hv4, hc4⟩ := hf4.at'.kidsV
                      have HF4 := hidLL hf4
                      have HB12 := hidLL hb12
                      clear hf3 hb12 HFd hf4 hb11
                      go_upto_region 15 with fail
                      refine wp_region_noPanic ?_
                      refine wp_region_last (S := fun V => Below w12.heap.size w12 V) (L := [14, 15, 16, 17]) (by kernel_rfl) ?_
                      refine last_MA 101 17 ?_
                      have hzl := (find_few _ _ z HE2.out.2.2.2.2.2 HZ.out.1).get.2.1
                      have hbw : w.heap.size ≤ w12.heap.size := Nat.le_trans HE2.out.2.1.size HB12.out.size
                      refine mvC_go (W0 := w12) (b3 := b3) (o3 := o3) (g0 := w.heap.size) (g1 := w4.heap.size) (zn := z.kids.length) (kc := zc) (ka := za) (ln := k.lines.length) (lc := lc) (kn := k.kids.length) (kc2 := kc) (la := la) (ka2 := ka) (lab := k.label) (hd := k.head) (at' := at') (j := j) (R := fun w'' => ChO w B b o S p (.ok (setW (fun _ => z.setKids (z.kids.insertIdx j k)) qs (lessW t x i ps.dropLast))) (.returned .nilIface) w'') rfl rfl (fun _ _ _ _ _ h => h) rfl rfl rfl ?_ ?_ ?_ ?_ (Below.refl _ _).drew
                      · intro V hV
                        have c4 : ∀ q c u, w11.cell? ⟨q, c, none⟩ = some u → V.cell? ⟨q, c, none⟩ = some u := fun q c u hc => (hV.cell (p := ⟨q, c, none⟩) (by have := cell_lt hc; have := HB12.out.size; exact Nat.lt_of_lt_of_le (cell_lt hc) HB12.out.size)).trans ((HB12.out.cell (p := ⟨q, c, none⟩) (cell_lt hc)).trans hc)
                        exact ⟨(hV.cell (p := ⟨b3, o3 + 3, none⟩) (cell_lt hc4)).trans hc4, c4 _ _ _ HX11.out, c4 _ _ _ HN11.out.1, c4 _ _ _ HN11.out.2.1, c4 _ _ _ HN11.out.2.2.1, c4 _ _ _ HN11.out.2.2.2⟩
                      · intro V hV
                        refine (behind_lies (HF4.out.at'.on hV).own.lies hv4 (by omega) at').mono fun e w' h => ⟨?_, h.2⟩
                        rw [h.1, HZ.out.2.1]
                        rfl
                      · intro V vb hV hvk hvb
                        have hat := HF4.out.at'.on hV
                        have hTy := mv_apart HE2.out.1 HE2.out.2.2.1 H0.out.out HF4.out
                        have hS4w : ∀ q, S4 q → q < w.heap.size := fun q hq => HE2.out.2.2.2.2.1 q (HE2.out.1 q (HF4.out.sub q hq)).1
                        have hbV : Below w11.heap.size w11 V := HB12.out.trans (hV.mono HB12.out.size)
                        have hyo : Own V B (K i) k (T i) := HE2.out.2.2.2.1.step (fun q hq => hbV.block q (HE2.out.2.2.2.1.in q hq).2) hbV.size
                        have hf5 := HF4.out.on (Nat.lt_of_lt_of_le H0.out.lt hbw) hV
                        refine (putI_c (d := j) (vb := vb) (k := k) (y := K i) (Ty := T i) hat (Nat.le_trans hB (Nat.le_trans hbw hV.size)) HZ.out.2.2 (by omega) hv4 hyo hTy (by rw [HG.out.1, HG.out.2.1, HG.out.2.2.1, HG.out.2.2.2]; exact hvk) (fun e => by have := hS4w vb e; omega)).mono ?_
                        rintro e w' ⟨a, n, c, he, hst⟩
                        refine ⟨a, n, c, he, hst.cell, hst.frz, fun w'' h1 h2 h3 h4 => ?_⟩
                        obtain ⟨S', v', r1, r2, r3⟩ := hst.fin w'' h1 h2 h3 h4
                        exact mv_done H0.out.lt HE2.out.2.2.2.2.1 H0.out.out HE2.out.1 HE2.out.2.2.1 HE2.out.2.1 hbV hf5 r1 r2 r3
                      · intro m w'' hm hR
                        obtain ⟨u0, u1, u2, u3, u4, u5, u6, u7, u8, u9, u10, u11, u12, u13, u14, u15, u16, rfl⟩ := seventeen hm
                        clear hm
                        refine NoPanic.normal ?_
                        simp only [MA, List.take_succ_cons, List.take_zero, List.drop_succ_cons, List.drop_zero, List.cons_append, List.nil_append]
                        go_wp2_with fail
                        go_ret
                        rw [HR7.out _ _ _ _ HMv.out HN.out HBf.out HNf.out H6.out z j HZ.out.1 HZ.out.2.1]
                        exact hR
                  · have HO := hidLL (HR5.out _ _ _ _ HMv.out HN.out HBf.out (HNm.out.1 rfl))
                    have e1 : w8.cell? ⟨6, 0, none⟩ = some (.iface 214 (.pointer (some (p 6)))) := (HEn.out _ HBw8.out).L.cell 6 (by omega)
                    go_wp2
                    go_ret
                    rw [HO.out]
                    exact ⟨by omega, EO.err 6 (by omega), HBw8.out.mono hB⟩
              · have HO := hidLL (HR4.out _ _ _ _ HMv.out HN.out (HBad.out.1 rfl))
                have e1 : w7.cell? ⟨4, 0, none⟩ = some (.iface 214 (.pointer (some (p 4)))) := (HEn.out _ HBw7.out).L.cell 4 (by omega)
                clear x6 m0 m1 m2 m3 mf d3
                go_wp2
                go_ret
                rw [HO.out]
                exact ⟨by omega, EO.err 4 (by omega), HBw7.out.mono hB⟩
          · have HO := hidLL (HR3.out _ _ _ _ HMv.out (hle.1 hli))
            rw [hli] at HLi
            clear hli hle
            go_wp2_with fail
            refine HLi.out.mono ?_
            rintro e w4 ⟨rfl, hb4⟩
            have HB4 := hidLL (HB3.out.trans (hb4.mono HB3.out.size))
            clear hb4
            have e1 : w4.cell? ⟨4, 0, none⟩ = some (.iface 214 (.pointer (some (p 4)))) := (HEn.out _ HB4.out).L.cell 4 (by omega)
            go_wp2
            go_ret
            rw [HO.out]
            exact ⟨by omega, EO.err 4 (by omega), HB4.out.mono hB⟩
end Go.Proofs.YtpbolcjcmkmalaaGreatDoor

/-
  The program's writer: duties (written by tools/genwrs.py).
-/
import Derived.Test.YtehbinobohjadaaGreatDoorBk30
namespace Go.Proofs.YtehbinobohjadaaGreatDoor
open Go.RowKit Go.Sort Go.Extern.Stop Go.Stop Go.Extern

/-- A row of words that lies there. -/
def RowAt (ls : List ByteArray) (b : Nat) (V : World) : Prop := b < V.heap.size ∧ ∀ i s, ls[i]? = some s → V.cell? ⟨b, 0 + i, none⟩ = some (.string s)
theorem NewRow.row {ls : List ByteArray} {w w' : World} {e : Ending} (h : NewRow ls w e w') : RowAt ls w.heap.size w' := ⟨by rw [h.s]; omega, fun i s hi => h.at rfl i s hi⟩
theorem RowAt.step {ls : List ByteArray} {b : Nat} {V V' : World} (h : RowAt ls b V) (hb : Below V.heap.size V V') : RowAt ls b V' := ⟨Nat.lt_of_lt_of_le h.1 hb.size, fun i s hi => (hb.cell (p := ⟨b, 0 + i, none⟩) h.1).trans (h.2 i s hi)⟩
def DuI (x : SentT) : Prop := ∀ (w : World) (wp : Nat) (s : WS) (ca sa : Option Addr) (cc sc : Nat) (oa : Option Addr) (oc : Nat) (cs : Array Value), SW w w wp s → STc w (· < wp) x ca sa cc sc oa oc cs → Calls Tryz.prog 49 #[.pointer (some ⟨wp, 0, none⟩), .agg cs] w (WEnd wp w (dutyR x s))
set_option maxHeartbeats 4000000 in
theorem wduty_q {x : SentT} (hO : SOk x) : DuI x := by
  intro w wp s ca sa cc sc oa oc cs hS hT
  have n0 := hO.n0
  have n1 := hO.n1
  rcases hw : wordR unitsW x.tu with _ | u
  · have hwp := hS.wr.in
    have HX0 := hidLL (SX.new hT hwp)
    have HS0 := hidLL (hS.alloc (.cells cs 30))
    obtain ⟨W0, hW0⟩ : ∃ W0, W0 = w.alloc (.cells cs 30) := ⟨_, rfl⟩
    rw [← hW0] at HX0 HS0
    have HW := hidLL hW0
    have HZ : Hid (cs.size = 19) := by show _ = _; rw [hT.eq]; rfl
    have HC15 : Hid (∀ V, SX V wp w.heap.size x ca sa cc sc oa oc cs → V.cell? ⟨w.heap.size, 15, none⟩ = some (.int .i64 x.tn)) := fun V h => h.at 15 _ (by rw [hT.eq]; rfl)
    have HC16 : Hid (∀ V, SX V wp w.heap.size x ca sa cc sc oa oc cs → V.cell? ⟨w.heap.size, 16, none⟩ = some (.int .i64 x.tu)) := fun V h => h.at 16 _ (by rw [hT.eq]; rfl)
    have HC17 : Hid (∀ V, SX V wp w.heap.size x ca sa cc sc oa oc cs → V.cell? ⟨w.heap.size, 17, none⟩ = some (.int .i64 x.tr)) := fun V h => h.at 17 _ (by rw [hT.eq]; rfl)
    have HC18 : Hid (∀ V, SX V wp w.heap.size x ca sa cc sc oa oc cs → V.cell? ⟨w.heap.size, 18, none⟩ = some (.string x.els)) := fun V h => h.at 18 _ (by rw [hT.eq]; rfl)
    obtain ⟨R, hR⟩ : ∃ R, R = dutyR x s := ⟨_, rfl⟩
    rw [← hR]
    unfold dutyR at hR
    simp only [hw, Option.bind_none] at hR
    have HR := hidLL hR
    clear hR hW0 hT hS
    go_enter Tryz.func49, Tryz.ntmps49
    go_upto_region 1 with fail
    rw [← HW.out]
    go_upto_region 3 with (first
      | (go_at_call 96; revert HX1; intro HX1; refine (wliteral_q hO _ _ _ _ _ _ _ _ _ _ HS1.out.here HX1.out.st).mono ?_; rintro e W2 ⟨hf, hr⟩; rcases hq1 : litR x s1 with _ | s2; (· rw [hq1] at hr; (obtain ⟨p, rfl⟩ := hr); (obtain rfl : R = none := (by rw [HR.out, hq1]; try rfl)); exact (show _ ∧ _ from ⟨rfl, HS1.out.fr.trans hf, ⟨_, rfl⟩⟩)); rw [hq1] at hr; (obtain ⟨rfl, hr⟩ := hr); (have HS2 := hidLL (HS1.out.step hf hr)); (have HX2 := hidLL (HX1.out.step hf)); rw [hq1, Option.bind_some] at HR; clear hf hr)
      | (revert HX1; intro HX1; with_reducible show wpList _ _ _ _ _ _; refine wpList_load_row rfl 30 (.tmp 3) rfl w.heap.size (by first | (simp [Act.eval]; done) | simp [Act.eval, Act.put]) 30 cs (0, 0) _ HX1.out.bx Tryz.underlying30 rfl (infoSent.trans (by rw [HZ.out])) ?_)
      | (go_at_call 45; revert HX0; intro HX0; refine (put1_q HS0.out.wr (x := sg 58) (by decide)).mono ?_; rintro e W1 ⟨hf, hr⟩; rcases hq0 : putR s (sg 58) with _ | s1; (· rw [hq0] at hr; (obtain ⟨p, rfl⟩ := hr); (obtain rfl : R = none := (by rw [HR.out, hq0]; try rfl)); exact (show _ ∧ _ from ⟨rfl, HS0.out.fr.trans hf, ⟨_, rfl⟩⟩)); rw [hq0] at hr; (obtain ⟨rfl, hr⟩ := hr); (have HS1 := hidLL (HS0.out.step hf hr)); (have HX1 := hidLL (HX0.out.step hf)); rw [hq0, Option.bind_some] at HR; clear hf hr))
    have HSc := hidLL (HS2.out.grow ((Below.refl _ W2).drew))
    have HXc := hidLL (HX2.out.step (WFr.of ((Below.refl _ W2).drew) (Nat.le_of_lt HS2.out.wr.in)))
    have d15 := HC15.out _ HXc.out
    have d16 := HC16.out _ HXc.out
    go_region_with (first
      | (go_at_call 45; revert HF; intro HF; refine (put3_q HSc.out.wr (x := wWithin) (by decide) (y := itoaB x.tn) (Nat.le_trans (itoaB_size n0 n1).2 (by decide)) (z := ⟨#[]⟩) (by decide)).mono ?_; rintro e V ⟨hf, hr⟩; revert hr; (split); (· exact HF.out.elim); rintro ⟨rfl, hr⟩; clear hf hr)
      | (go_at_call 99; revert HN; intro HN; refine (itoa_q HSc.out.tb n0 n1).mono ?_; rintro e V ⟨rfl, hb⟩; (have HM := hidLL (HN.out.step hb)); clear HN; (have HN := HM); clear HM; (have HSd := hidLL (HSc.out.grow hb)); (have HXd := hidLL (HXc.out.step (WFr.of hb (Nat.le_of_lt HSc.out.wr.in)))); clear HSc HXc; (have HSc := HSd); (have HXc := HXd); clear HSd HXd; (have d15 := HC15.out _ HXc.out); (have d16 := HC16.out _ HXc.out); clear hb)
      | (go_at_call 99; refine (itoa_q HSc.out.tb n0 n1).mono ?_; rintro e V ⟨rfl, hb⟩; (have HSd := hidLL (HSc.out.grow hb)); (have HXd := hidLL (HXc.out.step (WFr.of hb (Nat.le_of_lt HSc.out.wr.in)))); clear HSc HXc; (have HSc := HSd); (have HXc := HXd); clear HSd HXd; (have d15 := HC15.out _ HXc.out); (have d16 := HC16.out _ HXc.out); clear hb)
      | (go_at_call 95; revert HN; intro HN; refine (wordOf_thr HSc.out.wr (ls := unitsW) hw).mono ?_; rintro e w' ⟨⟨p, rfl⟩ | ⟨rfl, hF⟩, h9⟩; (· subst w'; (obtain rfl : R = none := HR.out); exact (show _ ∧ _ from ⟨rfl, HSc.out.fr, ⟨_, rfl⟩⟩)); subst w'; (have HF := hidLL hF); clear hF)
      | (go_at_call 88; revert HXc; intro HXc; refine (units_q _).mono ?_; rintro e V hn; (obtain rfl := hn.e); (have hb := hn.b); (have HN := hidLL hn.row); (have HSd := hidLL (HSc.out.grow hb)); (have HXd := hidLL (HXc.out.step (WFr.of hb (Nat.le_of_lt HSc.out.wr.in)))); clear HSc HXc; (have HSc := HSd); (have HXc := HXd); clear HSd HXd; (have d15 := HC15.out _ HXc.out); (have d16 := HC16.out _ HXc.out); clear hn hb))
    all_goals exact HF.out.elim
  · have hwp := hS.wr.in
    have HX0 := hidLL (SX.new hT hwp)
    have HS0 := hidLL (hS.alloc (.cells cs 30))
    obtain ⟨W0, hW0⟩ : ∃ W0, W0 = w.alloc (.cells cs 30) := ⟨_, rfl⟩
    rw [← hW0] at HX0 HS0
    have HW := hidLL hW0
    have HZ : Hid (cs.size = 19) := by show _ = _; rw [hT.eq]; rfl
    have HC15 : Hid (∀ V, SX V wp w.heap.size x ca sa cc sc oa oc cs → V.cell? ⟨w.heap.size, 15, none⟩ = some (.int .i64 x.tn)) := fun V h => h.at 15 _ (by rw [hT.eq]; rfl)
    have HC16 : Hid (∀ V, SX V wp w.heap.size x ca sa cc sc oa oc cs → V.cell? ⟨w.heap.size, 16, none⟩ = some (.int .i64 x.tu)) := fun V h => h.at 16 _ (by rw [hT.eq]; rfl)
    have HC17 : Hid (∀ V, SX V wp w.heap.size x ca sa cc sc oa oc cs → V.cell? ⟨w.heap.size, 17, none⟩ = some (.int .i64 x.tr)) := fun V h => h.at 17 _ (by rw [hT.eq]; rfl)
    have HC18 : Hid (∀ V, SX V wp w.heap.size x ca sa cc sc oa oc cs → V.cell? ⟨w.heap.size, 18, none⟩ = some (.string x.els)) := fun V h => h.at 18 _ (by rw [hT.eq]; rfl)
    obtain ⟨R, hR⟩ : ∃ R, R = dutyR x s := ⟨_, rfl⟩
    rw [← hR]
    unfold dutyR at hR
    simp only [hw, Option.bind_some] at hR
    have HR := hidLL hR
    clear hR hW0 hT hS
    go_enter Tryz.func49, Tryz.ntmps49
    go_upto_region 1 with fail
    rw [← HW.out]
    go_upto_region 3 with (first
      | (go_at_call 96; revert HX1; intro HX1; refine (wliteral_q hO _ _ _ _ _ _ _ _ _ _ HS1.out.here HX1.out.st).mono ?_; rintro e W2 ⟨hf, hr⟩; rcases hq1 : litR x s1 with _ | s2; (· rw [hq1] at hr; (obtain ⟨p, rfl⟩ := hr); (obtain rfl : R = none := (by rw [HR.out, hq1]; try rfl)); exact (show _ ∧ _ from ⟨rfl, HS1.out.fr.trans hf, ⟨_, rfl⟩⟩)); rw [hq1] at hr; (obtain ⟨rfl, hr⟩ := hr); (have HS2 := hidLL (HS1.out.step hf hr)); (have HX2 := hidLL (HX1.out.step hf)); rw [hq1, Option.bind_some] at HR; clear hf hr)
      | (revert HX1; intro HX1; with_reducible show wpList _ _ _ _ _ _; refine wpList_load_row rfl 30 (.tmp 3) rfl w.heap.size (by first | (simp [Act.eval]; done) | simp [Act.eval, Act.put]) 30 cs (0, 0) _ HX1.out.bx Tryz.underlying30 rfl (infoSent.trans (by rw [HZ.out])) ?_)
      | (go_at_call 45; revert HX0; intro HX0; refine (put1_q HS0.out.wr (x := sg 58) (by decide)).mono ?_; rintro e W1 ⟨hf, hr⟩; rcases hq0 : putR s (sg 58) with _ | s1; (· rw [hq0] at hr; (obtain ⟨p, rfl⟩ := hr); (obtain rfl : R = none := (by rw [HR.out, hq0]; try rfl)); exact (show _ ∧ _ from ⟨rfl, HS0.out.fr.trans hf, ⟨_, rfl⟩⟩)); rw [hq0] at hr; (obtain ⟨rfl, hr⟩ := hr); (have HS1 := hidLL (HS0.out.step hf hr)); (have HX1 := hidLL (HX0.out.step hf)); rw [hq0, Option.bind_some] at HR; clear hf hr))
    go_cut [] (fun wx => ∃ s3, putsR s2 [wWithin, itoaB x.tn, u] = some s3 ∧ SW w wx wp s3 ∧ SX wx wp w.heap.size x ca sa cc sc oa oc cs)
    case first =>
      have HSc := hidLL (HS2.out.grow ((Below.refl _ W2).drew))
      have HXc := hidLL (HX2.out.step (WFr.of ((Below.refl _ W2).drew) (Nat.le_of_lt HS2.out.wr.in)))
      have d15 := HC15.out _ HXc.out
      have d16 := HC16.out _ HXc.out
      go_region_with (first
        | (go_at_call 45; revert HN; intro HN; refine (put3_q HSc.out.wr (x := wWithin) (by decide) (Nat.le_trans (itoaB_size n0 n1).2 (by decide)) (units_sz _ (wordR_mem hw))).mono ?_; rintro e V ⟨hf, hr⟩; rcases hq2 : putsR s2 [wWithin, itoaB x.tn, u] with _ | s3; (· rw [hq2] at hr; (obtain ⟨p, rfl⟩ := hr); (obtain rfl : R = none := (by rw [HR.out, hq2]; try rfl)); exact (show _ ∧ _ from ⟨rfl, HSc.out.fr.trans hf, ⟨_, rfl⟩⟩)); rw [hq2] at hr; (obtain ⟨rfl, hr⟩ := hr); (have HSd := hidLL (HSc.out.step hf hr)); (have HXd := hidLL (HXc.out.step hf)); clear hf hr)
        | (go_at_call 99; revert HN; intro HN; refine (itoa_q HSc.out.tb n0 n1).mono ?_; rintro e V ⟨rfl, hb⟩; (have HM := hidLL (HN.out.step hb)); clear HN; (have HN := HM); clear HM; (have HSd := hidLL (HSc.out.grow hb)); (have HXd := hidLL (HXc.out.step (WFr.of hb (Nat.le_of_lt HSc.out.wr.in)))); clear HSc HXc; (have HSc := HSd); (have HXc := HXd); clear HSd HXd; (have d15 := HC15.out _ HXc.out); (have d16 := HC16.out _ HXc.out); clear hb)
        | (go_at_call 99; refine (itoa_q HSc.out.tb n0 n1).mono ?_; rintro e V ⟨rfl, hb⟩; (have HSd := hidLL (HSc.out.grow hb)); (have HXd := hidLL (HXc.out.step (WFr.of hb (Nat.le_of_lt HSc.out.wr.in)))); clear HSc HXc; (have HSc := HSd); (have HXc := HXd); clear HSd HXd; (have d15 := HC15.out _ HXc.out); (have d16 := HC16.out _ HXc.out); clear hb)
        | (go_at_call 95; revert HN; intro HN; refine (wordOf_some (ls := unitsW) HN.out.2 hw).mono ?_; rintro e w' ⟨rfl, h9⟩; subst w')
        | (go_at_call 88; revert HXc; intro HXc; refine (units_q _).mono ?_; rintro e V hn; (obtain rfl := hn.e); (have hb := hn.b); (have HN := hidLL hn.row); (have HSd := hidLL (HSc.out.grow hb)); (have HXd := hidLL (HXc.out.step (WFr.of hb (Nat.le_of_lt HSc.out.wr.in)))); clear HSc HXc; (have HSc := HSd); (have HXc := HXd); clear HSd HXd; (have d15 := HC15.out _ HXc.out); (have d16 := HC16.out _ HXc.out); clear hn hb))
      all_goals (go_wp2_with fail; go_meet; exact ⟨s3, hq2, HSd.out, HXd.out⟩)
    case rest =>
      obtain ⟨s3, hq2, hS3, hX3⟩ := hcut
      have HS3 := hidLL hS3
      have HX3 := hidLL hX3
      rw [hq2, Option.bind_some] at HR
      clear hS3 hX3 hw
      have c17 := HC17.out _ HX3.out
      by_cases h0 : x.tr = 0
      · have hb0 : (x.tr == 0) = true := by simp [h0]
        have hb1 : (x.tr != 0) = false := by simp [h0]
        have hR1 := HR.out
        simp only [if_pos h0, Option.bind_some] at hR1
        clear HR
        have HR := hidLL hR1
        clear hR1
        rw [h0] at c17
        clear hb0 hb1
        have c18 := HC18.out _ HX3.out
        by_cases hz : x.els.size = 0
        · have he : x.els.toList.isEmpty = true := by rw [Lib.toList_data, List.isEmpty_iff]; exact List.eq_nil_of_length_eq_zero (by rw [bl_len]; exact hz)
          have hR1 := HR.out
          simp only [if_pos hz] at hR1
          clear HR
          have HR := hidLL hR1
          clear hR1
          clear hz
          go_wp2
          go_end0
          (obtain rfl : R = some s3 := HR.out)
          exact ⟨HS3.out.fr, rfl, HS3.out.wr⟩
        · have he : x.els.toList.isEmpty = false := by
            rw [Lib.toList_data]
            match hd : x.els.data.toList with
            | [] => exact absurd (by rw [← bl_len, hd]; rfl) hz
            | _ :: _ => rfl
          have hR1 := HR.out
          simp only [if_neg hz] at hR1
          clear HR
          have HR := hidLL hR1
          clear hR1
          clear hz
          have hel := hO.els
          go_wp2_with (go_at_call 45; refine (put2_q HS3.out.wr (x := wElse) (by decide) hel).mono ?_; rintro e V ⟨hf, hr⟩; rcases hq9 : putsR s3 [wElse, x.els] with _ | s9; (· rw [hq9] at hr; (obtain ⟨p, rfl⟩ := hr); (obtain rfl : R = none := (by rw [HR.out, hq9]; try rfl)); exact (show _ ∧ _ from ⟨rfl, HS3.out.fr.trans hf, ⟨_, rfl⟩⟩)); rw [hq9] at hr; (obtain ⟨rfl, hr⟩ := hr); (have HS9 := hidLL (HS3.out.step hf hr)); rw [hq9] at HR; clear hf hr)
          go_end0
          (obtain rfl : R = some s9 := HR.out)
          exact ⟨HS9.out.fr, rfl, HS9.out.wr⟩
      · have hb0 : (x.tr == 0) = false := by simp [h0]
        have hb1 : (x.tr != 0) = true := by simp [h0]
        rcases hw : wordR [⟨#[]⟩, wNext, wBefore] x.tr with _ | v
        · have hR1 := HR.out
          simp only [if_neg h0, hw, Option.bind_none] at hR1
          clear HR
          have HR := hidLL hR1
          clear hR1
          go_upto_region 5 with fail
          have HSc := hidLL (HS3.out.grow ((Below.refl _ wc).drew))
          have HXc := hidLL (HX3.out.step (WFr.of ((Below.refl _ wc).drew) (Nat.le_of_lt HS3.out.wr.in)))
          have d17 := HC17.out _ HXc.out
          go_region_with (first
            | (go_at_call 45; revert HF; intro HF; refine (put2_q HSc.out.wr (x := sg 44) (by decide) (y := ⟨#[]⟩) (by decide)).mono ?_; rintro e V ⟨hf, hr⟩; revert hr; (split); (· exact HF.out.elim); rintro ⟨rfl, hr⟩; clear hf hr)
            | (go_at_call 95; revert HN; intro HN; refine (wordOf_thr HSc.out.wr (ls := rollsQ) hw).mono ?_; rintro e w' ⟨⟨p, rfl⟩ | ⟨rfl, hF⟩, h9⟩; (· subst w'; (obtain rfl : R = none := HR.out); exact (show _ ∧ _ from ⟨rfl, HSc.out.fr, ⟨_, rfl⟩⟩)); subst w'; (have HF := hidLL hF); clear hF)
            | (go_at_call 89; revert HXc; intro HXc; refine (rolls_q _).mono ?_; rintro e V hn; (obtain rfl := hn.e); (have hb := hn.b); (have HN := hidLL hn.row); (have HSd := hidLL (HSc.out.grow hb)); (have HXd := hidLL (HXc.out.step (WFr.of hb (Nat.le_of_lt HSc.out.wr.in)))); clear HSc HXc; (have HSc := HSd); (have HXc := HXd); clear HSd HXd; (have d17 := HC17.out _ HXc.out); clear hn hb))
          all_goals exact HF.out.elim
        · have hR1 := HR.out
          simp only [if_neg h0, hw, Option.bind_some] at hR1
          clear HR
          have HR := hidLL hR1
          clear hR1
          go_upto_region 5 with fail
          go_cut [] (fun wx => ∃ s4, putsR s3 [sg 44, v] = some s4 ∧ SW w wx wp s4 ∧ SX wx wp w.heap.size x ca sa cc sc oa oc cs)
          case first =>
            have HSc := hidLL (HS3.out.grow ((Below.refl _ wc).drew))
            have HXc := hidLL (HX3.out.step (WFr.of ((Below.refl _ wc).drew) (Nat.le_of_lt HS3.out.wr.in)))
            have d17 := HC17.out _ HXc.out
            go_region_with (first
              | (go_at_call 45; revert HN; intro HN; refine (put2_q HSc.out.wr (x := sg 44) (by decide) (rolls_sz _ (wordR_mem hw))).mono ?_; rintro e V ⟨hf, hr⟩; rcases hq3 : putsR s3 [sg 44, v] with _ | s4; (· rw [hq3] at hr; (obtain ⟨p, rfl⟩ := hr); (obtain rfl : R = none := (by rw [HR.out, hq3]; try rfl)); exact (show _ ∧ _ from ⟨rfl, HSc.out.fr.trans hf, ⟨_, rfl⟩⟩)); rw [hq3] at hr; (obtain ⟨rfl, hr⟩ := hr); (have HSd := hidLL (HSc.out.step hf hr)); (have HXd := hidLL (HXc.out.step hf)); clear hf hr)
              | (go_at_call 95; revert HN; intro HN; refine (wordOf_some (ls := rollsQ) HN.out.2 hw).mono ?_; rintro e w' ⟨rfl, h9⟩; subst w')
              | (go_at_call 89; revert HXc; intro HXc; refine (rolls_q _).mono ?_; rintro e V hn; (obtain rfl := hn.e); (have hb := hn.b); (have HN := hidLL hn.row); (have HSd := hidLL (HSc.out.grow hb)); (have HXd := hidLL (HXc.out.step (WFr.of hb (Nat.le_of_lt HSc.out.wr.in)))); clear HSc HXc; (have HSc := HSd); (have HXc := HXd); clear HSd HXd; (have d17 := HC17.out _ HXc.out); clear hn hb))
            all_goals (go_wp2_with fail; go_meet; exact ⟨s4, hq3, HSd.out, HXd.out⟩)
          case rest =>
            obtain ⟨s4, hq3, hS4, hX4⟩ := hcut
            have HS4 := hidLL hS4
            have HX4 := hidLL hX4
            rw [hq3, Option.bind_some] at HR
            clear hS4 hX4 hw c17
            have c18 := HC18.out _ HX4.out
            by_cases hz : x.els.size = 0
            · have he : x.els.toList.isEmpty = true := by rw [Lib.toList_data, List.isEmpty_iff]; exact List.eq_nil_of_length_eq_zero (by rw [bl_len]; exact hz)
              have hR1 := HR.out
              simp only [if_pos hz] at hR1
              clear HR
              have HR := hidLL hR1
              clear hR1
              clear hz
              go_wp2
              go_end0
              (obtain rfl : R = some s4 := HR.out)
              exact ⟨HS4.out.fr, rfl, HS4.out.wr⟩
            · have he : x.els.toList.isEmpty = false := by
                rw [Lib.toList_data]
                match hd : x.els.data.toList with
                | [] => exact absurd (by rw [← bl_len, hd]; rfl) hz
                | _ :: _ => rfl
              have hR1 := HR.out
              simp only [if_neg hz] at hR1
              clear HR
              have HR := hidLL hR1
              clear hR1
              clear hz
              have hel := hO.els
              go_wp2_with (go_at_call 45; refine (put2_q HS4.out.wr (x := wElse) (by decide) hel).mono ?_; rintro e V ⟨hf, hr⟩; rcases hq9 : putsR s4 [wElse, x.els] with _ | s9; (· rw [hq9] at hr; (obtain ⟨p, rfl⟩ := hr); (obtain rfl : R = none := (by rw [HR.out, hq9]; try rfl)); exact (show _ ∧ _ from ⟨rfl, HS4.out.fr.trans hf, ⟨_, rfl⟩⟩)); rw [hq9] at hr; (obtain ⟨rfl, hr⟩ := hr); (have HS9 := hidLL (HS4.out.step hf hr)); rw [hq9] at HR; clear hf hr)
              go_end0
              (obtain rfl : R = some s9 := HR.out)
              exact ⟨HS9.out.fr, rfl, HS9.out.wr⟩
end Go.Proofs.YtehbinobohjadaaGreatDoor

/-
  The program's writer: rules (written by tools/genwrs.py).
-/
import Derived.Test.YtehbinobohjadaaGreatDoorBk31
namespace Go.Proofs.YtehbinobohjadaaGreatDoor
open Go.RowKit Go.Sort Go.Extern.Stop Go.Stop Go.Extern

theorem over_step0 {l : List ByteArray} {y : ByteArray} (h : l[0]? = some y) (st : WS) : overR (decide (0 = 0)) (l.drop 0) st = (putsR st [sg 59, wOver, y]).bind fun s => overR (decide (0 + 1 = 0)) (l.drop (0 + 1)) s := by
  match l, h with
  | z :: l, h =>
    simp only [List.getElem?_cons_zero, Option.some.injEq] at h
    subst h
    rfl
theorem over_stepN {l : List ByteArray} {j : Nat} {y : ByteArray} (hj : ¬ j = 0) (h : l[j]? = some y) (st : WS) : overR (decide (j = 0)) (l.drop j) st = (putsR st [sg 44, y]).bind fun s => overR (decide (j + 1 = 0)) (l.drop (j + 1)) s := by
  obtain ⟨hlt, he⟩ := List.getElem?_eq_some_iff.1 h
  rw [List.drop_eq_getElem_cons hlt, he, decide_eq_false hj, decide_eq_false (by omega : ¬ j + 1 = 0)]
  rfl
theorem over_end {l : List ByteArray} {j : Nat} (h : l.length ≤ j) (b : Bool) (st : WS) : overR b (l.drop j) st = some st := by
  rw [List.drop_eq_nil_of_le h]
  cases b <;> rfl
theorem RdS.st {w : World} {S : Nat → Prop} {a : Option Addr} {n c : Nat} {l : List ByteArray} (h : RdS stE w S (.slice a n c) l) {j : Nat} {s : ByteArray} (hj : l[j]? = some s) : ∃ g o, a = some ⟨g, o, none⟩ ∧ S g ∧ w.cell? ⟨g, o + j, none⟩ = some (.string s) := by
  obtain ⟨g, o, e, hg, hr⟩ := h.at hj
  refine ⟨g, o, e, hg, ?_⟩
  have := hr 0 _ rfl
  simpa [stE] using this
def RuI (x : SentT) : Prop := ∀ (w : World) (wp : Nat) (s : WS) (ca sa : Option Addr) (cc sc : Nat) (oa : Option Addr) (oc : Nat) (cs : Array Value), SW w w wp s → STc w (· < wp) x ca sa cc sc oa oc cs → Calls Tryz.prog 47 #[.pointer (some ⟨wp, 0, none⟩), .agg cs] w (WEnd wp w (ruleR x s))
set_option maxHeartbeats 4000000 in
theorem wrule_q {x : SentT} (hO : SOk x) : RuI x := by
  intro w wp s ca sa cc sc oa oc cs hS hT
  obtain ⟨m, hm⟩ : ∃ m, m = x.over.length := ⟨_, rfl⟩
  have HM := hidLL hm
  have hm48 : m ≤ 17592186044416 := by rw [hm]; exact hT.ov.len.2
  by_cases h1 : x.strength = 1
  · have hwp := hS.wr.in
    have HX0 := hidLL (SX.new hT hwp)
    have HS0 := hidLL (hS.alloc (.cells cs 30))
    obtain ⟨W0, hW0⟩ : ∃ W0, W0 = w.alloc (.cells cs 30) := ⟨_, rfl⟩
    rw [← hW0] at HX0 HS0
    have HW := hidLL hW0
    have HZ : Hid (cs.size = 19) := by show _ = _; rw [hT.eq]; rfl
    have HC2 : Hid (∀ V, SX V wp w.heap.size x ca sa cc sc oa oc cs → V.cell? ⟨w.heap.size, 2, none⟩ = some (.int .i64 x.strength)) := fun V h => h.at 2 _ (by rw [hT.eq]; rfl)
    have HC5 : Hid (∀ V, SX V wp w.heap.size x ca sa cc sc oa oc cs → V.cell? ⟨w.heap.size, 5, none⟩ = some (.string x.cond.kind)) := fun V h => h.at 5 _ (by rw [hT.eq]; rfl)
    have HC6 : Hid (∀ V, SX V wp w.heap.size x ca sa cc sc oa oc cs → V.cell? ⟨w.heap.size, 6, none⟩ = some (.string x.cond.word)) := fun V h => h.at 6 _ (by rw [hT.eq]; rfl)
    have HC7 : Hid (∀ V, SX V wp w.heap.size x ca sa cc sc oa oc cs → V.cell? ⟨w.heap.size, 7, none⟩ = some (.int .i64 x.cond.num)) := fun V h => h.at 7 _ (by rw [hT.eq]; rfl)
    have HC8 : Hid (∀ V, SX V wp w.heap.size x ca sa cc sc oa oc cs → V.cell? ⟨w.heap.size, 8, none⟩ = some (.slice ca x.cond.kids.length cc)) := fun V h => h.at 8 _ (by rw [hT.eq]; rfl)
    have HC14 : Hid (∀ V, SX V wp w.heap.size x ca sa cc sc oa oc cs → V.cell? ⟨w.heap.size, 14, none⟩ = some (.slice oa m oc)) := fun V h => h.at 14 _ (by rw [hT.eq, hm]; rfl)
    have c2 := HC2.out _ HX0.out
    obtain ⟨R, hR⟩ : ∃ R, R = ruleR x s := ⟨_, rfl⟩
    rw [← hR]
    unfold ruleR at hR
    simp only [if_pos h1, Option.bind_some] at hR
    have HR := hidLL hR
    clear hR hW0 hT hS hm
    go_enter Tryz.func47, Tryz.ntmps47
    go_upto_region 1 with fail
    rw [← HW.out]
    go_wp2_with (first
      | (go_at_call 97; revert HX2; intro HX2; refine (perhapsIf_q hO.cond HS2.out.here HX2.out.st.nc).mono ?_; rintro e W3 ⟨hf, hr⟩; rcases hq2 : ifR x.cond s2 with _ | s3; (· rw [hq2] at hr; (obtain ⟨p, rfl⟩ := hr); (obtain rfl : R = none := (by rw [HR.out, hq2]; try rfl)); exact (show _ ∧ _ from ⟨rfl, HS2.out.fr.trans hf, ⟨_, rfl⟩⟩)); rw [hq2] at hr; (obtain ⟨rfl, hr⟩ := hr); (have HS3 := hidLL (HS2.out.step hf hr)); (have HX3 := hidLL (HX2.out.step hf)); clear c5 c6 c7 c8; (have c14 := HC14.out _ HX3.out); rw [hq2, Option.bind_some] at HR; clear hf hr)
      | (go_at_call 96; revert HX1; intro HX1; refine (wliteral_q hO _ _ _ _ _ _ _ _ _ _ HS1.out.here HX1.out.st).mono ?_; rintro e W2 ⟨hf, hr⟩; rcases hq1 : litR x s1 with _ | s2; (· rw [hq1] at hr; (obtain ⟨p, rfl⟩ := hr); (obtain rfl : R = none := (by rw [HR.out, hq1]; try rfl)); exact (show _ ∧ _ from ⟨rfl, HS1.out.fr.trans hf, ⟨_, rfl⟩⟩)); rw [hq1] at hr; (obtain ⟨rfl, hr⟩ := hr); (have HS2 := hidLL (HS1.out.step hf hr)); (have HX2 := hidLL (HX1.out.step hf)); (have c5 := HC5.out _ HX2.out); (have c6 := HC6.out _ HX2.out); (have c7 := HC7.out _ HX2.out); (have c8 := HC8.out _ HX2.out); rw [hq1, Option.bind_some] at HR; clear hf hr)
      | (revert HX1; intro HX1; with_reducible show wpList _ _ _ _ _ _; refine wpList_load_row rfl 30 (.tmp 3) rfl w.heap.size (by first | (simp [Act.eval]; done) | simp [Act.eval, Act.put]) 30 cs (0, 0) _ HX1.out.bx Tryz.underlying30 rfl (infoSent.trans (by rw [HZ.out])) ?_)
      | (go_at_call 45; revert HX0; intro HX0; refine (put1_q HS0.out.wr (x := sg 58) (by decide)).mono ?_; rintro e W1 ⟨hf, hr⟩; rcases hq0 : putR s (sg 58) with _ | s1; (· rw [hq0] at hr; (obtain ⟨p, rfl⟩ := hr); (obtain rfl : R = none := (by rw [HR.out, hq0]; try rfl)); exact (show _ ∧ _ from ⟨rfl, HS0.out.fr.trans hf, ⟨_, rfl⟩⟩)); rw [hq0] at hr; (obtain ⟨rfl, hr⟩ := hr); (have HS1 := hidLL (HS0.out.step hf hr)); (have HX1 := hidLL (HX0.out.step hf)); rw [hq0, Option.bind_some] at HR; clear hf hr))
    go_loopw [29] (fun iv wr => ∃ (j : Nat) (st : WS), j ≤ m ∧ iv = .int .i64 j ∧ R = overR (decide (j = 0)) (x.over.drop j) st ∧ SW w wr wp st ∧ SX wr wp w.heap.size x ca sa cc sc oa oc cs) (fun iv _ => (m - RowKit.intOf iv).toNat)
    case atStart => exact ⟨0, s3, by omega, rfl, HR.out, HS3.out, HX3.out⟩
    case round =>
      obtain ⟨j, st, hj, rfl, hr0, hs0, hx0⟩ := hrel
      have HRj := hidLL hr0
      have HSj := hidLL hs0
      have HXj := hidLL hx0
      clear hr0 hs0 hx0
      by_cases hin : j < m
      · have hjz : (j : Int) < m := by omega
        obtain ⟨y, hy⟩ : ∃ y, x.over[j]? = some y := ⟨_, List.getElem?_eq_getElem (by have := HM.out; omega)⟩
        have hyz := hO.over y (List.mem_of_getElem? hy)
        obtain ⟨g, o, hoa, hg, cy⟩ := HXj.out.st.ov.st hy
        subst hoa
        by_cases h0 : j = 0
        · subst h0
          rw [Nat.add_zero] at cy
          have HRk := hidLL (HRj.out.trans (over_step0 hy st))
          clear HRj hy
          go_wp2_with (go_at_call 45; refine (put3_q HSj.out.wr (x := sg 59) (by decide) (y := wOver) (by decide) hyz).mono ?_; rintro e V ⟨hf, hr⟩; rcases hq : putsR st [sg 59, wOver, y] with _ | t1; (· rw [hq] at hr; (obtain ⟨p, rfl⟩ := hr); (obtain rfl : R = none := (by rw [HRk.out, hq]; try rfl)); exact (show _ ∧ _ from ⟨rfl, HSj.out.fr.trans hf, ⟨_, rfl⟩⟩)); rw [hq] at hr; (obtain ⟨rfl, hr⟩ := hr); (have HSk := hidLL (HSj.out.step hf hr)); (have HXk := hidLL (HXj.out.step hf)); rw [hq, Option.bind_some] at HRk; clear hf hr)
          go_roundw
          case rel => exact ⟨0 + 1, t1, by omega, by go_num, HRk.out, HSk.out, HXk.out⟩
          case measure => simp [RowKit.intOf]; omega
        · have hnz : ¬ (j : Int) = 0 := by omega
          have hnb : ((j : Int) == 0) = false := by simp [h0]
          have HRk := hidLL (HRj.out.trans (over_stepN h0 hy st))
          clear HRj hy
          go_wp2_with (go_at_call 45; refine (put2_q HSj.out.wr (x := sg 44) (by decide) hyz).mono ?_; rintro e V ⟨hf, hr⟩; rcases hq : putsR st [sg 44, y] with _ | t1; (· rw [hq] at hr; (obtain ⟨p, rfl⟩ := hr); (obtain rfl : R = none := (by rw [HRk.out, hq]; try rfl)); exact (show _ ∧ _ from ⟨rfl, HSj.out.fr.trans hf, ⟨_, rfl⟩⟩)); rw [hq] at hr; (obtain ⟨rfl, hr⟩ := hr); (have HSk := hidLL (HSj.out.step hf hr)); (have HXk := hidLL (HXj.out.step hf)); rw [hq, Option.bind_some] at HRk; clear hf hr)
          go_roundw
          case rel => exact ⟨j + 1, t1, by omega, by go_num, HRk.out, HSk.out, HXk.out⟩
          case measure => simp [RowKit.intOf]; omega
      · obtain rfl : j = m := by omega
        have hjz : ¬ (j : Int) < j := by omega
        have HE : Hid (R = some st) := HRj.out.trans (over_end (Nat.le_of_eq HM.out.symm) _ _)
        clear HRj
        go_wp2
        go_end0
        (obtain rfl : R = some st := HE.out)
        exact ⟨HSj.out.fr, rfl, HSj.out.wr⟩
  · rcases hw : wordR [wStrict, ⟨#[]⟩, wDefeater] x.strength with _ | t
    · have hwp := hS.wr.in
      have HX0 := hidLL (SX.new hT hwp)
      have HS0 := hidLL (hS.alloc (.cells cs 30))
      obtain ⟨W0, hW0⟩ : ∃ W0, W0 = w.alloc (.cells cs 30) := ⟨_, rfl⟩
      rw [← hW0] at HX0 HS0
      have HW := hidLL hW0
      have HZ : Hid (cs.size = 19) := by show _ = _; rw [hT.eq]; rfl
      have HC2 : Hid (∀ V, SX V wp w.heap.size x ca sa cc sc oa oc cs → V.cell? ⟨w.heap.size, 2, none⟩ = some (.int .i64 x.strength)) := fun V h => h.at 2 _ (by rw [hT.eq]; rfl)
      have HC5 : Hid (∀ V, SX V wp w.heap.size x ca sa cc sc oa oc cs → V.cell? ⟨w.heap.size, 5, none⟩ = some (.string x.cond.kind)) := fun V h => h.at 5 _ (by rw [hT.eq]; rfl)
      have HC6 : Hid (∀ V, SX V wp w.heap.size x ca sa cc sc oa oc cs → V.cell? ⟨w.heap.size, 6, none⟩ = some (.string x.cond.word)) := fun V h => h.at 6 _ (by rw [hT.eq]; rfl)
      have HC7 : Hid (∀ V, SX V wp w.heap.size x ca sa cc sc oa oc cs → V.cell? ⟨w.heap.size, 7, none⟩ = some (.int .i64 x.cond.num)) := fun V h => h.at 7 _ (by rw [hT.eq]; rfl)
      have HC8 : Hid (∀ V, SX V wp w.heap.size x ca sa cc sc oa oc cs → V.cell? ⟨w.heap.size, 8, none⟩ = some (.slice ca x.cond.kids.length cc)) := fun V h => h.at 8 _ (by rw [hT.eq]; rfl)
      have HC14 : Hid (∀ V, SX V wp w.heap.size x ca sa cc sc oa oc cs → V.cell? ⟨w.heap.size, 14, none⟩ = some (.slice oa m oc)) := fun V h => h.at 14 _ (by rw [hT.eq, hm]; rfl)
      have c2 := HC2.out _ HX0.out
      obtain ⟨R, hR⟩ : ∃ R, R = ruleR x s := ⟨_, rfl⟩
      rw [← hR]
      unfold ruleR at hR
      simp only [if_neg h1, hw, Option.bind_none] at hR
      have HR := hidLL hR
      clear hR hW0 hT hS hm
      go_enter Tryz.func47, Tryz.ntmps47
      go_upto_region 1 with fail
      rw [← HW.out]
      go_upto_region 2 with fail
      have HSc := hidLL (HS0.out.grow ((Below.refl _ W0).drew))
      have HXc := hidLL (HX0.out.step (WFr.of ((Below.refl _ W0).drew) (Nat.le_of_lt HS0.out.wr.in)))
      have d2 := HC2.out _ HXc.out
      go_region_with (first
        | (go_at_call 45; revert HF; intro HF; refine (put1_q HSc.out.wr (x := ⟨#[]⟩) (by decide)).mono ?_; rintro e V ⟨hf, hr⟩; revert hr; (split); (· exact HF.out.elim); rintro ⟨rfl, hr⟩; clear hf hr)
        | (go_at_call 95; revert HN; intro HN; refine (wordOf_thr HSc.out.wr (ls := strengthsQ) hw).mono ?_; rintro e w' ⟨⟨p, rfl⟩ | ⟨rfl, hF⟩, h9⟩; (· subst w'; (obtain rfl : R = none := HR.out); exact (show _ ∧ _ from ⟨rfl, HSc.out.fr, ⟨_, rfl⟩⟩)); subst w'; (have HF := hidLL hF); clear hF)
        | (go_at_call 38; revert HXc; intro HXc; refine (strengths_q _).mono ?_; rintro e V hn; (obtain rfl := hn.e); (have hb := hn.b); (have HN := hidLL hn.row); (have HSd := hidLL (HSc.out.grow hb)); (have HXd := hidLL (HXc.out.step (WFr.of hb (Nat.le_of_lt HSc.out.wr.in)))); clear HSc HXc; (have HSc := HSd); (have HXc := HXd); clear HSd HXd; (have d2 := HC2.out _ HXc.out); clear hn hb))
      all_goals exact HF.out.elim
    · have hwp := hS.wr.in
      have HX0 := hidLL (SX.new hT hwp)
      have HS0 := hidLL (hS.alloc (.cells cs 30))
      obtain ⟨W0, hW0⟩ : ∃ W0, W0 = w.alloc (.cells cs 30) := ⟨_, rfl⟩
      rw [← hW0] at HX0 HS0
      have HW := hidLL hW0
      have HZ : Hid (cs.size = 19) := by show _ = _; rw [hT.eq]; rfl
      have HC2 : Hid (∀ V, SX V wp w.heap.size x ca sa cc sc oa oc cs → V.cell? ⟨w.heap.size, 2, none⟩ = some (.int .i64 x.strength)) := fun V h => h.at 2 _ (by rw [hT.eq]; rfl)
      have HC5 : Hid (∀ V, SX V wp w.heap.size x ca sa cc sc oa oc cs → V.cell? ⟨w.heap.size, 5, none⟩ = some (.string x.cond.kind)) := fun V h => h.at 5 _ (by rw [hT.eq]; rfl)
      have HC6 : Hid (∀ V, SX V wp w.heap.size x ca sa cc sc oa oc cs → V.cell? ⟨w.heap.size, 6, none⟩ = some (.string x.cond.word)) := fun V h => h.at 6 _ (by rw [hT.eq]; rfl)
      have HC7 : Hid (∀ V, SX V wp w.heap.size x ca sa cc sc oa oc cs → V.cell? ⟨w.heap.size, 7, none⟩ = some (.int .i64 x.cond.num)) := fun V h => h.at 7 _ (by rw [hT.eq]; rfl)
      have HC8 : Hid (∀ V, SX V wp w.heap.size x ca sa cc sc oa oc cs → V.cell? ⟨w.heap.size, 8, none⟩ = some (.slice ca x.cond.kids.length cc)) := fun V h => h.at 8 _ (by rw [hT.eq]; rfl)
      have HC14 : Hid (∀ V, SX V wp w.heap.size x ca sa cc sc oa oc cs → V.cell? ⟨w.heap.size, 14, none⟩ = some (.slice oa m oc)) := fun V h => h.at 14 _ (by rw [hT.eq, hm]; rfl)
      have c2 := HC2.out _ HX0.out
      obtain ⟨R, hR⟩ : ∃ R, R = ruleR x s := ⟨_, rfl⟩
      rw [← hR]
      unfold ruleR at hR
      simp only [if_neg h1, hw, Option.bind_some] at hR
      have HR := hidLL hR
      clear hR hW0 hT hS hm
      go_enter Tryz.func47, Tryz.ntmps47
      go_upto_region 1 with fail
      rw [← HW.out]
      go_upto_region 2 with fail
      go_cut [] (fun wx => ∃ s1, putR s t = some s1 ∧ SW w wx wp s1 ∧ SX wx wp w.heap.size x ca sa cc sc oa oc cs)
      case first =>
        have HSc := hidLL (HS0.out.grow ((Below.refl _ W0).drew))
        have HXc := hidLL (HX0.out.step (WFr.of ((Below.refl _ W0).drew) (Nat.le_of_lt HS0.out.wr.in)))
        have d2 := HC2.out _ HXc.out
        go_region_with (first
          | (go_at_call 45; revert HN; intro HN; refine (put1_q HSc.out.wr (strengths_sz _ (wordR_mem hw))).mono ?_; rintro e V ⟨hf, hr⟩; rcases hq0 : putR s t with _ | s1; (· rw [hq0] at hr; (obtain ⟨p, rfl⟩ := hr); (obtain rfl : R = none := (by rw [HR.out, hq0]; try rfl)); exact (show _ ∧ _ from ⟨rfl, HSc.out.fr.trans hf, ⟨_, rfl⟩⟩)); rw [hq0] at hr; (obtain ⟨rfl, hr⟩ := hr); (have HSd := hidLL (HSc.out.step hf hr)); (have HXd := hidLL (HXc.out.step hf)); clear hf hr)
          | (go_at_call 95; revert HN; intro HN; refine (wordOf_some (ls := strengthsQ) HN.out.2 hw).mono ?_; rintro e w' ⟨rfl, h9⟩; subst w')
          | (go_at_call 38; revert HXc; intro HXc; refine (strengths_q _).mono ?_; rintro e V hn; (obtain rfl := hn.e); (have hb := hn.b); (have HN := hidLL hn.row); (have HSd := hidLL (HSc.out.grow hb)); (have HXd := hidLL (HXc.out.step (WFr.of hb (Nat.le_of_lt HSc.out.wr.in)))); clear HSc HXc; (have HSc := HSd); (have HXc := HXd); clear HSd HXd; (have d2 := HC2.out _ HXc.out); clear hn hb))
        all_goals (go_wp2_with fail; go_meet; exact ⟨s1, hq0, HSd.out, HXd.out⟩)
      case rest =>
        obtain ⟨s1, hq0, hS1, hX1⟩ := hcut
        have HS1 := hidLL hS1
        have HX1 := hidLL hX1
        rw [hq0, Option.bind_some] at HR
        clear hS1 hX1 hw
        go_wp2_with (first
      | (go_at_call 97; revert HX3; intro HX3; refine (perhapsIf_q hO.cond HS3.out.here HX3.out.st.nc).mono ?_; rintro e W4 ⟨hf, hr⟩; rcases hq3 : ifR x.cond s3 with _ | s4; (· rw [hq3] at hr; (obtain ⟨p, rfl⟩ := hr); (obtain rfl : R = none := (by rw [HR.out, hq3]; try rfl)); exact (show _ ∧ _ from ⟨rfl, HS3.out.fr.trans hf, ⟨_, rfl⟩⟩)); rw [hq3] at hr; (obtain ⟨rfl, hr⟩ := hr); (have HS4 := hidLL (HS3.out.step hf hr)); (have HX4 := hidLL (HX3.out.step hf)); clear c5 c6 c7 c8; (have c14 := HC14.out _ HX4.out); rw [hq3, Option.bind_some] at HR; clear hf hr)
      | (go_at_call 96; revert HX2; intro HX2; refine (wliteral_q hO _ _ _ _ _ _ _ _ _ _ HS2.out.here HX2.out.st).mono ?_; rintro e W3 ⟨hf, hr⟩; rcases hq2 : litR x s2 with _ | s3; (· rw [hq2] at hr; (obtain ⟨p, rfl⟩ := hr); (obtain rfl : R = none := (by rw [HR.out, hq2]; try rfl)); exact (show _ ∧ _ from ⟨rfl, HS2.out.fr.trans hf, ⟨_, rfl⟩⟩)); rw [hq2] at hr; (obtain ⟨rfl, hr⟩ := hr); (have HS3 := hidLL (HS2.out.step hf hr)); (have HX3 := hidLL (HX2.out.step hf)); (have c5 := HC5.out _ HX3.out); (have c6 := HC6.out _ HX3.out); (have c7 := HC7.out _ HX3.out); (have c8 := HC8.out _ HX3.out); rw [hq2, Option.bind_some] at HR; clear hf hr)
      | (revert HX2; intro HX2; with_reducible show wpList _ _ _ _ _ _; refine wpList_load_row rfl 30 (.tmp 3) rfl w.heap.size (by first | (simp [Act.eval]; done) | simp [Act.eval, Act.put]) 30 cs (0, 0) _ HX2.out.bx Tryz.underlying30 rfl (infoSent.trans (by rw [HZ.out])) ?_)
      | (go_at_call 45; revert HX1; intro HX1; refine (put1_q HS1.out.wr (x := sg 58) (by decide)).mono ?_; rintro e W2 ⟨hf, hr⟩; rcases hq1 : putR s1 (sg 58) with _ | s2; (· rw [hq1] at hr; (obtain ⟨p, rfl⟩ := hr); (obtain rfl : R = none := (by rw [HR.out, hq1]; try rfl)); exact (show _ ∧ _ from ⟨rfl, HS1.out.fr.trans hf, ⟨_, rfl⟩⟩)); rw [hq1] at hr; (obtain ⟨rfl, hr⟩ := hr); (have HS2 := hidLL (HS1.out.step hf hr)); (have HX2 := hidLL (HX1.out.step hf)); rw [hq1, Option.bind_some] at HR; clear hf hr))
        go_loopw [29] (fun iv wr => ∃ (j : Nat) (st : WS), j ≤ m ∧ iv = .int .i64 j ∧ R = overR (decide (j = 0)) (x.over.drop j) st ∧ SW w wr wp st ∧ SX wr wp w.heap.size x ca sa cc sc oa oc cs) (fun iv _ => (m - RowKit.intOf iv).toNat)
        case atStart => exact ⟨0, s4, by omega, rfl, HR.out, HS4.out, HX4.out⟩
        case round =>
          obtain ⟨j, st, hj, rfl, hr0, hs0, hx0⟩ := hrel
          have HRj := hidLL hr0
          have HSj := hidLL hs0
          have HXj := hidLL hx0
          clear hr0 hs0 hx0
          by_cases hin : j < m
          · have hjz : (j : Int) < m := by omega
            obtain ⟨y, hy⟩ : ∃ y, x.over[j]? = some y := ⟨_, List.getElem?_eq_getElem (by have := HM.out; omega)⟩
            have hyz := hO.over y (List.mem_of_getElem? hy)
            obtain ⟨g, o, hoa, hg, cy⟩ := HXj.out.st.ov.st hy
            subst hoa
            by_cases h0 : j = 0
            · subst h0
              rw [Nat.add_zero] at cy
              have HRk := hidLL (HRj.out.trans (over_step0 hy st))
              clear HRj hy
              go_wp2_with (go_at_call 45; refine (put3_q HSj.out.wr (x := sg 59) (by decide) (y := wOver) (by decide) hyz).mono ?_; rintro e V ⟨hf, hr⟩; rcases hq : putsR st [sg 59, wOver, y] with _ | t1; (· rw [hq] at hr; (obtain ⟨p, rfl⟩ := hr); (obtain rfl : R = none := (by rw [HRk.out, hq]; try rfl)); exact (show _ ∧ _ from ⟨rfl, HSj.out.fr.trans hf, ⟨_, rfl⟩⟩)); rw [hq] at hr; (obtain ⟨rfl, hr⟩ := hr); (have HSk := hidLL (HSj.out.step hf hr)); (have HXk := hidLL (HXj.out.step hf)); rw [hq, Option.bind_some] at HRk; clear hf hr)
              go_roundw
              case rel => exact ⟨0 + 1, t1, by omega, by go_num, HRk.out, HSk.out, HXk.out⟩
              case measure => simp [RowKit.intOf]; omega
            · have hnz : ¬ (j : Int) = 0 := by omega
              have hnb : ((j : Int) == 0) = false := by simp [h0]
              have HRk := hidLL (HRj.out.trans (over_stepN h0 hy st))
              clear HRj hy
              go_wp2_with (go_at_call 45; refine (put2_q HSj.out.wr (x := sg 44) (by decide) hyz).mono ?_; rintro e V ⟨hf, hr⟩; rcases hq : putsR st [sg 44, y] with _ | t1; (· rw [hq] at hr; (obtain ⟨p, rfl⟩ := hr); (obtain rfl : R = none := (by rw [HRk.out, hq]; try rfl)); exact (show _ ∧ _ from ⟨rfl, HSj.out.fr.trans hf, ⟨_, rfl⟩⟩)); rw [hq] at hr; (obtain ⟨rfl, hr⟩ := hr); (have HSk := hidLL (HSj.out.step hf hr)); (have HXk := hidLL (HXj.out.step hf)); rw [hq, Option.bind_some] at HRk; clear hf hr)
              go_roundw
              case rel => exact ⟨j + 1, t1, by omega, by go_num, HRk.out, HSk.out, HXk.out⟩
              case measure => simp [RowKit.intOf]; omega
          · obtain rfl : j = m := by omega
            have hjz : ¬ (j : Int) < j := by omega
            have HE : Hid (R = some st) := HRj.out.trans (over_end (Nat.le_of_eq HM.out.symm) _ _)
            clear HRj
            go_wp2
            go_end0
            (obtain rfl : R = some st := HE.out)
            exact ⟨HSj.out.fr, rfl, HSj.out.wr⟩
end Go.Proofs.YtehbinobohjadaaGreatDoor

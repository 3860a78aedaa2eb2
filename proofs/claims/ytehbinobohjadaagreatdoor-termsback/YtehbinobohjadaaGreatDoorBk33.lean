/-
  The program's writer: sentences (written by tools/genwrs.py).
-/
import Derived.Test.YtehbinobohjadaaGreatDoorBk32
import Derived.Test.YtehbinobohjadaaGreatDoorBk08
import Derived.Lib.Builder
import Derived.Lib.AppendStr
import Derived.Lib.UnsafeStr
import Derived.Laws.Externs
import Derived.Shelf.RegionOpenPlain
namespace Go.Proofs.YtehbinobohjadaaGreatDoor
open Go.RowKit Go.Sort Go.Extern.Stop Go.Stop Go.Extern

/-- A sentence's tokens, behind what is there. -/
def sentG (x : SentT) (s : WS) : Option WS := (putsR s [x.kind, x.name]).bind fun s =>
  if eqB x.kind wDefine = true then (putR s (sg 58)).bind fun s => condR x.cond 0 s
  else if eqB x.kind wRule = true then ruleR x s
  else if eqB x.kind wAmount = true then amountR x s
  else if eqB x.kind wDuty = true then dutyR x s
  else none
def SeI (x : SentT) : Prop := ∀ (w : World) (wp : Nat) (s : WS) (ca sa : Option Addr) (cc sc : Nat) (oa : Option Addr) (oc : Nat) (cs : Array Value), SW w w wp s → STc w (· < wp) x ca sa cc sc oa oc cs → Calls Tryz.prog 20 #[.pointer (some ⟨wp, 0, none⟩), .agg cs] w (WEnd wp w (sentG x s))
set_option maxHeartbeats 4000000 in
theorem wsentence_q {x : SentT} (hO : SOk x) : SeI x := by
  intro w wp s ca sa cc sc oa oc cs hS hT
  have HCo := hidLL (cond_q _ x.cond rfl hO.cond)
  have hk := hO.kind
  have hn := hO.name
  cases h0 : (x.kind.toList == [100, 101, 102, 105, 110, 101])
  case true =>
    have e0 : eqB x.kind wDefine = true := eqB_of h0 rfl
    have hwp := hS.wr.in
    have HX0 := hidLL (SX.new hT hwp)
    have HS0 := hidLL (hS.alloc (.cells cs 30))
    obtain ⟨W0, hW0⟩ : ∃ W0, W0 = w.alloc (.cells cs 30) := ⟨_, rfl⟩
    rw [← hW0] at HX0 HS0
    have HW := hidLL hW0
    have HZ : Hid (cs.size = 19) := by show _ = _; rw [hT.eq]; rfl
    have HC0 : Hid (∀ V, SX V wp w.heap.size x ca sa cc sc oa oc cs → V.cell? ⟨w.heap.size, 0, none⟩ = some (.string x.kind)) := fun V h => h.at 0 _ (by rw [hT.eq]; rfl)
    have HC1 : Hid (∀ V, SX V wp w.heap.size x ca sa cc sc oa oc cs → V.cell? ⟨w.heap.size, 1, none⟩ = some (.string x.name)) := fun V h => h.at 1 _ (by rw [hT.eq]; rfl)
    have HC5 : Hid (∀ V, SX V wp w.heap.size x ca sa cc sc oa oc cs → V.cell? ⟨w.heap.size, 5, none⟩ = some (.string x.cond.kind)) := fun V h => h.at 5 _ (by rw [hT.eq]; rfl)
    have HC6 : Hid (∀ V, SX V wp w.heap.size x ca sa cc sc oa oc cs → V.cell? ⟨w.heap.size, 6, none⟩ = some (.string x.cond.word)) := fun V h => h.at 6 _ (by rw [hT.eq]; rfl)
    have HC7 : Hid (∀ V, SX V wp w.heap.size x ca sa cc sc oa oc cs → V.cell? ⟨w.heap.size, 7, none⟩ = some (.int .i64 x.cond.num)) := fun V h => h.at 7 _ (by rw [hT.eq]; rfl)
    have HC8 : Hid (∀ V, SX V wp w.heap.size x ca sa cc sc oa oc cs → V.cell? ⟨w.heap.size, 8, none⟩ = some (.slice ca x.cond.kids.length cc)) := fun V h => h.at 8 _ (by rw [hT.eq]; rfl)
    have c0 := HC0.out _ HX0.out
    have c1 := HC1.out _ HX0.out
    obtain ⟨R, hR⟩ : ∃ R, R = sentG x s := ⟨_, rfl⟩
    rw [← hR]
    unfold sentG at hR
    simp only [e0, if_true] at hR
    have HR := hidLL hR
    clear hR hW0 hT hS
    clear e0
    go_enter Tryz.func20, Tryz.ntmps20
    go_upto_region 1 with fail
    rw [← HW.out]
    go_wp2_with (first
      | (go_at_call 46; revert HX2; intro HX2; refine (HCo.out _ _ _ _ _ 0 0 rfl HS2.out.here HX2.out.st.nc (by decide)).mono ?_; rintro e W3 ⟨hf, hr⟩; rcases hq2 : condR x.cond 0 s2 with _ | s3; (· rw [hq2] at hr; (obtain ⟨p, rfl⟩ := hr); (obtain rfl : R = none := (by rw [HR.out, hq2]; try rfl)); exact (show _ ∧ _ from ⟨rfl, HS2.out.fr.trans hf, ⟨_, rfl⟩⟩)); rw [hq2] at hr; (obtain ⟨rfl, hr⟩ := hr); (have HS3 := hidLL (HS2.out.step hf hr)); (have HX3 := hidLL (HX2.out.step hf)); clear c5 c6 c7 c8; rw [hq2] at HR; clear hf hr)
      | (go_at_call 45; revert HX1; intro HX1; refine (put1_q HS1.out.wr (x := sg 58) (by decide)).mono ?_; rintro e W2 ⟨hf, hr⟩; rcases hq1 : putR s1 (sg 58) with _ | s2; (· rw [hq1] at hr; (obtain ⟨p, rfl⟩ := hr); (obtain rfl : R = none := (by rw [HR.out, hq1]; try rfl)); exact (show _ ∧ _ from ⟨rfl, HS1.out.fr.trans hf, ⟨_, rfl⟩⟩)); rw [hq1] at hr; (obtain ⟨rfl, hr⟩ := hr); (have HS2 := hidLL (HS1.out.step hf hr)); (have HX2 := hidLL (HX1.out.step hf)); clear c0 c5 c6 c7 c8; (have c5 := HC5.out _ HX2.out); (have c6 := HC6.out _ HX2.out); (have c7 := HC7.out _ HX2.out); (have c8 := HC8.out _ HX2.out); rw [hq1, Option.bind_some] at HR; clear hf hr)
      | (go_at_call 45; revert HX0; intro HX0; refine (put2_q HS0.out.wr hk hn).mono ?_; rintro e W1 ⟨hf, hr⟩; rcases hq0 : putsR s [x.kind, x.name] with _ | s1; (· rw [hq0] at hr; (obtain ⟨p, rfl⟩ := hr); (obtain rfl : R = none := (by rw [HR.out, hq0]; try rfl)); exact (show _ ∧ _ from ⟨rfl, HS0.out.fr.trans hf, ⟨_, rfl⟩⟩)); rw [hq0] at hr; (obtain ⟨rfl, hr⟩ := hr); (have HS1 := hidLL (HS0.out.step hf hr)); (have HX1 := hidLL (HX0.out.step hf)); clear c0 c1; (have c0 := HC0.out _ HX1.out); (have c5 := HC5.out _ HX1.out); (have c6 := HC6.out _ HX1.out); (have c7 := HC7.out _ HX1.out); (have c8 := HC8.out _ HX1.out); rw [hq0, Option.bind_some] at HR; clear hf hr))
    go_end0
    (obtain rfl : R = some s3 := HR.out)
    exact ⟨HS3.out.fr, rfl, HS3.out.wr⟩
  case false =>
    cases h1 : (x.kind.toList == [114, 117, 108, 101])
    case true =>
      have e0 : eqB x.kind wDefine = false := eqB_of h0 rfl
      have e1 : eqB x.kind wRule = true := eqB_of h1 rfl
      have hwp := hS.wr.in
      have HX0 := hidLL (SX.new hT hwp)
      have HS0 := hidLL (hS.alloc (.cells cs 30))
      obtain ⟨W0, hW0⟩ : ∃ W0, W0 = w.alloc (.cells cs 30) := ⟨_, rfl⟩
      rw [← hW0] at HX0 HS0
      have HW := hidLL hW0
      have HZ : Hid (cs.size = 19) := by show _ = _; rw [hT.eq]; rfl
      have HC0 : Hid (∀ V, SX V wp w.heap.size x ca sa cc sc oa oc cs → V.cell? ⟨w.heap.size, 0, none⟩ = some (.string x.kind)) := fun V h => h.at 0 _ (by rw [hT.eq]; rfl)
      have HC1 : Hid (∀ V, SX V wp w.heap.size x ca sa cc sc oa oc cs → V.cell? ⟨w.heap.size, 1, none⟩ = some (.string x.name)) := fun V h => h.at 1 _ (by rw [hT.eq]; rfl)
      have HC5 : Hid (∀ V, SX V wp w.heap.size x ca sa cc sc oa oc cs → V.cell? ⟨w.heap.size, 5, none⟩ = some (.string x.cond.kind)) := fun V h => h.at 5 _ (by rw [hT.eq]; rfl)
      have HC6 : Hid (∀ V, SX V wp w.heap.size x ca sa cc sc oa oc cs → V.cell? ⟨w.heap.size, 6, none⟩ = some (.string x.cond.word)) := fun V h => h.at 6 _ (by rw [hT.eq]; rfl)
      have HC7 : Hid (∀ V, SX V wp w.heap.size x ca sa cc sc oa oc cs → V.cell? ⟨w.heap.size, 7, none⟩ = some (.int .i64 x.cond.num)) := fun V h => h.at 7 _ (by rw [hT.eq]; rfl)
      have HC8 : Hid (∀ V, SX V wp w.heap.size x ca sa cc sc oa oc cs → V.cell? ⟨w.heap.size, 8, none⟩ = some (.slice ca x.cond.kids.length cc)) := fun V h => h.at 8 _ (by rw [hT.eq]; rfl)
      have c0 := HC0.out _ HX0.out
      have c1 := HC1.out _ HX0.out
      obtain ⟨R, hR⟩ : ∃ R, R = sentG x s := ⟨_, rfl⟩
      rw [← hR]
      unfold sentG at hR
      simp only [e0, e1, Bool.false_eq_true, if_false, if_true] at hR
      have HR := hidLL hR
      clear hR hW0 hT hS
      clear e0 e1
      go_enter Tryz.func20, Tryz.ntmps20
      go_upto_region 1 with fail
      rw [← HW.out]
      go_wp2_with (first
      | (go_at_call 47; revert HX1; intro HX1; refine (wrule_q hO _ _ _ _ _ _ _ _ _ _ HS1.out.here HX1.out.st).mono ?_; rintro e W2 ⟨hf, hr⟩; rcases hq1 : ruleR x s1 with _ | s2; (· rw [hq1] at hr; (obtain ⟨p, rfl⟩ := hr); (obtain rfl : R = none := (by rw [HR.out, hq1]; try rfl)); exact (show _ ∧ _ from ⟨rfl, HS1.out.fr.trans hf, ⟨_, rfl⟩⟩)); rw [hq1] at hr; (obtain ⟨rfl, hr⟩ := hr); (have HS2 := hidLL (HS1.out.step hf hr)); (have HX2 := hidLL (HX1.out.step hf)); clear c0; rw [hq1] at HR; clear hf hr)
      | (revert HX1; intro HX1; with_reducible show wpList _ _ _ _ _ _; refine wpList_load_row rfl 30 (.tmp 3) rfl w.heap.size (by first | (simp [Act.eval]; done) | simp [Act.eval, Act.put]) 30 cs (0, 0) _ HX1.out.bx Tryz.underlying30 rfl (infoSent.trans (by rw [HZ.out])) ?_)
      | (go_at_call 45; revert HX0; intro HX0; refine (put2_q HS0.out.wr hk hn).mono ?_; rintro e W1 ⟨hf, hr⟩; rcases hq0 : putsR s [x.kind, x.name] with _ | s1; (· rw [hq0] at hr; (obtain ⟨p, rfl⟩ := hr); (obtain rfl : R = none := (by rw [HR.out, hq0]; try rfl)); exact (show _ ∧ _ from ⟨rfl, HS0.out.fr.trans hf, ⟨_, rfl⟩⟩)); rw [hq0] at hr; (obtain ⟨rfl, hr⟩ := hr); (have HS1 := hidLL (HS0.out.step hf hr)); (have HX1 := hidLL (HX0.out.step hf)); clear c0 c1; (have c0 := HC0.out _ HX1.out); rw [hq0, Option.bind_some] at HR; clear hf hr))
      go_end0
      (obtain rfl : R = some s2 := HR.out)
      exact ⟨HS2.out.fr, rfl, HS2.out.wr⟩
    case false =>
      cases h2 : (x.kind.toList == [97, 109, 111, 117, 110, 116])
      case true =>
        have e0 : eqB x.kind wDefine = false := eqB_of h0 rfl
        have e1 : eqB x.kind wRule = false := eqB_of h1 rfl
        have e2 : eqB x.kind wAmount = true := eqB_of h2 rfl
        have hwp := hS.wr.in
        have HX0 := hidLL (SX.new hT hwp)
        have HS0 := hidLL (hS.alloc (.cells cs 30))
        obtain ⟨W0, hW0⟩ : ∃ W0, W0 = w.alloc (.cells cs 30) := ⟨_, rfl⟩
        rw [← hW0] at HX0 HS0
        have HW := hidLL hW0
        have HZ : Hid (cs.size = 19) := by show _ = _; rw [hT.eq]; rfl
        have HC0 : Hid (∀ V, SX V wp w.heap.size x ca sa cc sc oa oc cs → V.cell? ⟨w.heap.size, 0, none⟩ = some (.string x.kind)) := fun V h => h.at 0 _ (by rw [hT.eq]; rfl)
        have HC1 : Hid (∀ V, SX V wp w.heap.size x ca sa cc sc oa oc cs → V.cell? ⟨w.heap.size, 1, none⟩ = some (.string x.name)) := fun V h => h.at 1 _ (by rw [hT.eq]; rfl)
        have HC5 : Hid (∀ V, SX V wp w.heap.size x ca sa cc sc oa oc cs → V.cell? ⟨w.heap.size, 5, none⟩ = some (.string x.cond.kind)) := fun V h => h.at 5 _ (by rw [hT.eq]; rfl)
        have HC6 : Hid (∀ V, SX V wp w.heap.size x ca sa cc sc oa oc cs → V.cell? ⟨w.heap.size, 6, none⟩ = some (.string x.cond.word)) := fun V h => h.at 6 _ (by rw [hT.eq]; rfl)
        have HC7 : Hid (∀ V, SX V wp w.heap.size x ca sa cc sc oa oc cs → V.cell? ⟨w.heap.size, 7, none⟩ = some (.int .i64 x.cond.num)) := fun V h => h.at 7 _ (by rw [hT.eq]; rfl)
        have HC8 : Hid (∀ V, SX V wp w.heap.size x ca sa cc sc oa oc cs → V.cell? ⟨w.heap.size, 8, none⟩ = some (.slice ca x.cond.kids.length cc)) := fun V h => h.at 8 _ (by rw [hT.eq]; rfl)
        have c0 := HC0.out _ HX0.out
        have c1 := HC1.out _ HX0.out
        obtain ⟨R, hR⟩ : ∃ R, R = sentG x s := ⟨_, rfl⟩
        rw [← hR]
        unfold sentG at hR
        simp only [e0, e1, e2, Bool.false_eq_true, if_false, if_true] at hR
        have HR := hidLL hR
        clear hR hW0 hT hS
        clear e0 e1 e2
        go_enter Tryz.func20, Tryz.ntmps20
        go_upto_region 1 with fail
        rw [← HW.out]
        go_wp2_with (first
      | (go_at_call 48; revert HX1; intro HX1; refine (wamount_q hO _ _ _ _ _ _ _ _ _ _ HS1.out.here HX1.out.st).mono ?_; rintro e W2 ⟨hf, hr⟩; rcases hq1 : amountR x s1 with _ | s2; (· rw [hq1] at hr; (obtain ⟨p, rfl⟩ := hr); (obtain rfl : R = none := (by rw [HR.out, hq1]; try rfl)); exact (show _ ∧ _ from ⟨rfl, HS1.out.fr.trans hf, ⟨_, rfl⟩⟩)); rw [hq1] at hr; (obtain ⟨rfl, hr⟩ := hr); (have HS2 := hidLL (HS1.out.step hf hr)); (have HX2 := hidLL (HX1.out.step hf)); clear c0; rw [hq1] at HR; clear hf hr)
      | (revert HX1; intro HX1; with_reducible show wpList _ _ _ _ _ _; refine wpList_load_row rfl 30 (.tmp 3) rfl w.heap.size (by first | (simp [Act.eval]; done) | simp [Act.eval, Act.put]) 30 cs (0, 0) _ HX1.out.bx Tryz.underlying30 rfl (infoSent.trans (by rw [HZ.out])) ?_)
      | (go_at_call 45; revert HX0; intro HX0; refine (put2_q HS0.out.wr hk hn).mono ?_; rintro e W1 ⟨hf, hr⟩; rcases hq0 : putsR s [x.kind, x.name] with _ | s1; (· rw [hq0] at hr; (obtain ⟨p, rfl⟩ := hr); (obtain rfl : R = none := (by rw [HR.out, hq0]; try rfl)); exact (show _ ∧ _ from ⟨rfl, HS0.out.fr.trans hf, ⟨_, rfl⟩⟩)); rw [hq0] at hr; (obtain ⟨rfl, hr⟩ := hr); (have HS1 := hidLL (HS0.out.step hf hr)); (have HX1 := hidLL (HX0.out.step hf)); clear c0 c1; (have c0 := HC0.out _ HX1.out); rw [hq0, Option.bind_some] at HR; clear hf hr))
        go_end0
        (obtain rfl : R = some s2 := HR.out)
        exact ⟨HS2.out.fr, rfl, HS2.out.wr⟩
      case false =>
        cases h3 : (x.kind.toList == [100, 117, 116, 121])
        case true =>
          have e0 : eqB x.kind wDefine = false := eqB_of h0 rfl
          have e1 : eqB x.kind wRule = false := eqB_of h1 rfl
          have e2 : eqB x.kind wAmount = false := eqB_of h2 rfl
          have e3 : eqB x.kind wDuty = true := eqB_of h3 rfl
          have hwp := hS.wr.in
          have HX0 := hidLL (SX.new hT hwp)
          have HS0 := hidLL (hS.alloc (.cells cs 30))
          obtain ⟨W0, hW0⟩ : ∃ W0, W0 = w.alloc (.cells cs 30) := ⟨_, rfl⟩
          rw [← hW0] at HX0 HS0
          have HW := hidLL hW0
          have HZ : Hid (cs.size = 19) := by show _ = _; rw [hT.eq]; rfl
          have HC0 : Hid (∀ V, SX V wp w.heap.size x ca sa cc sc oa oc cs → V.cell? ⟨w.heap.size, 0, none⟩ = some (.string x.kind)) := fun V h => h.at 0 _ (by rw [hT.eq]; rfl)
          have HC1 : Hid (∀ V, SX V wp w.heap.size x ca sa cc sc oa oc cs → V.cell? ⟨w.heap.size, 1, none⟩ = some (.string x.name)) := fun V h => h.at 1 _ (by rw [hT.eq]; rfl)
          have HC5 : Hid (∀ V, SX V wp w.heap.size x ca sa cc sc oa oc cs → V.cell? ⟨w.heap.size, 5, none⟩ = some (.string x.cond.kind)) := fun V h => h.at 5 _ (by rw [hT.eq]; rfl)
          have HC6 : Hid (∀ V, SX V wp w.heap.size x ca sa cc sc oa oc cs → V.cell? ⟨w.heap.size, 6, none⟩ = some (.string x.cond.word)) := fun V h => h.at 6 _ (by rw [hT.eq]; rfl)
          have HC7 : Hid (∀ V, SX V wp w.heap.size x ca sa cc sc oa oc cs → V.cell? ⟨w.heap.size, 7, none⟩ = some (.int .i64 x.cond.num)) := fun V h => h.at 7 _ (by rw [hT.eq]; rfl)
          have HC8 : Hid (∀ V, SX V wp w.heap.size x ca sa cc sc oa oc cs → V.cell? ⟨w.heap.size, 8, none⟩ = some (.slice ca x.cond.kids.length cc)) := fun V h => h.at 8 _ (by rw [hT.eq]; rfl)
          have c0 := HC0.out _ HX0.out
          have c1 := HC1.out _ HX0.out
          obtain ⟨R, hR⟩ : ∃ R, R = sentG x s := ⟨_, rfl⟩
          rw [← hR]
          unfold sentG at hR
          simp only [e0, e1, e2, e3, Bool.false_eq_true, if_false, if_true] at hR
          have HR := hidLL hR
          clear hR hW0 hT hS
          clear e0 e1 e2 e3
          go_enter Tryz.func20, Tryz.ntmps20
          go_upto_region 1 with fail
          rw [← HW.out]
          go_wp2_with (first
      | (go_at_call 49; revert HX1; intro HX1; refine (wduty_q hO _ _ _ _ _ _ _ _ _ _ HS1.out.here HX1.out.st).mono ?_; rintro e W2 ⟨hf, hr⟩; rcases hq1 : dutyR x s1 with _ | s2; (· rw [hq1] at hr; (obtain ⟨p, rfl⟩ := hr); (obtain rfl : R = none := (by rw [HR.out, hq1]; try rfl)); exact (show _ ∧ _ from ⟨rfl, HS1.out.fr.trans hf, ⟨_, rfl⟩⟩)); rw [hq1] at hr; (obtain ⟨rfl, hr⟩ := hr); (have HS2 := hidLL (HS1.out.step hf hr)); (have HX2 := hidLL (HX1.out.step hf)); clear c0; rw [hq1] at HR; clear hf hr)
      | (revert HX1; intro HX1; with_reducible show wpList _ _ _ _ _ _; refine wpList_load_row rfl 30 (.tmp 3) rfl w.heap.size (by first | (simp [Act.eval]; done) | simp [Act.eval, Act.put]) 30 cs (0, 0) _ HX1.out.bx Tryz.underlying30 rfl (infoSent.trans (by rw [HZ.out])) ?_)
      | (go_at_call 45; revert HX0; intro HX0; refine (put2_q HS0.out.wr hk hn).mono ?_; rintro e W1 ⟨hf, hr⟩; rcases hq0 : putsR s [x.kind, x.name] with _ | s1; (· rw [hq0] at hr; (obtain ⟨p, rfl⟩ := hr); (obtain rfl : R = none := (by rw [HR.out, hq0]; try rfl)); exact (show _ ∧ _ from ⟨rfl, HS0.out.fr.trans hf, ⟨_, rfl⟩⟩)); rw [hq0] at hr; (obtain ⟨rfl, hr⟩ := hr); (have HS1 := hidLL (HS0.out.step hf hr)); (have HX1 := hidLL (HX0.out.step hf)); clear c0 c1; (have c0 := HC0.out _ HX1.out); rw [hq0, Option.bind_some] at HR; clear hf hr))
          go_end0
          (obtain rfl : R = some s2 := HR.out)
          exact ⟨HS2.out.fr, rfl, HS2.out.wr⟩
        case false =>
          obtain ⟨p, ct⟩ := hS.wr.g
          have HT := hidLL (fun W => throw_q 189 p W)
          have HCt : Hid (∀ V, WFr wp w V → V.cell? ⟨1, 0, none⟩ = some (.iface 189 (.pointer (some p)))) := fun V h => (h.below.cell (p := ⟨1, 0, none⟩) hS.wr.lo).trans ct
          have e0 : eqB x.kind wDefine = false := eqB_of h0 rfl
          have e1 : eqB x.kind wRule = false := eqB_of h1 rfl
          have e2 : eqB x.kind wAmount = false := eqB_of h2 rfl
          have e3 : eqB x.kind wDuty = false := eqB_of h3 rfl
          have hwp := hS.wr.in
          have HX0 := hidLL (SX.new hT hwp)
          have HS0 := hidLL (hS.alloc (.cells cs 30))
          obtain ⟨W0, hW0⟩ : ∃ W0, W0 = w.alloc (.cells cs 30) := ⟨_, rfl⟩
          rw [← hW0] at HX0 HS0
          have HW := hidLL hW0
          have HZ : Hid (cs.size = 19) := by show _ = _; rw [hT.eq]; rfl
          have HC0 : Hid (∀ V, SX V wp w.heap.size x ca sa cc sc oa oc cs → V.cell? ⟨w.heap.size, 0, none⟩ = some (.string x.kind)) := fun V h => h.at 0 _ (by rw [hT.eq]; rfl)
          have HC1 : Hid (∀ V, SX V wp w.heap.size x ca sa cc sc oa oc cs → V.cell? ⟨w.heap.size, 1, none⟩ = some (.string x.name)) := fun V h => h.at 1 _ (by rw [hT.eq]; rfl)
          have HC5 : Hid (∀ V, SX V wp w.heap.size x ca sa cc sc oa oc cs → V.cell? ⟨w.heap.size, 5, none⟩ = some (.string x.cond.kind)) := fun V h => h.at 5 _ (by rw [hT.eq]; rfl)
          have HC6 : Hid (∀ V, SX V wp w.heap.size x ca sa cc sc oa oc cs → V.cell? ⟨w.heap.size, 6, none⟩ = some (.string x.cond.word)) := fun V h => h.at 6 _ (by rw [hT.eq]; rfl)
          have HC7 : Hid (∀ V, SX V wp w.heap.size x ca sa cc sc oa oc cs → V.cell? ⟨w.heap.size, 7, none⟩ = some (.int .i64 x.cond.num)) := fun V h => h.at 7 _ (by rw [hT.eq]; rfl)
          have HC8 : Hid (∀ V, SX V wp w.heap.size x ca sa cc sc oa oc cs → V.cell? ⟨w.heap.size, 8, none⟩ = some (.slice ca x.cond.kids.length cc)) := fun V h => h.at 8 _ (by rw [hT.eq]; rfl)
          have c0 := HC0.out _ HX0.out
          have c1 := HC1.out _ HX0.out
          obtain ⟨R, hR⟩ : ∃ R, R = sentG x s := ⟨_, rfl⟩
          rw [← hR]
          unfold sentG at hR
          simp only [e0, e1, e2, e3, Bool.false_eq_true, if_false] at hR
          have HR := hidLL hR
          clear hR hW0 hT hS
          clear e0 e1 e2 e3
          go_enter Tryz.func20, Tryz.ntmps20
          go_upto_region 1 with fail
          rw [← HW.out]
          go_wp2_with (first
      | (go_at_call 50; refine (HT.out _).mono ?_; rintro e w' ⟨rfl, h9⟩; subst w')
      | (go_at_call 45; revert HX0; intro HX0; refine (put2_q HS0.out.wr hk hn).mono ?_; rintro e W1 ⟨hf, hr⟩; rcases hq0 : putsR s [x.kind, x.name] with _ | s1; (· rw [hq0] at hr; (obtain ⟨p, rfl⟩ := hr); (obtain rfl : R = none := (by rw [HR.out, hq0]; try rfl)); exact (show _ ∧ _ from ⟨rfl, HS0.out.fr.trans hf, ⟨_, rfl⟩⟩)); rw [hq0] at hr; (obtain ⟨rfl, hr⟩ := hr); (have HS1 := hidLL (HS0.out.step hf hr)); (have HX1 := hidLL (HX0.out.step hf)); clear c0 c1; (have c0 := HC0.out _ HX1.out); rw [hq0, Option.bind_some] at HR; clear hf hr; (have ct1 := HCt.out _ HS1.out.fr)))
          (obtain rfl : R = none := HR.out)
          exact ⟨rfl, HS1.out.fr, _, rfl⟩
end Go.Proofs.YtehbinobohjadaaGreatDoor
namespace Go.Proofs.YtehbinobohjadaaGreatDoor
open Go.RowKit Go.Sort Go.Extern.Stop Go.Stop Go.Extern

/-- Tokens that are easier to read apart. -/
def apE (a b : ByteArray) : Bool :=
  if ((b.toList == [58]) || (b.toList == [44]) || (b.toList == [59]) || (b.toList == [41]) || (b.toList == [93]) || (b.toList == [37])) = true then false
  else if (b.toList == [40]) = true then !(a.toList == [109, 97, 120]) && !(a.toList == [109, 105, 110]) && !(a.toList == [40])
  else !(a.toList == [40]) && !(a.toList == [91])
def hd0 (a : ByteArray) : UInt8 := a.data.toList.headD 0
def apI (a b : ByteArray) : Bool := wordC (hd0 a) && wordC (hd0 b)
def apW (a b : ByteArray) : Bool := lowC (hd0 a) && wordC (hd0 b)
theorem hd0_of {a : ByteArray} (h : 0 < a.size) : a[0] = hd0 a := by
  obtain ⟨⟨l⟩⟩ := a
  match l, h with
  | c :: l, h => rfl
set_option maxHeartbeats 2000000 in
theorem areBothInner_q {a b : ByteArray} (ha : 0 < a.size) (hb : 0 < b.size) (w : World) : Calls Tryz.prog 52 #[.string a, .string b] w fun e w' => e = .returned (.bool (apI a b)) ∧ w' = w := by
  have hO : Hid (apI a b = (wordC a[0] && wordC b[0])) := by show _ = _; rw [hd0_of ha, hd0_of hb]; rfl
  have HA := hidLL (isInner_q a[0])
  have HB := hidLL (isInner_q b[0])
  generalize apI a b = O at *
  generalize wordC a[0] = A at *
  generalize wordC b[0] = B at *
  cases A
  all_goals (
    go_enter Tryz.func52, Tryz.ntmps52
    go_wp2_with (first | (go_at_call 74; refine (HA.out _).mono ?_; rintro e w' ⟨rfl, h9⟩; subst w'; clear HA) | (go_at_call 74; refine (HB.out _).mono ?_; rintro e w' ⟨rfl, h9⟩; subst w'))
    go_ret
    exact ⟨retB (by rw [hO.out]; simp), rfl⟩)
set_option maxHeartbeats 2000000 in
theorem wouldBeOne_q {a b : ByteArray} (ha : 0 < a.size) (hb : 0 < b.size) (w : World) : Calls Tryz.prog 53 #[.string a, .string b] w fun e w' => e = .returned (.bool (apW a b)) ∧ w' = w := by
  have hO : Hid (apW a b = (lowC a[0] && wordC b[0])) := by show _ = _; rw [hd0_of ha, hd0_of hb]; rfl
  have HA := hidLL (isLetter_q a[0])
  have HB := hidLL (isInner_q b[0])
  generalize apW a b = O at *
  generalize lowC a[0] = A at *
  generalize wordC b[0] = B at *
  cases A
  all_goals (
    go_enter Tryz.func53, Tryz.ntmps53
    go_wp2_with (first | (go_at_call 72; refine (HA.out _).mono ?_; rintro e w' ⟨rfl, h9⟩; subst w') | (go_at_call 74; refine (HB.out _).mono ?_; rintro e w' ⟨rfl, h9⟩; subst w'))
    go_ret
    exact ⟨retB (by rw [hO.out]; simp), rfl⟩)
set_option maxHeartbeats 4000000 in
theorem isEasierApart_q (a b : ByteArray) (w : World) : Calls Tryz.prog 51 #[.string a, .string b] w fun e w' => e = .returned (.bool (apE a b)) ∧ w' = w := by
  have hO : Hid (apE a b = if ((b.toList == [58]) || (b.toList == [44]) || (b.toList == [59]) || (b.toList == [41]) || (b.toList == [93]) || (b.toList == [37])) = true then false else if (b.toList == [40]) = true then !(a.toList == [109, 97, 120]) && !(a.toList == [109, 105, 110]) && !(a.toList == [40]) else !(a.toList == [40]) && !(a.toList == [91])) := rfl
  generalize apE a b = O at *
  cases h0 : (b.toList == [58])
  rotate_left
  · go_enter Tryz.func51, Tryz.ntmps51; go_wp2; go_ret; exact ⟨retB (by rw [hO.out]; simp [h0]), rfl⟩
  cases h1 : (b.toList == [44])
  rotate_left
  · go_enter Tryz.func51, Tryz.ntmps51; go_wp2; go_ret; exact ⟨retB (by rw [hO.out]; simp [h0, h1]), rfl⟩
  cases h2 : (b.toList == [59])
  rotate_left
  · go_enter Tryz.func51, Tryz.ntmps51; go_wp2; go_ret; exact ⟨retB (by rw [hO.out]; simp [h0, h1, h2]), rfl⟩
  cases h3 : (b.toList == [41])
  rotate_left
  · go_enter Tryz.func51, Tryz.ntmps51; go_wp2; go_ret; exact ⟨retB (by rw [hO.out]; simp [h0, h1, h2, h3]), rfl⟩
  cases h4 : (b.toList == [93])
  rotate_left
  · go_enter Tryz.func51, Tryz.ntmps51; go_wp2; go_ret; exact ⟨retB (by rw [hO.out]; simp [h0, h1, h2, h3, h4]), rfl⟩
  cases h5 : (b.toList == [37])
  rotate_left
  · go_enter Tryz.func51, Tryz.ntmps51; go_wp2; go_ret; exact ⟨retB (by rw [hO.out]; simp [h0, h1, h2, h3, h4, h5]), rfl⟩
  cases h6 : (b.toList == [40])
  · cases k0 : (a.toList == [40])
    all_goals cases k1 : (a.toList == [91])
    all_goals (go_enter Tryz.func51, Tryz.ntmps51; go_wp2; go_ret; exact ⟨retB (by rw [hO.out]; simp [h0, h1, h2, h3, h4, h5, h6, k0, k1]), rfl⟩)
  · cases k0 : (a.toList == [109, 97, 120])
    all_goals cases k1 : (a.toList == [109, 105, 110])
    all_goals cases k2 : (a.toList == [40])
    all_goals (go_enter Tryz.func51, Tryz.ntmps51; go_wp2; go_ret; exact ⟨retB (by rw [hO.out]; simp [h0, h1, h2, h3, h4, h5, h6, k0, k1, k2]), rfl⟩)
end Go.Proofs.YtehbinobohjadaaGreatDoor
namespace Go.Proofs.YtehbinobohjadaaGreatDoor
open Go.RowKit Go.Extern.Stop Go.Stop Go.Extern

theorem Tryz.infoByte : ∃ i, Tryz.prog.info? 5 = some i ∧ i.zero = some (.int .u8 0) ∧ i.size = 1 ∧ i.bytes = 1 := by
  have h : (Tryz.prog.info? 5).map (fun i => (i.zero, i.size, i.bytes)) = some (some (.int .u8 0), 1, 1) := by kernel_rfl
  obtain ⟨i, hi, e⟩ := Option.map_eq_some_iff.1 h
  injection e with e1 e2
  injection e2 with e2 e3
  exact ⟨i, hi, e1, e2, e3⟩
theorem Tryz.infoBuilder : ∃ j, Tryz.prog.info? 130 = some j ∧ j.size = 2 := by
  have h : (Tryz.prog.info? 130).map (·.size) = some 2 := by kernel_rfl
  exact Option.map_eq_some_iff.1 h
theorem Tryz.liesBld : liesAt Tryz.prog Tryz.prog.depth 130 (2 / Tryz.prog.cellsOf 130) 0 130 1 = true := by kernel_rfl
theorem Tryz.cellsByte : Tryz.prog.cellsOf 5 = 1 := by kernel_rfl

/-- A page that holds these bytes. -/
structure Pg (B b : Nat) (bs : List UInt8) (w : World) : Prop where
  is : Lib.IsBuilder 130 5 B b (Lib.byteCells bs) w
  sz : B ≤ w.heap.size
/-- What writing on a page leaves as it was: all below B, and every block but the page that does not hold bytes. -/
structure PgStep (B b : Nat) (w w' : World) : Prop where
  bel : Below B w w'
  kp : ∀ k cs T fr, k ≠ b → w.heap[k]? = some (.cells cs T fr) → T ≠ 5 → w'.heap[k]? = w.heap[k]?
theorem PgStep.refl (B b : Nat) (w : World) : PgStep B b w w := ⟨Below.refl _ _, fun _ _ _ _ _ _ _ => rfl⟩
theorem PgStep.trans {B b : Nat} {w w' w'' : World} (h : PgStep B b w w') (h' : PgStep B b w' w'') : PgStep B b w w'' :=
  ⟨h.bel.trans h'.bel, fun k cs T fr hk hc hT => (h'.kp k cs T fr hk ((h.kp k cs T fr hk hc hT).trans hc) hT).trans (h.kp k cs T fr hk hc hT)⟩
theorem PgStep.of {B b : Nat} {w w' : World} (hw : B ≤ w.heap.size) (h : Below w.heap.size w w') : PgStep B b w w' :=
  ⟨h.mono hw, fun k _ _ _ _ hc _ => h.block k (lt_of_block hc)⟩
theorem Pg.on {B b : Nat} {bs : List UInt8} {w w' : World} (h : Pg B b bs w) (hb : Below w.heap.size w w') : Pg B b bs w' := by
  refine ⟨?_, Nat.le_trans h.sz hb.size⟩
  have hk : ∀ k, k < w.heap.size → w'.heap[k]? = w.heap[k]? := fun k hk => hb.block k hk
  rcases h.is with h | h
  · obtain ⟨h1, v, h2, h3, h4⟩ := h
    exact .inl ⟨h1, v, (hk _ (lt_of_block h2)).trans h2, row_step h3 (fun g _ hg => hk g hg), h4⟩
  · obtain ⟨h1, v, h2, h3, h4⟩ := h
    exact .inr ⟨h1, v, (hk _ (lt_of_block h2)).trans h2, row_step h3 (fun g _ hg => hk g hg), h4⟩
theorem Pg.lt {B b : Nat} {bs : List UInt8} {w : World} (h : Pg B b bs w) : b < w.heap.size ∧ B ≤ b := by
  rcases h.is with h | h
  · exact ⟨h.lt, h.1⟩
  · exact ⟨h.lt, h.1⟩

set_option maxHeartbeats 1000000 in
set_option maxRecDepth 100000 in
theorem copy_used (b : Nat) (w : World) (h0 : w.cell? ⟨b, 0, none⟩ = some (.pointer (some ⟨b, 0, none⟩))) :
    Calls Tryz.prog 129 #[.pointer (some ⟨b, 0, none⟩)] w fun e w' => e = .returned (.tuple #[]) ∧ w' = w := by
  obtain ⟨j, hj, _⟩ := Tryz.infoBuilder
  go_enter Tryz.func129, Tryz.ntmps129
  go_wp2
  rw [Lib.run_neq_ptr_same w _ Tryz.underlying127 hj]
  go_wp2
  go_end0
  exact ⟨rfl, rfl⟩
set_option maxHeartbeats 1000000 in
set_option maxRecDepth 100000 in
theorem copy_fresh (b : Nat) (w : World) (h0 : w.cell? ⟨b, 0, none⟩ = some (.pointer none)) (hsh : w.shape? b = some (130, 2)) (hfz : w.frozen? ⟨b, 0, none⟩ = false) :
    Calls Tryz.prog 129 #[.pointer (some ⟨b, 0, none⟩)] w fun e w' => e = .returned (.tuple #[]) ∧ w' = w.setCell ⟨b, 0, none⟩ (.pointer (some ⟨b, 0, none⟩)) := by
  obtain ⟨j, hj, hjs⟩ := Tryz.infoBuilder
  go_enter Tryz.func129, Tryz.ntmps129
  go_wp2
  rw [Lib.run_to_unsafe w ⟨b, 0, none⟩ Tryz.underlying127 Tryz.underlying134 hj (by rw [hjs]; decide) hsh (Nat.zero_lt_succ 1)]
  simp only [Result.andThen]
  rw [Oper.upon_value]
  go_wp2
  rw [run_callFunc_extern Tryz.func146 (by kernel_rfl) (by kernel_rfl) (by kernel_rfl) (e := Extern.AbiNoEscape.same) (by kernel_rfl)]
  rw [Lib.run_noEscape]
  simp only [Result.andThen]
  rw [Oper.upon_value]
  go_wp2
  rw [Lib.run_from_unsafe w ⟨b, 0, none⟩ Tryz.underlying134 Tryz.underlying127 hj hsh Tryz.liesBld]
  simp only [Result.andThen]
  rw [Oper.upon_value]
  go_wp2
  go_end0
  exact ⟨rfl, rfl⟩
theorem copy_any (B b : Nat) (bs : List UInt8) (w : World) (h : Pg B b bs w) :
    Calls Tryz.prog 129 #[.pointer (some ⟨b, 0, none⟩)] w fun e w' => e = .returned (.tuple #[]) ∧ Lib.BuilderAt 130 5 B b (.pointer (some ⟨b, 0, none⟩)) (Lib.byteCells bs) w' ∧ PgStep B b w w' := by
  rcases h.is with h' | h'
  · refine (copy_fresh b w h'.cell0 h'.shape h'.frozen0).mono ?_
    rintro e w' ⟨rfl, rfl⟩
    exact ⟨rfl, h'.used _, (Below.refl B w).setCell (p := ⟨b, 0, none⟩) h'.1 _, fun k cs T fr hk _ _ => Below.heap_setCell _ _ _ _ hk⟩
  · refine (copy_used b w h'.cell0).mono ?_
    rintro e w' ⟨rfl, rfl⟩
    exact ⟨rfl, h', PgStep.refl _ _ _⟩
set_option maxHeartbeats 2000000 in
/-- A text more on the page. -/
theorem ws_any (B b : Nat) (bs : List UInt8) (s : ByteArray) (w : World) (h : Pg B b bs w) (hlen : bs.length + s.size ≤ 140737488355328) :
    Calls Tryz.prog 100 #[.pointer (some ⟨b, 0, none⟩), .string s] w fun e w' => e = .returned (.tuple #[.int .i64 s.size, .nilIface]) ∧ Pg B b (bs ++ s.data.toList) w' ∧ PgStep B b w w' := by
  obtain ⟨i0, hi, hz0, hz1, hz2⟩ := Tryz.infoByte
  have HSz := hidLL h.sz
  have HC := hidLL (copy_any B b bs w h)
  have hbl : (Lib.byteCells bs).length = bs.length := Lib.byteCells_length _
  go_enter Tryz.func100, Tryz.ntmps100
  go_wp2_with fail
  go_at_call 129
  refine HC.out.mono ?_
  rintro e w1 ⟨rfl, ⟨hB, v, hbk, hown, hne⟩, hst⟩
  have HSt := hidLL hst
  have hs1 : B ≤ w1.heap.size := Nat.le_trans HSz.out hst.bel.size
  have c1 : w1.cell? ⟨b, 1, none⟩ = some v := by rw [Lib.cell_of_heap hbk]; rfl
  clear hst HC
  go_wp2_with (at_builtin; refine Lib.wpList_append_own_string _ rfl _ _ 128 9 rfl B 5 i0 Tryz.underlying128 Tryz.underlying9 hi hz0 hz1 hz2 _ _ _ rfl hown s rfl ?c3 ?c4 ?c5 ?_)
  case c3 => unfold maxLen; omega
  case c4 => omega
  case c5 => exact hs1
  intro v' w2 hown' hgrow _
  have hlt : b < w1.heap.size := lt_of_block hbk
  have hb2 : w2.heap[b]? = some (.cells #[.pointer (some ⟨b, 0, none⟩), v] 130 (0, 0)) := by
    rw [hgrow.block b hlt (fun e => hne e.symm)]
    exact hbk
  have d1 : w2.cell? ⟨b, 1, none⟩ = some v := by rw [Lib.cell_of_heap hb2]; rfl
  have f1 : w2.frozen? ⟨b, 1, none⟩ = false := Lib.frozen_of_heap hb2 1
  obtain ⟨ao, n', cap, rfl⟩ : ∃ ao n' cap, v' = .slice ao n' cap := by
    rcases hown'.2 with ⟨hv, _⟩ | ⟨g, cap, cur, hv, _⟩
    · exact ⟨_, _, _, hv⟩
    · exact ⟨_, _, _, hv⟩
  have HO := hidLL hown'
  have HG := hidLL hgrow
  have HB2 := hidLL hb2
  have HW := hidLL (And.intro hown (And.intro hne hB))
  clear hown' hgrow hb2 hown hne hbk hB
  go_wp2
  go_ret2
  have hput := Lib.BuilderAt.put (T := 130) (e := 5) HW.out.2.2 HB2.out (bs' := Lib.byteCells (bs ++ s.data.toList)) (by
    rw [Lib.byteCells_append, List.length_append, Lib.byteCells_length, Lib.byteCells_length, bl_len]
    exact HO.out) (by decide)
  have hb2' : Below B w w2 := HSt.out.bel.grown HG.out hs1 (fun k hk => (HW.out.1.lt k hk).1)
  refine ⟨rfl, ⟨.inr hput, by have := hb2'.size; have := HSz.out; simp; omega⟩, hb2'.setCell (p := ⟨b, 1, none⟩) HW.out.2.2 _, fun k cs T fr hk hc hT => ?_⟩
  have h1 : w1.heap[k]? = some (.cells cs T fr) := (HSt.out.kp k cs T fr hk hc hT).trans hc
  rw [Below.heap_setCell _ _ _ _ hk, HG.out.block k (lt_of_block h1) (fun e => Lib.ownBlock_ne HW.out.1 h1 hT e.symm), h1, hc]
set_option maxHeartbeats 2000000 in
set_option maxRecDepth 100000 in
/-- All that stands on a page that is not empty. -/
theorem string_any (B b : Nat) (l : List UInt8) (w : World) (h : Pg B b l w) (h0 : l ≠ []) :
    Calls Tryz.prog 101 #[.pointer (some ⟨b, 0, none⟩)] w fun e w' => e = .returned (.string ⟨l.toArray⟩) ∧ Below B w w' := by
  obtain ⟨p, hB, v, hbk, hown, hne⟩ : ∃ p, Lib.BuilderAt 130 5 B b p (Lib.byteCells l) w := by
    rcases h.is with h | h
    · exact ⟨_, h⟩
    · exact ⟨_, h⟩
  have hl0 : l.length ≠ 0 := by simpa using h0
  rw [Lib.byteCells_length] at hown
  obtain ⟨g, cap, cur, rfl, hbg, hg, hnc, hcm, hcs, htake⟩ : ∃ g cap cur, v = .slice (some ⟨g, 0, none⟩) l.length cap ∧ B ≤ g ∧ w.heap[g]? = some (.cells cur 5 (0, 0)) ∧ l.length ≤ cap ∧ cap ≤ maxLen ∧ cur.size = cap * 1 ∧ cur.toList.take (l.length * 1) = Lib.byteCells l := by
    rcases hown.2 with ⟨_, hz⟩ | ⟨g, cap, cur, hv, r⟩
    · exact absurd hz hl0
    · exact ⟨g, cap, cur, hv, r⟩
  have hbd : w.drew.heap[b]? = some (.cells #[p, .slice (some ⟨g, 0, none⟩) l.length cap] 130 (0, 0)) := hbk
  have hgd : w.drew.heap[g]? = some (.cells cur 5 (0, 0)) := hg
  have c1 : w.drew.cell? ⟨b, 1, none⟩ = some (.slice (some ⟨g, 0, none⟩) l.length cap) := by rw [Lib.cell_of_heap hbd]; rfl
  have hSD : (Builtin.unsafeSliceData_ #[128] 149 #[.slice (some ⟨g, 0, none⟩) l.length cap]).run Tryz.prog w.drew = .ok (.pointer (some ⟨g, 0, none⟩)) w.drew :=
    Lib.run_unsafeSliceData_row _ _ _ _ _ _ (by omega)
  have hUS : (Builtin.unsafeString_ #[149, 3] 9 #[.pointer (some ⟨g, 0, none⟩), .int .i64 l.length]).run Tryz.prog w.drew = .ok (.string ⟨l.toArray⟩) (w.drew.freeze ⟨g, 0, none⟩ l.length) := by
    refine Lib.run_unsafeString_row w.drew 149 3 9 5 Tryz.underlying149 Tryz.cellsByte g cur.size (by simp [World.shape?, hgd]) l h0 (by omega) (by unfold maxLen at hcm; omega) ?_
    intro j x hx
    exact hown.cells (g := g) rfl j (.int .u8 x.toNat) (by simp [Lib.byteCells, hx])
  clear hbk hbd hg hgd hown htake hne h h0
  have mixed : Tryz.prog.follows Departure.mixedOrders = true := by kernel_rfl
  go_enter Tryz.func101, Tryz.ntmps101
  go_wp2
  go_region_o
  all_goals (go_wp2; go_ret; exact ⟨rfl, Lib.below_freeze (Below.drew (Below.refl B w)) (p := ⟨g, 0, none⟩) hbg _⟩)
theorem bld_new {B b : Nat} {w : World} (hB : B ≤ b) (hw : B ≤ w.heap.size) (h : w.heap[b]? = some (.cells #[.pointer none, .slice none 0 0] 130 (0, 0))) : Pg B b [] w :=
  ⟨.inl ⟨hB, _, h, World.ownsRow_nil _ _ _ _, by simp [Value.ownBlock]⟩, hw⟩
end Go.Proofs.YtehbinobohjadaaGreatDoor

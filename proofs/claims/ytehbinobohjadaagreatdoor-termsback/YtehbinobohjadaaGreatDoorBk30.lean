/-
  The program's writer: amounts (written by tools/genwrs.py).
-/
import Derived.Test.YtehbinobohjadaaGreatDoorBk29
import Derived.Test.YtehbinobohjadaaGreatDoorBk05
import Derived.Deep.RegionWith
namespace Go.Proofs.YtehbinobohjadaaGreatDoor
open Go.RowKit Go.Sort Go.Extern.Stop Go.Stop Go.Extern

theorem wordR_mem {l : List ByteArray} {n : Int} {t : ByteArray} (h : wordR l n = some t) : t ∈ l := by
  unfold wordR at h
  split at h
  · cases h
  · exact List.mem_of_getElem? h
theorem ways_sz : ∀ t ∈ waysW, t.size ≤ 281474976710656 := by decide
theorem units_sz : ∀ t ∈ unitsW, t.size ≤ 281474976710656 := by decide
theorem rolls_sz : ∀ t ∈ rollsQ, t.size ≤ 281474976710656 := by decide
theorem strengths_sz : ∀ t ∈ strengthsQ, t.size ≤ 281474976710656 := by decide
theorem NewRow.at {ls : List ByteArray} {w w' : World} {e : Ending} (h : NewRow ls w e w') {b : Nat} (hb : b = w.heap.size) (i : Nat) (s : ByteArray) (hi : ls[i]? = some s) : w'.cell? ⟨b, 0 + i, none⟩ = some (.string s) := by
  rw [Nat.zero_add, hb]
  exact h.c i s hi
theorem wordOf_thr {W : World} {wp : Nat} {s : WS} (h : WR W wp s) {ls : List ByteArray} {a : Option Addr} {c : Nat} {n : Int} (hx : wordR ls n = none) :
    Calls Tryz.prog 95 #[.slice a ls.length c, .int .i64 n] W fun e w' => (ThrT e ∨ (e = .returned (.string ⟨#[]⟩) ∧ False)) ∧ w' = W := by
  obtain ⟨p, ct⟩ := h.g
  exact (wordOf_none ct hx).mono fun e w' h => ⟨.inl h.1, h.2⟩
def AmI (x : SentT) : Prop := ∀ (w : World) (wp : Nat) (s : WS) (ca sa : Option Addr) (cc sc : Nat) (oa : Option Addr) (oc : Nat) (cs : Array Value), SW w w wp s → STc w (· < wp) x ca sa cc sc oa oc cs → Calls Tryz.prog 48 #[.pointer (some ⟨wp, 0, none⟩), .agg cs] w (WEnd wp w (amountR x s))
set_option maxHeartbeats 4000000 in
theorem wamount_q {x : SentT} (hO : SOk x) : AmI x := by
  intro w wp s ca sa cc sc oa oc cs hS hT
  have HSm := hidLL (sum_q _ x.sum rfl hO.sum)
  by_cases h4 : x.way = 4
  · have hwp := hS.wr.in
    have HX0 := hidLL (SX.new hT hwp)
    have HS0 := hidLL (hS.alloc (.cells cs 30))
    obtain ⟨W0, hW0⟩ : ∃ W0, W0 = w.alloc (.cells cs 30) := ⟨_, rfl⟩
    rw [← hW0] at HX0 HS0
    have HW := hidLL hW0
    have HZ : Hid (cs.size = 19) := by show _ = _; rw [hT.eq]; rfl
    have HC5 : Hid (∀ V, SX V wp w.heap.size x ca sa cc sc oa oc cs → V.cell? ⟨w.heap.size, 5, none⟩ = some (.string x.cond.kind)) := fun V h => h.at 5 _ (by rw [hT.eq]; rfl)
    have HC6 : Hid (∀ V, SX V wp w.heap.size x ca sa cc sc oa oc cs → V.cell? ⟨w.heap.size, 6, none⟩ = some (.string x.cond.word)) := fun V h => h.at 6 _ (by rw [hT.eq]; rfl)
    have HC7 : Hid (∀ V, SX V wp w.heap.size x ca sa cc sc oa oc cs → V.cell? ⟨w.heap.size, 7, none⟩ = some (.int .i64 x.cond.num)) := fun V h => h.at 7 _ (by rw [hT.eq]; rfl)
    have HC8 : Hid (∀ V, SX V wp w.heap.size x ca sa cc sc oa oc cs → V.cell? ⟨w.heap.size, 8, none⟩ = some (.slice ca x.cond.kids.length cc)) := fun V h => h.at 8 _ (by rw [hT.eq]; rfl)
    have HC9 : Hid (∀ V, SX V wp w.heap.size x ca sa cc sc oa oc cs → V.cell? ⟨w.heap.size, 9, none⟩ = some (.string x.sum.kind)) := fun V h => h.at 9 _ (by rw [hT.eq]; rfl)
    have HC10 : Hid (∀ V, SX V wp w.heap.size x ca sa cc sc oa oc cs → V.cell? ⟨w.heap.size, 10, none⟩ = some (.string x.sum.word)) := fun V h => h.at 10 _ (by rw [hT.eq]; rfl)
    have HC11 : Hid (∀ V, SX V wp w.heap.size x ca sa cc sc oa oc cs → V.cell? ⟨w.heap.size, 11, none⟩ = some (.int .i64 x.sum.num)) := fun V h => h.at 11 _ (by rw [hT.eq]; rfl)
    have HC12 : Hid (∀ V, SX V wp w.heap.size x ca sa cc sc oa oc cs → V.cell? ⟨w.heap.size, 12, none⟩ = some (.slice sa x.sum.kids.length sc)) := fun V h => h.at 12 _ (by rw [hT.eq]; rfl)
    have HC13 : Hid (∀ V, SX V wp w.heap.size x ca sa cc sc oa oc cs → V.cell? ⟨w.heap.size, 13, none⟩ = some (.int .i64 x.way)) := fun V h => h.at 13 _ (by rw [hT.eq]; rfl)
    obtain ⟨R, hR⟩ : ∃ R, R = amountR x s := ⟨_, rfl⟩
    rw [← hR]
    unfold amountR at hR
    simp only [if_pos h4] at hR
    have HR := hidLL hR
    clear hR hW0 hT hS
    go_enter Tryz.func48, Tryz.ntmps48
    go_upto_region 1 with fail
    rw [← HW.out]
    go_wp2_with (first
      | (go_at_call 97; revert HX2; intro HX2; refine (perhapsIf_q hO.cond HS2.out.here HX2.out.st.nc).mono ?_; rintro e W3 ⟨hf, hr⟩; rcases hq2 : ifR x.cond s2 with _ | s3; (· rw [hq2] at hr; (obtain ⟨p, rfl⟩ := hr); (obtain rfl : R = none := (by rw [HR.out, hq2]; try rfl)); exact (show _ ∧ _ from ⟨rfl, HS2.out.fr.trans hf, ⟨_, rfl⟩⟩)); rw [hq2] at hr; (obtain ⟨rfl, hr⟩ := hr); (have HS3 := hidLL (HS2.out.step hf hr)); (have HX3 := hidLL (HX2.out.step hf)); clear c5 c6 c7 c8; (have c13 := HC13.out _ HX3.out); rw [hq2, Option.bind_some] at HR; clear hf hr)
      | (go_at_call 98; revert HX1; intro HX1; refine (HSm.out _ _ _ _ _ 0 0 rfl HS1.out.here HX1.out.st.ns (by decide)).mono ?_; rintro e W2 ⟨hf, hr⟩; rcases hq1 : sumR x.sum 0 s1 with _ | s2; (· rw [hq1] at hr; (obtain ⟨p, rfl⟩ := hr); (obtain rfl : R = none := (by rw [HR.out, hq1]; try rfl)); exact (show _ ∧ _ from ⟨rfl, HS1.out.fr.trans hf, ⟨_, rfl⟩⟩)); rw [hq1] at hr; (obtain ⟨rfl, hr⟩ := hr); (have HS2 := hidLL (HS1.out.step hf hr)); (have HX2 := hidLL (HX1.out.step hf)); clear c9 c10 c11 c12; (have c5 := HC5.out _ HX2.out); (have c6 := HC6.out _ HX2.out); (have c7 := HC7.out _ HX2.out); (have c8 := HC8.out _ HX2.out); rw [hq1, Option.bind_some] at HR; clear hf hr)
      | (go_at_call 45; revert HX0; intro HX0; refine (put1_q HS0.out.wr (x := sg 58) (by decide)).mono ?_; rintro e W1 ⟨hf, hr⟩; rcases hq0 : putR s (sg 58) with _ | s1; (· rw [hq0] at hr; (obtain ⟨p, rfl⟩ := hr); (obtain rfl : R = none := (by rw [HR.out, hq0]; try rfl)); exact (show _ ∧ _ from ⟨rfl, HS0.out.fr.trans hf, ⟨_, rfl⟩⟩)); rw [hq0] at hr; (obtain ⟨rfl, hr⟩ := hr); (have HS1 := hidLL (HS0.out.step hf hr)); (have HX1 := hidLL (HX0.out.step hf)); (have c9 := HC9.out _ HX1.out); (have c10 := HC10.out _ HX1.out); (have c11 := HC11.out _ HX1.out); (have c12 := HC12.out _ HX1.out); rw [hq0, Option.bind_some] at HR; clear hf hr))
    go_end0
    (obtain rfl : R = some s3 := HR.out)
    exact ⟨HS3.out.fr, rfl, HS3.out.wr⟩
  · rcases hw : wordR waysW x.way with _ | t
    · have hwp := hS.wr.in
      have HX0 := hidLL (SX.new hT hwp)
      have HS0 := hidLL (hS.alloc (.cells cs 30))
      obtain ⟨W0, hW0⟩ : ∃ W0, W0 = w.alloc (.cells cs 30) := ⟨_, rfl⟩
      rw [← hW0] at HX0 HS0
      have HW := hidLL hW0
      have HZ : Hid (cs.size = 19) := by show _ = _; rw [hT.eq]; rfl
      have HC5 : Hid (∀ V, SX V wp w.heap.size x ca sa cc sc oa oc cs → V.cell? ⟨w.heap.size, 5, none⟩ = some (.string x.cond.kind)) := fun V h => h.at 5 _ (by rw [hT.eq]; rfl)
      have HC6 : Hid (∀ V, SX V wp w.heap.size x ca sa cc sc oa oc cs → V.cell? ⟨w.heap.size, 6, none⟩ = some (.string x.cond.word)) := fun V h => h.at 6 _ (by rw [hT.eq]; rfl)
      have HC7 : Hid (∀ V, SX V wp w.heap.size x ca sa cc sc oa oc cs → V.cell? ⟨w.heap.size, 7, none⟩ = some (.int .i64 x.cond.num)) := fun V h => h.at 7 _ (by rw [hT.eq]; rfl)
      have HC8 : Hid (∀ V, SX V wp w.heap.size x ca sa cc sc oa oc cs → V.cell? ⟨w.heap.size, 8, none⟩ = some (.slice ca x.cond.kids.length cc)) := fun V h => h.at 8 _ (by rw [hT.eq]; rfl)
      have HC9 : Hid (∀ V, SX V wp w.heap.size x ca sa cc sc oa oc cs → V.cell? ⟨w.heap.size, 9, none⟩ = some (.string x.sum.kind)) := fun V h => h.at 9 _ (by rw [hT.eq]; rfl)
      have HC10 : Hid (∀ V, SX V wp w.heap.size x ca sa cc sc oa oc cs → V.cell? ⟨w.heap.size, 10, none⟩ = some (.string x.sum.word)) := fun V h => h.at 10 _ (by rw [hT.eq]; rfl)
      have HC11 : Hid (∀ V, SX V wp w.heap.size x ca sa cc sc oa oc cs → V.cell? ⟨w.heap.size, 11, none⟩ = some (.int .i64 x.sum.num)) := fun V h => h.at 11 _ (by rw [hT.eq]; rfl)
      have HC12 : Hid (∀ V, SX V wp w.heap.size x ca sa cc sc oa oc cs → V.cell? ⟨w.heap.size, 12, none⟩ = some (.slice sa x.sum.kids.length sc)) := fun V h => h.at 12 _ (by rw [hT.eq]; rfl)
      have HC13 : Hid (∀ V, SX V wp w.heap.size x ca sa cc sc oa oc cs → V.cell? ⟨w.heap.size, 13, none⟩ = some (.int .i64 x.way)) := fun V h => h.at 13 _ (by rw [hT.eq]; rfl)
      obtain ⟨R, hR⟩ : ∃ R, R = amountR x s := ⟨_, rfl⟩
      rw [← hR]
      unfold amountR at hR
      simp only [if_neg h4, hw, Option.bind_none] at hR
      have HR := hidLL hR
      clear hR hW0 hT hS
      go_enter Tryz.func48, Tryz.ntmps48
      go_upto_region 1 with fail
      rw [← HW.out]
      go_upto_region 5 with (first
      | (go_at_call 97; revert HX2; intro HX2; refine (perhapsIf_q hO.cond HS2.out.here HX2.out.st.nc).mono ?_; rintro e W3 ⟨hf, hr⟩; rcases hq2 : ifR x.cond s2 with _ | s3; (· rw [hq2] at hr; (obtain ⟨p, rfl⟩ := hr); (obtain rfl : R = none := (by rw [HR.out, hq2]; try rfl)); exact (show _ ∧ _ from ⟨rfl, HS2.out.fr.trans hf, ⟨_, rfl⟩⟩)); rw [hq2] at hr; (obtain ⟨rfl, hr⟩ := hr); (have HS3 := hidLL (HS2.out.step hf hr)); (have HX3 := hidLL (HX2.out.step hf)); clear c5 c6 c7 c8; (have c13 := HC13.out _ HX3.out); rw [hq2, Option.bind_some] at HR; clear hf hr)
      | (go_at_call 98; revert HX1; intro HX1; refine (HSm.out _ _ _ _ _ 0 0 rfl HS1.out.here HX1.out.st.ns (by decide)).mono ?_; rintro e W2 ⟨hf, hr⟩; rcases hq1 : sumR x.sum 0 s1 with _ | s2; (· rw [hq1] at hr; (obtain ⟨p, rfl⟩ := hr); (obtain rfl : R = none := (by rw [HR.out, hq1]; try rfl)); exact (show _ ∧ _ from ⟨rfl, HS1.out.fr.trans hf, ⟨_, rfl⟩⟩)); rw [hq1] at hr; (obtain ⟨rfl, hr⟩ := hr); (have HS2 := hidLL (HS1.out.step hf hr)); (have HX2 := hidLL (HX1.out.step hf)); clear c9 c10 c11 c12; (have c5 := HC5.out _ HX2.out); (have c6 := HC6.out _ HX2.out); (have c7 := HC7.out _ HX2.out); (have c8 := HC8.out _ HX2.out); rw [hq1, Option.bind_some] at HR; clear hf hr)
      | (go_at_call 45; revert HX0; intro HX0; refine (put1_q HS0.out.wr (x := sg 58) (by decide)).mono ?_; rintro e W1 ⟨hf, hr⟩; rcases hq0 : putR s (sg 58) with _ | s1; (· rw [hq0] at hr; (obtain ⟨p, rfl⟩ := hr); (obtain rfl : R = none := (by rw [HR.out, hq0]; try rfl)); exact (show _ ∧ _ from ⟨rfl, HS0.out.fr.trans hf, ⟨_, rfl⟩⟩)); rw [hq0] at hr; (obtain ⟨rfl, hr⟩ := hr); (have HS1 := hidLL (HS0.out.step hf hr)); (have HX1 := hidLL (HX0.out.step hf)); (have c9 := HC9.out _ HX1.out); (have c10 := HC10.out _ HX1.out); (have c11 := HC11.out _ HX1.out); (have c12 := HC12.out _ HX1.out); rw [hq0, Option.bind_some] at HR; clear hf hr))
      have HS4 := hidLL (HS3.out.grow ((Below.refl _ W3).drew))
      have HX4 := hidLL (HX3.out.step (WFr.of ((Below.refl _ W3).drew) (Nat.le_of_lt HS3.out.wr.in)))
      have c13 := HC13.out _ HX4.out
      go_region_with (first
      | (go_at_call 45; revert HF; intro HF; refine (put3_q HS5.out.wr (x := sg 59) (by decide) (y := wRound) (by decide) (z := ⟨#[]⟩) (by decide)).mono ?_; rintro e W6 ⟨hf, hr⟩; revert hr; (split); (· exact HF.out.elim); rintro ⟨rfl, hr⟩; clear hf hr)
      | (go_at_call 95; revert HX5; intro HX5; refine (wordOf_thr HS5.out.wr (ls := waysW) hw).mono ?_; rintro e w' ⟨⟨p, rfl⟩ | ⟨rfl, hF⟩, h9⟩; (· subst w'; (obtain rfl : R = none := HR.out); exact (show _ ∧ _ from ⟨rfl, HS5.out.fr, ⟨_, rfl⟩⟩)); subst w'; (have HF := hidLL hF); clear hF)
      | (go_at_call 86; revert HX4; intro HX4; refine (ways_q _).mono ?_; rintro e W5 hn; (obtain rfl := hn.e); (have HN := hidLL hn); (have HS5 := hidLL (HS4.out.grow hn.b)); (have HX5 := hidLL (HX4.out.step (WFr.of hn.b (Nat.le_of_lt HS4.out.wr.in)))); (have d13 := HC13.out _ HX5.out); clear hn))
      all_goals exact HF.out.elim
    · have hwp := hS.wr.in
      have HX0 := hidLL (SX.new hT hwp)
      have HS0 := hidLL (hS.alloc (.cells cs 30))
      obtain ⟨W0, hW0⟩ : ∃ W0, W0 = w.alloc (.cells cs 30) := ⟨_, rfl⟩
      rw [← hW0] at HX0 HS0
      have HW := hidLL hW0
      have HZ : Hid (cs.size = 19) := by show _ = _; rw [hT.eq]; rfl
      have HC5 : Hid (∀ V, SX V wp w.heap.size x ca sa cc sc oa oc cs → V.cell? ⟨w.heap.size, 5, none⟩ = some (.string x.cond.kind)) := fun V h => h.at 5 _ (by rw [hT.eq]; rfl)
      have HC6 : Hid (∀ V, SX V wp w.heap.size x ca sa cc sc oa oc cs → V.cell? ⟨w.heap.size, 6, none⟩ = some (.string x.cond.word)) := fun V h => h.at 6 _ (by rw [hT.eq]; rfl)
      have HC7 : Hid (∀ V, SX V wp w.heap.size x ca sa cc sc oa oc cs → V.cell? ⟨w.heap.size, 7, none⟩ = some (.int .i64 x.cond.num)) := fun V h => h.at 7 _ (by rw [hT.eq]; rfl)
      have HC8 : Hid (∀ V, SX V wp w.heap.size x ca sa cc sc oa oc cs → V.cell? ⟨w.heap.size, 8, none⟩ = some (.slice ca x.cond.kids.length cc)) := fun V h => h.at 8 _ (by rw [hT.eq]; rfl)
      have HC9 : Hid (∀ V, SX V wp w.heap.size x ca sa cc sc oa oc cs → V.cell? ⟨w.heap.size, 9, none⟩ = some (.string x.sum.kind)) := fun V h => h.at 9 _ (by rw [hT.eq]; rfl)
      have HC10 : Hid (∀ V, SX V wp w.heap.size x ca sa cc sc oa oc cs → V.cell? ⟨w.heap.size, 10, none⟩ = some (.string x.sum.word)) := fun V h => h.at 10 _ (by rw [hT.eq]; rfl)
      have HC11 : Hid (∀ V, SX V wp w.heap.size x ca sa cc sc oa oc cs → V.cell? ⟨w.heap.size, 11, none⟩ = some (.int .i64 x.sum.num)) := fun V h => h.at 11 _ (by rw [hT.eq]; rfl)
      have HC12 : Hid (∀ V, SX V wp w.heap.size x ca sa cc sc oa oc cs → V.cell? ⟨w.heap.size, 12, none⟩ = some (.slice sa x.sum.kids.length sc)) := fun V h => h.at 12 _ (by rw [hT.eq]; rfl)
      have HC13 : Hid (∀ V, SX V wp w.heap.size x ca sa cc sc oa oc cs → V.cell? ⟨w.heap.size, 13, none⟩ = some (.int .i64 x.way)) := fun V h => h.at 13 _ (by rw [hT.eq]; rfl)
      obtain ⟨R, hR⟩ : ∃ R, R = amountR x s := ⟨_, rfl⟩
      rw [← hR]
      unfold amountR at hR
      simp only [if_neg h4, hw, Option.bind_some] at hR
      have HR := hidLL hR
      clear hR hW0 hT hS
      go_enter Tryz.func48, Tryz.ntmps48
      go_upto_region 1 with fail
      rw [← HW.out]
      go_upto_region 5 with (first
      | (go_at_call 97; revert HX2; intro HX2; refine (perhapsIf_q hO.cond HS2.out.here HX2.out.st.nc).mono ?_; rintro e W3 ⟨hf, hr⟩; rcases hq2 : ifR x.cond s2 with _ | s3; (· rw [hq2] at hr; (obtain ⟨p, rfl⟩ := hr); (obtain rfl : R = none := (by rw [HR.out, hq2]; try rfl)); exact (show _ ∧ _ from ⟨rfl, HS2.out.fr.trans hf, ⟨_, rfl⟩⟩)); rw [hq2] at hr; (obtain ⟨rfl, hr⟩ := hr); (have HS3 := hidLL (HS2.out.step hf hr)); (have HX3 := hidLL (HX2.out.step hf)); clear c5 c6 c7 c8; (have c13 := HC13.out _ HX3.out); rw [hq2, Option.bind_some] at HR; clear hf hr)
      | (go_at_call 98; revert HX1; intro HX1; refine (HSm.out _ _ _ _ _ 0 0 rfl HS1.out.here HX1.out.st.ns (by decide)).mono ?_; rintro e W2 ⟨hf, hr⟩; rcases hq1 : sumR x.sum 0 s1 with _ | s2; (· rw [hq1] at hr; (obtain ⟨p, rfl⟩ := hr); (obtain rfl : R = none := (by rw [HR.out, hq1]; try rfl)); exact (show _ ∧ _ from ⟨rfl, HS1.out.fr.trans hf, ⟨_, rfl⟩⟩)); rw [hq1] at hr; (obtain ⟨rfl, hr⟩ := hr); (have HS2 := hidLL (HS1.out.step hf hr)); (have HX2 := hidLL (HX1.out.step hf)); clear c9 c10 c11 c12; (have c5 := HC5.out _ HX2.out); (have c6 := HC6.out _ HX2.out); (have c7 := HC7.out _ HX2.out); (have c8 := HC8.out _ HX2.out); rw [hq1, Option.bind_some] at HR; clear hf hr)
      | (go_at_call 45; revert HX0; intro HX0; refine (put1_q HS0.out.wr (x := sg 58) (by decide)).mono ?_; rintro e W1 ⟨hf, hr⟩; rcases hq0 : putR s (sg 58) with _ | s1; (· rw [hq0] at hr; (obtain ⟨p, rfl⟩ := hr); (obtain rfl : R = none := (by rw [HR.out, hq0]; try rfl)); exact (show _ ∧ _ from ⟨rfl, HS0.out.fr.trans hf, ⟨_, rfl⟩⟩)); rw [hq0] at hr; (obtain ⟨rfl, hr⟩ := hr); (have HS1 := hidLL (HS0.out.step hf hr)); (have HX1 := hidLL (HX0.out.step hf)); (have c9 := HC9.out _ HX1.out); (have c10 := HC10.out _ HX1.out); (have c11 := HC11.out _ HX1.out); (have c12 := HC12.out _ HX1.out); rw [hq0, Option.bind_some] at HR; clear hf hr))
      have HS4 := hidLL (HS3.out.grow ((Below.refl _ W3).drew))
      have HX4 := hidLL (HX3.out.step (WFr.of ((Below.refl _ W3).drew) (Nat.le_of_lt HS3.out.wr.in)))
      have c13 := HC13.out _ HX4.out
      go_region_with (first
      | (go_at_call 45; revert HX5; intro HX5; refine (put3_q HS5.out.wr (x := sg 59) (by decide) (y := wRound) (by decide) (ways_sz _ (wordR_mem hw))).mono ?_; rintro e W6 ⟨hf, hr⟩; rcases hq3 : putsR s3 [sg 59, wRound, t] with _ | s4; (· rw [hq3] at hr; (obtain ⟨p, rfl⟩ := hr); (obtain rfl : R = none := (by rw [HR.out, hq3]; try rfl)); exact (show _ ∧ _ from ⟨rfl, HS5.out.fr.trans hf, ⟨_, rfl⟩⟩)); rw [hq3] at hr; (obtain ⟨rfl, hr⟩ := hr); (have HS6 := hidLL (HS5.out.step hf hr)); (have HX6 := hidLL (HX5.out.step hf)); rw [hq3] at HR; clear hf hr)
      | (go_at_call 95; revert HX5; intro HX5; refine (wordOf_some (ls := waysW) (HN.out.at rfl) hw).mono ?_; rintro e w' ⟨rfl, h9⟩; subst w')
      | (go_at_call 86; revert HX4; intro HX4; refine (ways_q _).mono ?_; rintro e W5 hn; (obtain rfl := hn.e); (have HN := hidLL hn); (have HS5 := hidLL (HS4.out.grow hn.b)); (have HX5 := hidLL (HX4.out.step (WFr.of hn.b (Nat.le_of_lt HS4.out.wr.in)))); (have d13 := HC13.out _ HX5.out); clear hn))
      all_goals go_wp2
      all_goals go_end0
      all_goals (obtain rfl : R = some s4 := HR.out)
      all_goals exact ⟨HS6.out.fr, rfl, HS6.out.wr⟩
end Go.Proofs.YtehbinobohjadaaGreatDoor

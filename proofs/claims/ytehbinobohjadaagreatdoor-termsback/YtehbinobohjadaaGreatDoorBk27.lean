/-
  The program's writer: sums (written by tools/genwr.py).
-/
import Derived.Test.YtehbinobohjadaaGreatDoorBk26
namespace Go.Proofs.YtehbinobohjadaaGreatDoor
open Go.RowKit Go.Sort Go.Extern.Stop Go.Stop Go.Extern

set_option maxHeartbeats 4000000 in
theorem sumB_q {t : Tn} (hO : TnOk t) (ih : ∀ (i : Nat) (k : Tn), t.kids[i]? = some k → SumI k) (hF : FacI t) : SumB t := by
  intro w wp s ka kc l lv hl hS hN hlv
  cases h0 : (t.kind.toList == [43])
  rotate_left
  · have hL : lvS t.kind = 0 := by unfold lvS; rw [if_pos (.inl (eqB_of h0 rfl))]
    have HLv := hidLL (fun W => levelOfSum_q t.kind W)
    rw [hL] at HLv
    have hll : ¬ (0 : Int) < l := by omega
    match e : t.kids with
    | [] =>
      have HKn : Hid (t.kids[0]? = none) := by show _ = _; rw [e]; rfl
      obtain ⟨z0, z1, n0, n1, hOk⟩ := hO.is
      have hwp := hS.wr.in
      have HX0 := hidLL (BX.new hN hwp)
      have HS0 := hidLL (hS.alloc (.cells (ndT t ka kc) 25))
      obtain ⟨W0, hW0⟩ : ∃ W0, W0 = w.alloc (.cells (ndT t ka kc) 25) := ⟨_, rfl⟩
      rw [← hW0] at HX0 HS0
      have HW : Hid (W0 = w.alloc (.cells #[.string t.kind, .string t.word, .int .i64 t.num, .slice ka t.kids.length kc] 25)) := hW0
      obtain ⟨R, hR⟩ : ∃ R, R = sumG t s := ⟨_, rfl⟩
      rw [← hR]
      rw [sumG_add (.inl (eqB_of h0 rfl)), e] at hR
      have HR := hidLL hR
      obtain ⟨c0, c1, c2, c3⟩ := HX0.out.cells
      have HRn : Hid (R = none) := by show _ = _; rw [hR]; try cases enterR s <;> rfl
      clear hR hW0 hN e
      unfold ndT
      (obtain rfl : R = none := HRn.out)
      go_enter Tryz.func98, Tryz.ntmps98
      go_upto_region 1 with fail
      rw [← HW.out]
      go_wp2_with (first
      | (go_at_call 92; refine (kid_none (i := 0) HS1.out.wr HKn.out).mono ?_; rintro e W2 ⟨⟨p, rfl⟩, hb⟩; exact (show _ ∧ _ from ⟨rfl, HS1.out.fr.trans (WFr.of hb (Nat.le_of_lt HS1.out.wr.in)), ⟨_, rfl⟩⟩))
      | (go_at_call 91; refine (wenter_q HS0.out.wr).mono ?_; rintro e W1 ⟨hf, hr⟩; revert hr; (split); (· rintro ⟨p, rfl⟩; exact (show _ ∧ _ from ⟨rfl, HS0.out.fr.trans hf, ⟨_, rfl⟩⟩)); rintro ⟨rfl, hr⟩; (have HS1 := hidLL (HS0.out.step hf hr)); (have HX1 := hidLL (HX0.out.step hf)); (obtain ⟨c0, c1, c2, c3⟩ := HX1.out.cells); clear hf hr)
      | (go_at_call 125; refine (HLv.out _).mono ?_; rintro e w' ⟨rfl, h9⟩; subst w'))
    | [a] =>
      have HKa : Hid (t.kids[0]? = some a) := by show _ = _; rw [e]; rfl
      have HIa := hidLL (ih 0 a HKa.out)
      have HKn : Hid (t.kids[1]? = none) := by show _ = _; rw [e]; rfl
      obtain ⟨z0, z1, n0, n1, hOk⟩ := hO.is
      have hwp := hS.wr.in
      have HX0 := hidLL (BX.new hN hwp)
      have HS0 := hidLL (hS.alloc (.cells (ndT t ka kc) 25))
      obtain ⟨W0, hW0⟩ : ∃ W0, W0 = w.alloc (.cells (ndT t ka kc) 25) := ⟨_, rfl⟩
      rw [← hW0] at HX0 HS0
      have HW : Hid (W0 = w.alloc (.cells #[.string t.kind, .string t.word, .int .i64 t.num, .slice ka t.kids.length kc] 25)) := hW0
      obtain ⟨R, hR⟩ : ∃ R, R = sumG t s := ⟨_, rfl⟩
      rw [← hR]
      rw [sumG_add (.inl (eqB_of h0 rfl)), e] at hR
      have HR := hidLL hR
      obtain ⟨c0, c1, c2, c3⟩ := HX0.out.cells
      have HRn : Hid (R = none) := by show _ = _; rw [hR]; try cases enterR s <;> rfl
      clear hR hW0 hN e
      unfold ndT
      (obtain rfl : R = none := HRn.out)
      go_enter Tryz.func98, Tryz.ntmps98
      go_upto_region 1 with fail
      rw [← HW.out]
      go_wp2_with (first
      | (go_at_call 92; refine (kid_none (i := 1) HS4.out.wr HKn.out).mono ?_; rintro e W5 ⟨⟨p, rfl⟩, hb⟩; exact (show _ ∧ _ from ⟨rfl, HS4.out.fr.trans (WFr.of hb (Nat.le_of_lt HS4.out.wr.in)), ⟨_, rfl⟩⟩))
      | (go_at_call 45; refine (put1_q HS3.out.wr z0).mono ?_; rintro e W4 ⟨hf, hr⟩; revert hr; (split); (· rintro ⟨p, rfl⟩; exact (show _ ∧ _ from ⟨rfl, HS3.out.fr.trans hf, ⟨_, rfl⟩⟩)); rintro ⟨rfl, hr⟩; (have HS4 := hidLL (HS3.out.step hf hr)); (have HX4 := hidLL (HX3.out.step hf)); (obtain ⟨c0, c1, c2, c3⟩ := HX4.out.cells); clear hf hr)
      | (go_at_call 98; refine (HIa.out _ _ _ _ _ _ 0 (by first | rfl | simp | omega) HS2.out.here HNa.out (by first | omega | decide)).mono ?_; rintro e W3 ⟨hf, hr⟩; revert hr; (split); (· rintro ⟨p, rfl⟩; exact (show _ ∧ _ from ⟨rfl, HS2.out.fr.trans hf, ⟨_, rfl⟩⟩)); rintro ⟨rfl, hr⟩; (have HS3 := hidLL (HS2.out.step hf hr)); (have HX3 := hidLL (HX2.out.step hf)); (obtain ⟨c0, c1, c2, c3⟩ := HX3.out.cells); clear hf hr)
      | (go_at_call 92; revert HX1; intro HX1; (obtain ⟨ka0, kc0, hnt, hcall⟩ := kid_some (i := 0) HX1.out.nt HKa.out); refine hcall.mono ?_; rintro e W2 ⟨rfl, hb⟩; (have HS2 := hidLL (HS1.out.grow hb)); (have HX2 := hidLL (HX1.out.step (WFr.of hb (Nat.le_of_lt HS1.out.wr.in)))); (have HNa := hidLL (hnt.step (P' := (· < wp)) (fun k hk => ⟨hb.block k (Nat.lt_trans hk HS1.out.wr.in), hk⟩))); (obtain ⟨c0, c1, c2, c3⟩ := HX2.out.cells); clear hb hnt hcall)
      | (go_at_call 91; refine (wenter_q HS0.out.wr).mono ?_; rintro e W1 ⟨hf, hr⟩; revert hr; (split); (· rintro ⟨p, rfl⟩; exact (show _ ∧ _ from ⟨rfl, HS0.out.fr.trans hf, ⟨_, rfl⟩⟩)); rintro ⟨rfl, hr⟩; (have HS1 := hidLL (HS0.out.step hf hr)); (have HX1 := hidLL (HX0.out.step hf)); (obtain ⟨c0, c1, c2, c3⟩ := HX1.out.cells); clear hf hr)
      | (go_at_call 125; refine (HLv.out _).mono ?_; rintro e w' ⟨rfl, h9⟩; subst w'))
    | a :: b :: r =>
      have HKa : Hid (t.kids[0]? = some a) := by show _ = _; rw [e]; rfl
      have HIa := hidLL (ih 0 a HKa.out)
      have HKb : Hid (t.kids[1]? = some b) := by show _ = _; rw [e]; rfl
      have HIb := hidLL (ih 1 b HKb.out)
      obtain ⟨z0, z1, n0, n1, hOk⟩ := hO.is
      have hwp := hS.wr.in
      have HX0 := hidLL (BX.new hN hwp)
      have HS0 := hidLL (hS.alloc (.cells (ndT t ka kc) 25))
      obtain ⟨W0, hW0⟩ : ∃ W0, W0 = w.alloc (.cells (ndT t ka kc) 25) := ⟨_, rfl⟩
      rw [← hW0] at HX0 HS0
      have HW : Hid (W0 = w.alloc (.cells #[.string t.kind, .string t.word, .int .i64 t.num, .slice ka t.kids.length kc] 25)) := hW0
      obtain ⟨R, hR⟩ : ∃ R, R = sumG t s := ⟨_, rfl⟩
      rw [← hR]
      rw [sumG_add (.inl (eqB_of h0 rfl)), e] at hR
      have HR := hidLL hR
      obtain ⟨c0, c1, c2, c3⟩ := HX0.out.cells
      clear hR hW0 hN e
      unfold ndT
      go_enter Tryz.func98, Tryz.ntmps98
      go_upto_region 1 with fail
      rw [← HW.out]
      go_wp2_with (first
      | (go_at_call 94; refine (wleave_q HS6.out.wr (by omega)).mono ?_; rintro e W7 ⟨hf, rfl, hr⟩; (have HZ := hidLL (And.intro (HS6.out.fr.trans hf) hr)); clear hf hr)
      | (go_at_call 98; refine (HIb.out _ _ _ _ _ _ 1 (by first | rfl | simp | omega) HS5.out.here HNb.out (by first | omega | decide)).mono ?_; rintro e W6 ⟨hf, hr⟩; rcases hq3 : sumR b 1 s3 with _ | s4; (· rw [hq3] at hr; (obtain ⟨p, rfl⟩ := hr); (obtain rfl : R = none := (by rw [HR.out, hq3]; try rfl)); exact (show _ ∧ _ from ⟨rfl, HS5.out.fr.trans hf, ⟨_, rfl⟩⟩)); rw [hq3] at hr; (obtain ⟨rfl, hr⟩ := hr); (have HS6 := hidLL (HS5.out.step hf hr)); (have HX6 := hidLL (HX5.out.step hf)); (obtain ⟨c0, c1, c2, c3⟩ := HX6.out.cells); rw [hq3] at HR; (have hd4 := sumR_d hq3); clear hf hr)
      | (go_at_call 92; revert HX4; intro HX4; (obtain ⟨ka1, kc1, hnt, hcall⟩ := kid_some (i := 1) HX4.out.nt HKb.out); refine hcall.mono ?_; rintro e W5 ⟨rfl, hb⟩; (have HS5 := hidLL (HS4.out.grow hb)); (have HX5 := hidLL (HX4.out.step (WFr.of hb (Nat.le_of_lt HS4.out.wr.in)))); (have HNb := hidLL (hnt.step (P' := (· < wp)) (fun k hk => ⟨hb.block k (Nat.lt_trans hk HS4.out.wr.in), hk⟩))); (obtain ⟨c0, c1, c2, c3⟩ := HX5.out.cells); clear hb hnt hcall)
      | (go_at_call 45; refine (put1_q HS3.out.wr z0).mono ?_; rintro e W4 ⟨hf, hr⟩; rcases hq2 : putR s2 t.kind with _ | s3; (· rw [hq2] at hr; (obtain ⟨p, rfl⟩ := hr); (obtain rfl : R = none := (by rw [HR.out, hq2]; try rfl)); exact (show _ ∧ _ from ⟨rfl, HS3.out.fr.trans hf, ⟨_, rfl⟩⟩)); rw [hq2] at hr; (obtain ⟨rfl, hr⟩ := hr); (have HS4 := hidLL (HS3.out.step hf hr)); (have HX4 := hidLL (HX3.out.step hf)); (obtain ⟨c0, c1, c2, c3⟩ := HX4.out.cells); rw [hq2, Option.bind_some] at HR; (have hd3 := putR_d hq2); clear hf hr)
      | (go_at_call 98; refine (HIa.out _ _ _ _ _ _ 0 (by first | rfl | simp | omega) HS2.out.here HNa.out (by first | omega | decide)).mono ?_; rintro e W3 ⟨hf, hr⟩; rcases hq1 : sumR a 0 s1 with _ | s2; (· rw [hq1] at hr; (obtain ⟨p, rfl⟩ := hr); (obtain rfl : R = none := (by rw [HR.out, hq1]; try rfl)); exact (show _ ∧ _ from ⟨rfl, HS2.out.fr.trans hf, ⟨_, rfl⟩⟩)); rw [hq1] at hr; (obtain ⟨rfl, hr⟩ := hr); (have HS3 := hidLL (HS2.out.step hf hr)); (have HX3 := hidLL (HX2.out.step hf)); (obtain ⟨c0, c1, c2, c3⟩ := HX3.out.cells); rw [hq1, Option.bind_some] at HR; (have hd2 := sumR_d hq1); clear hf hr)
      | (go_at_call 92; revert HX1; intro HX1; (obtain ⟨ka0, kc0, hnt, hcall⟩ := kid_some (i := 0) HX1.out.nt HKa.out); refine hcall.mono ?_; rintro e W2 ⟨rfl, hb⟩; (have HS2 := hidLL (HS1.out.grow hb)); (have HX2 := hidLL (HX1.out.step (WFr.of hb (Nat.le_of_lt HS1.out.wr.in)))); (have HNa := hidLL (hnt.step (P' := (· < wp)) (fun k hk => ⟨hb.block k (Nat.lt_trans hk HS1.out.wr.in), hk⟩))); (obtain ⟨c0, c1, c2, c3⟩ := HX2.out.cells); clear hb hnt hcall)
      | (go_at_call 91; refine (wenter_q HS0.out.wr).mono ?_; rintro e W1 ⟨hf, hr⟩; rcases hq0 : enterR s with _ | s1; (· rw [hq0] at hr; (obtain ⟨p, rfl⟩ := hr); (obtain rfl : R = none := (by rw [HR.out, hq0]; try rfl)); exact (show _ ∧ _ from ⟨rfl, HS0.out.fr.trans hf, ⟨_, rfl⟩⟩)); rw [hq0] at hr; (obtain ⟨rfl, hr⟩ := hr); (have HS1 := hidLL (HS0.out.step hf hr)); (have HX1 := hidLL (HX0.out.step hf)); (obtain ⟨c0, c1, c2, c3⟩ := HX1.out.cells); rw [hq0, Option.bind_some] at HR; (have hd1 := enterR_d hq0); clear hf hr)
      | (go_at_call 125; refine (HLv.out _).mono ?_; rintro e w' ⟨rfl, h9⟩; subst w'))
      go_end0
      (obtain rfl : R = some (leaveR s4) := HR.out)
      exact ⟨HZ.out.1, rfl, HZ.out.2⟩
  cases h1 : (t.kind.toList == [45])
  rotate_left
  · have hL : lvS t.kind = 0 := by unfold lvS; rw [if_pos (.inr (eqB_of h1 rfl))]
    have HLv := hidLL (fun W => levelOfSum_q t.kind W)
    rw [hL] at HLv
    have hll : ¬ (0 : Int) < l := by omega
    match e : t.kids with
    | [] =>
      have HKn : Hid (t.kids[0]? = none) := by show _ = _; rw [e]; rfl
      obtain ⟨z0, z1, n0, n1, hOk⟩ := hO.is
      have hwp := hS.wr.in
      have HX0 := hidLL (BX.new hN hwp)
      have HS0 := hidLL (hS.alloc (.cells (ndT t ka kc) 25))
      obtain ⟨W0, hW0⟩ : ∃ W0, W0 = w.alloc (.cells (ndT t ka kc) 25) := ⟨_, rfl⟩
      rw [← hW0] at HX0 HS0
      have HW : Hid (W0 = w.alloc (.cells #[.string t.kind, .string t.word, .int .i64 t.num, .slice ka t.kids.length kc] 25)) := hW0
      obtain ⟨R, hR⟩ : ∃ R, R = sumG t s := ⟨_, rfl⟩
      rw [← hR]
      rw [sumG_add (.inr (eqB_of h1 rfl)), e] at hR
      have HR := hidLL hR
      obtain ⟨c0, c1, c2, c3⟩ := HX0.out.cells
      have HRn : Hid (R = none) := by show _ = _; rw [hR]; try cases enterR s <;> rfl
      clear hR hW0 hN e
      unfold ndT
      (obtain rfl : R = none := HRn.out)
      go_enter Tryz.func98, Tryz.ntmps98
      go_upto_region 1 with fail
      rw [← HW.out]
      go_wp2_with (first
      | (go_at_call 92; refine (kid_none (i := 0) HS1.out.wr HKn.out).mono ?_; rintro e W2 ⟨⟨p, rfl⟩, hb⟩; exact (show _ ∧ _ from ⟨rfl, HS1.out.fr.trans (WFr.of hb (Nat.le_of_lt HS1.out.wr.in)), ⟨_, rfl⟩⟩))
      | (go_at_call 91; refine (wenter_q HS0.out.wr).mono ?_; rintro e W1 ⟨hf, hr⟩; revert hr; (split); (· rintro ⟨p, rfl⟩; exact (show _ ∧ _ from ⟨rfl, HS0.out.fr.trans hf, ⟨_, rfl⟩⟩)); rintro ⟨rfl, hr⟩; (have HS1 := hidLL (HS0.out.step hf hr)); (have HX1 := hidLL (HX0.out.step hf)); (obtain ⟨c0, c1, c2, c3⟩ := HX1.out.cells); clear hf hr)
      | (go_at_call 125; refine (HLv.out _).mono ?_; rintro e w' ⟨rfl, h9⟩; subst w'))
    | [a] =>
      have HKa : Hid (t.kids[0]? = some a) := by show _ = _; rw [e]; rfl
      have HIa := hidLL (ih 0 a HKa.out)
      have HKn : Hid (t.kids[1]? = none) := by show _ = _; rw [e]; rfl
      obtain ⟨z0, z1, n0, n1, hOk⟩ := hO.is
      have hwp := hS.wr.in
      have HX0 := hidLL (BX.new hN hwp)
      have HS0 := hidLL (hS.alloc (.cells (ndT t ka kc) 25))
      obtain ⟨W0, hW0⟩ : ∃ W0, W0 = w.alloc (.cells (ndT t ka kc) 25) := ⟨_, rfl⟩
      rw [← hW0] at HX0 HS0
      have HW : Hid (W0 = w.alloc (.cells #[.string t.kind, .string t.word, .int .i64 t.num, .slice ka t.kids.length kc] 25)) := hW0
      obtain ⟨R, hR⟩ : ∃ R, R = sumG t s := ⟨_, rfl⟩
      rw [← hR]
      rw [sumG_add (.inr (eqB_of h1 rfl)), e] at hR
      have HR := hidLL hR
      obtain ⟨c0, c1, c2, c3⟩ := HX0.out.cells
      have HRn : Hid (R = none) := by show _ = _; rw [hR]; try cases enterR s <;> rfl
      clear hR hW0 hN e
      unfold ndT
      (obtain rfl : R = none := HRn.out)
      go_enter Tryz.func98, Tryz.ntmps98
      go_upto_region 1 with fail
      rw [← HW.out]
      go_wp2_with (first
      | (go_at_call 92; refine (kid_none (i := 1) HS4.out.wr HKn.out).mono ?_; rintro e W5 ⟨⟨p, rfl⟩, hb⟩; exact (show _ ∧ _ from ⟨rfl, HS4.out.fr.trans (WFr.of hb (Nat.le_of_lt HS4.out.wr.in)), ⟨_, rfl⟩⟩))
      | (go_at_call 45; refine (put1_q HS3.out.wr z0).mono ?_; rintro e W4 ⟨hf, hr⟩; revert hr; (split); (· rintro ⟨p, rfl⟩; exact (show _ ∧ _ from ⟨rfl, HS3.out.fr.trans hf, ⟨_, rfl⟩⟩)); rintro ⟨rfl, hr⟩; (have HS4 := hidLL (HS3.out.step hf hr)); (have HX4 := hidLL (HX3.out.step hf)); (obtain ⟨c0, c1, c2, c3⟩ := HX4.out.cells); clear hf hr)
      | (go_at_call 98; refine (HIa.out _ _ _ _ _ _ 0 (by first | rfl | simp | omega) HS2.out.here HNa.out (by first | omega | decide)).mono ?_; rintro e W3 ⟨hf, hr⟩; revert hr; (split); (· rintro ⟨p, rfl⟩; exact (show _ ∧ _ from ⟨rfl, HS2.out.fr.trans hf, ⟨_, rfl⟩⟩)); rintro ⟨rfl, hr⟩; (have HS3 := hidLL (HS2.out.step hf hr)); (have HX3 := hidLL (HX2.out.step hf)); (obtain ⟨c0, c1, c2, c3⟩ := HX3.out.cells); clear hf hr)
      | (go_at_call 92; revert HX1; intro HX1; (obtain ⟨ka0, kc0, hnt, hcall⟩ := kid_some (i := 0) HX1.out.nt HKa.out); refine hcall.mono ?_; rintro e W2 ⟨rfl, hb⟩; (have HS2 := hidLL (HS1.out.grow hb)); (have HX2 := hidLL (HX1.out.step (WFr.of hb (Nat.le_of_lt HS1.out.wr.in)))); (have HNa := hidLL (hnt.step (P' := (· < wp)) (fun k hk => ⟨hb.block k (Nat.lt_trans hk HS1.out.wr.in), hk⟩))); (obtain ⟨c0, c1, c2, c3⟩ := HX2.out.cells); clear hb hnt hcall)
      | (go_at_call 91; refine (wenter_q HS0.out.wr).mono ?_; rintro e W1 ⟨hf, hr⟩; revert hr; (split); (· rintro ⟨p, rfl⟩; exact (show _ ∧ _ from ⟨rfl, HS0.out.fr.trans hf, ⟨_, rfl⟩⟩)); rintro ⟨rfl, hr⟩; (have HS1 := hidLL (HS0.out.step hf hr)); (have HX1 := hidLL (HX0.out.step hf)); (obtain ⟨c0, c1, c2, c3⟩ := HX1.out.cells); clear hf hr)
      | (go_at_call 125; refine (HLv.out _).mono ?_; rintro e w' ⟨rfl, h9⟩; subst w'))
    | a :: b :: r =>
      have HKa : Hid (t.kids[0]? = some a) := by show _ = _; rw [e]; rfl
      have HIa := hidLL (ih 0 a HKa.out)
      have HKb : Hid (t.kids[1]? = some b) := by show _ = _; rw [e]; rfl
      have HIb := hidLL (ih 1 b HKb.out)
      obtain ⟨z0, z1, n0, n1, hOk⟩ := hO.is
      have hwp := hS.wr.in
      have HX0 := hidLL (BX.new hN hwp)
      have HS0 := hidLL (hS.alloc (.cells (ndT t ka kc) 25))
      obtain ⟨W0, hW0⟩ : ∃ W0, W0 = w.alloc (.cells (ndT t ka kc) 25) := ⟨_, rfl⟩
      rw [← hW0] at HX0 HS0
      have HW : Hid (W0 = w.alloc (.cells #[.string t.kind, .string t.word, .int .i64 t.num, .slice ka t.kids.length kc] 25)) := hW0
      obtain ⟨R, hR⟩ : ∃ R, R = sumG t s := ⟨_, rfl⟩
      rw [← hR]
      rw [sumG_add (.inr (eqB_of h1 rfl)), e] at hR
      have HR := hidLL hR
      obtain ⟨c0, c1, c2, c3⟩ := HX0.out.cells
      clear hR hW0 hN e
      unfold ndT
      go_enter Tryz.func98, Tryz.ntmps98
      go_upto_region 1 with fail
      rw [← HW.out]
      go_wp2_with (first
      | (go_at_call 94; refine (wleave_q HS6.out.wr (by omega)).mono ?_; rintro e W7 ⟨hf, rfl, hr⟩; (have HZ := hidLL (And.intro (HS6.out.fr.trans hf) hr)); clear hf hr)
      | (go_at_call 98; refine (HIb.out _ _ _ _ _ _ 1 (by first | rfl | simp | omega) HS5.out.here HNb.out (by first | omega | decide)).mono ?_; rintro e W6 ⟨hf, hr⟩; rcases hq3 : sumR b 1 s3 with _ | s4; (· rw [hq3] at hr; (obtain ⟨p, rfl⟩ := hr); (obtain rfl : R = none := (by rw [HR.out, hq3]; try rfl)); exact (show _ ∧ _ from ⟨rfl, HS5.out.fr.trans hf, ⟨_, rfl⟩⟩)); rw [hq3] at hr; (obtain ⟨rfl, hr⟩ := hr); (have HS6 := hidLL (HS5.out.step hf hr)); (have HX6 := hidLL (HX5.out.step hf)); (obtain ⟨c0, c1, c2, c3⟩ := HX6.out.cells); rw [hq3] at HR; (have hd4 := sumR_d hq3); clear hf hr)
      | (go_at_call 92; revert HX4; intro HX4; (obtain ⟨ka1, kc1, hnt, hcall⟩ := kid_some (i := 1) HX4.out.nt HKb.out); refine hcall.mono ?_; rintro e W5 ⟨rfl, hb⟩; (have HS5 := hidLL (HS4.out.grow hb)); (have HX5 := hidLL (HX4.out.step (WFr.of hb (Nat.le_of_lt HS4.out.wr.in)))); (have HNb := hidLL (hnt.step (P' := (· < wp)) (fun k hk => ⟨hb.block k (Nat.lt_trans hk HS4.out.wr.in), hk⟩))); (obtain ⟨c0, c1, c2, c3⟩ := HX5.out.cells); clear hb hnt hcall)
      | (go_at_call 45; refine (put1_q HS3.out.wr z0).mono ?_; rintro e W4 ⟨hf, hr⟩; rcases hq2 : putR s2 t.kind with _ | s3; (· rw [hq2] at hr; (obtain ⟨p, rfl⟩ := hr); (obtain rfl : R = none := (by rw [HR.out, hq2]; try rfl)); exact (show _ ∧ _ from ⟨rfl, HS3.out.fr.trans hf, ⟨_, rfl⟩⟩)); rw [hq2] at hr; (obtain ⟨rfl, hr⟩ := hr); (have HS4 := hidLL (HS3.out.step hf hr)); (have HX4 := hidLL (HX3.out.step hf)); (obtain ⟨c0, c1, c2, c3⟩ := HX4.out.cells); rw [hq2, Option.bind_some] at HR; (have hd3 := putR_d hq2); clear hf hr)
      | (go_at_call 98; refine (HIa.out _ _ _ _ _ _ 0 (by first | rfl | simp | omega) HS2.out.here HNa.out (by first | omega | decide)).mono ?_; rintro e W3 ⟨hf, hr⟩; rcases hq1 : sumR a 0 s1 with _ | s2; (· rw [hq1] at hr; (obtain ⟨p, rfl⟩ := hr); (obtain rfl : R = none := (by rw [HR.out, hq1]; try rfl)); exact (show _ ∧ _ from ⟨rfl, HS2.out.fr.trans hf, ⟨_, rfl⟩⟩)); rw [hq1] at hr; (obtain ⟨rfl, hr⟩ := hr); (have HS3 := hidLL (HS2.out.step hf hr)); (have HX3 := hidLL (HX2.out.step hf)); (obtain ⟨c0, c1, c2, c3⟩ := HX3.out.cells); rw [hq1, Option.bind_some] at HR; (have hd2 := sumR_d hq1); clear hf hr)
      | (go_at_call 92; revert HX1; intro HX1; (obtain ⟨ka0, kc0, hnt, hcall⟩ := kid_some (i := 0) HX1.out.nt HKa.out); refine hcall.mono ?_; rintro e W2 ⟨rfl, hb⟩; (have HS2 := hidLL (HS1.out.grow hb)); (have HX2 := hidLL (HX1.out.step (WFr.of hb (Nat.le_of_lt HS1.out.wr.in)))); (have HNa := hidLL (hnt.step (P' := (· < wp)) (fun k hk => ⟨hb.block k (Nat.lt_trans hk HS1.out.wr.in), hk⟩))); (obtain ⟨c0, c1, c2, c3⟩ := HX2.out.cells); clear hb hnt hcall)
      | (go_at_call 91; refine (wenter_q HS0.out.wr).mono ?_; rintro e W1 ⟨hf, hr⟩; rcases hq0 : enterR s with _ | s1; (· rw [hq0] at hr; (obtain ⟨p, rfl⟩ := hr); (obtain rfl : R = none := (by rw [HR.out, hq0]; try rfl)); exact (show _ ∧ _ from ⟨rfl, HS0.out.fr.trans hf, ⟨_, rfl⟩⟩)); rw [hq0] at hr; (obtain ⟨rfl, hr⟩ := hr); (have HS1 := hidLL (HS0.out.step hf hr)); (have HX1 := hidLL (HX0.out.step hf)); (obtain ⟨c0, c1, c2, c3⟩ := HX1.out.cells); rw [hq0, Option.bind_some] at HR; (have hd1 := enterR_d hq0); clear hf hr)
      | (go_at_call 125; refine (HLv.out _).mono ?_; rintro e w' ⟨rfl, h9⟩; subst w'))
      go_end0
      (obtain rfl : R = some (leaveR s4) := HR.out)
      exact ⟨HZ.out.1, rfl, HZ.out.2⟩
  cases h2 : (t.kind.toList == [42])
  rotate_left
  · have hL : lvS t.kind = 1 := by unfold lvS; rw [if_neg (by rw [eqB_of h0 (x := sg 43) rfl, eqB_of h1 (x := sg 45) rfl]; simp), if_pos (eqB_of h2 rfl)]
    have HLv := hidLL (fun W => levelOfSum_q t.kind W)
    rw [hL] at HLv
    have hll : ¬ (1 : Int) < l := by omega
    match e : t.kids with
    | [] =>
      have HKn : Hid (t.kids[0]? = none) := by show _ = _; rw [e]; rfl
      obtain ⟨z0, z1, n0, n1, hOk⟩ := hO.is
      have hwp := hS.wr.in
      have HX0 := hidLL (BX.new hN hwp)
      have HS0 := hidLL (hS.alloc (.cells (ndT t ka kc) 25))
      obtain ⟨W0, hW0⟩ : ∃ W0, W0 = w.alloc (.cells (ndT t ka kc) 25) := ⟨_, rfl⟩
      rw [← hW0] at HX0 HS0
      have HW : Hid (W0 = w.alloc (.cells #[.string t.kind, .string t.word, .int .i64 t.num, .slice ka t.kids.length kc] 25)) := hW0
      obtain ⟨R, hR⟩ : ∃ R, R = sumG t s := ⟨_, rfl⟩
      rw [← hR]
      rw [sumG_mul (by rw [eqB_of h0 (x := sg 43) rfl, eqB_of h1 (x := sg 45) rfl]; simp) (eqB_of h2 rfl), e] at hR
      have HR := hidLL hR
      obtain ⟨c0, c1, c2, c3⟩ := HX0.out.cells
      have HRn : Hid (R = none) := by show _ = _; rw [hR]; try cases enterR s <;> rfl
      clear hR hW0 hN e
      unfold ndT
      (obtain rfl : R = none := HRn.out)
      go_enter Tryz.func98, Tryz.ntmps98
      go_upto_region 1 with fail
      rw [← HW.out]
      go_wp2_with (first
      | (go_at_call 92; refine (kid_none (i := 0) HS1.out.wr HKn.out).mono ?_; rintro e W2 ⟨⟨p, rfl⟩, hb⟩; exact (show _ ∧ _ from ⟨rfl, HS1.out.fr.trans (WFr.of hb (Nat.le_of_lt HS1.out.wr.in)), ⟨_, rfl⟩⟩))
      | (go_at_call 91; refine (wenter_q HS0.out.wr).mono ?_; rintro e W1 ⟨hf, hr⟩; revert hr; (split); (· rintro ⟨p, rfl⟩; exact (show _ ∧ _ from ⟨rfl, HS0.out.fr.trans hf, ⟨_, rfl⟩⟩)); rintro ⟨rfl, hr⟩; (have HS1 := hidLL (HS0.out.step hf hr)); (have HX1 := hidLL (HX0.out.step hf)); (obtain ⟨c0, c1, c2, c3⟩ := HX1.out.cells); clear hf hr)
      | (go_at_call 125; refine (HLv.out _).mono ?_; rintro e w' ⟨rfl, h9⟩; subst w'))
    | a :: r =>
      have HKa : Hid (t.kids[0]? = some a) := by show _ = _; rw [e]; rfl
      have HIa := hidLL (ih 0 a HKa.out)
      obtain ⟨z0, z1, n0, n1, hOk⟩ := hO.is
      have hwp := hS.wr.in
      have HX0 := hidLL (BX.new hN hwp)
      have HS0 := hidLL (hS.alloc (.cells (ndT t ka kc) 25))
      obtain ⟨W0, hW0⟩ : ∃ W0, W0 = w.alloc (.cells (ndT t ka kc) 25) := ⟨_, rfl⟩
      rw [← hW0] at HX0 HS0
      have HW : Hid (W0 = w.alloc (.cells #[.string t.kind, .string t.word, .int .i64 t.num, .slice ka t.kids.length kc] 25)) := hW0
      obtain ⟨R, hR⟩ : ∃ R, R = sumG t s := ⟨_, rfl⟩
      rw [← hR]
      rw [sumG_mul (by rw [eqB_of h0 (x := sg 43) rfl, eqB_of h1 (x := sg 45) rfl]; simp) (eqB_of h2 rfl), e] at hR
      have HR := hidLL hR
      obtain ⟨c0, c1, c2, c3⟩ := HX0.out.cells
      clear hR hW0 hN e
      unfold ndT
      go_enter Tryz.func98, Tryz.ntmps98
      go_upto_region 1 with fail
      rw [← HW.out]
      go_wp2_with (first
      | (go_at_call 94; refine (wleave_q HS5.out.wr (by omega)).mono ?_; rintro e W6 ⟨hf, rfl, hr⟩; (have HZ := hidLL (And.intro (HS5.out.fr.trans hf) hr)); clear hf hr)
      | (go_at_call 45; refine (put3_q HS4.out.wr (x := sg 42) (by decide) (numT_size n0 n1) (z := sg 37) (by decide)).mono ?_; rintro e W5 ⟨hf, hr⟩; rcases hq2 : putsR s2 [sg 42, numT t.num, sg 37] with _ | s3; (· rw [hq2] at hr; (obtain ⟨p, rfl⟩ := hr); (obtain rfl : R = none := (by rw [HR.out, hq2]; try rfl)); exact (show _ ∧ _ from ⟨rfl, HS4.out.fr.trans hf, ⟨_, rfl⟩⟩)); rw [hq2] at hr; (obtain ⟨rfl, hr⟩ := hr); (have HS5 := hidLL (HS4.out.step hf hr)); (have HX5 := hidLL (HX4.out.step hf)); (obtain ⟨c0, c1, c2, c3⟩ := HX5.out.cells); rw [hq2] at HR; (have hd3 := putsR_d hq2); clear hf hr)
      | (go_at_call 126; refine (numberText_q HS3.out.tb n0 n1).mono ?_; rintro e W4 ⟨rfl, hb⟩; (have HS4 := hidLL (HS3.out.grow hb)); (have HX4 := hidLL (HX3.out.step (WFr.of hb (Nat.le_of_lt HS3.out.wr.in)))); (obtain ⟨c0, c1, c2, c3⟩ := HX4.out.cells); clear hb)
      | (go_at_call 98; refine (HIa.out _ _ _ _ _ _ 1 (by first | rfl | simp | omega) HS2.out.here HNa.out (by first | omega | decide)).mono ?_; rintro e W3 ⟨hf, hr⟩; rcases hq1 : sumR a 1 s1 with _ | s2; (· rw [hq1] at hr; (obtain ⟨p, rfl⟩ := hr); (obtain rfl : R = none := (by rw [HR.out, hq1]; try rfl)); exact (show _ ∧ _ from ⟨rfl, HS2.out.fr.trans hf, ⟨_, rfl⟩⟩)); rw [hq1] at hr; (obtain ⟨rfl, hr⟩ := hr); (have HS3 := hidLL (HS2.out.step hf hr)); (have HX3 := hidLL (HX2.out.step hf)); (obtain ⟨c0, c1, c2, c3⟩ := HX3.out.cells); rw [hq1, Option.bind_some] at HR; (have hd2 := sumR_d hq1); clear hf hr)
      | (go_at_call 92; revert HX1; intro HX1; (obtain ⟨ka0, kc0, hnt, hcall⟩ := kid_some (i := 0) HX1.out.nt HKa.out); refine hcall.mono ?_; rintro e W2 ⟨rfl, hb⟩; (have HS2 := hidLL (HS1.out.grow hb)); (have HX2 := hidLL (HX1.out.step (WFr.of hb (Nat.le_of_lt HS1.out.wr.in)))); (have HNa := hidLL (hnt.step (P' := (· < wp)) (fun k hk => ⟨hb.block k (Nat.lt_trans hk HS1.out.wr.in), hk⟩))); (obtain ⟨c0, c1, c2, c3⟩ := HX2.out.cells); clear hb hnt hcall)
      | (go_at_call 91; refine (wenter_q HS0.out.wr).mono ?_; rintro e W1 ⟨hf, hr⟩; rcases hq0 : enterR s with _ | s1; (· rw [hq0] at hr; (obtain ⟨p, rfl⟩ := hr); (obtain rfl : R = none := (by rw [HR.out, hq0]; try rfl)); exact (show _ ∧ _ from ⟨rfl, HS0.out.fr.trans hf, ⟨_, rfl⟩⟩)); rw [hq0] at hr; (obtain ⟨rfl, hr⟩ := hr); (have HS1 := hidLL (HS0.out.step hf hr)); (have HX1 := hidLL (HX0.out.step hf)); (obtain ⟨c0, c1, c2, c3⟩ := HX1.out.cells); rw [hq0, Option.bind_some] at HR; (have hd1 := enterR_d hq0); clear hf hr)
      | (go_at_call 125; refine (HLv.out _).mono ?_; rintro e w' ⟨rfl, h9⟩; subst w'))
      go_end0
      (obtain rfl : R = some (leaveR s3) := HR.out)
      exact ⟨HZ.out.1, rfl, HZ.out.2⟩
  have hL : lvS t.kind = 2 := by unfold lvS; rw [if_neg (by rw [eqB_of h0 (x := sg 43) rfl, eqB_of h1 (x := sg 45) rfl]; simp), if_neg (by rw [eqB_of h2 (x := sg 42) rfl]; simp)]
  have HLv := hidLL (fun W => levelOfSum_q t.kind W)
  rw [hL] at HLv
  have hll : ¬ (2 : Int) < l := by omega
  obtain ⟨z0, z1, n0, n1, hOk⟩ := hO.is
  have hwp := hS.wr.in
  have HX0 := hidLL (BX.new hN hwp)
  have HS0 := hidLL (hS.alloc (.cells (ndT t ka kc) 25))
  obtain ⟨W0, hW0⟩ : ∃ W0, W0 = w.alloc (.cells (ndT t ka kc) 25) := ⟨_, rfl⟩
  rw [← hW0] at HX0 HS0
  have HW : Hid (W0 = w.alloc (.cells #[.string t.kind, .string t.word, .int .i64 t.num, .slice ka t.kids.length kc] 25)) := hW0
  obtain ⟨R, hR⟩ : ∃ R, R = sumG t s := ⟨_, rfl⟩
  rw [← hR]
  rw [sumG_fac (by rw [eqB_of h0 (x := sg 43) rfl, eqB_of h1 (x := sg 45) rfl]; simp) (by rw [eqB_of h2 (x := sg 42) rfl]; simp)] at hR
  have HR := hidLL hR
  obtain ⟨c0, c1, c2, c3⟩ := HX0.out.cells
  clear hR hW0 hN
  unfold ndT
  go_enter Tryz.func98, Tryz.ntmps98
  go_upto_region 1 with fail
  rw [← HW.out]
  go_wp2_with (first
      | (go_at_call 94; refine (wleave_q HS2.out.wr (by omega)).mono ?_; rintro e W3 ⟨hf, rfl, hr⟩; (have HZ := hidLL (And.intro (HS2.out.fr.trans hf) hr)); clear hf hr)
      | (go_at_call 127; refine (hF _ _ _ _ _ HS1.out.here HX1.out.nt).mono ?_; rintro e W2 ⟨hf, hr⟩; rcases hq1 : facG t s1 with _ | s2; (· rw [hq1] at hr; (obtain ⟨p, rfl⟩ := hr); (obtain rfl : R = none := (by rw [HR.out, hq1]; try rfl)); exact (show _ ∧ _ from ⟨rfl, HS1.out.fr.trans hf, ⟨_, rfl⟩⟩)); rw [hq1] at hr; (obtain ⟨rfl, hr⟩ := hr); (have HS2 := hidLL (HS1.out.step hf hr)); (have HX2 := hidLL (HX1.out.step hf)); (obtain ⟨c0, c1, c2, c3⟩ := HX2.out.cells); rw [hq1] at HR; (have hd2 := facG_d hq1); clear hf hr)
      | (go_at_call 91; refine (wenter_q HS0.out.wr).mono ?_; rintro e W1 ⟨hf, hr⟩; rcases hq0 : enterR s with _ | s1; (· rw [hq0] at hr; (obtain ⟨p, rfl⟩ := hr); (obtain rfl : R = none := (by rw [HR.out, hq0]; try rfl)); exact (show _ ∧ _ from ⟨rfl, HS0.out.fr.trans hf, ⟨_, rfl⟩⟩)); rw [hq0] at hr; (obtain ⟨rfl, hr⟩ := hr); (have HS1 := hidLL (HS0.out.step hf hr)); (have HX1 := hidLL (HX0.out.step hf)); (obtain ⟨c0, c1, c2, c3⟩ := HX1.out.cells); rw [hq0, Option.bind_some] at HR; (have hd1 := enterR_d hq0); clear hf hr)
      | (go_at_call 125; refine (HLv.out _).mono ?_; rintro e w' ⟨rfl, h9⟩; subst w'))
  go_end0
  (obtain rfl : R = some (leaveR s2) := HR.out)
  exact ⟨HZ.out.1, rfl, HZ.out.2⟩
set_option maxHeartbeats 2000000 in
theorem sumI_q {t : Tn} (hO : TnOk t) (hB : SumB t) : SumI t := by
  intro w wp s ka kc l lv hl hS hN hlv
  by_cases hlt : lvS t.kind < lv
  case neg =>
    have e : sumR t lv s = sumG t s := by unfold sumR brS; rw [if_neg hlt]
    rw [e]
    exact hB w wp s ka kc l lv hl hS hN (by omega)
  case pos =>
    have e : sumR t lv s = (putR s (sg 91)).bind fun s => (sumG t s).bind fun s => putR s (sg 93) := by unfold sumR brS; rw [if_pos hlt]
    have HLv := hidLL (fun W => levelOfSum_q t.kind W)
    have hlb := lvS_le t.kind
    generalize hLL : lvS t.kind = LL at *
    have hll : (LL : Int) < l := by omega
    have HB : Hid (SumB t) := hB
    obtain ⟨z0, z1, n0, n1, hOk⟩ := hO.is
    have hwp := hS.wr.in
    have HX0 := hidLL (BX.new hN hwp)
    have HS0 := hidLL (hS.alloc (.cells (ndT t ka kc) 25))
    obtain ⟨W0, hW0⟩ : ∃ W0, W0 = w.alloc (.cells (ndT t ka kc) 25) := ⟨_, rfl⟩
    rw [← hW0] at HX0 HS0
    have HW : Hid (W0 = w.alloc (.cells #[.string t.kind, .string t.word, .int .i64 t.num, .slice ka t.kids.length kc] 25)) := hW0
    obtain ⟨R, hR⟩ : ∃ R, R = sumR t lv s := ⟨_, rfl⟩
    rw [← hR]
    rw [e] at hR
    have HR := hidLL hR
    obtain ⟨c0, c1, c2, c3⟩ := HX0.out.cells
    clear hR hW0 hN e hlv hlt
    unfold ndT
    go_enter Tryz.func98, Tryz.ntmps98
    go_upto_region 1 with fail
    rw [← HW.out]
    go_wp2_with (first
      | (go_at_call 45; refine (put1_q HS2.out.wr (x := sg 93) (by decide)).mono ?_; rintro e W3 ⟨hf, hr⟩; rcases hq2 : putR s2 (sg 93) with _ | s3; (· rw [hq2] at hr; (obtain ⟨p, rfl⟩ := hr); (obtain rfl : R = none := (by rw [HR.out, hq2]; try rfl)); exact (show _ ∧ _ from ⟨rfl, HS2.out.fr.trans hf, ⟨_, rfl⟩⟩)); rw [hq2] at hr; (obtain ⟨rfl, hr⟩ := hr); (have HS3 := hidLL (HS2.out.step hf hr)); (have HX3 := hidLL (HX2.out.step hf)); (obtain ⟨c0, c1, c2, c3⟩ := HX3.out.cells); rw [hq2] at HR; (have hd3 := putR_d hq2); clear hf hr)
      | (go_at_call 98; refine (HB.out _ _ _ _ _ 0 0 rfl HS1.out.here HX1.out.nt (Nat.zero_le _)).mono ?_; rintro e W2 ⟨hf, hr⟩; rcases hq1 : sumG t s1 with _ | s2; (· rw [hq1] at hr; (obtain ⟨p, rfl⟩ := hr); (obtain rfl : R = none := (by rw [HR.out, hq1]; try rfl)); exact (show _ ∧ _ from ⟨rfl, HS1.out.fr.trans hf, ⟨_, rfl⟩⟩)); rw [hq1] at hr; (obtain ⟨rfl, hr⟩ := hr); (have HS2 := hidLL (HS1.out.step hf hr)); (have HX2 := hidLL (HX1.out.step hf)); (obtain ⟨c0, c1, c2, c3⟩ := HX2.out.cells); rw [hq1, Option.bind_some] at HR; (have hd2 := sumG_d _ _ rfl _ _ hq1); clear hf hr)
      | (go_at_call 45; refine (put1_q HS0.out.wr (x := sg 91) (by decide)).mono ?_; rintro e W1 ⟨hf, hr⟩; rcases hq0 : putR s (sg 91) with _ | s1; (· rw [hq0] at hr; (obtain ⟨p, rfl⟩ := hr); (obtain rfl : R = none := (by rw [HR.out, hq0]; try rfl)); exact (show _ ∧ _ from ⟨rfl, HS0.out.fr.trans hf, ⟨_, rfl⟩⟩)); rw [hq0] at hr; (obtain ⟨rfl, hr⟩ := hr); (have HS1 := hidLL (HS0.out.step hf hr)); (have HX1 := hidLL (HX0.out.step hf)); (obtain ⟨c0, c1, c2, c3⟩ := HX1.out.cells); rw [hq0, Option.bind_some] at HR; (have hd1 := putR_d hq0); clear hf hr)
      | (go_at_call 125; refine (HLv.out _).mono ?_; rintro e w' ⟨rfl, h9⟩; subst w'))
    first | go_end0 | refine bodyPost_ret (results_none rfl _ _ _) rfl ?_
    (obtain rfl : R = some s3 := HR.out)
    exact ⟨HS3.out.fr, rfl, HS3.out.wr⟩
/-- Sums, whatever they are. -/
theorem sum_q : ∀ (n : Nat) (t : Tn), SizeOf.sizeOf t = n → TnOk t → SumI t := by
  intro n
  induction n using Nat.strongRecOn with
  | _ n ih =>
    intro t ht hO
    have ihk : ∀ (i : Nat) (k : Tn), t.kids[i]? = some k → SumI k := fun i k hk => ih _ (by have := kids_lt hk; omega) k rfl (hO.is.2.2.2.2 i k hk)
    exact sumI_q hO (sumB_q hO ihk (factor_q hO ihk))
end Go.Proofs.YtehbinobohjadaaGreatDoor
namespace Go.Proofs.YtehbinobohjadaaGreatDoor
open Go.RowKit Go.Sort Go.Extern.Stop Go.Stop Go.Extern

set_option maxHeartbeats 4000000 in
theorem comparison_q {t : Tn} (hO : TnOk t) (ih : ∀ (i : Nat) (k : Tn), t.kids[i]? = some k → SumI k) : CmpI t := by
  intro w wp s ka kc hS hN
  have HIs := hidLL (fun W => isOrder_q t.kind W)
  cases ho : (placeIn ordersW t.kind).isSome
  · rw [ho] at HIs
    obtain ⟨z0, z1, n0, n1, hOk⟩ := hO.is
    have hwp := hS.wr.in
    have HX0 := hidLL (BX.new hN hwp)
    have HS0 := hidLL (hS.alloc (.cells (ndT t ka kc) 25))
    obtain ⟨W0, hW0⟩ : ∃ W0, W0 = w.alloc (.cells (ndT t ka kc) 25) := ⟨_, rfl⟩
    rw [← hW0] at HX0 HS0
    have HW : Hid (W0 = w.alloc (.cells #[.string t.kind, .string t.word, .int .i64 t.num, .slice ka t.kids.length kc] 25)) := hW0
    obtain ⟨R, hR⟩ : ∃ R, R = cmpG t s := ⟨_, rfl⟩
    rw [← hR]
    rw [cmpG, if_neg (by rw [ho]; simp)] at hR
    have HR := hidLL hR
    obtain ⟨c0, c1, c2, c3⟩ := HX0.out.cells
    clear hR hW0 hN
    obtain ⟨p, ct⟩ := HS0.out.wr.g
    have HT := hidLL (fun W => throw_q 189 p W)
    unfold ndT
    go_enter Tryz.func93, Tryz.ntmps93
    go_upto_region 1 with fail
    rw [← HW.out]
    go_wp2_with (first | (go_at_call 50; refine (HT.out _).mono ?_; rintro e w' ⟨rfl, h9⟩; subst w') | (go_at_call 124; refine (HIs.out _).mono ?_; rintro e w' ⟨rfl, h9⟩; subst w'))
    (obtain rfl : R = none := HR.out)
    exact ⟨rfl, HS0.out.fr, _, rfl⟩
  · rw [ho] at HIs
    match e : t.kids with
    | [] =>
      have HKn : Hid (t.kids[0]? = none) := by show _ = _; rw [e]; rfl
      obtain ⟨z0, z1, n0, n1, hOk⟩ := hO.is
      have hwp := hS.wr.in
      have HX0 := hidLL (BX.new hN hwp)
      have HS0 := hidLL (hS.alloc (.cells (ndT t ka kc) 25))
      obtain ⟨W0, hW0⟩ : ∃ W0, W0 = w.alloc (.cells (ndT t ka kc) 25) := ⟨_, rfl⟩
      rw [← hW0] at HX0 HS0
      have HW : Hid (W0 = w.alloc (.cells #[.string t.kind, .string t.word, .int .i64 t.num, .slice ka t.kids.length kc] 25)) := hW0
      obtain ⟨R, hR⟩ : ∃ R, R = cmpG t s := ⟨_, rfl⟩
      rw [← hR]
      rw [cmpG, if_pos ho, e] at hR
      have HR := hidLL hR
      obtain ⟨c0, c1, c2, c3⟩ := HX0.out.cells
      have HRn : Hid (R = none) := by show _ = _; rw [hR]; try rfl
      clear hR hW0 hN e
      unfold ndT
      (obtain rfl : R = none := HRn.out)
      go_enter Tryz.func93, Tryz.ntmps93
      go_upto_region 1 with fail
      rw [← HW.out]
      go_wp2_with (first
      | (go_at_call 92; refine (kid_none (i := 0) HS0.out.wr HKn.out).mono ?_; rintro e W1 ⟨⟨p, rfl⟩, hb⟩; exact (show _ ∧ _ from ⟨rfl, HS0.out.fr.trans (WFr.of hb (Nat.le_of_lt HS0.out.wr.in)), ⟨_, rfl⟩⟩))
      | (go_at_call 124; refine (HIs.out _).mono ?_; rintro e w' ⟨rfl, h9⟩; subst w'))
    | [a] =>
      have HKa : Hid (t.kids[0]? = some a) := by show _ = _; rw [e]; rfl
      have HIa := hidLL (ih 0 a HKa.out)
      have HKn : Hid (t.kids[1]? = none) := by show _ = _; rw [e]; rfl
      obtain ⟨z0, z1, n0, n1, hOk⟩ := hO.is
      have hwp := hS.wr.in
      have HX0 := hidLL (BX.new hN hwp)
      have HS0 := hidLL (hS.alloc (.cells (ndT t ka kc) 25))
      obtain ⟨W0, hW0⟩ : ∃ W0, W0 = w.alloc (.cells (ndT t ka kc) 25) := ⟨_, rfl⟩
      rw [← hW0] at HX0 HS0
      have HW : Hid (W0 = w.alloc (.cells #[.string t.kind, .string t.word, .int .i64 t.num, .slice ka t.kids.length kc] 25)) := hW0
      obtain ⟨R, hR⟩ : ∃ R, R = cmpG t s := ⟨_, rfl⟩
      rw [← hR]
      rw [cmpG, if_pos ho, e] at hR
      have HR := hidLL hR
      obtain ⟨c0, c1, c2, c3⟩ := HX0.out.cells
      have HRn : Hid (R = none) := by show _ = _; rw [hR]; try rfl
      clear hR hW0 hN e
      unfold ndT
      (obtain rfl : R = none := HRn.out)
      go_enter Tryz.func93, Tryz.ntmps93
      go_upto_region 1 with fail
      rw [← HW.out]
      go_wp2_with (first
      | (go_at_call 92; refine (kid_none (i := 1) HS3.out.wr HKn.out).mono ?_; rintro e W4 ⟨⟨p, rfl⟩, hb⟩; exact (show _ ∧ _ from ⟨rfl, HS3.out.fr.trans (WFr.of hb (Nat.le_of_lt HS3.out.wr.in)), ⟨_, rfl⟩⟩))
      | (go_at_call 45; refine (put1_q HS2.out.wr z0).mono ?_; rintro e W3 ⟨hf, hr⟩; revert hr; (split); (· rintro ⟨p, rfl⟩; exact (show _ ∧ _ from ⟨rfl, HS2.out.fr.trans hf, ⟨_, rfl⟩⟩)); rintro ⟨rfl, hr⟩; (have HS3 := hidLL (HS2.out.step hf hr)); (have HX3 := hidLL (HX2.out.step hf)); (obtain ⟨c0, c1, c2, c3⟩ := HX3.out.cells); clear hf hr)
      | (go_at_call 98; refine (HIa.out _ _ _ _ _ _ 0 (by first | rfl | simp | omega) HS1.out.here HNa.out (by first | omega | decide)).mono ?_; rintro e W2 ⟨hf, hr⟩; revert hr; (split); (· rintro ⟨p, rfl⟩; exact (show _ ∧ _ from ⟨rfl, HS1.out.fr.trans hf, ⟨_, rfl⟩⟩)); rintro ⟨rfl, hr⟩; (have HS2 := hidLL (HS1.out.step hf hr)); (have HX2 := hidLL (HX1.out.step hf)); (obtain ⟨c0, c1, c2, c3⟩ := HX2.out.cells); clear hf hr)
      | (go_at_call 92; revert HX0; intro HX0; (obtain ⟨ka0, kc0, hnt, hcall⟩ := kid_some (i := 0) HX0.out.nt HKa.out); refine hcall.mono ?_; rintro e W1 ⟨rfl, hb⟩; (have HS1 := hidLL (HS0.out.grow hb)); (have HX1 := hidLL (HX0.out.step (WFr.of hb (Nat.le_of_lt HS0.out.wr.in)))); (have HNa := hidLL (hnt.step (P' := (· < wp)) (fun k hk => ⟨hb.block k (Nat.lt_trans hk HS0.out.wr.in), hk⟩))); (obtain ⟨c0, c1, c2, c3⟩ := HX1.out.cells); clear hb hnt hcall)
      | (go_at_call 124; refine (HIs.out _).mono ?_; rintro e w' ⟨rfl, h9⟩; subst w'))
    | a :: b :: r =>
      have HKa : Hid (t.kids[0]? = some a) := by show _ = _; rw [e]; rfl
      have HIa := hidLL (ih 0 a HKa.out)
      have HKb : Hid (t.kids[1]? = some b) := by show _ = _; rw [e]; rfl
      have HIb := hidLL (ih 1 b HKb.out)
      obtain ⟨z0, z1, n0, n1, hOk⟩ := hO.is
      have hwp := hS.wr.in
      have HX0 := hidLL (BX.new hN hwp)
      have HS0 := hidLL (hS.alloc (.cells (ndT t ka kc) 25))
      obtain ⟨W0, hW0⟩ : ∃ W0, W0 = w.alloc (.cells (ndT t ka kc) 25) := ⟨_, rfl⟩
      rw [← hW0] at HX0 HS0
      have HW : Hid (W0 = w.alloc (.cells #[.string t.kind, .string t.word, .int .i64 t.num, .slice ka t.kids.length kc] 25)) := hW0
      obtain ⟨R, hR⟩ : ∃ R, R = cmpG t s := ⟨_, rfl⟩
      rw [← hR]
      rw [cmpG, if_pos ho, e] at hR
      have HR := hidLL hR
      obtain ⟨c0, c1, c2, c3⟩ := HX0.out.cells
      clear hR hW0 hN e
      unfold ndT
      go_enter Tryz.func93, Tryz.ntmps93
      go_upto_region 1 with fail
      rw [← HW.out]
      go_wp2_with (first
      | (go_at_call 98; refine (HIb.out _ _ _ _ _ _ 0 (by first | rfl | simp | omega) HS4.out.here HNb.out (by first | omega | decide)).mono ?_; rintro e W5 ⟨hf, hr⟩; rcases hq2 : sumR b 0 s2 with _ | s3; (· rw [hq2] at hr; (obtain ⟨p, rfl⟩ := hr); (obtain rfl : R = none := (by rw [HR.out, hq2]; try rfl)); exact (show _ ∧ _ from ⟨rfl, HS4.out.fr.trans hf, ⟨_, rfl⟩⟩)); rw [hq2] at hr; (obtain ⟨rfl, hr⟩ := hr); (have HS5 := hidLL (HS4.out.step hf hr)); (have HX5 := hidLL (HX4.out.step hf)); (obtain ⟨c0, c1, c2, c3⟩ := HX5.out.cells); rw [hq2] at HR; (have hd3 := sumR_d hq2); clear hf hr)
      | (go_at_call 92; revert HX3; intro HX3; (obtain ⟨ka1, kc1, hnt, hcall⟩ := kid_some (i := 1) HX3.out.nt HKb.out); refine hcall.mono ?_; rintro e W4 ⟨rfl, hb⟩; (have HS4 := hidLL (HS3.out.grow hb)); (have HX4 := hidLL (HX3.out.step (WFr.of hb (Nat.le_of_lt HS3.out.wr.in)))); (have HNb := hidLL (hnt.step (P' := (· < wp)) (fun k hk => ⟨hb.block k (Nat.lt_trans hk HS3.out.wr.in), hk⟩))); (obtain ⟨c0, c1, c2, c3⟩ := HX4.out.cells); clear hb hnt hcall)
      | (go_at_call 45; refine (put1_q HS2.out.wr z0).mono ?_; rintro e W3 ⟨hf, hr⟩; rcases hq1 : putR s1 t.kind with _ | s2; (· rw [hq1] at hr; (obtain ⟨p, rfl⟩ := hr); (obtain rfl : R = none := (by rw [HR.out, hq1]; try rfl)); exact (show _ ∧ _ from ⟨rfl, HS2.out.fr.trans hf, ⟨_, rfl⟩⟩)); rw [hq1] at hr; (obtain ⟨rfl, hr⟩ := hr); (have HS3 := hidLL (HS2.out.step hf hr)); (have HX3 := hidLL (HX2.out.step hf)); (obtain ⟨c0, c1, c2, c3⟩ := HX3.out.cells); rw [hq1, Option.bind_some] at HR; (have hd2 := putR_d hq1); clear hf hr)
      | (go_at_call 98; refine (HIa.out _ _ _ _ _ _ 0 (by first | rfl | simp | omega) HS1.out.here HNa.out (by first | omega | decide)).mono ?_; rintro e W2 ⟨hf, hr⟩; rcases hq0 : sumR a 0 s with _ | s1; (· rw [hq0] at hr; (obtain ⟨p, rfl⟩ := hr); (obtain rfl : R = none := (by rw [HR.out, hq0]; try rfl)); exact (show _ ∧ _ from ⟨rfl, HS1.out.fr.trans hf, ⟨_, rfl⟩⟩)); rw [hq0] at hr; (obtain ⟨rfl, hr⟩ := hr); (have HS2 := hidLL (HS1.out.step hf hr)); (have HX2 := hidLL (HX1.out.step hf)); (obtain ⟨c0, c1, c2, c3⟩ := HX2.out.cells); rw [hq0, Option.bind_some] at HR; (have hd1 := sumR_d hq0); clear hf hr)
      | (go_at_call 92; revert HX0; intro HX0; (obtain ⟨ka0, kc0, hnt, hcall⟩ := kid_some (i := 0) HX0.out.nt HKa.out); refine hcall.mono ?_; rintro e W1 ⟨rfl, hb⟩; (have HS1 := hidLL (HS0.out.grow hb)); (have HX1 := hidLL (HX0.out.step (WFr.of hb (Nat.le_of_lt HS0.out.wr.in)))); (have HNa := hidLL (hnt.step (P' := (· < wp)) (fun k hk => ⟨hb.block k (Nat.lt_trans hk HS0.out.wr.in), hk⟩))); (obtain ⟨c0, c1, c2, c3⟩ := HX1.out.cells); clear hb hnt hcall)
      | (go_at_call 124; refine (HIs.out _).mono ?_; rintro e w' ⟨rfl, h9⟩; subst w'))
      go_end0
      (obtain rfl : R = some s3 := HR.out)
      exact ⟨HS5.out.fr, rfl, HS5.out.wr⟩
end Go.Proofs.YtehbinobohjadaaGreatDoor

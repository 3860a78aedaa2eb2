/-
  The program's writer: conditions (written by tools/genwr.py).
-/
import Derived.Test.YtehbinobohjadaaGreatDoorBk27
namespace Go.Proofs.YtehbinobohjadaaGreatDoor
open Go.RowKit Go.Sort Go.Extern.Stop Go.Stop Go.Extern

set_option maxHeartbeats 8000000 in
theorem conB_q {t : Tn} (hO : TnOk t) (ih : ∀ (i : Nat) (k : Tn), t.kids[i]? = some k → ConI k) (hF : CmpI t) : ConB t := by
  intro w wp s ka kc l lv hl hS hN hlv
  cases h0 : (t.kind.toList == [111, 114])
  rotate_left
  · have hL : lvC t.kind = 0 := by unfold lvC; rw [if_pos (eqB_of h0 rfl)]
    have HLv := hidLL (fun W => levelOfCondition_q t.kind W)
    rw [hL] at HLv
    have hll : ¬ (0 : Int) < l := by omega
    match e : t.kids with
    | [] =>
      have HKn : Hid (t.kids[0]? = none) := by show _ = _; rw [e]; rfl
      obtain ⟨z0, z1, n0, n1, hOk⟩ := hO.is
      have hwp := hS.wr.in
      have HX0 := hidLL (BX.new hN hwp)
      have HS0 := hidLL (hS.alloc (.cells (ndT t ka kc) 25))
      obtain ⟨W0, hW0⟩ : ∃ W0, W0 = w.alloc (.cells (ndT t ka kc) 25) := ⟨_, rfl⟩
      rw [← hW0] at HX0 HS0
      have HW : Hid (W0 = w.alloc (.cells #[.string t.kind, .string t.word, .int .i64 t.num, .slice ka t.kids.length kc] 25)) := hW0
      obtain ⟨R, hR⟩ : ∃ R, R = condG t s := ⟨_, rfl⟩
      rw [← hR]
      rw [condG_bin (.inl (eqB_of h0 rfl)), hL, e] at hR
      have HR := hidLL hR
      obtain ⟨c0, c1, c2, c3⟩ := HX0.out.cells
      have HRn : Hid (R = none) := by show _ = _; rw [hR]; try cases enterR s <;> rfl
      clear hR hW0 hN e
      unfold ndT
      (obtain rfl : R = none := HRn.out)
      go_enter Tryz.func46, Tryz.ntmps46
      go_upto_region 1 with fail
      rw [← HW.out]
      go_wp2_with (first
      | (go_at_call 92; refine (kid_none (i := 0) HS1.out.wr HKn.out).mono ?_; rintro e W2 ⟨⟨p, rfl⟩, hb⟩; exact (show _ ∧ _ from ⟨rfl, HS1.out.fr.trans (WFr.of hb (Nat.le_of_lt HS1.out.wr.in)), ⟨_, rfl⟩⟩))
      | (go_at_call 91; refine (wenter_q HS0.out.wr).mono ?_; rintro e W1 ⟨hf, hr⟩; revert hr; (split); (· rintro ⟨p, rfl⟩; exact (show _ ∧ _ from ⟨rfl, HS0.out.fr.trans hf, ⟨_, rfl⟩⟩)); rintro ⟨rfl, hr⟩; (have HS1 := hidLL (HS0.out.step hf hr)); (have HX1 := hidLL (HX0.out.step hf)); (obtain ⟨c0, c1, c2, c3⟩ := HX1.out.cells); clear hf hr)
      | (go_at_call 90; refine (HLv.out _).mono ?_; rintro e w' ⟨rfl, h9⟩; subst w'))
    | [a] =>
      have HKa : Hid (t.kids[0]? = some a) := by show _ = _; rw [e]; rfl
      have HIa := hidLL (ih 0 a HKa.out)
      have HKn : Hid (t.kids[1]? = none) := by show _ = _; rw [e]; rfl
      obtain ⟨z0, z1, n0, n1, hOk⟩ := hO.is
      have hwp := hS.wr.in
      have HX0 := hidLL (BX.new hN hwp)
      have HS0 := hidLL (hS.alloc (.cells (ndT t ka kc) 25))
      obtain ⟨W0, hW0⟩ : ∃ W0, W0 = w.alloc (.cells (ndT t ka kc) 25) := ⟨_, rfl⟩
      rw [← hW0] at HX0 HS0
      have HW : Hid (W0 = w.alloc (.cells #[.string t.kind, .string t.word, .int .i64 t.num, .slice ka t.kids.length kc] 25)) := hW0
      obtain ⟨R, hR⟩ : ∃ R, R = condG t s := ⟨_, rfl⟩
      rw [← hR]
      rw [condG_bin (.inl (eqB_of h0 rfl)), hL, e] at hR
      have HR := hidLL hR
      obtain ⟨c0, c1, c2, c3⟩ := HX0.out.cells
      have HRn : Hid (R = none) := by show _ = _; rw [hR]; try cases enterR s <;> rfl
      clear hR hW0 hN e
      unfold ndT
      (obtain rfl : R = none := HRn.out)
      go_enter Tryz.func46, Tryz.ntmps46
      go_upto_region 1 with fail
      rw [← HW.out]
      go_wp2_with (first
      | (go_at_call 92; refine (kid_none (i := 1) HS4.out.wr HKn.out).mono ?_; rintro e W5 ⟨⟨p, rfl⟩, hb⟩; exact (show _ ∧ _ from ⟨rfl, HS4.out.fr.trans (WFr.of hb (Nat.le_of_lt HS4.out.wr.in)), ⟨_, rfl⟩⟩))
      | (go_at_call 45; refine (put1_q HS3.out.wr z0).mono ?_; rintro e W4 ⟨hf, hr⟩; revert hr; (split); (· rintro ⟨p, rfl⟩; exact (show _ ∧ _ from ⟨rfl, HS3.out.fr.trans hf, ⟨_, rfl⟩⟩)); rintro ⟨rfl, hr⟩; (have HS4 := hidLL (HS3.out.step hf hr)); (have HX4 := hidLL (HX3.out.step hf)); (obtain ⟨c0, c1, c2, c3⟩ := HX4.out.cells); clear hf hr)
      | (go_at_call 46; refine (HIa.out _ _ _ _ _ _ 0 (by first | rfl | simp | omega) HS2.out.here HNa.out (by first | omega | decide)).mono ?_; rintro e W3 ⟨hf, hr⟩; revert hr; (split); (· rintro ⟨p, rfl⟩; exact (show _ ∧ _ from ⟨rfl, HS2.out.fr.trans hf, ⟨_, rfl⟩⟩)); rintro ⟨rfl, hr⟩; (have HS3 := hidLL (HS2.out.step hf hr)); (have HX3 := hidLL (HX2.out.step hf)); (obtain ⟨c0, c1, c2, c3⟩ := HX3.out.cells); clear hf hr)
      | (go_at_call 92; revert HX1; intro HX1; (obtain ⟨ka0, kc0, hnt, hcall⟩ := kid_some (i := 0) HX1.out.nt HKa.out); refine hcall.mono ?_; rintro e W2 ⟨rfl, hb⟩; (have HS2 := hidLL (HS1.out.grow hb)); (have HX2 := hidLL (HX1.out.step (WFr.of hb (Nat.le_of_lt HS1.out.wr.in)))); (have HNa := hidLL (hnt.step (P' := (· < wp)) (fun k hk => ⟨hb.block k (Nat.lt_trans hk HS1.out.wr.in), hk⟩))); (obtain ⟨c0, c1, c2, c3⟩ := HX2.out.cells); clear hb hnt hcall)
      | (go_at_call 91; refine (wenter_q HS0.out.wr).mono ?_; rintro e W1 ⟨hf, hr⟩; revert hr; (split); (· rintro ⟨p, rfl⟩; exact (show _ ∧ _ from ⟨rfl, HS0.out.fr.trans hf, ⟨_, rfl⟩⟩)); rintro ⟨rfl, hr⟩; (have HS1 := hidLL (HS0.out.step hf hr)); (have HX1 := hidLL (HX0.out.step hf)); (obtain ⟨c0, c1, c2, c3⟩ := HX1.out.cells); clear hf hr)
      | (go_at_call 90; refine (HLv.out _).mono ?_; rintro e w' ⟨rfl, h9⟩; subst w'))
    | a :: b :: r =>
      have HKa : Hid (t.kids[0]? = some a) := by show _ = _; rw [e]; rfl
      have HIa := hidLL (ih 0 a HKa.out)
      have HKb : Hid (t.kids[1]? = some b) := by show _ = _; rw [e]; rfl
      have HIb := hidLL (ih 1 b HKb.out)
      obtain ⟨z0, z1, n0, n1, hOk⟩ := hO.is
      have hwp := hS.wr.in
      have HX0 := hidLL (BX.new hN hwp)
      have HS0 := hidLL (hS.alloc (.cells (ndT t ka kc) 25))
      obtain ⟨W0, hW0⟩ : ∃ W0, W0 = w.alloc (.cells (ndT t ka kc) 25) := ⟨_, rfl⟩
      rw [← hW0] at HX0 HS0
      have HW : Hid (W0 = w.alloc (.cells #[.string t.kind, .string t.word, .int .i64 t.num, .slice ka t.kids.length kc] 25)) := hW0
      obtain ⟨R, hR⟩ : ∃ R, R = condG t s := ⟨_, rfl⟩
      rw [← hR]
      rw [condG_bin (.inl (eqB_of h0 rfl)), hL, e] at hR
      have HR := hidLL hR
      obtain ⟨c0, c1, c2, c3⟩ := HX0.out.cells
      clear hR hW0 hN e
      unfold ndT
      go_enter Tryz.func46, Tryz.ntmps46
      go_upto_region 1 with fail
      rw [← HW.out]
      go_wp2_with (first
      | (go_at_call 94; refine (wleave_q HS6.out.wr (by omega)).mono ?_; rintro e W7 ⟨hf, rfl, hr⟩; (have HZ := hidLL (And.intro (HS6.out.fr.trans hf) hr)); clear hf hr)
      | (go_at_call 46; refine (HIb.out _ _ _ _ _ _ 1 (by first | rfl | simp | omega) HS5.out.here HNb.out (by first | omega | decide)).mono ?_; rintro e W6 ⟨hf, hr⟩; rcases hq3 : condR b 1 s3 with _ | s4; (· rw [hq3] at hr; (obtain ⟨p, rfl⟩ := hr); (obtain rfl : R = none := (by rw [HR.out, hq3]; try rfl)); exact (show _ ∧ _ from ⟨rfl, HS5.out.fr.trans hf, ⟨_, rfl⟩⟩)); rw [hq3] at hr; (obtain ⟨rfl, hr⟩ := hr); (have HS6 := hidLL (HS5.out.step hf hr)); (have HX6 := hidLL (HX5.out.step hf)); (obtain ⟨c0, c1, c2, c3⟩ := HX6.out.cells); rw [hq3] at HR; (have hd4 := condR_d hq3); clear hf hr)
      | (go_at_call 92; revert HX4; intro HX4; (obtain ⟨ka1, kc1, hnt, hcall⟩ := kid_some (i := 1) HX4.out.nt HKb.out); refine hcall.mono ?_; rintro e W5 ⟨rfl, hb⟩; (have HS5 := hidLL (HS4.out.grow hb)); (have HX5 := hidLL (HX4.out.step (WFr.of hb (Nat.le_of_lt HS4.out.wr.in)))); (have HNb := hidLL (hnt.step (P' := (· < wp)) (fun k hk => ⟨hb.block k (Nat.lt_trans hk HS4.out.wr.in), hk⟩))); (obtain ⟨c0, c1, c2, c3⟩ := HX5.out.cells); clear hb hnt hcall)
      | (go_at_call 45; refine (put1_q HS3.out.wr z0).mono ?_; rintro e W4 ⟨hf, hr⟩; rcases hq2 : putR s2 t.kind with _ | s3; (· rw [hq2] at hr; (obtain ⟨p, rfl⟩ := hr); (obtain rfl : R = none := (by rw [HR.out, hq2]; try rfl)); exact (show _ ∧ _ from ⟨rfl, HS3.out.fr.trans hf, ⟨_, rfl⟩⟩)); rw [hq2] at hr; (obtain ⟨rfl, hr⟩ := hr); (have HS4 := hidLL (HS3.out.step hf hr)); (have HX4 := hidLL (HX3.out.step hf)); (obtain ⟨c0, c1, c2, c3⟩ := HX4.out.cells); rw [hq2, Option.bind_some] at HR; (have hd3 := putR_d hq2); clear hf hr)
      | (go_at_call 46; refine (HIa.out _ _ _ _ _ _ 0 (by first | rfl | simp | omega) HS2.out.here HNa.out (by first | omega | decide)).mono ?_; rintro e W3 ⟨hf, hr⟩; rcases hq1 : condR a 0 s1 with _ | s2; (· rw [hq1] at hr; (obtain ⟨p, rfl⟩ := hr); (obtain rfl : R = none := (by rw [HR.out, hq1]; try rfl)); exact (show _ ∧ _ from ⟨rfl, HS2.out.fr.trans hf, ⟨_, rfl⟩⟩)); rw [hq1] at hr; (obtain ⟨rfl, hr⟩ := hr); (have HS3 := hidLL (HS2.out.step hf hr)); (have HX3 := hidLL (HX2.out.step hf)); (obtain ⟨c0, c1, c2, c3⟩ := HX3.out.cells); rw [hq1, Option.bind_some] at HR; (have hd2 := condR_d hq1); clear hf hr)
      | (go_at_call 92; revert HX1; intro HX1; (obtain ⟨ka0, kc0, hnt, hcall⟩ := kid_some (i := 0) HX1.out.nt HKa.out); refine hcall.mono ?_; rintro e W2 ⟨rfl, hb⟩; (have HS2 := hidLL (HS1.out.grow hb)); (have HX2 := hidLL (HX1.out.step (WFr.of hb (Nat.le_of_lt HS1.out.wr.in)))); (have HNa := hidLL (hnt.step (P' := (· < wp)) (fun k hk => ⟨hb.block k (Nat.lt_trans hk HS1.out.wr.in), hk⟩))); (obtain ⟨c0, c1, c2, c3⟩ := HX2.out.cells); clear hb hnt hcall)
      | (go_at_call 91; refine (wenter_q HS0.out.wr).mono ?_; rintro e W1 ⟨hf, hr⟩; rcases hq0 : enterR s with _ | s1; (· rw [hq0] at hr; (obtain ⟨p, rfl⟩ := hr); (obtain rfl : R = none := (by rw [HR.out, hq0]; try rfl)); exact (show _ ∧ _ from ⟨rfl, HS0.out.fr.trans hf, ⟨_, rfl⟩⟩)); rw [hq0] at hr; (obtain ⟨rfl, hr⟩ := hr); (have HS1 := hidLL (HS0.out.step hf hr)); (have HX1 := hidLL (HX0.out.step hf)); (obtain ⟨c0, c1, c2, c3⟩ := HX1.out.cells); rw [hq0, Option.bind_some] at HR; (have hd1 := enterR_d hq0); clear hf hr)
      | (go_at_call 90; refine (HLv.out _).mono ?_; rintro e w' ⟨rfl, h9⟩; subst w'))
      go_end0
      (obtain rfl : R = some (leaveR s4) := HR.out)
      exact ⟨HZ.out.1, rfl, HZ.out.2⟩
  cases h1 : (t.kind.toList == [97, 110, 100])
  rotate_left
  · have hL : lvC t.kind = 1 := by unfold lvC; rw [if_neg (by rw [eqB_of h0 (x := wOr) rfl]; simp), if_pos (eqB_of h1 rfl)]
    have HLv := hidLL (fun W => levelOfCondition_q t.kind W)
    rw [hL] at HLv
    have hll : ¬ (1 : Int) < l := by omega
    match e : t.kids with
    | [] =>
      have HKn : Hid (t.kids[0]? = none) := by show _ = _; rw [e]; rfl
      obtain ⟨z0, z1, n0, n1, hOk⟩ := hO.is
      have hwp := hS.wr.in
      have HX0 := hidLL (BX.new hN hwp)
      have HS0 := hidLL (hS.alloc (.cells (ndT t ka kc) 25))
      obtain ⟨W0, hW0⟩ : ∃ W0, W0 = w.alloc (.cells (ndT t ka kc) 25) := ⟨_, rfl⟩
      rw [← hW0] at HX0 HS0
      have HW : Hid (W0 = w.alloc (.cells #[.string t.kind, .string t.word, .int .i64 t.num, .slice ka t.kids.length kc] 25)) := hW0
      obtain ⟨R, hR⟩ : ∃ R, R = condG t s := ⟨_, rfl⟩
      rw [← hR]
      rw [condG_bin (.inr (eqB_of h1 rfl)), hL, e] at hR
      have HR := hidLL hR
      obtain ⟨c0, c1, c2, c3⟩ := HX0.out.cells
      have HRn : Hid (R = none) := by show _ = _; rw [hR]; try cases enterR s <;> rfl
      clear hR hW0 hN e
      unfold ndT
      (obtain rfl : R = none := HRn.out)
      go_enter Tryz.func46, Tryz.ntmps46
      go_upto_region 1 with fail
      rw [← HW.out]
      go_wp2_with (first
      | (go_at_call 92; refine (kid_none (i := 0) HS1.out.wr HKn.out).mono ?_; rintro e W2 ⟨⟨p, rfl⟩, hb⟩; exact (show _ ∧ _ from ⟨rfl, HS1.out.fr.trans (WFr.of hb (Nat.le_of_lt HS1.out.wr.in)), ⟨_, rfl⟩⟩))
      | (go_at_call 91; refine (wenter_q HS0.out.wr).mono ?_; rintro e W1 ⟨hf, hr⟩; revert hr; (split); (· rintro ⟨p, rfl⟩; exact (show _ ∧ _ from ⟨rfl, HS0.out.fr.trans hf, ⟨_, rfl⟩⟩)); rintro ⟨rfl, hr⟩; (have HS1 := hidLL (HS0.out.step hf hr)); (have HX1 := hidLL (HX0.out.step hf)); (obtain ⟨c0, c1, c2, c3⟩ := HX1.out.cells); clear hf hr)
      | (go_at_call 90; refine (HLv.out _).mono ?_; rintro e w' ⟨rfl, h9⟩; subst w'))
    | [a] =>
      have HKa : Hid (t.kids[0]? = some a) := by show _ = _; rw [e]; rfl
      have HIa := hidLL (ih 0 a HKa.out)
      have HKn : Hid (t.kids[1]? = none) := by show _ = _; rw [e]; rfl
      obtain ⟨z0, z1, n0, n1, hOk⟩ := hO.is
      have hwp := hS.wr.in
      have HX0 := hidLL (BX.new hN hwp)
      have HS0 := hidLL (hS.alloc (.cells (ndT t ka kc) 25))
      obtain ⟨W0, hW0⟩ : ∃ W0, W0 = w.alloc (.cells (ndT t ka kc) 25) := ⟨_, rfl⟩
      rw [← hW0] at HX0 HS0
      have HW : Hid (W0 = w.alloc (.cells #[.string t.kind, .string t.word, .int .i64 t.num, .slice ka t.kids.length kc] 25)) := hW0
      obtain ⟨R, hR⟩ : ∃ R, R = condG t s := ⟨_, rfl⟩
      rw [← hR]
      rw [condG_bin (.inr (eqB_of h1 rfl)), hL, e] at hR
      have HR := hidLL hR
      obtain ⟨c0, c1, c2, c3⟩ := HX0.out.cells
      have HRn : Hid (R = none) := by show _ = _; rw [hR]; try cases enterR s <;> rfl
      clear hR hW0 hN e
      unfold ndT
      (obtain rfl : R = none := HRn.out)
      go_enter Tryz.func46, Tryz.ntmps46
      go_upto_region 1 with fail
      rw [← HW.out]
      go_wp2_with (first
      | (go_at_call 92; refine (kid_none (i := 1) HS4.out.wr HKn.out).mono ?_; rintro e W5 ⟨⟨p, rfl⟩, hb⟩; exact (show _ ∧ _ from ⟨rfl, HS4.out.fr.trans (WFr.of hb (Nat.le_of_lt HS4.out.wr.in)), ⟨_, rfl⟩⟩))
      | (go_at_call 45; refine (put1_q HS3.out.wr z0).mono ?_; rintro e W4 ⟨hf, hr⟩; revert hr; (split); (· rintro ⟨p, rfl⟩; exact (show _ ∧ _ from ⟨rfl, HS3.out.fr.trans hf, ⟨_, rfl⟩⟩)); rintro ⟨rfl, hr⟩; (have HS4 := hidLL (HS3.out.step hf hr)); (have HX4 := hidLL (HX3.out.step hf)); (obtain ⟨c0, c1, c2, c3⟩ := HX4.out.cells); clear hf hr)
      | (go_at_call 46; refine (HIa.out _ _ _ _ _ _ 1 (by first | rfl | simp | omega) HS2.out.here HNa.out (by first | omega | decide)).mono ?_; rintro e W3 ⟨hf, hr⟩; revert hr; (split); (· rintro ⟨p, rfl⟩; exact (show _ ∧ _ from ⟨rfl, HS2.out.fr.trans hf, ⟨_, rfl⟩⟩)); rintro ⟨rfl, hr⟩; (have HS3 := hidLL (HS2.out.step hf hr)); (have HX3 := hidLL (HX2.out.step hf)); (obtain ⟨c0, c1, c2, c3⟩ := HX3.out.cells); clear hf hr)
      | (go_at_call 92; revert HX1; intro HX1; (obtain ⟨ka0, kc0, hnt, hcall⟩ := kid_some (i := 0) HX1.out.nt HKa.out); refine hcall.mono ?_; rintro e W2 ⟨rfl, hb⟩; (have HS2 := hidLL (HS1.out.grow hb)); (have HX2 := hidLL (HX1.out.step (WFr.of hb (Nat.le_of_lt HS1.out.wr.in)))); (have HNa := hidLL (hnt.step (P' := (· < wp)) (fun k hk => ⟨hb.block k (Nat.lt_trans hk HS1.out.wr.in), hk⟩))); (obtain ⟨c0, c1, c2, c3⟩ := HX2.out.cells); clear hb hnt hcall)
      | (go_at_call 91; refine (wenter_q HS0.out.wr).mono ?_; rintro e W1 ⟨hf, hr⟩; revert hr; (split); (· rintro ⟨p, rfl⟩; exact (show _ ∧ _ from ⟨rfl, HS0.out.fr.trans hf, ⟨_, rfl⟩⟩)); rintro ⟨rfl, hr⟩; (have HS1 := hidLL (HS0.out.step hf hr)); (have HX1 := hidLL (HX0.out.step hf)); (obtain ⟨c0, c1, c2, c3⟩ := HX1.out.cells); clear hf hr)
      | (go_at_call 90; refine (HLv.out _).mono ?_; rintro e w' ⟨rfl, h9⟩; subst w'))
    | a :: b :: r =>
      have HKa : Hid (t.kids[0]? = some a) := by show _ = _; rw [e]; rfl
      have HIa := hidLL (ih 0 a HKa.out)
      have HKb : Hid (t.kids[1]? = some b) := by show _ = _; rw [e]; rfl
      have HIb := hidLL (ih 1 b HKb.out)
      obtain ⟨z0, z1, n0, n1, hOk⟩ := hO.is
      have hwp := hS.wr.in
      have HX0 := hidLL (BX.new hN hwp)
      have HS0 := hidLL (hS.alloc (.cells (ndT t ka kc) 25))
      obtain ⟨W0, hW0⟩ : ∃ W0, W0 = w.alloc (.cells (ndT t ka kc) 25) := ⟨_, rfl⟩
      rw [← hW0] at HX0 HS0
      have HW : Hid (W0 = w.alloc (.cells #[.string t.kind, .string t.word, .int .i64 t.num, .slice ka t.kids.length kc] 25)) := hW0
      obtain ⟨R, hR⟩ : ∃ R, R = condG t s := ⟨_, rfl⟩
      rw [← hR]
      rw [condG_bin (.inr (eqB_of h1 rfl)), hL, e] at hR
      have HR := hidLL hR
      obtain ⟨c0, c1, c2, c3⟩ := HX0.out.cells
      clear hR hW0 hN e
      unfold ndT
      go_enter Tryz.func46, Tryz.ntmps46
      go_upto_region 1 with fail
      rw [← HW.out]
      go_wp2_with (first
      | (go_at_call 94; refine (wleave_q HS6.out.wr (by omega)).mono ?_; rintro e W7 ⟨hf, rfl, hr⟩; (have HZ := hidLL (And.intro (HS6.out.fr.trans hf) hr)); clear hf hr)
      | (go_at_call 46; refine (HIb.out _ _ _ _ _ _ 2 (by first | rfl | simp | omega) HS5.out.here HNb.out (by first | omega | decide)).mono ?_; rintro e W6 ⟨hf, hr⟩; rcases hq3 : condR b 2 s3 with _ | s4; (· rw [hq3] at hr; (obtain ⟨p, rfl⟩ := hr); (obtain rfl : R = none := (by rw [HR.out, hq3]; try rfl)); exact (show _ ∧ _ from ⟨rfl, HS5.out.fr.trans hf, ⟨_, rfl⟩⟩)); rw [hq3] at hr; (obtain ⟨rfl, hr⟩ := hr); (have HS6 := hidLL (HS5.out.step hf hr)); (have HX6 := hidLL (HX5.out.step hf)); (obtain ⟨c0, c1, c2, c3⟩ := HX6.out.cells); rw [hq3] at HR; (have hd4 := condR_d hq3); clear hf hr)
      | (go_at_call 92; revert HX4; intro HX4; (obtain ⟨ka1, kc1, hnt, hcall⟩ := kid_some (i := 1) HX4.out.nt HKb.out); refine hcall.mono ?_; rintro e W5 ⟨rfl, hb⟩; (have HS5 := hidLL (HS4.out.grow hb)); (have HX5 := hidLL (HX4.out.step (WFr.of hb (Nat.le_of_lt HS4.out.wr.in)))); (have HNb := hidLL (hnt.step (P' := (· < wp)) (fun k hk => ⟨hb.block k (Nat.lt_trans hk HS4.out.wr.in), hk⟩))); (obtain ⟨c0, c1, c2, c3⟩ := HX5.out.cells); clear hb hnt hcall)
      | (go_at_call 45; refine (put1_q HS3.out.wr z0).mono ?_; rintro e W4 ⟨hf, hr⟩; rcases hq2 : putR s2 t.kind with _ | s3; (· rw [hq2] at hr; (obtain ⟨p, rfl⟩ := hr); (obtain rfl : R = none := (by rw [HR.out, hq2]; try rfl)); exact (show _ ∧ _ from ⟨rfl, HS3.out.fr.trans hf, ⟨_, rfl⟩⟩)); rw [hq2] at hr; (obtain ⟨rfl, hr⟩ := hr); (have HS4 := hidLL (HS3.out.step hf hr)); (have HX4 := hidLL (HX3.out.step hf)); (obtain ⟨c0, c1, c2, c3⟩ := HX4.out.cells); rw [hq2, Option.bind_some] at HR; (have hd3 := putR_d hq2); clear hf hr)
      | (go_at_call 46; refine (HIa.out _ _ _ _ _ _ 1 (by first | rfl | simp | omega) HS2.out.here HNa.out (by first | omega | decide)).mono ?_; rintro e W3 ⟨hf, hr⟩; rcases hq1 : condR a 1 s1 with _ | s2; (· rw [hq1] at hr; (obtain ⟨p, rfl⟩ := hr); (obtain rfl : R = none := (by rw [HR.out, hq1]; try rfl)); exact (show _ ∧ _ from ⟨rfl, HS2.out.fr.trans hf, ⟨_, rfl⟩⟩)); rw [hq1] at hr; (obtain ⟨rfl, hr⟩ := hr); (have HS3 := hidLL (HS2.out.step hf hr)); (have HX3 := hidLL (HX2.out.step hf)); (obtain ⟨c0, c1, c2, c3⟩ := HX3.out.cells); rw [hq1, Option.bind_some] at HR; (have hd2 := condR_d hq1); clear hf hr)
      | (go_at_call 92; revert HX1; intro HX1; (obtain ⟨ka0, kc0, hnt, hcall⟩ := kid_some (i := 0) HX1.out.nt HKa.out); refine hcall.mono ?_; rintro e W2 ⟨rfl, hb⟩; (have HS2 := hidLL (HS1.out.grow hb)); (have HX2 := hidLL (HX1.out.step (WFr.of hb (Nat.le_of_lt HS1.out.wr.in)))); (have HNa := hidLL (hnt.step (P' := (· < wp)) (fun k hk => ⟨hb.block k (Nat.lt_trans hk HS1.out.wr.in), hk⟩))); (obtain ⟨c0, c1, c2, c3⟩ := HX2.out.cells); clear hb hnt hcall)
      | (go_at_call 91; refine (wenter_q HS0.out.wr).mono ?_; rintro e W1 ⟨hf, hr⟩; rcases hq0 : enterR s with _ | s1; (· rw [hq0] at hr; (obtain ⟨p, rfl⟩ := hr); (obtain rfl : R = none := (by rw [HR.out, hq0]; try rfl)); exact (show _ ∧ _ from ⟨rfl, HS0.out.fr.trans hf, ⟨_, rfl⟩⟩)); rw [hq0] at hr; (obtain ⟨rfl, hr⟩ := hr); (have HS1 := hidLL (HS0.out.step hf hr)); (have HX1 := hidLL (HX0.out.step hf)); (obtain ⟨c0, c1, c2, c3⟩ := HX1.out.cells); rw [hq0, Option.bind_some] at HR; (have hd1 := enterR_d hq0); clear hf hr)
      | (go_at_call 90; refine (HLv.out _).mono ?_; rintro e w' ⟨rfl, h9⟩; subst w'))
      go_end0
      (obtain rfl : R = some (leaveR s4) := HR.out)
      exact ⟨HZ.out.1, rfl, HZ.out.2⟩
  cases h2 : (t.kind.toList == [110, 111, 116])
  rotate_left
  · have hL : lvC t.kind = 2 := by unfold lvC; rw [if_neg (by rw [eqB_of h0 (x := wOr) rfl]; simp), if_neg (by rw [eqB_of h1 (x := wAnd) rfl]; simp), if_pos (eqB_of h2 rfl)]
    have HLv := hidLL (fun W => levelOfCondition_q t.kind W)
    rw [hL] at HLv
    have hll : ¬ (2 : Int) < l := by omega
    match e : t.kids with
    | [] =>
      have HKn : Hid (t.kids[0]? = none) := by show _ = _; rw [e]; rfl
      obtain ⟨z0, z1, n0, n1, hOk⟩ := hO.is
      have hwp := hS.wr.in
      have HX0 := hidLL (BX.new hN hwp)
      have HS0 := hidLL (hS.alloc (.cells (ndT t ka kc) 25))
      obtain ⟨W0, hW0⟩ : ∃ W0, W0 = w.alloc (.cells (ndT t ka kc) 25) := ⟨_, rfl⟩
      rw [← hW0] at HX0 HS0
      have HW : Hid (W0 = w.alloc (.cells #[.string t.kind, .string t.word, .int .i64 t.num, .slice ka t.kids.length kc] 25)) := hW0
      obtain ⟨R, hR⟩ : ∃ R, R = condG t s := ⟨_, rfl⟩
      rw [← hR]
      rw [condG_not (by rw [eqB_of h0 (x := wOr) rfl, eqB_of h1 (x := wAnd) rfl]; simp) (eqB_of h2 rfl), e] at hR
      have HR := hidLL hR
      obtain ⟨c0, c1, c2, c3⟩ := HX0.out.cells
      have HRn : Hid (R = none) := by show _ = _; rw [hR]; try cases enterR s <;> rfl
      clear hR hW0 hN e
      unfold ndT
      (obtain rfl : R = none := HRn.out)
      go_enter Tryz.func46, Tryz.ntmps46
      go_upto_region 1 with fail
      rw [← HW.out]
      go_wp2_with (first
      | (go_at_call 92; refine (kid_none (i := 0) HS2.out.wr HKn.out).mono ?_; rintro e W3 ⟨⟨p, rfl⟩, hb⟩; exact (show _ ∧ _ from ⟨rfl, HS2.out.fr.trans (WFr.of hb (Nat.le_of_lt HS2.out.wr.in)), ⟨_, rfl⟩⟩))
      | (go_at_call 45; refine (put1_q HS1.out.wr (x := wNot) (by decide)).mono ?_; rintro e W2 ⟨hf, hr⟩; revert hr; (split); (· rintro ⟨p, rfl⟩; exact (show _ ∧ _ from ⟨rfl, HS1.out.fr.trans hf, ⟨_, rfl⟩⟩)); rintro ⟨rfl, hr⟩; (have HS2 := hidLL (HS1.out.step hf hr)); (have HX2 := hidLL (HX1.out.step hf)); (obtain ⟨c0, c1, c2, c3⟩ := HX2.out.cells); clear hf hr)
      | (go_at_call 91; refine (wenter_q HS0.out.wr).mono ?_; rintro e W1 ⟨hf, hr⟩; revert hr; (split); (· rintro ⟨p, rfl⟩; exact (show _ ∧ _ from ⟨rfl, HS0.out.fr.trans hf, ⟨_, rfl⟩⟩)); rintro ⟨rfl, hr⟩; (have HS1 := hidLL (HS0.out.step hf hr)); (have HX1 := hidLL (HX0.out.step hf)); (obtain ⟨c0, c1, c2, c3⟩ := HX1.out.cells); clear hf hr)
      | (go_at_call 90; refine (HLv.out _).mono ?_; rintro e w' ⟨rfl, h9⟩; subst w'))
    | a :: r =>
      have HKa : Hid (t.kids[0]? = some a) := by show _ = _; rw [e]; rfl
      have HIa := hidLL (ih 0 a HKa.out)
      obtain ⟨z0, z1, n0, n1, hOk⟩ := hO.is
      have hwp := hS.wr.in
      have HX0 := hidLL (BX.new hN hwp)
      have HS0 := hidLL (hS.alloc (.cells (ndT t ka kc) 25))
      obtain ⟨W0, hW0⟩ : ∃ W0, W0 = w.alloc (.cells (ndT t ka kc) 25) := ⟨_, rfl⟩
      rw [← hW0] at HX0 HS0
      have HW : Hid (W0 = w.alloc (.cells #[.string t.kind, .string t.word, .int .i64 t.num, .slice ka t.kids.length kc] 25)) := hW0
      obtain ⟨R, hR⟩ : ∃ R, R = condG t s := ⟨_, rfl⟩
      rw [← hR]
      rw [condG_not (by rw [eqB_of h0 (x := wOr) rfl, eqB_of h1 (x := wAnd) rfl]; simp) (eqB_of h2 rfl), e] at hR
      have HR := hidLL hR
      obtain ⟨c0, c1, c2, c3⟩ := HX0.out.cells
      clear hR hW0 hN e
      unfold ndT
      go_enter Tryz.func46, Tryz.ntmps46
      go_upto_region 1 with fail
      rw [← HW.out]
      go_wp2_with (first
      | (go_at_call 94; refine (wleave_q HS4.out.wr (by omega)).mono ?_; rintro e W5 ⟨hf, rfl, hr⟩; (have HZ := hidLL (And.intro (HS4.out.fr.trans hf) hr)); clear hf hr)
      | (go_at_call 46; refine (HIa.out _ _ _ _ _ _ 2 (by first | rfl | simp | omega) HS3.out.here HNa.out (by first | omega | decide)).mono ?_; rintro e W4 ⟨hf, hr⟩; rcases hq2 : condR a 2 s2 with _ | s3; (· rw [hq2] at hr; (obtain ⟨p, rfl⟩ := hr); (obtain rfl : R = none := (by rw [HR.out, hq2]; try rfl)); exact (show _ ∧ _ from ⟨rfl, HS3.out.fr.trans hf, ⟨_, rfl⟩⟩)); rw [hq2] at hr; (obtain ⟨rfl, hr⟩ := hr); (have HS4 := hidLL (HS3.out.step hf hr)); (have HX4 := hidLL (HX3.out.step hf)); (obtain ⟨c0, c1, c2, c3⟩ := HX4.out.cells); rw [hq2] at HR; (have hd3 := condR_d hq2); clear hf hr)
      | (go_at_call 92; revert HX2; intro HX2; (obtain ⟨ka0, kc0, hnt, hcall⟩ := kid_some (i := 0) HX2.out.nt HKa.out); refine hcall.mono ?_; rintro e W3 ⟨rfl, hb⟩; (have HS3 := hidLL (HS2.out.grow hb)); (have HX3 := hidLL (HX2.out.step (WFr.of hb (Nat.le_of_lt HS2.out.wr.in)))); (have HNa := hidLL (hnt.step (P' := (· < wp)) (fun k hk => ⟨hb.block k (Nat.lt_trans hk HS2.out.wr.in), hk⟩))); (obtain ⟨c0, c1, c2, c3⟩ := HX3.out.cells); clear hb hnt hcall)
      | (go_at_call 45; refine (put1_q HS1.out.wr (x := wNot) (by decide)).mono ?_; rintro e W2 ⟨hf, hr⟩; rcases hq1 : putR s1 wNot with _ | s2; (· rw [hq1] at hr; (obtain ⟨p, rfl⟩ := hr); (obtain rfl : R = none := (by rw [HR.out, hq1]; try rfl)); exact (show _ ∧ _ from ⟨rfl, HS1.out.fr.trans hf, ⟨_, rfl⟩⟩)); rw [hq1] at hr; (obtain ⟨rfl, hr⟩ := hr); (have HS2 := hidLL (HS1.out.step hf hr)); (have HX2 := hidLL (HX1.out.step hf)); (obtain ⟨c0, c1, c2, c3⟩ := HX2.out.cells); rw [hq1, Option.bind_some] at HR; (have hd2 := putR_d hq1); clear hf hr)
      | (go_at_call 91; refine (wenter_q HS0.out.wr).mono ?_; rintro e W1 ⟨hf, hr⟩; rcases hq0 : enterR s with _ | s1; (· rw [hq0] at hr; (obtain ⟨p, rfl⟩ := hr); (obtain rfl : R = none := (by rw [HR.out, hq0]; try rfl)); exact (show _ ∧ _ from ⟨rfl, HS0.out.fr.trans hf, ⟨_, rfl⟩⟩)); rw [hq0] at hr; (obtain ⟨rfl, hr⟩ := hr); (have HS1 := hidLL (HS0.out.step hf hr)); (have HX1 := hidLL (HX0.out.step hf)); (obtain ⟨c0, c1, c2, c3⟩ := HX1.out.cells); rw [hq0, Option.bind_some] at HR; (have hd1 := enterR_d hq0); clear hf hr)
      | (go_at_call 90; refine (HLv.out _).mono ?_; rintro e w' ⟨rfl, h9⟩; subst w'))
      go_end0
      (obtain rfl : R = some (leaveR s3) := HR.out)
      exact ⟨HZ.out.1, rfl, HZ.out.2⟩
  have hL : lvC t.kind = 3 := by unfold lvC; rw [if_neg (by rw [eqB_of h0 (x := wOr) rfl]; simp), if_neg (by rw [eqB_of h1 (x := wAnd) rfl]; simp), if_neg (by rw [eqB_of h2 (x := wNot) rfl]; simp)]
  have HLv := hidLL (fun W => levelOfCondition_q t.kind W)
  rw [hL] at HLv
  have hll : ¬ (3 : Int) < l := by omega
  cases h3 : (t.kind.toList == [115, 111, 109, 101])
  rotate_left
  · match e : t.kids with
    | [] =>
      have HKn : Hid (t.kids[0]? = none) := by show _ = _; rw [e]; rfl
      obtain ⟨z0, z1, n0, n1, hOk⟩ := hO.is
      have hwp := hS.wr.in
      have HX0 := hidLL (BX.new hN hwp)
      have HS0 := hidLL (hS.alloc (.cells (ndT t ka kc) 25))
      obtain ⟨W0, hW0⟩ : ∃ W0, W0 = w.alloc (.cells (ndT t ka kc) 25) := ⟨_, rfl⟩
      rw [← hW0] at HX0 HS0
      have HW : Hid (W0 = w.alloc (.cells #[.string t.kind, .string t.word, .int .i64 t.num, .slice ka t.kids.length kc] 25)) := hW0
      obtain ⟨R, hR⟩ : ∃ R, R = condG t s := ⟨_, rfl⟩
      rw [← hR]
      rw [condG_of (by rw [eqB_of h0 (x := wOr) rfl, eqB_of h1 (x := wAnd) rfl]; simp) (by rw [eqB_of h2 (x := wNot) rfl]; simp) (.inl (eqB_of h3 rfl)), e] at hR
      have HR := hidLL hR
      obtain ⟨c0, c1, c2, c3⟩ := HX0.out.cells
      have HRn : Hid (R = none) := by show _ = _; rw [hR]; try cases enterR s <;> rfl
      clear hR hW0 hN e
      unfold ndT
      (obtain rfl : R = none := HRn.out)
      go_enter Tryz.func46, Tryz.ntmps46
      go_upto_region 1 with fail
      rw [← HW.out]
      go_wp2_with (first
      | (go_at_call 92; refine (kid_none (i := 0) HS2.out.wr HKn.out).mono ?_; rintro e W3 ⟨⟨p, rfl⟩, hb⟩; exact (show _ ∧ _ from ⟨rfl, HS2.out.fr.trans (WFr.of hb (Nat.le_of_lt HS2.out.wr.in)), ⟨_, rfl⟩⟩))
      | (go_at_call 45; refine (put3_q HS1.out.wr z0 z1 (z := sg 40) (by decide)).mono ?_; rintro e W2 ⟨hf, hr⟩; revert hr; (split); (· rintro ⟨p, rfl⟩; exact (show _ ∧ _ from ⟨rfl, HS1.out.fr.trans hf, ⟨_, rfl⟩⟩)); rintro ⟨rfl, hr⟩; (have HS2 := hidLL (HS1.out.step hf hr)); (have HX2 := hidLL (HX1.out.step hf)); (obtain ⟨c0, c1, c2, c3⟩ := HX2.out.cells); clear hf hr)
      | (go_at_call 91; refine (wenter_q HS0.out.wr).mono ?_; rintro e W1 ⟨hf, hr⟩; revert hr; (split); (· rintro ⟨p, rfl⟩; exact (show _ ∧ _ from ⟨rfl, HS0.out.fr.trans hf, ⟨_, rfl⟩⟩)); rintro ⟨rfl, hr⟩; (have HS1 := hidLL (HS0.out.step hf hr)); (have HX1 := hidLL (HX0.out.step hf)); (obtain ⟨c0, c1, c2, c3⟩ := HX1.out.cells); clear hf hr)
      | (go_at_call 90; refine (HLv.out _).mono ?_; rintro e w' ⟨rfl, h9⟩; subst w'))
    | a :: r =>
      have HKa : Hid (t.kids[0]? = some a) := by show _ = _; rw [e]; rfl
      have HIa := hidLL (ih 0 a HKa.out)
      obtain ⟨z0, z1, n0, n1, hOk⟩ := hO.is
      have hwp := hS.wr.in
      have HX0 := hidLL (BX.new hN hwp)
      have HS0 := hidLL (hS.alloc (.cells (ndT t ka kc) 25))
      obtain ⟨W0, hW0⟩ : ∃ W0, W0 = w.alloc (.cells (ndT t ka kc) 25) := ⟨_, rfl⟩
      rw [← hW0] at HX0 HS0
      have HW : Hid (W0 = w.alloc (.cells #[.string t.kind, .string t.word, .int .i64 t.num, .slice ka t.kids.length kc] 25)) := hW0
      obtain ⟨R, hR⟩ : ∃ R, R = condG t s := ⟨_, rfl⟩
      rw [← hR]
      rw [condG_of (by rw [eqB_of h0 (x := wOr) rfl, eqB_of h1 (x := wAnd) rfl]; simp) (by rw [eqB_of h2 (x := wNot) rfl]; simp) (.inl (eqB_of h3 rfl)), e] at hR
      have HR := hidLL hR
      obtain ⟨c0, c1, c2, c3⟩ := HX0.out.cells
      clear hR hW0 hN e
      unfold ndT
      go_enter Tryz.func46, Tryz.ntmps46
      go_upto_region 1 with fail
      rw [← HW.out]
      go_wp2_with (first
      | (go_at_call 94; refine (wleave_q HS5.out.wr (by omega)).mono ?_; rintro e W6 ⟨hf, rfl, hr⟩; (have HZ := hidLL (And.intro (HS5.out.fr.trans hf) hr)); clear hf hr)
      | (go_at_call 45; refine (put1_q HS4.out.wr (x := sg 41) (by decide)).mono ?_; rintro e W5 ⟨hf, hr⟩; rcases hq3 : putR s3 (sg 41) with _ | s4; (· rw [hq3] at hr; (obtain ⟨p, rfl⟩ := hr); (obtain rfl : R = none := (by rw [HR.out, hq3]; try rfl)); exact (show _ ∧ _ from ⟨rfl, HS4.out.fr.trans hf, ⟨_, rfl⟩⟩)); rw [hq3] at hr; (obtain ⟨rfl, hr⟩ := hr); (have HS5 := hidLL (HS4.out.step hf hr)); (have HX5 := hidLL (HX4.out.step hf)); (obtain ⟨c0, c1, c2, c3⟩ := HX5.out.cells); rw [hq3] at HR; (have hd4 := putR_d hq3); clear hf hr)
      | (go_at_call 46; refine (HIa.out _ _ _ _ _ _ 0 (by first | rfl | simp | omega) HS3.out.here HNa.out (by first | omega | decide)).mono ?_; rintro e W4 ⟨hf, hr⟩; rcases hq2 : condR a 0 s2 with _ | s3; (· rw [hq2] at hr; (obtain ⟨p, rfl⟩ := hr); (obtain rfl : R = none := (by rw [HR.out, hq2]; try rfl)); exact (show _ ∧ _ from ⟨rfl, HS3.out.fr.trans hf, ⟨_, rfl⟩⟩)); rw [hq2] at hr; (obtain ⟨rfl, hr⟩ := hr); (have HS4 := hidLL (HS3.out.step hf hr)); (have HX4 := hidLL (HX3.out.step hf)); (obtain ⟨c0, c1, c2, c3⟩ := HX4.out.cells); rw [hq2, Option.bind_some] at HR; (have hd3 := condR_d hq2); clear hf hr)
      | (go_at_call 92; revert HX2; intro HX2; (obtain ⟨ka0, kc0, hnt, hcall⟩ := kid_some (i := 0) HX2.out.nt HKa.out); refine hcall.mono ?_; rintro e W3 ⟨rfl, hb⟩; (have HS3 := hidLL (HS2.out.grow hb)); (have HX3 := hidLL (HX2.out.step (WFr.of hb (Nat.le_of_lt HS2.out.wr.in)))); (have HNa := hidLL (hnt.step (P' := (· < wp)) (fun k hk => ⟨hb.block k (Nat.lt_trans hk HS2.out.wr.in), hk⟩))); (obtain ⟨c0, c1, c2, c3⟩ := HX3.out.cells); clear hb hnt hcall)
      | (go_at_call 45; refine (put3_q HS1.out.wr z0 z1 (z := sg 40) (by decide)).mono ?_; rintro e W2 ⟨hf, hr⟩; rcases hq1 : putsR s1 [t.kind, t.word, sg 40] with _ | s2; (· rw [hq1] at hr; (obtain ⟨p, rfl⟩ := hr); (obtain rfl : R = none := (by rw [HR.out, hq1]; try rfl)); exact (show _ ∧ _ from ⟨rfl, HS1.out.fr.trans hf, ⟨_, rfl⟩⟩)); rw [hq1] at hr; (obtain ⟨rfl, hr⟩ := hr); (have HS2 := hidLL (HS1.out.step hf hr)); (have HX2 := hidLL (HX1.out.step hf)); (obtain ⟨c0, c1, c2, c3⟩ := HX2.out.cells); rw [hq1, Option.bind_some] at HR; (have hd2 := putsR_d hq1); clear hf hr)
      | (go_at_call 91; refine (wenter_q HS0.out.wr).mono ?_; rintro e W1 ⟨hf, hr⟩; rcases hq0 : enterR s with _ | s1; (· rw [hq0] at hr; (obtain ⟨p, rfl⟩ := hr); (obtain rfl : R = none := (by rw [HR.out, hq0]; try rfl)); exact (show _ ∧ _ from ⟨rfl, HS0.out.fr.trans hf, ⟨_, rfl⟩⟩)); rw [hq0] at hr; (obtain ⟨rfl, hr⟩ := hr); (have HS1 := hidLL (HS0.out.step hf hr)); (have HX1 := hidLL (HX0.out.step hf)); (obtain ⟨c0, c1, c2, c3⟩ := HX1.out.cells); rw [hq0, Option.bind_some] at HR; (have hd1 := enterR_d hq0); clear hf hr)
      | (go_at_call 90; refine (HLv.out _).mono ?_; rintro e w' ⟨rfl, h9⟩; subst w'))
      go_end0
      (obtain rfl : R = some (leaveR s4) := HR.out)
      exact ⟨HZ.out.1, rfl, HZ.out.2⟩
  cases h4 : (t.kind.toList == [101, 118, 101, 114, 121])
  rotate_left
  · match e : t.kids with
    | [] =>
      have HKn : Hid (t.kids[0]? = none) := by show _ = _; rw [e]; rfl
      obtain ⟨z0, z1, n0, n1, hOk⟩ := hO.is
      have hwp := hS.wr.in
      have HX0 := hidLL (BX.new hN hwp)
      have HS0 := hidLL (hS.alloc (.cells (ndT t ka kc) 25))
      obtain ⟨W0, hW0⟩ : ∃ W0, W0 = w.alloc (.cells (ndT t ka kc) 25) := ⟨_, rfl⟩
      rw [← hW0] at HX0 HS0
      have HW : Hid (W0 = w.alloc (.cells #[.string t.kind, .string t.word, .int .i64 t.num, .slice ka t.kids.length kc] 25)) := hW0
      obtain ⟨R, hR⟩ : ∃ R, R = condG t s := ⟨_, rfl⟩
      rw [← hR]
      rw [condG_of (by rw [eqB_of h0 (x := wOr) rfl, eqB_of h1 (x := wAnd) rfl]; simp) (by rw [eqB_of h2 (x := wNot) rfl]; simp) (.inr (eqB_of h4 rfl)), e] at hR
      have HR := hidLL hR
      obtain ⟨c0, c1, c2, c3⟩ := HX0.out.cells
      have HRn : Hid (R = none) := by show _ = _; rw [hR]; try cases enterR s <;> rfl
      clear hR hW0 hN e
      unfold ndT
      (obtain rfl : R = none := HRn.out)
      go_enter Tryz.func46, Tryz.ntmps46
      go_upto_region 1 with fail
      rw [← HW.out]
      go_wp2_with (first
      | (go_at_call 92; refine (kid_none (i := 0) HS2.out.wr HKn.out).mono ?_; rintro e W3 ⟨⟨p, rfl⟩, hb⟩; exact (show _ ∧ _ from ⟨rfl, HS2.out.fr.trans (WFr.of hb (Nat.le_of_lt HS2.out.wr.in)), ⟨_, rfl⟩⟩))
      | (go_at_call 45; refine (put3_q HS1.out.wr z0 z1 (z := sg 40) (by decide)).mono ?_; rintro e W2 ⟨hf, hr⟩; revert hr; (split); (· rintro ⟨p, rfl⟩; exact (show _ ∧ _ from ⟨rfl, HS1.out.fr.trans hf, ⟨_, rfl⟩⟩)); rintro ⟨rfl, hr⟩; (have HS2 := hidLL (HS1.out.step hf hr)); (have HX2 := hidLL (HX1.out.step hf)); (obtain ⟨c0, c1, c2, c3⟩ := HX2.out.cells); clear hf hr)
      | (go_at_call 91; refine (wenter_q HS0.out.wr).mono ?_; rintro e W1 ⟨hf, hr⟩; revert hr; (split); (· rintro ⟨p, rfl⟩; exact (show _ ∧ _ from ⟨rfl, HS0.out.fr.trans hf, ⟨_, rfl⟩⟩)); rintro ⟨rfl, hr⟩; (have HS1 := hidLL (HS0.out.step hf hr)); (have HX1 := hidLL (HX0.out.step hf)); (obtain ⟨c0, c1, c2, c3⟩ := HX1.out.cells); clear hf hr)
      | (go_at_call 90; refine (HLv.out _).mono ?_; rintro e w' ⟨rfl, h9⟩; subst w'))
    | a :: r =>
      have HKa : Hid (t.kids[0]? = some a) := by show _ = _; rw [e]; rfl
      have HIa := hidLL (ih 0 a HKa.out)
      obtain ⟨z0, z1, n0, n1, hOk⟩ := hO.is
      have hwp := hS.wr.in
      have HX0 := hidLL (BX.new hN hwp)
      have HS0 := hidLL (hS.alloc (.cells (ndT t ka kc) 25))
      obtain ⟨W0, hW0⟩ : ∃ W0, W0 = w.alloc (.cells (ndT t ka kc) 25) := ⟨_, rfl⟩
      rw [← hW0] at HX0 HS0
      have HW : Hid (W0 = w.alloc (.cells #[.string t.kind, .string t.word, .int .i64 t.num, .slice ka t.kids.length kc] 25)) := hW0
      obtain ⟨R, hR⟩ : ∃ R, R = condG t s := ⟨_, rfl⟩
      rw [← hR]
      rw [condG_of (by rw [eqB_of h0 (x := wOr) rfl, eqB_of h1 (x := wAnd) rfl]; simp) (by rw [eqB_of h2 (x := wNot) rfl]; simp) (.inr (eqB_of h4 rfl)), e] at hR
      have HR := hidLL hR
      obtain ⟨c0, c1, c2, c3⟩ := HX0.out.cells
      clear hR hW0 hN e
      unfold ndT
      go_enter Tryz.func46, Tryz.ntmps46
      go_upto_region 1 with fail
      rw [← HW.out]
      go_wp2_with (first
      | (go_at_call 94; refine (wleave_q HS5.out.wr (by omega)).mono ?_; rintro e W6 ⟨hf, rfl, hr⟩; (have HZ := hidLL (And.intro (HS5.out.fr.trans hf) hr)); clear hf hr)
      | (go_at_call 45; refine (put1_q HS4.out.wr (x := sg 41) (by decide)).mono ?_; rintro e W5 ⟨hf, hr⟩; rcases hq3 : putR s3 (sg 41) with _ | s4; (· rw [hq3] at hr; (obtain ⟨p, rfl⟩ := hr); (obtain rfl : R = none := (by rw [HR.out, hq3]; try rfl)); exact (show _ ∧ _ from ⟨rfl, HS4.out.fr.trans hf, ⟨_, rfl⟩⟩)); rw [hq3] at hr; (obtain ⟨rfl, hr⟩ := hr); (have HS5 := hidLL (HS4.out.step hf hr)); (have HX5 := hidLL (HX4.out.step hf)); (obtain ⟨c0, c1, c2, c3⟩ := HX5.out.cells); rw [hq3] at HR; (have hd4 := putR_d hq3); clear hf hr)
      | (go_at_call 46; refine (HIa.out _ _ _ _ _ _ 0 (by first | rfl | simp | omega) HS3.out.here HNa.out (by first | omega | decide)).mono ?_; rintro e W4 ⟨hf, hr⟩; rcases hq2 : condR a 0 s2 with _ | s3; (· rw [hq2] at hr; (obtain ⟨p, rfl⟩ := hr); (obtain rfl : R = none := (by rw [HR.out, hq2]; try rfl)); exact (show _ ∧ _ from ⟨rfl, HS3.out.fr.trans hf, ⟨_, rfl⟩⟩)); rw [hq2] at hr; (obtain ⟨rfl, hr⟩ := hr); (have HS4 := hidLL (HS3.out.step hf hr)); (have HX4 := hidLL (HX3.out.step hf)); (obtain ⟨c0, c1, c2, c3⟩ := HX4.out.cells); rw [hq2, Option.bind_some] at HR; (have hd3 := condR_d hq2); clear hf hr)
      | (go_at_call 92; revert HX2; intro HX2; (obtain ⟨ka0, kc0, hnt, hcall⟩ := kid_some (i := 0) HX2.out.nt HKa.out); refine hcall.mono ?_; rintro e W3 ⟨rfl, hb⟩; (have HS3 := hidLL (HS2.out.grow hb)); (have HX3 := hidLL (HX2.out.step (WFr.of hb (Nat.le_of_lt HS2.out.wr.in)))); (have HNa := hidLL (hnt.step (P' := (· < wp)) (fun k hk => ⟨hb.block k (Nat.lt_trans hk HS2.out.wr.in), hk⟩))); (obtain ⟨c0, c1, c2, c3⟩ := HX3.out.cells); clear hb hnt hcall)
      | (go_at_call 45; refine (put3_q HS1.out.wr z0 z1 (z := sg 40) (by decide)).mono ?_; rintro e W2 ⟨hf, hr⟩; rcases hq1 : putsR s1 [t.kind, t.word, sg 40] with _ | s2; (· rw [hq1] at hr; (obtain ⟨p, rfl⟩ := hr); (obtain rfl : R = none := (by rw [HR.out, hq1]; try rfl)); exact (show _ ∧ _ from ⟨rfl, HS1.out.fr.trans hf, ⟨_, rfl⟩⟩)); rw [hq1] at hr; (obtain ⟨rfl, hr⟩ := hr); (have HS2 := hidLL (HS1.out.step hf hr)); (have HX2 := hidLL (HX1.out.step hf)); (obtain ⟨c0, c1, c2, c3⟩ := HX2.out.cells); rw [hq1, Option.bind_some] at HR; (have hd2 := putsR_d hq1); clear hf hr)
      | (go_at_call 91; refine (wenter_q HS0.out.wr).mono ?_; rintro e W1 ⟨hf, hr⟩; rcases hq0 : enterR s with _ | s1; (· rw [hq0] at hr; (obtain ⟨p, rfl⟩ := hr); (obtain rfl : R = none := (by rw [HR.out, hq0]; try rfl)); exact (show _ ∧ _ from ⟨rfl, HS0.out.fr.trans hf, ⟨_, rfl⟩⟩)); rw [hq0] at hr; (obtain ⟨rfl, hr⟩ := hr); (have HS1 := hidLL (HS0.out.step hf hr)); (have HX1 := hidLL (HX0.out.step hf)); (obtain ⟨c0, c1, c2, c3⟩ := HX1.out.cells); rw [hq0, Option.bind_some] at HR; (have hd1 := enterR_d hq0); clear hf hr)
      | (go_at_call 90; refine (HLv.out _).mono ?_; rintro e w' ⟨rfl, h9⟩; subst w'))
      go_end0
      (obtain rfl : R = some (leaveR s4) := HR.out)
      exact ⟨HZ.out.1, rfl, HZ.out.2⟩
  cases h5 : (t.kind.toList == [110, 97, 109, 101])
  rotate_left
  · obtain ⟨z0, z1, n0, n1, hOk⟩ := hO.is
    have hwp := hS.wr.in
    have HX0 := hidLL (BX.new hN hwp)
    have HS0 := hidLL (hS.alloc (.cells (ndT t ka kc) 25))
    obtain ⟨W0, hW0⟩ : ∃ W0, W0 = w.alloc (.cells (ndT t ka kc) 25) := ⟨_, rfl⟩
    rw [← hW0] at HX0 HS0
    have HW : Hid (W0 = w.alloc (.cells #[.string t.kind, .string t.word, .int .i64 t.num, .slice ka t.kids.length kc] 25)) := hW0
    obtain ⟨R, hR⟩ : ∃ R, R = condG t s := ⟨_, rfl⟩
    rw [← hR]
    rw [condG_name (by rw [eqB_of h0 (x := wOr) rfl, eqB_of h1 (x := wAnd) rfl]; simp) (by rw [eqB_of h2 (x := wNot) rfl]; simp) (by rw [eqB_of h3 (x := wSome) rfl, eqB_of h4 (x := wEvery) rfl]; simp) (eqB_of h5 rfl)] at hR
    have HR := hidLL hR
    obtain ⟨c0, c1, c2, c3⟩ := HX0.out.cells
    clear hR hW0 hN
    unfold ndT
    go_enter Tryz.func46, Tryz.ntmps46
    go_upto_region 1 with fail
    rw [← HW.out]
    go_wp2_with (first
      | (go_at_call 94; refine (wleave_q HS2.out.wr (by omega)).mono ?_; rintro e W3 ⟨hf, rfl, hr⟩; (have HZ := hidLL (And.intro (HS2.out.fr.trans hf) hr)); clear hf hr)
      | (go_at_call 45; refine (put1_q HS1.out.wr z1).mono ?_; rintro e W2 ⟨hf, hr⟩; rcases hq1 : putR s1 t.word with _ | s2; (· rw [hq1] at hr; (obtain ⟨p, rfl⟩ := hr); (obtain rfl : R = none := (by rw [HR.out, hq1]; try rfl)); exact (show _ ∧ _ from ⟨rfl, HS1.out.fr.trans hf, ⟨_, rfl⟩⟩)); rw [hq1] at hr; (obtain ⟨rfl, hr⟩ := hr); (have HS2 := hidLL (HS1.out.step hf hr)); (have HX2 := hidLL (HX1.out.step hf)); (obtain ⟨c0, c1, c2, c3⟩ := HX2.out.cells); rw [hq1] at HR; (have hd2 := putR_d hq1); clear hf hr)
      | (go_at_call 91; refine (wenter_q HS0.out.wr).mono ?_; rintro e W1 ⟨hf, hr⟩; rcases hq0 : enterR s with _ | s1; (· rw [hq0] at hr; (obtain ⟨p, rfl⟩ := hr); (obtain rfl : R = none := (by rw [HR.out, hq0]; try rfl)); exact (show _ ∧ _ from ⟨rfl, HS0.out.fr.trans hf, ⟨_, rfl⟩⟩)); rw [hq0] at hr; (obtain ⟨rfl, hr⟩ := hr); (have HS1 := hidLL (HS0.out.step hf hr)); (have HX1 := hidLL (HX0.out.step hf)); (obtain ⟨c0, c1, c2, c3⟩ := HX1.out.cells); rw [hq0, Option.bind_some] at HR; (have hd1 := enterR_d hq0); clear hf hr)
      | (go_at_call 90; refine (HLv.out _).mono ?_; rintro e w' ⟨rfl, h9⟩; subst w'))
    go_end0
    (obtain rfl : R = some (leaveR s2) := HR.out)
    exact ⟨HZ.out.1, rfl, HZ.out.2⟩
  obtain ⟨z0, z1, n0, n1, hOk⟩ := hO.is
  have hwp := hS.wr.in
  have HX0 := hidLL (BX.new hN hwp)
  have HS0 := hidLL (hS.alloc (.cells (ndT t ka kc) 25))
  obtain ⟨W0, hW0⟩ : ∃ W0, W0 = w.alloc (.cells (ndT t ka kc) 25) := ⟨_, rfl⟩
  rw [← hW0] at HX0 HS0
  have HW : Hid (W0 = w.alloc (.cells #[.string t.kind, .string t.word, .int .i64 t.num, .slice ka t.kids.length kc] 25)) := hW0
  obtain ⟨R, hR⟩ : ∃ R, R = condG t s := ⟨_, rfl⟩
  rw [← hR]
  rw [condG_cmp (by rw [eqB_of h0 (x := wOr) rfl, eqB_of h1 (x := wAnd) rfl]; simp) (by rw [eqB_of h2 (x := wNot) rfl]; simp) (by rw [eqB_of h3 (x := wSome) rfl, eqB_of h4 (x := wEvery) rfl]; simp) (by rw [eqB_of h5 (x := wName) rfl]; simp)] at hR
  have HR := hidLL hR
  obtain ⟨c0, c1, c2, c3⟩ := HX0.out.cells
  clear hR hW0 hN
  unfold ndT
  go_enter Tryz.func46, Tryz.ntmps46
  go_upto_region 1 with fail
  rw [← HW.out]
  go_wp2_with (first
      | (go_at_call 94; refine (wleave_q HS2.out.wr (by omega)).mono ?_; rintro e W3 ⟨hf, rfl, hr⟩; (have HZ := hidLL (And.intro (HS2.out.fr.trans hf) hr)); clear hf hr)
      | (go_at_call 93; refine (hF _ _ _ _ _ HS1.out.here HX1.out.nt).mono ?_; rintro e W2 ⟨hf, hr⟩; rcases hq1 : cmpG t s1 with _ | s2; (· rw [hq1] at hr; (obtain ⟨p, rfl⟩ := hr); (obtain rfl : R = none := (by rw [HR.out, hq1]; try rfl)); exact (show _ ∧ _ from ⟨rfl, HS1.out.fr.trans hf, ⟨_, rfl⟩⟩)); rw [hq1] at hr; (obtain ⟨rfl, hr⟩ := hr); (have HS2 := hidLL (HS1.out.step hf hr)); (have HX2 := hidLL (HX1.out.step hf)); (obtain ⟨c0, c1, c2, c3⟩ := HX2.out.cells); rw [hq1] at HR; (have hd2 := cmpG_d hq1); clear hf hr)
      | (go_at_call 91; refine (wenter_q HS0.out.wr).mono ?_; rintro e W1 ⟨hf, hr⟩; rcases hq0 : enterR s with _ | s1; (· rw [hq0] at hr; (obtain ⟨p, rfl⟩ := hr); (obtain rfl : R = none := (by rw [HR.out, hq0]; try rfl)); exact (show _ ∧ _ from ⟨rfl, HS0.out.fr.trans hf, ⟨_, rfl⟩⟩)); rw [hq0] at hr; (obtain ⟨rfl, hr⟩ := hr); (have HS1 := hidLL (HS0.out.step hf hr)); (have HX1 := hidLL (HX0.out.step hf)); (obtain ⟨c0, c1, c2, c3⟩ := HX1.out.cells); rw [hq0, Option.bind_some] at HR; (have hd1 := enterR_d hq0); clear hf hr)
      | (go_at_call 90; refine (HLv.out _).mono ?_; rintro e w' ⟨rfl, h9⟩; subst w'))
  go_end0
  (obtain rfl : R = some (leaveR s2) := HR.out)
  exact ⟨HZ.out.1, rfl, HZ.out.2⟩
set_option maxHeartbeats 2000000 in
theorem conI_q {t : Tn} (hO : TnOk t) (hB : ConB t) : ConI t := by
  intro w wp s ka kc l lv hl hS hN hlv
  by_cases hlt : lvC t.kind < lv
  case neg =>
    have e : condR t lv s = condG t s := by unfold condR brC; rw [if_neg hlt]
    rw [e]
    exact hB w wp s ka kc l lv hl hS hN (by omega)
  case pos =>
    have e : condR t lv s = (putR s (sg 40)).bind fun s => (condG t s).bind fun s => putR s (sg 41) := by unfold condR brC; rw [if_pos hlt]
    have HLv := hidLL (fun W => levelOfCondition_q t.kind W)
    have hlb := lvC_le t.kind
    generalize hLL : lvC t.kind = LL at *
    have hll : (LL : Int) < l := by omega
    have HB : Hid (ConB t) := hB
    obtain ⟨z0, z1, n0, n1, hOk⟩ := hO.is
    have hwp := hS.wr.in
    have HX0 := hidLL (BX.new hN hwp)
    have HS0 := hidLL (hS.alloc (.cells (ndT t ka kc) 25))
    obtain ⟨W0, hW0⟩ : ∃ W0, W0 = w.alloc (.cells (ndT t ka kc) 25) := ⟨_, rfl⟩
    rw [← hW0] at HX0 HS0
    have HW : Hid (W0 = w.alloc (.cells #[.string t.kind, .string t.word, .int .i64 t.num, .slice ka t.kids.length kc] 25)) := hW0
    obtain ⟨R, hR⟩ : ∃ R, R = condR t lv s := ⟨_, rfl⟩
    rw [← hR]
    rw [e] at hR
    have HR := hidLL hR
    obtain ⟨c0, c1, c2, c3⟩ := HX0.out.cells
    clear hR hW0 hN e hlv hlt
    unfold ndT
    go_enter Tryz.func46, Tryz.ntmps46
    go_upto_region 1 with fail
    rw [← HW.out]
    go_wp2_with (first
      | (go_at_call 45; refine (put1_q HS2.out.wr (x := sg 41) (by decide)).mono ?_; rintro e W3 ⟨hf, hr⟩; rcases hq2 : putR s2 (sg 41) with _ | s3; (· rw [hq2] at hr; (obtain ⟨p, rfl⟩ := hr); (obtain rfl : R = none := (by rw [HR.out, hq2]; try rfl)); exact (show _ ∧ _ from ⟨rfl, HS2.out.fr.trans hf, ⟨_, rfl⟩⟩)); rw [hq2] at hr; (obtain ⟨rfl, hr⟩ := hr); (have HS3 := hidLL (HS2.out.step hf hr)); (have HX3 := hidLL (HX2.out.step hf)); (obtain ⟨c0, c1, c2, c3⟩ := HX3.out.cells); rw [hq2] at HR; (have hd3 := putR_d hq2); clear hf hr)
      | (go_at_call 46; refine (HB.out _ _ _ _ _ 0 0 rfl HS1.out.here HX1.out.nt (Nat.zero_le _)).mono ?_; rintro e W2 ⟨hf, hr⟩; rcases hq1 : condG t s1 with _ | s2; (· rw [hq1] at hr; (obtain ⟨p, rfl⟩ := hr); (obtain rfl : R = none := (by rw [HR.out, hq1]; try rfl)); exact (show _ ∧ _ from ⟨rfl, HS1.out.fr.trans hf, ⟨_, rfl⟩⟩)); rw [hq1] at hr; (obtain ⟨rfl, hr⟩ := hr); (have HS2 := hidLL (HS1.out.step hf hr)); (have HX2 := hidLL (HX1.out.step hf)); (obtain ⟨c0, c1, c2, c3⟩ := HX2.out.cells); rw [hq1, Option.bind_some] at HR; (have hd2 := condG_d _ _ rfl _ _ hq1); clear hf hr)
      | (go_at_call 45; refine (put1_q HS0.out.wr (x := sg 40) (by decide)).mono ?_; rintro e W1 ⟨hf, hr⟩; rcases hq0 : putR s (sg 40) with _ | s1; (· rw [hq0] at hr; (obtain ⟨p, rfl⟩ := hr); (obtain rfl : R = none := (by rw [HR.out, hq0]; try rfl)); exact (show _ ∧ _ from ⟨rfl, HS0.out.fr.trans hf, ⟨_, rfl⟩⟩)); rw [hq0] at hr; (obtain ⟨rfl, hr⟩ := hr); (have HS1 := hidLL (HS0.out.step hf hr)); (have HX1 := hidLL (HX0.out.step hf)); (obtain ⟨c0, c1, c2, c3⟩ := HX1.out.cells); rw [hq0, Option.bind_some] at HR; (have hd1 := putR_d hq0); clear hf hr)
      | (go_at_call 90; refine (HLv.out _).mono ?_; rintro e w' ⟨rfl, h9⟩; subst w'))
    first | go_end0 | refine bodyPost_ret (results_none rfl _ _ _) rfl ?_
    (obtain rfl : R = some s3 := HR.out)
    exact ⟨HS3.out.fr, rfl, HS3.out.wr⟩
/-- Conditions, whatever they are. -/
theorem cond_q : ∀ (n : Nat) (t : Tn), SizeOf.sizeOf t = n → TnOk t → ConI t := by
  intro n
  induction n using Nat.strongRecOn with
  | _ n ih =>
    intro t ht hO
    have ihk : ∀ (i : Nat) (k : Tn), t.kids[i]? = some k → ConI k := fun i k hk => ih _ (by have := kids_lt hk; omega) k rfl (hO.is.2.2.2.2 i k hk)
    exact conI_q hO (conB_q hO ihk (comparison_q hO fun i k hk => sum_q _ k rfl (hO.is.2.2.2.2 i k hk)))
end Go.Proofs.YtehbinobohjadaaGreatDoor

/-
  The program's writer: factors (written by tools/genwr.py).
-/
import Derived.Test.YtehbinobohjadaaGreatDoorBk25
import Derived.Deep.RegionWith
namespace Go.Proofs.YtehbinobohjadaaGreatDoor
open Go.RowKit Go.Sort Go.Extern.Stop Go.Stop Go.Extern

theorem field_nd (a b c d : Value) (w : World) : (Instr.field 25 (.agg #[a, b, c, d]) 1).run Tryz.prog w = .ok b w := by kernel_rfl
set_option maxHeartbeats 4000000 in
theorem factor_q {t : Tn} (hO : TnOk t) (ih : ∀ (i : Nat) (k : Tn), t.kids[i]? = some k → SumI k) : FacI t := by
  intro w wp s ka kc hS hN
  cases h0 : (t.kind.toList == [110, 117, 109, 98, 101, 114])
  rotate_left
  · obtain ⟨z0, z1, n0, n1, hOk⟩ := hO.is
    have hwp := hS.wr.in
    have HX0 := hidLL (BX.new hN hwp)
    have HS0 := hidLL (hS.alloc (.cells (ndT t ka kc) 25))
    obtain ⟨W0, hW0⟩ : ∃ W0, W0 = w.alloc (.cells (ndT t ka kc) 25) := ⟨_, rfl⟩
    rw [← hW0] at HX0 HS0
    have HW : Hid (W0 = w.alloc (.cells #[.string t.kind, .string t.word, .int .i64 t.num, .slice ka t.kids.length kc] 25)) := hW0
    obtain ⟨R, hR⟩ : ∃ R, R = facG t s := ⟨_, rfl⟩
    rw [← hR]
    rw [facG, if_pos (eqB_of h0 rfl)] at hR
    have HR := hidLL hR
    obtain ⟨c0, c1, c2, c3⟩ := HX0.out.cells
    clear hR hW0 hN
    unfold ndT
    go_enter Tryz.func127, Tryz.ntmps127
    go_upto_region 1 with fail
    rw [← HW.out]
    go_wp2_with (first
      | (go_at_call 45; refine (put1_q HS1.out.wr (numT_size n0 n1)).mono ?_; rintro e W2 ⟨hf, hr⟩; rcases hq0 : putR s (numT t.num) with _ | s1; (· rw [hq0] at hr; (obtain ⟨p, rfl⟩ := hr); (obtain rfl : R = none := (by rw [HR.out, hq0]; try rfl)); exact (show _ ∧ _ from ⟨rfl, HS1.out.fr.trans hf, ⟨_, rfl⟩⟩)); rw [hq0] at hr; (obtain ⟨rfl, hr⟩ := hr); (have HS2 := hidLL (HS1.out.step hf hr)); (have HX2 := hidLL (HX1.out.step hf)); (obtain ⟨c0, c1, c2, c3⟩ := HX2.out.cells); rw [hq0] at HR; (have hd1 := putR_d hq0); clear hf hr)
      | (go_at_call 126; refine (numberText_q HS0.out.tb n0 n1).mono ?_; rintro e W1 ⟨rfl, hb⟩; (have HS1 := hidLL (HS0.out.grow hb)); (have HX1 := hidLL (HX0.out.step (WFr.of hb (Nat.le_of_lt HS0.out.wr.in)))); (obtain ⟨c0, c1, c2, c3⟩ := HX1.out.cells); clear hb))
    go_end0
    (obtain rfl : R = some s1 := HR.out)
    exact ⟨HS2.out.fr, rfl, HS2.out.wr⟩
  cases h1 : (t.kind.toList == [110, 97, 109, 101])
  rotate_left
  · obtain ⟨z0, z1, n0, n1, hOk⟩ := hO.is
    have hwp := hS.wr.in
    have HX0 := hidLL (BX.new hN hwp)
    have HS0 := hidLL (hS.alloc (.cells (ndT t ka kc) 25))
    obtain ⟨W0, hW0⟩ : ∃ W0, W0 = w.alloc (.cells (ndT t ka kc) 25) := ⟨_, rfl⟩
    rw [← hW0] at HX0 HS0
    have HW : Hid (W0 = w.alloc (.cells #[.string t.kind, .string t.word, .int .i64 t.num, .slice ka t.kids.length kc] 25)) := hW0
    obtain ⟨R, hR⟩ : ∃ R, R = facG t s := ⟨_, rfl⟩
    rw [← hR]
    rw [facG, if_neg (by rw [eqB_of h0 (x := wNumber) rfl]; simp), if_pos (eqB_of h1 rfl)] at hR
    have HR := hidLL hR
    obtain ⟨c0, c1, c2, c3⟩ := HX0.out.cells
    clear hR hW0 hN
    unfold ndT
    go_enter Tryz.func127, Tryz.ntmps127
    go_upto_region 1 with fail
    rw [← HW.out]
    go_wp2_with (first
      | (go_at_call 45; refine (put1_q HS0.out.wr z1).mono ?_; rintro e W1 ⟨hf, hr⟩; rcases hq0 : putR s t.word with _ | s1; (· rw [hq0] at hr; (obtain ⟨p, rfl⟩ := hr); (obtain rfl : R = none := (by rw [HR.out, hq0]; try rfl)); exact (show _ ∧ _ from ⟨rfl, HS0.out.fr.trans hf, ⟨_, rfl⟩⟩)); rw [hq0] at hr; (obtain ⟨rfl, hr⟩ := hr); (have HS1 := hidLL (HS0.out.step hf hr)); (have HX1 := hidLL (HX0.out.step hf)); (obtain ⟨c0, c1, c2, c3⟩ := HX1.out.cells); rw [hq0] at HR; (have hd1 := putR_d hq0); clear hf hr))
    go_end0
    (obtain rfl : R = some s1 := HR.out)
    exact ⟨HS1.out.fr, rfl, HS1.out.wr⟩
  cases h2 : (t.kind.toList == [99, 111, 117, 110, 116])
  rotate_left
  · obtain ⟨z0, z1, n0, n1, hOk⟩ := hO.is
    have hwp := hS.wr.in
    have HX0 := hidLL (BX.new hN hwp)
    have HS0 := hidLL (hS.alloc (.cells (ndT t ka kc) 25))
    obtain ⟨W0, hW0⟩ : ∃ W0, W0 = w.alloc (.cells (ndT t ka kc) 25) := ⟨_, rfl⟩
    rw [← hW0] at HX0 HS0
    have HW : Hid (W0 = w.alloc (.cells #[.string t.kind, .string t.word, .int .i64 t.num, .slice ka t.kids.length kc] 25)) := hW0
    obtain ⟨R, hR⟩ : ∃ R, R = facG t s := ⟨_, rfl⟩
    rw [← hR]
    rw [facG, if_neg (by rw [eqB_of h0 (x := wNumber) rfl]; simp), if_neg (by rw [eqB_of h1 (x := wName) rfl]; simp), if_pos (eqB_of h2 rfl)] at hR
    have HR := hidLL hR
    obtain ⟨c0, c1, c2, c3⟩ := HX0.out.cells
    clear hR hW0 hN
    unfold ndT
    go_enter Tryz.func127, Tryz.ntmps127
    go_upto_region 1 with fail
    rw [← HW.out]
    go_wp2_with (first
      | (go_at_call 45; refine (put2_q HS0.out.wr (x := wCount) (by decide) z1).mono ?_; rintro e W1 ⟨hf, hr⟩; rcases hq0 : putsR s [wCount, t.word] with _ | s1; (· rw [hq0] at hr; (obtain ⟨p, rfl⟩ := hr); (obtain rfl : R = none := (by rw [HR.out, hq0]; try rfl)); exact (show _ ∧ _ from ⟨rfl, HS0.out.fr.trans hf, ⟨_, rfl⟩⟩)); rw [hq0] at hr; (obtain ⟨rfl, hr⟩ := hr); (have HS1 := hidLL (HS0.out.step hf hr)); (have HX1 := hidLL (HX0.out.step hf)); (obtain ⟨c0, c1, c2, c3⟩ := HX1.out.cells); rw [hq0] at HR; (have hd1 := putsR_d hq0); clear hf hr))
    go_end0
    (obtain rfl : R = some s1 := HR.out)
    exact ⟨HS1.out.fr, rfl, HS1.out.wr⟩
  cases h3 : (t.kind.toList == [116, 111, 116, 97, 108])
  rotate_left
  · match e : t.kids with
    | [] =>
      have HKn : Hid (t.kids[0]? = none) := by show _ = _; rw [e]; rfl
      obtain ⟨z0, z1, n0, n1, hOk⟩ := hO.is
      have hwp := hS.wr.in
      have HX0 := hidLL (BX.new hN hwp)
      have HS0 := hidLL (hS.alloc (.cells (ndT t ka kc) 25))
      obtain ⟨W0, hW0⟩ : ∃ W0, W0 = w.alloc (.cells (ndT t ka kc) 25) := ⟨_, rfl⟩
      rw [← hW0] at HX0 HS0
      have HW : Hid (W0 = w.alloc (.cells #[.string t.kind, .string t.word, .int .i64 t.num, .slice ka t.kids.length kc] 25)) := hW0
      obtain ⟨R, hR⟩ : ∃ R, R = facG t s := ⟨_, rfl⟩
      rw [← hR]
      rw [facG, if_neg (by rw [eqB_of h0 (x := wNumber) rfl]; simp), if_neg (by rw [eqB_of h1 (x := wName) rfl]; simp), if_neg (by rw [eqB_of h2 (x := wCount) rfl]; simp), if_pos (eqB_of h3 rfl), e] at hR
      have HR := hidLL hR
      obtain ⟨c0, c1, c2, c3⟩ := HX0.out.cells
      have HRn : Hid (R = none) := by show _ = _; rw [hR]; try rfl
      clear hR hW0 hN e
      have HS1 := hidLL (HS0.out.grow ((Below.refl _ W0).drew))
      have HX1 := hidLL (HX0.out.step (WFr.of ((Below.refl _ W0).drew) (Nat.le_of_lt HS0.out.wr.in)))
      have HC : Hid (Calls Tryz.prog 92 #[.agg (ndT t ka kc), .int .i64 (0 : Nat)] W0.drew fun e w' => (ThrT e ∨ (e = .returned (.agg (ndT t ka kc)) ∧ False)) ∧ Below W0.drew.heap.size W0.drew w') := (kid_none (i := 0) (t := t) (ka := ka) (kc := kc) HS1.out.wr HKn.out).mono fun e w' h => ⟨.inl h.1, h.2⟩
      obtain rfl : R = none := HRn.out
      have hfd : ∀ V, (Instr.field 25 (.agg (ndT t ka kc)) 1).run Tryz.prog V = .ok (.string t.word) V := fun V => field_nd _ _ _ _ V
      unfold ndT
      go_enter Tryz.func127, Tryz.ntmps127
      go_upto_region 1 with fail
      rw [← HW.out]
      go_upto_region 10 with fail
      go_region_with (first | (go_at_call 45; refine (put4_q HS2.out.wr (x := wTotal) (by decide) z1 (z := wOf) (by decide) z1).mono ?_; rintro e W3 ⟨hf, hr⟩; revert hr; (split); (· rintro ⟨p, rfl⟩; exact (show _ ∧ _ from ⟨rfl, HS2.out.fr.trans hf, ⟨_, rfl⟩⟩)); rintro ⟨rfl, hr⟩; clear hf hr) | (go_at_call 92; refine HC.out.mono ?_; rintro e W2 ⟨⟨p, rfl⟩ | ⟨rfl, hF⟩, hb⟩; (· exact (show _ ∧ _ from ⟨rfl, HS1.out.fr.trans (WFr.of hb (Nat.le_of_lt HS1.out.wr.in)), ⟨_, rfl⟩⟩)); (have HF := hidLL hF); (have HS2 := hidLL (HS1.out.grow hb)); (have HX2 := hidLL (HX1.out.step (WFr.of hb (Nat.le_of_lt HS1.out.wr.in)))); (obtain ⟨c0, c1, c2, c3⟩ := HX2.out.cells); clear hb hF))
      all_goals exact HF.out.elim
    | a :: r =>
      have HKa : Hid (t.kids[0]? = some a) := by show _ = _; rw [e]; rfl
      have HIa := hidLL (ih 0 a HKa.out)
      obtain ⟨z0, z1, n0, n1, hOk⟩ := hO.is
      have hwp := hS.wr.in
      have HX0 := hidLL (BX.new hN hwp)
      have HS0 := hidLL (hS.alloc (.cells (ndT t ka kc) 25))
      obtain ⟨W0, hW0⟩ : ∃ W0, W0 = w.alloc (.cells (ndT t ka kc) 25) := ⟨_, rfl⟩
      rw [← hW0] at HX0 HS0
      have HW : Hid (W0 = w.alloc (.cells #[.string t.kind, .string t.word, .int .i64 t.num, .slice ka t.kids.length kc] 25)) := hW0
      obtain ⟨R, hR⟩ : ∃ R, R = facG t s := ⟨_, rfl⟩
      rw [← hR]
      rw [facG, if_neg (by rw [eqB_of h0 (x := wNumber) rfl]; simp), if_neg (by rw [eqB_of h1 (x := wName) rfl]; simp), if_neg (by rw [eqB_of h2 (x := wCount) rfl]; simp), if_pos (eqB_of h3 rfl), e] at hR
      have HR := hidLL hR
      obtain ⟨c0, c1, c2, c3⟩ := HX0.out.cells
      clear hR hW0 hN e
      have HS1 := hidLL (HS0.out.grow ((Below.refl _ W0).drew))
      have HX1 := hidLL (HX0.out.step (WFr.of ((Below.refl _ W0).drew) (Nat.le_of_lt HS0.out.wr.in)))
      obtain ⟨ka0, kc0, hnt, hcall⟩ := kid_some (i := 0) HX1.out.nt HKa.out
      have HC := hidLL hcall
      have hfd : ∀ V, (Instr.field 25 (.agg (ndT a ka0 kc0)) 1).run Tryz.prog V = .ok (.string a.word) V := fun V => field_nd _ _ _ _ V
      clear hnt hcall
      unfold ndT
      go_enter Tryz.func127, Tryz.ntmps127
      go_upto_region 1 with fail
      rw [← HW.out]
      go_upto_region 10 with fail
      go_region_with (first | (go_at_call 45; refine (put4_q HS2.out.wr (x := wTotal) (by decide) z1 (z := wOf) (by decide) (hOk 0 a HKa.out).is.2.1).mono ?_; rintro e W3 ⟨hf, hr⟩; rcases hq0 : putsR s [wTotal, t.word, wOf, a.word] with _ | s1; (· rw [hq0] at hr; (obtain ⟨p, rfl⟩ := hr); (obtain rfl : R = none := (by rw [HR.out, hq0]; try rfl)); exact (show _ ∧ _ from ⟨rfl, HS2.out.fr.trans hf, ⟨_, rfl⟩⟩)); rw [hq0] at hr; (obtain ⟨rfl, hr⟩ := hr); (have HS3 := hidLL (HS2.out.step hf hr)); (have HX3 := hidLL (HX2.out.step hf)); (obtain ⟨c0, c1, c2, c3⟩ := HX3.out.cells); rw [hq0] at HR; (have hd1 := putsR_d hq0); clear hf hr) | (go_at_call 92; refine HC.out.mono ?_; rintro e W2 ⟨rfl, hb⟩; (have HS2 := hidLL (HS1.out.grow hb)); (have HX2 := hidLL (HX1.out.step (WFr.of hb (Nat.le_of_lt HS1.out.wr.in)))); (obtain ⟨c0, c1, c2, c3⟩ := HX2.out.cells); clear hb))
      all_goals go_wp2
      all_goals go_end0
      all_goals (obtain rfl : R = some s1 := HR.out)
      all_goals exact ⟨HS3.out.fr, rfl, HS3.out.wr⟩
  cases h4 : (t.kind.toList == [109, 97, 120])
  rotate_left
  · match e : t.kids with
    | [] =>
      have HKn : Hid (t.kids[0]? = none) := by show _ = _; rw [e]; rfl
      obtain ⟨z0, z1, n0, n1, hOk⟩ := hO.is
      have hwp := hS.wr.in
      have HX0 := hidLL (BX.new hN hwp)
      have HS0 := hidLL (hS.alloc (.cells (ndT t ka kc) 25))
      obtain ⟨W0, hW0⟩ : ∃ W0, W0 = w.alloc (.cells (ndT t ka kc) 25) := ⟨_, rfl⟩
      rw [← hW0] at HX0 HS0
      have HW : Hid (W0 = w.alloc (.cells #[.string t.kind, .string t.word, .int .i64 t.num, .slice ka t.kids.length kc] 25)) := hW0
      obtain ⟨R, hR⟩ : ∃ R, R = facG t s := ⟨_, rfl⟩
      rw [← hR]
      rw [facG, if_neg (by rw [eqB_of h0 (x := wNumber) rfl]; simp), if_neg (by rw [eqB_of h1 (x := wName) rfl]; simp), if_neg (by rw [eqB_of h2 (x := wCount) rfl]; simp), if_neg (by rw [eqB_of h3 (x := wTotal) rfl]; simp), if_pos (.inl (eqB_of h4 rfl)), e] at hR
      have HR := hidLL hR
      obtain ⟨c0, c1, c2, c3⟩ := HX0.out.cells
      have HRn : Hid (R = none) := by show _ = _; rw [hR]; try rfl
      clear hR hW0 hN e
      unfold ndT
      (obtain rfl : R = none := HRn.out)
      go_enter Tryz.func127, Tryz.ntmps127
      go_upto_region 1 with fail
      rw [← HW.out]
      go_wp2_with (first
      | (go_at_call 92; refine (kid_none (i := 0) HS1.out.wr HKn.out).mono ?_; rintro e W2 ⟨⟨p, rfl⟩, hb⟩; exact (show _ ∧ _ from ⟨rfl, HS1.out.fr.trans (WFr.of hb (Nat.le_of_lt HS1.out.wr.in)), ⟨_, rfl⟩⟩))
      | (go_at_call 45; refine (put2_q HS0.out.wr z0 (y := sg 40) (by decide)).mono ?_; rintro e W1 ⟨hf, hr⟩; revert hr; (split); (· rintro ⟨p, rfl⟩; exact (show _ ∧ _ from ⟨rfl, HS0.out.fr.trans hf, ⟨_, rfl⟩⟩)); rintro ⟨rfl, hr⟩; (have HS1 := hidLL (HS0.out.step hf hr)); (have HX1 := hidLL (HX0.out.step hf)); (obtain ⟨c0, c1, c2, c3⟩ := HX1.out.cells); clear hf hr))
    | [a] =>
      have HKa : Hid (t.kids[0]? = some a) := by show _ = _; rw [e]; rfl
      have HIa := hidLL (ih 0 a HKa.out)
      have HKn : Hid (t.kids[1]? = none) := by show _ = _; rw [e]; rfl
      obtain ⟨z0, z1, n0, n1, hOk⟩ := hO.is
      have hwp := hS.wr.in
      have HX0 := hidLL (BX.new hN hwp)
      have HS0 := hidLL (hS.alloc (.cells (ndT t ka kc) 25))
      obtain ⟨W0, hW0⟩ : ∃ W0, W0 = w.alloc (.cells (ndT t ka kc) 25) := ⟨_, rfl⟩
      rw [← hW0] at HX0 HS0
      have HW : Hid (W0 = w.alloc (.cells #[.string t.kind, .string t.word, .int .i64 t.num, .slice ka t.kids.length kc] 25)) := hW0
      obtain ⟨R, hR⟩ : ∃ R, R = facG t s := ⟨_, rfl⟩
      rw [← hR]
      rw [facG, if_neg (by rw [eqB_of h0 (x := wNumber) rfl]; simp), if_neg (by rw [eqB_of h1 (x := wName) rfl]; simp), if_neg (by rw [eqB_of h2 (x := wCount) rfl]; simp), if_neg (by rw [eqB_of h3 (x := wTotal) rfl]; simp), if_pos (.inl (eqB_of h4 rfl)), e] at hR
      have HR := hidLL hR
      obtain ⟨c0, c1, c2, c3⟩ := HX0.out.cells
      have HRn : Hid (R = none) := by show _ = _; rw [hR]; try rfl
      clear hR hW0 hN e
      unfold ndT
      (obtain rfl : R = none := HRn.out)
      go_enter Tryz.func127, Tryz.ntmps127
      go_upto_region 1 with fail
      rw [← HW.out]
      go_wp2_with (first
      | (go_at_call 92; refine (kid_none (i := 1) HS4.out.wr HKn.out).mono ?_; rintro e W5 ⟨⟨p, rfl⟩, hb⟩; exact (show _ ∧ _ from ⟨rfl, HS4.out.fr.trans (WFr.of hb (Nat.le_of_lt HS4.out.wr.in)), ⟨_, rfl⟩⟩))
      | (go_at_call 45; refine (put1_q HS3.out.wr (x := sg 44) (by decide)).mono ?_; rintro e W4 ⟨hf, hr⟩; revert hr; (split); (· rintro ⟨p, rfl⟩; exact (show _ ∧ _ from ⟨rfl, HS3.out.fr.trans hf, ⟨_, rfl⟩⟩)); rintro ⟨rfl, hr⟩; (have HS4 := hidLL (HS3.out.step hf hr)); (have HX4 := hidLL (HX3.out.step hf)); (obtain ⟨c0, c1, c2, c3⟩ := HX4.out.cells); clear hf hr)
      | (go_at_call 98; refine (HIa.out _ _ _ _ _ _ 0 (by first | rfl | simp | omega) HS2.out.here HNa.out (by first | omega | decide)).mono ?_; rintro e W3 ⟨hf, hr⟩; revert hr; (split); (· rintro ⟨p, rfl⟩; exact (show _ ∧ _ from ⟨rfl, HS2.out.fr.trans hf, ⟨_, rfl⟩⟩)); rintro ⟨rfl, hr⟩; (have HS3 := hidLL (HS2.out.step hf hr)); (have HX3 := hidLL (HX2.out.step hf)); (obtain ⟨c0, c1, c2, c3⟩ := HX3.out.cells); clear hf hr)
      | (go_at_call 92; revert HX1; intro HX1; (obtain ⟨ka0, kc0, hnt, hcall⟩ := kid_some (i := 0) HX1.out.nt HKa.out); refine hcall.mono ?_; rintro e W2 ⟨rfl, hb⟩; (have HS2 := hidLL (HS1.out.grow hb)); (have HX2 := hidLL (HX1.out.step (WFr.of hb (Nat.le_of_lt HS1.out.wr.in)))); (have HNa := hidLL (hnt.step (P' := (· < wp)) (fun k hk => ⟨hb.block k (Nat.lt_trans hk HS1.out.wr.in), hk⟩))); (obtain ⟨c0, c1, c2, c3⟩ := HX2.out.cells); clear hb hnt hcall)
      | (go_at_call 45; refine (put2_q HS0.out.wr z0 (y := sg 40) (by decide)).mono ?_; rintro e W1 ⟨hf, hr⟩; revert hr; (split); (· rintro ⟨p, rfl⟩; exact (show _ ∧ _ from ⟨rfl, HS0.out.fr.trans hf, ⟨_, rfl⟩⟩)); rintro ⟨rfl, hr⟩; (have HS1 := hidLL (HS0.out.step hf hr)); (have HX1 := hidLL (HX0.out.step hf)); (obtain ⟨c0, c1, c2, c3⟩ := HX1.out.cells); clear hf hr))
    | a :: b :: r =>
      have HKa : Hid (t.kids[0]? = some a) := by show _ = _; rw [e]; rfl
      have HIa := hidLL (ih 0 a HKa.out)
      have HKb : Hid (t.kids[1]? = some b) := by show _ = _; rw [e]; rfl
      have HIb := hidLL (ih 1 b HKb.out)
      obtain ⟨z0, z1, n0, n1, hOk⟩ := hO.is
      have hwp := hS.wr.in
      have HX0 := hidLL (BX.new hN hwp)
      have HS0 := hidLL (hS.alloc (.cells (ndT t ka kc) 25))
      obtain ⟨W0, hW0⟩ : ∃ W0, W0 = w.alloc (.cells (ndT t ka kc) 25) := ⟨_, rfl⟩
      rw [← hW0] at HX0 HS0
      have HW : Hid (W0 = w.alloc (.cells #[.string t.kind, .string t.word, .int .i64 t.num, .slice ka t.kids.length kc] 25)) := hW0
      obtain ⟨R, hR⟩ : ∃ R, R = facG t s := ⟨_, rfl⟩
      rw [← hR]
      rw [facG, if_neg (by rw [eqB_of h0 (x := wNumber) rfl]; simp), if_neg (by rw [eqB_of h1 (x := wName) rfl]; simp), if_neg (by rw [eqB_of h2 (x := wCount) rfl]; simp), if_neg (by rw [eqB_of h3 (x := wTotal) rfl]; simp), if_pos (.inl (eqB_of h4 rfl)), e] at hR
      have HR := hidLL hR
      obtain ⟨c0, c1, c2, c3⟩ := HX0.out.cells
      clear hR hW0 hN e
      unfold ndT
      go_enter Tryz.func127, Tryz.ntmps127
      go_upto_region 1 with fail
      rw [← HW.out]
      go_wp2_with (first
      | (go_at_call 45; refine (put1_q HS6.out.wr (x := sg 41) (by decide)).mono ?_; rintro e W7 ⟨hf, hr⟩; rcases hq4 : putR s4 (sg 41) with _ | s5; (· rw [hq4] at hr; (obtain ⟨p, rfl⟩ := hr); (obtain rfl : R = none := (by rw [HR.out, hq4]; try rfl)); exact (show _ ∧ _ from ⟨rfl, HS6.out.fr.trans hf, ⟨_, rfl⟩⟩)); rw [hq4] at hr; (obtain ⟨rfl, hr⟩ := hr); (have HS7 := hidLL (HS6.out.step hf hr)); (have HX7 := hidLL (HX6.out.step hf)); (obtain ⟨c0, c1, c2, c3⟩ := HX7.out.cells); rw [hq4] at HR; (have hd5 := putR_d hq4); clear hf hr)
      | (go_at_call 98; refine (HIb.out _ _ _ _ _ _ 0 (by first | rfl | simp | omega) HS5.out.here HNb.out (by first | omega | decide)).mono ?_; rintro e W6 ⟨hf, hr⟩; rcases hq3 : sumR b 0 s3 with _ | s4; (· rw [hq3] at hr; (obtain ⟨p, rfl⟩ := hr); (obtain rfl : R = none := (by rw [HR.out, hq3]; try rfl)); exact (show _ ∧ _ from ⟨rfl, HS5.out.fr.trans hf, ⟨_, rfl⟩⟩)); rw [hq3] at hr; (obtain ⟨rfl, hr⟩ := hr); (have HS6 := hidLL (HS5.out.step hf hr)); (have HX6 := hidLL (HX5.out.step hf)); (obtain ⟨c0, c1, c2, c3⟩ := HX6.out.cells); rw [hq3, Option.bind_some] at HR; (have hd4 := sumR_d hq3); clear hf hr)
      | (go_at_call 92; revert HX4; intro HX4; (obtain ⟨ka1, kc1, hnt, hcall⟩ := kid_some (i := 1) HX4.out.nt HKb.out); refine hcall.mono ?_; rintro e W5 ⟨rfl, hb⟩; (have HS5 := hidLL (HS4.out.grow hb)); (have HX5 := hidLL (HX4.out.step (WFr.of hb (Nat.le_of_lt HS4.out.wr.in)))); (have HNb := hidLL (hnt.step (P' := (· < wp)) (fun k hk => ⟨hb.block k (Nat.lt_trans hk HS4.out.wr.in), hk⟩))); (obtain ⟨c0, c1, c2, c3⟩ := HX5.out.cells); clear hb hnt hcall)
      | (go_at_call 45; refine (put1_q HS3.out.wr (x := sg 44) (by decide)).mono ?_; rintro e W4 ⟨hf, hr⟩; rcases hq2 : putR s2 (sg 44) with _ | s3; (· rw [hq2] at hr; (obtain ⟨p, rfl⟩ := hr); (obtain rfl : R = none := (by rw [HR.out, hq2]; try rfl)); exact (show _ ∧ _ from ⟨rfl, HS3.out.fr.trans hf, ⟨_, rfl⟩⟩)); rw [hq2] at hr; (obtain ⟨rfl, hr⟩ := hr); (have HS4 := hidLL (HS3.out.step hf hr)); (have HX4 := hidLL (HX3.out.step hf)); (obtain ⟨c0, c1, c2, c3⟩ := HX4.out.cells); rw [hq2, Option.bind_some] at HR; (have hd3 := putR_d hq2); clear hf hr)
      | (go_at_call 98; refine (HIa.out _ _ _ _ _ _ 0 (by first | rfl | simp | omega) HS2.out.here HNa.out (by first | omega | decide)).mono ?_; rintro e W3 ⟨hf, hr⟩; rcases hq1 : sumR a 0 s1 with _ | s2; (· rw [hq1] at hr; (obtain ⟨p, rfl⟩ := hr); (obtain rfl : R = none := (by rw [HR.out, hq1]; try rfl)); exact (show _ ∧ _ from ⟨rfl, HS2.out.fr.trans hf, ⟨_, rfl⟩⟩)); rw [hq1] at hr; (obtain ⟨rfl, hr⟩ := hr); (have HS3 := hidLL (HS2.out.step hf hr)); (have HX3 := hidLL (HX2.out.step hf)); (obtain ⟨c0, c1, c2, c3⟩ := HX3.out.cells); rw [hq1, Option.bind_some] at HR; (have hd2 := sumR_d hq1); clear hf hr)
      | (go_at_call 92; revert HX1; intro HX1; (obtain ⟨ka0, kc0, hnt, hcall⟩ := kid_some (i := 0) HX1.out.nt HKa.out); refine hcall.mono ?_; rintro e W2 ⟨rfl, hb⟩; (have HS2 := hidLL (HS1.out.grow hb)); (have HX2 := hidLL (HX1.out.step (WFr.of hb (Nat.le_of_lt HS1.out.wr.in)))); (have HNa := hidLL (hnt.step (P' := (· < wp)) (fun k hk => ⟨hb.block k (Nat.lt_trans hk HS1.out.wr.in), hk⟩))); (obtain ⟨c0, c1, c2, c3⟩ := HX2.out.cells); clear hb hnt hcall)
      | (go_at_call 45; refine (put2_q HS0.out.wr z0 (y := sg 40) (by decide)).mono ?_; rintro e W1 ⟨hf, hr⟩; rcases hq0 : putsR s [t.kind, sg 40] with _ | s1; (· rw [hq0] at hr; (obtain ⟨p, rfl⟩ := hr); (obtain rfl : R = none := (by rw [HR.out, hq0]; try rfl)); exact (show _ ∧ _ from ⟨rfl, HS0.out.fr.trans hf, ⟨_, rfl⟩⟩)); rw [hq0] at hr; (obtain ⟨rfl, hr⟩ := hr); (have HS1 := hidLL (HS0.out.step hf hr)); (have HX1 := hidLL (HX0.out.step hf)); (obtain ⟨c0, c1, c2, c3⟩ := HX1.out.cells); rw [hq0, Option.bind_some] at HR; (have hd1 := putsR_d hq0); clear hf hr))
      go_end0
      (obtain rfl : R = some s5 := HR.out)
      exact ⟨HS7.out.fr, rfl, HS7.out.wr⟩
  cases h5 : (t.kind.toList == [109, 105, 110])
  rotate_left
  · match e : t.kids with
    | [] =>
      have HKn : Hid (t.kids[0]? = none) := by show _ = _; rw [e]; rfl
      obtain ⟨z0, z1, n0, n1, hOk⟩ := hO.is
      have hwp := hS.wr.in
      have HX0 := hidLL (BX.new hN hwp)
      have HS0 := hidLL (hS.alloc (.cells (ndT t ka kc) 25))
      obtain ⟨W0, hW0⟩ : ∃ W0, W0 = w.alloc (.cells (ndT t ka kc) 25) := ⟨_, rfl⟩
      rw [← hW0] at HX0 HS0
      have HW : Hid (W0 = w.alloc (.cells #[.string t.kind, .string t.word, .int .i64 t.num, .slice ka t.kids.length kc] 25)) := hW0
      obtain ⟨R, hR⟩ : ∃ R, R = facG t s := ⟨_, rfl⟩
      rw [← hR]
      rw [facG, if_neg (by rw [eqB_of h0 (x := wNumber) rfl]; simp), if_neg (by rw [eqB_of h1 (x := wName) rfl]; simp), if_neg (by rw [eqB_of h2 (x := wCount) rfl]; simp), if_neg (by rw [eqB_of h3 (x := wTotal) rfl]; simp), if_pos (.inr (eqB_of h5 rfl)), e] at hR
      have HR := hidLL hR
      obtain ⟨c0, c1, c2, c3⟩ := HX0.out.cells
      have HRn : Hid (R = none) := by show _ = _; rw [hR]; try rfl
      clear hR hW0 hN e
      unfold ndT
      (obtain rfl : R = none := HRn.out)
      go_enter Tryz.func127, Tryz.ntmps127
      go_upto_region 1 with fail
      rw [← HW.out]
      go_wp2_with (first
      | (go_at_call 92; refine (kid_none (i := 0) HS1.out.wr HKn.out).mono ?_; rintro e W2 ⟨⟨p, rfl⟩, hb⟩; exact (show _ ∧ _ from ⟨rfl, HS1.out.fr.trans (WFr.of hb (Nat.le_of_lt HS1.out.wr.in)), ⟨_, rfl⟩⟩))
      | (go_at_call 45; refine (put2_q HS0.out.wr z0 (y := sg 40) (by decide)).mono ?_; rintro e W1 ⟨hf, hr⟩; revert hr; (split); (· rintro ⟨p, rfl⟩; exact (show _ ∧ _ from ⟨rfl, HS0.out.fr.trans hf, ⟨_, rfl⟩⟩)); rintro ⟨rfl, hr⟩; (have HS1 := hidLL (HS0.out.step hf hr)); (have HX1 := hidLL (HX0.out.step hf)); (obtain ⟨c0, c1, c2, c3⟩ := HX1.out.cells); clear hf hr))
    | [a] =>
      have HKa : Hid (t.kids[0]? = some a) := by show _ = _; rw [e]; rfl
      have HIa := hidLL (ih 0 a HKa.out)
      have HKn : Hid (t.kids[1]? = none) := by show _ = _; rw [e]; rfl
      obtain ⟨z0, z1, n0, n1, hOk⟩ := hO.is
      have hwp := hS.wr.in
      have HX0 := hidLL (BX.new hN hwp)
      have HS0 := hidLL (hS.alloc (.cells (ndT t ka kc) 25))
      obtain ⟨W0, hW0⟩ : ∃ W0, W0 = w.alloc (.cells (ndT t ka kc) 25) := ⟨_, rfl⟩
      rw [← hW0] at HX0 HS0
      have HW : Hid (W0 = w.alloc (.cells #[.string t.kind, .string t.word, .int .i64 t.num, .slice ka t.kids.length kc] 25)) := hW0
      obtain ⟨R, hR⟩ : ∃ R, R = facG t s := ⟨_, rfl⟩
      rw [← hR]
      rw [facG, if_neg (by rw [eqB_of h0 (x := wNumber) rfl]; simp), if_neg (by rw [eqB_of h1 (x := wName) rfl]; simp), if_neg (by rw [eqB_of h2 (x := wCount) rfl]; simp), if_neg (by rw [eqB_of h3 (x := wTotal) rfl]; simp), if_pos (.inr (eqB_of h5 rfl)), e] at hR
      have HR := hidLL hR
      obtain ⟨c0, c1, c2, c3⟩ := HX0.out.cells
      have HRn : Hid (R = none) := by show _ = _; rw [hR]; try rfl
      clear hR hW0 hN e
      unfold ndT
      (obtain rfl : R = none := HRn.out)
      go_enter Tryz.func127, Tryz.ntmps127
      go_upto_region 1 with fail
      rw [← HW.out]
      go_wp2_with (first
      | (go_at_call 92; refine (kid_none (i := 1) HS4.out.wr HKn.out).mono ?_; rintro e W5 ⟨⟨p, rfl⟩, hb⟩; exact (show _ ∧ _ from ⟨rfl, HS4.out.fr.trans (WFr.of hb (Nat.le_of_lt HS4.out.wr.in)), ⟨_, rfl⟩⟩))
      | (go_at_call 45; refine (put1_q HS3.out.wr (x := sg 44) (by decide)).mono ?_; rintro e W4 ⟨hf, hr⟩; revert hr; (split); (· rintro ⟨p, rfl⟩; exact (show _ ∧ _ from ⟨rfl, HS3.out.fr.trans hf, ⟨_, rfl⟩⟩)); rintro ⟨rfl, hr⟩; (have HS4 := hidLL (HS3.out.step hf hr)); (have HX4 := hidLL (HX3.out.step hf)); (obtain ⟨c0, c1, c2, c3⟩ := HX4.out.cells); clear hf hr)
      | (go_at_call 98; refine (HIa.out _ _ _ _ _ _ 0 (by first | rfl | simp | omega) HS2.out.here HNa.out (by first | omega | decide)).mono ?_; rintro e W3 ⟨hf, hr⟩; revert hr; (split); (· rintro ⟨p, rfl⟩; exact (show _ ∧ _ from ⟨rfl, HS2.out.fr.trans hf, ⟨_, rfl⟩⟩)); rintro ⟨rfl, hr⟩; (have HS3 := hidLL (HS2.out.step hf hr)); (have HX3 := hidLL (HX2.out.step hf)); (obtain ⟨c0, c1, c2, c3⟩ := HX3.out.cells); clear hf hr)
      | (go_at_call 92; revert HX1; intro HX1; (obtain ⟨ka0, kc0, hnt, hcall⟩ := kid_some (i := 0) HX1.out.nt HKa.out); refine hcall.mono ?_; rintro e W2 ⟨rfl, hb⟩; (have HS2 := hidLL (HS1.out.grow hb)); (have HX2 := hidLL (HX1.out.step (WFr.of hb (Nat.le_of_lt HS1.out.wr.in)))); (have HNa := hidLL (hnt.step (P' := (· < wp)) (fun k hk => ⟨hb.block k (Nat.lt_trans hk HS1.out.wr.in), hk⟩))); (obtain ⟨c0, c1, c2, c3⟩ := HX2.out.cells); clear hb hnt hcall)
      | (go_at_call 45; refine (put2_q HS0.out.wr z0 (y := sg 40) (by decide)).mono ?_; rintro e W1 ⟨hf, hr⟩; revert hr; (split); (· rintro ⟨p, rfl⟩; exact (show _ ∧ _ from ⟨rfl, HS0.out.fr.trans hf, ⟨_, rfl⟩⟩)); rintro ⟨rfl, hr⟩; (have HS1 := hidLL (HS0.out.step hf hr)); (have HX1 := hidLL (HX0.out.step hf)); (obtain ⟨c0, c1, c2, c3⟩ := HX1.out.cells); clear hf hr))
    | a :: b :: r =>
      have HKa : Hid (t.kids[0]? = some a) := by show _ = _; rw [e]; rfl
      have HIa := hidLL (ih 0 a HKa.out)
      have HKb : Hid (t.kids[1]? = some b) := by show _ = _; rw [e]; rfl
      have HIb := hidLL (ih 1 b HKb.out)
      obtain ⟨z0, z1, n0, n1, hOk⟩ := hO.is
      have hwp := hS.wr.in
      have HX0 := hidLL (BX.new hN hwp)
      have HS0 := hidLL (hS.alloc (.cells (ndT t ka kc) 25))
      obtain ⟨W0, hW0⟩ : ∃ W0, W0 = w.alloc (.cells (ndT t ka kc) 25) := ⟨_, rfl⟩
      rw [← hW0] at HX0 HS0
      have HW : Hid (W0 = w.alloc (.cells #[.string t.kind, .string t.word, .int .i64 t.num, .slice ka t.kids.length kc] 25)) := hW0
      obtain ⟨R, hR⟩ : ∃ R, R = facG t s := ⟨_, rfl⟩
      rw [← hR]
      rw [facG, if_neg (by rw [eqB_of h0 (x := wNumber) rfl]; simp), if_neg (by rw [eqB_of h1 (x := wName) rfl]; simp), if_neg (by rw [eqB_of h2 (x := wCount) rfl]; simp), if_neg (by rw [eqB_of h3 (x := wTotal) rfl]; simp), if_pos (.inr (eqB_of h5 rfl)), e] at hR
      have HR := hidLL hR
      obtain ⟨c0, c1, c2, c3⟩ := HX0.out.cells
      clear hR hW0 hN e
      unfold ndT
      go_enter Tryz.func127, Tryz.ntmps127
      go_upto_region 1 with fail
      rw [← HW.out]
      go_wp2_with (first
      | (go_at_call 45; refine (put1_q HS6.out.wr (x := sg 41) (by decide)).mono ?_; rintro e W7 ⟨hf, hr⟩; rcases hq4 : putR s4 (sg 41) with _ | s5; (· rw [hq4] at hr; (obtain ⟨p, rfl⟩ := hr); (obtain rfl : R = none := (by rw [HR.out, hq4]; try rfl)); exact (show _ ∧ _ from ⟨rfl, HS6.out.fr.trans hf, ⟨_, rfl⟩⟩)); rw [hq4] at hr; (obtain ⟨rfl, hr⟩ := hr); (have HS7 := hidLL (HS6.out.step hf hr)); (have HX7 := hidLL (HX6.out.step hf)); (obtain ⟨c0, c1, c2, c3⟩ := HX7.out.cells); rw [hq4] at HR; (have hd5 := putR_d hq4); clear hf hr)
      | (go_at_call 98; refine (HIb.out _ _ _ _ _ _ 0 (by first | rfl | simp | omega) HS5.out.here HNb.out (by first | omega | decide)).mono ?_; rintro e W6 ⟨hf, hr⟩; rcases hq3 : sumR b 0 s3 with _ | s4; (· rw [hq3] at hr; (obtain ⟨p, rfl⟩ := hr); (obtain rfl : R = none := (by rw [HR.out, hq3]; try rfl)); exact (show _ ∧ _ from ⟨rfl, HS5.out.fr.trans hf, ⟨_, rfl⟩⟩)); rw [hq3] at hr; (obtain ⟨rfl, hr⟩ := hr); (have HS6 := hidLL (HS5.out.step hf hr)); (have HX6 := hidLL (HX5.out.step hf)); (obtain ⟨c0, c1, c2, c3⟩ := HX6.out.cells); rw [hq3, Option.bind_some] at HR; (have hd4 := sumR_d hq3); clear hf hr)
      | (go_at_call 92; revert HX4; intro HX4; (obtain ⟨ka1, kc1, hnt, hcall⟩ := kid_some (i := 1) HX4.out.nt HKb.out); refine hcall.mono ?_; rintro e W5 ⟨rfl, hb⟩; (have HS5 := hidLL (HS4.out.grow hb)); (have HX5 := hidLL (HX4.out.step (WFr.of hb (Nat.le_of_lt HS4.out.wr.in)))); (have HNb := hidLL (hnt.step (P' := (· < wp)) (fun k hk => ⟨hb.block k (Nat.lt_trans hk HS4.out.wr.in), hk⟩))); (obtain ⟨c0, c1, c2, c3⟩ := HX5.out.cells); clear hb hnt hcall)
      | (go_at_call 45; refine (put1_q HS3.out.wr (x := sg 44) (by decide)).mono ?_; rintro e W4 ⟨hf, hr⟩; rcases hq2 : putR s2 (sg 44) with _ | s3; (· rw [hq2] at hr; (obtain ⟨p, rfl⟩ := hr); (obtain rfl : R = none := (by rw [HR.out, hq2]; try rfl)); exact (show _ ∧ _ from ⟨rfl, HS3.out.fr.trans hf, ⟨_, rfl⟩⟩)); rw [hq2] at hr; (obtain ⟨rfl, hr⟩ := hr); (have HS4 := hidLL (HS3.out.step hf hr)); (have HX4 := hidLL (HX3.out.step hf)); (obtain ⟨c0, c1, c2, c3⟩ := HX4.out.cells); rw [hq2, Option.bind_some] at HR; (have hd3 := putR_d hq2); clear hf hr)
      | (go_at_call 98; refine (HIa.out _ _ _ _ _ _ 0 (by first | rfl | simp | omega) HS2.out.here HNa.out (by first | omega | decide)).mono ?_; rintro e W3 ⟨hf, hr⟩; rcases hq1 : sumR a 0 s1 with _ | s2; (· rw [hq1] at hr; (obtain ⟨p, rfl⟩ := hr); (obtain rfl : R = none := (by rw [HR.out, hq1]; try rfl)); exact (show _ ∧ _ from ⟨rfl, HS2.out.fr.trans hf, ⟨_, rfl⟩⟩)); rw [hq1] at hr; (obtain ⟨rfl, hr⟩ := hr); (have HS3 := hidLL (HS2.out.step hf hr)); (have HX3 := hidLL (HX2.out.step hf)); (obtain ⟨c0, c1, c2, c3⟩ := HX3.out.cells); rw [hq1, Option.bind_some] at HR; (have hd2 := sumR_d hq1); clear hf hr)
      | (go_at_call 92; revert HX1; intro HX1; (obtain ⟨ka0, kc0, hnt, hcall⟩ := kid_some (i := 0) HX1.out.nt HKa.out); refine hcall.mono ?_; rintro e W2 ⟨rfl, hb⟩; (have HS2 := hidLL (HS1.out.grow hb)); (have HX2 := hidLL (HX1.out.step (WFr.of hb (Nat.le_of_lt HS1.out.wr.in)))); (have HNa := hidLL (hnt.step (P' := (· < wp)) (fun k hk => ⟨hb.block k (Nat.lt_trans hk HS1.out.wr.in), hk⟩))); (obtain ⟨c0, c1, c2, c3⟩ := HX2.out.cells); clear hb hnt hcall)
      | (go_at_call 45; refine (put2_q HS0.out.wr z0 (y := sg 40) (by decide)).mono ?_; rintro e W1 ⟨hf, hr⟩; rcases hq0 : putsR s [t.kind, sg 40] with _ | s1; (· rw [hq0] at hr; (obtain ⟨p, rfl⟩ := hr); (obtain rfl : R = none := (by rw [HR.out, hq0]; try rfl)); exact (show _ ∧ _ from ⟨rfl, HS0.out.fr.trans hf, ⟨_, rfl⟩⟩)); rw [hq0] at hr; (obtain ⟨rfl, hr⟩ := hr); (have HS1 := hidLL (HS0.out.step hf hr)); (have HX1 := hidLL (HX0.out.step hf)); (obtain ⟨c0, c1, c2, c3⟩ := HX1.out.cells); rw [hq0, Option.bind_some] at HR; (have hd1 := putsR_d hq0); clear hf hr))
      go_end0
      (obtain rfl : R = some s5 := HR.out)
      exact ⟨HS7.out.fr, rfl, HS7.out.wr⟩
  obtain ⟨z0, z1, n0, n1, hOk⟩ := hO.is
  have hwp := hS.wr.in
  have HX0 := hidLL (BX.new hN hwp)
  have HS0 := hidLL (hS.alloc (.cells (ndT t ka kc) 25))
  obtain ⟨W0, hW0⟩ : ∃ W0, W0 = w.alloc (.cells (ndT t ka kc) 25) := ⟨_, rfl⟩
  rw [← hW0] at HX0 HS0
  have HW : Hid (W0 = w.alloc (.cells #[.string t.kind, .string t.word, .int .i64 t.num, .slice ka t.kids.length kc] 25)) := hW0
  obtain ⟨R, hR⟩ : ∃ R, R = facG t s := ⟨_, rfl⟩
  rw [← hR]
  rw [facG, if_neg (by rw [eqB_of h0 (x := wNumber) rfl]; simp), if_neg (by rw [eqB_of h1 (x := wName) rfl]; simp), if_neg (by rw [eqB_of h2 (x := wCount) rfl]; simp), if_neg (by rw [eqB_of h3 (x := wTotal) rfl]; simp), if_neg (by rw [eqB_of h4 (x := wMax) rfl, eqB_of h5 (x := wMin) rfl]; simp)] at hR
  have HR := hidLL hR
  obtain ⟨c0, c1, c2, c3⟩ := HX0.out.cells
  clear hR hW0 hN
  obtain ⟨p, ct⟩ := HS0.out.wr.g
  have HT := hidLL (fun W => throw_q 189 p W)
  unfold ndT
  go_enter Tryz.func127, Tryz.ntmps127
  go_upto_region 1 with fail
  rw [← HW.out]
  go_wp2_with (go_at_call 50; refine (HT.out _).mono ?_; rintro e w' ⟨rfl, h9⟩; subst w')
  (obtain rfl : R = none := HR.out)
  exact ⟨rfl, HS0.out.fr, _, rfl⟩
end Go.Proofs.YtehbinobohjadaaGreatDoor

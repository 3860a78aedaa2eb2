/-
  The reference's Truth: not, name (written by tools/genfr.py).
-/
import Derived.Test.YtcfeflkhmncmjaaGreatDoorFrA
import Derived.Deep.RegionHeld3
namespace Go.Proofs.YtcfeflkhmncmjaaGreatDoor
open Go.RowKit

set_option maxHeartbeats 8000000 in
set_option maxRecDepth 20000 in
theorem truth_not {L : List Fct} {on known : Int} {t : Tr} (hk : t.kd = .not) (ih : ∀ (i : Nat) (u : Tr), t.kids[i]? = some u → TruthIs L on known 10 u) : TruthIs L on known 10 t := by
  intro w bk bf who ka kc hf hl hn
  obtain ⟨W, hW⟩ : ∃ W, W = w.alloc (.cells #[.string t.kind, .string t.word, .int .i64 t.num, .slice ka t.kids.length kc] 25) := ⟨_, rfl⟩
  obtain ⟨ab, hab⟩ : ∃ ab, ab = w.heap.size := ⟨_, rfl⟩
  have HS : Hid (RS w W ab bk bf L who on known t ka kc) := by rw [hab]; exact RS.mk0 hf hl hn hW
  have n0 := HS.out.n0
  have n3 := HS.out.n3
  have HW := hidLL (And.intro hW hab)
  have q0 := kq_or t.kind
  have q1 := kq_and t.kind
  have q2 := kq_not t.kind
  have hkd : t.kd = kdOf t.kind := rfl
  have hlen := hn.lens.1
  clear hf hl hn hW hab
  by_cases h1 : t.kids.length = 1
  · obtain ⟨a, hab⟩ := one_len h1
    have ha : t.kids[0]? = some a := by rw [hab]; rfl
    obtain ⟨g, o, ka0, kc0, rfl, a0, a1, a2, a3, har⟩ := HS.out.nr.kid ha
    simp only [Nat.zero_mul, Nat.add_zero] at a0 a1 a2 a3
    rw [h1] at n3
    have HL1 := hidLL h1
    have HR := hidLL har
    have HAB := hidLL ha
    have HI := hidLL ih
    have HC : Hid (∀ w2, Below W.heap.size W w2 → RS w w2 ab bk bf L who on known t (some ⟨g, o, none⟩) kc) := fun w2 h => HS.out.step h
    rw [ev_not hk hab]
    clear ih har hab h1 ha hlen
    cases hea : ev (envOf L on known) a who false with
    | err c =>
      have HA := hidLL ((HI.out 0 a HAB.out).err HS.out.fl HS.out.lk HR.out hea)
      have hcz := ev_errz hea
      simp only
      clear hea
      rw [← hkd, hk] at q0 q1 q2
      simp only [reduceCtorEq, decide_false, decide_true] at q0 q1 q2
      clear hk hkd
      go_enter Tryz.func10, Tryz.ntmps10
      go_upto_region 1 with fail
      rw [← HW.out.1, ← HW.out.2]
      go_wp2_with (go_at_call 10; refine HA.out.mono ?_; rintro e w2 ⟨rfl, hb2⟩; (have HS2 := hidLL (HC.out w2 hb2)); clear hb2)
      go_ret2
      exact ⟨rfl, HS2.out.bel⟩
    | ok x =>
      obtain ⟨bx, rfl⟩ := bit_b (ev_bit' hea)
      have HA := hidLL ((HI.out 0 a HAB.out).ok HS.out.fl HS.out.lk HR.out hea)
      simp only
      rw [show resT (.ok (1 - trI bx)) = .tuple #[.bool (!bx), .int .i64 0] by cases bx <;> rfl]
      clear hea
      rw [← hkd, hk] at q0 q1 q2
      simp only [reduceCtorEq, decide_false, decide_true] at q0 q1 q2
      clear hk hkd
      go_enter Tryz.func10, Tryz.ntmps10
      go_upto_region 1 with fail
      rw [← HW.out.1, ← HW.out.2]
      go_wp2_with (go_at_call 10; refine HA.out.mono ?_; rintro e w2 ⟨rfl, hb2⟩; (have HS2 := hidLL (HC.out w2 hb2)); clear hb2)
      go_ret2
      exact ⟨rfl, HS2.out.bel⟩
  · rw [ev_not_bad hk h1]
    have hz2 : ((t.kids.length : Int) != 1) = true := by rw [bne_iff_ne]; omega
    rw [← hkd, hk] at q0 q1 q2
    simp only [reduceCtorEq, decide_false, decide_true] at q0 q1 q2
    clear hk hkd ih
    go_enter Tryz.func10, Tryz.ntmps10
    go_upto_region 1 with fail
    rw [← HW.out.1, ← HW.out.2]
    go_wp2
    go_ret2
    exact ⟨rfl, HS.out.bel⟩
theorem valL_zero (L : List Fct) (who : Int) (nm : ByteArray) (on known : Int) (h : (valL L who nm on known).2 = false) : (valL L who nm on known).1 = 0 := by
  unfold valL at h ⊢
  split at h
  · rfl
  · cases h
set_option maxHeartbeats 8000000 in
set_option maxRecDepth 20000 in
theorem truth_name {L : List Fct} {on known : Int} {t : Tr} (hk : t.kd = .name) (hl5 : L.length ≤ 500) : TruthIs L on known 10 t := by
  intro w bk bf who ka kc hf hl hn
  obtain ⟨W, hW⟩ : ∃ W, W = w.alloc (.cells #[.string t.kind, .string t.word, .int .i64 t.num, .slice ka t.kids.length kc] 25) := ⟨_, rfl⟩
  obtain ⟨ab, hab⟩ : ∃ ab, ab = w.heap.size := ⟨_, rfl⟩
  have HS : Hid (RS w W ab bk bf L who on known t ka kc) := by rw [hab]; exact RS.mk0 hf hl hn hW
  have n0 := HS.out.n0
  have n1 := HS.out.n1
  have n3 := HS.out.n3
  have l0 := HS.out.lk.l0
  have l1 := HS.out.lk.l1
  have l2 := HS.out.lk.l2
  have l3 := HS.out.lk.l3
  have HW := hidLL (And.intro hW hab)
  have q0 := kq_or t.kind
  have q1 := kq_and t.kind
  have q2 := kq_not t.kind
  have q3 := kq_name t.kind
  have hkd : t.kd = kdOf t.kind := rfl
  have hlen := hn.lens.1
  clear hf hl hn hW hab
  have HI := hidLL (rIsWord_f t.word)
  rw [ev_nameC hk]
  obtain ⟨iw, hiw⟩ : ∃ iw, iw = isWordB t.word := ⟨_, rfl⟩
  rw [← hiw] at HI ⊢
  obtain ⟨B, sv, hfl⟩ := HS.out.fl.step (Below.refl _ W).drew
  have HV := hidLL (value_r hfl hl5 who t.word on known)
  have HS1 : Hid (∀ w2, Below W.drew.heap.size W.drew w2 → RS w w2 ab bk bf L who on known t ka kc) := fun w2 h => HS.out.step ((Below.refl _ W).drew.trans h)
  have HE : Hid ((envOf L on known).val who t.word = (valL L who t.word on known).1) := rfl
  have HZ := hidLL (valL_zero L who t.word on known)
  rw [HE.out]
  clear hfl HE hiw
  generalize valL L who t.word on known = V at *
  obtain ⟨v, bb⟩ := V
  simp only at HV HZ ⊢
  rw [← hkd, hk] at q0 q1 q2 q3
  simp only [reduceCtorEq, decide_false, decide_true] at q0 q1 q2 q3
  clear hk hkd
  by_cases hc : t.kids.length = 0 ∧ iw = true
  · rw [if_pos hc]
    obtain ⟨hc1, rfl⟩ := hc
    rw [hc1] at n3
    cases bb with
    | false =>
      obtain rfl : v = 0 := HZ.out rfl
      clear HZ hc1
      go_enter Tryz.func10, Tryz.ntmps10
      go_upto_region 1 with fail
      rw [← HW.out.1, ← HW.out.2]
      go_upto_region 26 with (go_at_call 23; refine (HI.out _).mono ?_; rintro e w' ⟨rfl, rfl⟩)
      go_region_held3 (fun V => V.cell? ⟨bk, 0, none⟩ = some (.pointer (some ⟨bf, 0, none⟩)) ∧ V.cell? ⟨bk, 1, none⟩ = some (.int .i64 who) ∧ V.cell? ⟨bk, 2, none⟩ = some (.int .i64 on) ∧ V.cell? ⟨bk, 3, none⟩ = some (.int .i64 known) ∧ V.cell? ⟨ab, 1, none⟩ = some (.string t.word)) (first | go_keep | exact ⟨z0, z1, z2, z3, z4⟩) ((go_simp; go_at_call 24; refine HV.out.mono ?_; rintro e W3 ⟨rfl, hb3⟩; (have HB3 := hidLL (HS1.out _ hb3)); (have z0 := HB3.out.lk.l0); (have z1 := HB3.out.lk.l1); (have z2 := HB3.out.lk.l2); (have z3 := HB3.out.lk.l3); (have z4 := HB3.out.n1); clear hb3))
      all_goals (go_wp2; go_ret2; exact ⟨rfl, HB3.out.bel⟩)
    | true =>
      rw [show resT (.ok (trI (!decide (v = 0)))) = .tuple #[.bool (v != 0), .int .i64 0] by by_cases h0 : v = 0 <;> simp [h0, resT, trI]]
      clear HZ hc1
      go_enter Tryz.func10, Tryz.ntmps10
      go_upto_region 1 with fail
      rw [← HW.out.1, ← HW.out.2]
      go_upto_region 26 with (go_at_call 23; refine (HI.out _).mono ?_; rintro e w' ⟨rfl, rfl⟩)
      go_region_held3 (fun V => V.cell? ⟨bk, 0, none⟩ = some (.pointer (some ⟨bf, 0, none⟩)) ∧ V.cell? ⟨bk, 1, none⟩ = some (.int .i64 who) ∧ V.cell? ⟨bk, 2, none⟩ = some (.int .i64 on) ∧ V.cell? ⟨bk, 3, none⟩ = some (.int .i64 known) ∧ V.cell? ⟨ab, 1, none⟩ = some (.string t.word)) (first | go_keep | exact ⟨z0, z1, z2, z3, z4⟩) ((go_simp; go_at_call 24; refine HV.out.mono ?_; rintro e W3 ⟨rfl, hb3⟩; (have HB3 := hidLL (HS1.out _ hb3)); (have z0 := HB3.out.lk.l0); (have z1 := HB3.out.lk.l1); (have z2 := HB3.out.lk.l2); (have z3 := HB3.out.lk.l3); (have z4 := HB3.out.n1); clear hb3))
      all_goals (go_wp2; go_ret2; exact ⟨rfl, HB3.out.bel⟩)
  · rw [if_neg hc]
    by_cases h0 : t.kids.length = 0
    · have hi : iw = false := by cases iw with | false => rfl | true => exact absurd ⟨h0, rfl⟩ hc
      subst hi
      rw [h0] at n3
      clear hc h0
      go_enter Tryz.func10, Tryz.ntmps10
      go_upto_region 1 with fail
      rw [← HW.out.1, ← HW.out.2]
      go_wp2_with (go_at_call 23; refine (HI.out _).mono ?_; rintro e w' ⟨rfl, rfl⟩)
      go_ret2
      exact ⟨rfl, HS.out.bel⟩
    · have hp : (0 : Int) < t.kids.length := by omega
      clear hc
      go_enter Tryz.func10, Tryz.ntmps10
      go_upto_region 1 with fail
      rw [← HW.out.1, ← HW.out.2]
      go_wp2_with (go_at_call 23; refine (HI.out _).mono ?_; rintro e w' ⟨rfl, rfl⟩)
      go_ret2
      exact ⟨rfl, HS.out.bel⟩
end Go.Proofs.YtcfeflkhmncmjaaGreatDoor

/-
  The reference's good, two (written by tools/genfr.py).
-/
import Derived.Test.YtcfeflkhmncmjaaGreatDoorFrA
import Derived.Test.YtcfeflkhmncmjaaGreatDoorFTok
import Derived.Test.YtcfeflkhmncmjaaGreatDoorFrO
import Derived.Test.YtcfeflkhmncmjaaGreatDoorHearA
import Derived.Deep.RegionHeld3
import Derived.Deep.QuietTactic
import Derived.BigQuiet
namespace Go.Proofs.YtcfeflkhmncmjaaGreatDoor
open Go.RowKit

theorem good_ok (n : Int) (w : World) (h : valB n = true) : Calls Tryz.prog 32 #[.int .i64 n] w fun e w' => e = .returned (.tuple #[.int .i64 n, .int .i64 0]) ∧ w' = w := by
  have HS := hidLL (small_f n)
  rw [h] at HS
  go_enter Tryz.func32, Tryz.ntmps32
  go_wp2_with (go_at_call 29; refine (HS.out _).mono ?_; rintro e w' ⟨rfl, rfl⟩)
  go_ret2
  exact ⟨rfl, rfl⟩
theorem good_bad (n : Int) (w : World) (h : valB n = false) : Calls Tryz.prog 32 #[.int .i64 n] w fun e w' => e = .returned (.tuple #[.int .i64 0, .int .i64 3]) ∧ w' = w := by
  have HS := hidLL (small_f n)
  rw [h] at HS
  go_enter Tryz.func32, Tryz.ntmps32
  go_wp2_with (go_at_call 29; refine (HS.out _).mono ?_; rintro e w' ⟨rfl, rfl⟩)
  go_ret2
  exact ⟨rfl, rfl⟩
theorem chk_bad {x : Int} (h : valB x = false) : chk x = .err 3 := by unfold chk; rw [if_neg (by rw [h]; decide)]
set_option maxHeartbeats 8000000 in
set_option maxRecDepth 20000 in
theorem two_r {L : List Fct} {on known : Int} {t : Tr} (hk : isTwo t.kd = true) (h2 : t.kids.length = 2) (ih : ∀ (i : Nat) (u : Tr), t.kids[i]? = some u → SumIs L on known 13 u) : SumIs L on known 34 t := by
  intro w bk bf who ka kc hf hl hn
  obtain ⟨W, hW⟩ : ∃ W, W = w.alloc (.cells #[.string t.kind, .string t.word, .int .i64 t.num, .slice ka t.kids.length kc] 25) := ⟨_, rfl⟩
  obtain ⟨ab, hab⟩ : ∃ ab, ab = w.heap.size := ⟨_, rfl⟩
  have HS : Hid (RS w W ab bk bf L who on known t ka kc) := by rw [hab]; exact RS.mk0 hf hl hn hW
  have n0 := HS.out.n0
  have n3 := HS.out.n3
  have HW := hidLL (And.intro hW hab)
  have q0 := kq_plus t.kind
  have q1 := kq_minus t.kind
  have q2 := kq_max t.kind
  have hkd : t.kd = kdOf t.kind := rfl
  have hlen := hn.lens.1
  clear hf hl hn hW hab
  obtain ⟨a, b, hab⟩ := two_len h2
  have ha : t.kids[0]? = some a := by rw [hab]; rfl
  have hb : t.kids[1]? = some b := by rw [hab]; rfl
  obtain ⟨g, o, ka0, kc0, rfl, a0, a1, a2, a3, har⟩ := HS.out.nr.kid ha
  obtain ⟨g', o', kb0, kcb, e', b0, b1, b2, b3, hbr⟩ := HS.out.nr.kid hb
  injection e' with e'; injection e' with e1 e2
  subst e1 e2
  rw [h2] at n3
  have HL2 := hidLL h2
  have HI := hidLL ih
  have HC : Hid (∀ w2, Below W.heap.size W w2 → RS w w2 ab bk bf L who on known t (some ⟨g, o, none⟩) kc ∧ w2.cell? ⟨g, o + 4, none⟩ = some (.string b.kind) ∧ w2.cell? ⟨g, o + 5, none⟩ = some (.string b.word) ∧ w2.cell? ⟨g, o + 6, none⟩ = some (.int .i64 b.num) ∧ w2.cell? ⟨g, o + 7, none⟩ = some (.slice kb0 b.kids.length kcb) ∧ NR w2 kb0 kcb b) := fun w2 h => ⟨HS.out.step h, (h.cell (p := ⟨g, o + 4, none⟩) (cell_lt b0)).trans b0, (h.cell (p := ⟨g, o + 5, none⟩) (cell_lt b0)).trans b1, (h.cell (p := ⟨g, o + 6, none⟩) (cell_lt b0)).trans b2, (h.cell (p := ⟨g, o + 7, none⟩) (cell_lt b0)).trans b3, hbr.step h⟩
  simp only [Nat.zero_mul, Nat.add_zero] at a0 a1 a2 a3
  have HR := hidLL har
  have HAB := hidLL (And.intro ha hb)
  rw [ev_two hk hab]
  clear ih b0 b1 b2 b3 hbr har hab h2 ha hb hlen
  cases hea : ev (envOf L on known) a who true with
  | err c =>
    have HA := hidLL ((HI.out 0 a HAB.out.1).err HS.out.fl HS.out.lk HR.out hea)
    have hcz := ev_errz hea
    rw [show ∀ r f, bind2 (.err c) r f = .err c from fun _ _ => rfl]
    clear hea hk hkd q0 q1 q2
    go_enter Tryz.func34, Tryz.ntmps34
    go_upto_region 1 with fail
    rw [← HW.out.1, ← HW.out.2]
    go_wp2_with (go_at_call 13; refine HA.out.mono ?_; rintro e w2 ⟨rfl, hb2⟩; (have HS2 := hidLL (HC.out w2 hb2)); clear hb2)
    go_ret2
    exact ⟨rfl, HS2.out.1.bel⟩
  | ok x =>
    have HA := hidLL ((HI.out 0 a HAB.out.1).ok HS.out.fl HS.out.lk HR.out hea)
    have hx := valB_iff.1 (ev_val hea)
    cases heb : ev (envOf L on known) b who true with
    | err c =>
      have HB : Hid (∀ w2, Below W.heap.size W w2 → Calls Tryz.prog 13 #[.pointer (some ⟨bk, 0, none⟩), .agg #[.string b.kind, .string b.word, .int .i64 b.num, .slice kb0 b.kids.length kcb]] w2 fun e w' => e = .returned (.tuple #[.int .i64 0, .int .i64 c]) ∧ Below w2.heap.size w2 w') := fun w2 h => (HI.out 1 b HAB.out.2).err (HC.out w2 h).1.fl (HC.out w2 h).1.lk (HC.out w2 h).2.2.2.2.2 heb
      have hcz := ev_errz heb
      rw [show ∀ f, bind2 (.ok x) (.err c) f = .err c from fun _ => rfl]
      clear hea heb hk hkd q0 q1 q2 hx
      go_enter Tryz.func34, Tryz.ntmps34
      go_upto_region 1 with fail
      rw [← HW.out.1, ← HW.out.2]
      go_wp2_with (first | (go_at_call 13; refine HA.out.mono ?_; rintro e w2 ⟨rfl, hb2⟩; (have HS2 := hidLL (HC.out w2 hb2)); (have HB2 := hidLL (HB.out w2 hb2)); (obtain ⟨c0, c1, c2, c3, _⟩ := HS2.out.2); (have m0 := HS2.out.1.n0); (have m3 := HS2.out.1.n3); rw [HL2.out] at m3; clear hb2 HA) | (go_at_call 13; refine HB2.out.mono ?_; rintro e w3 ⟨rfl, hb3⟩; (have HS3 := hidLL (HS2.out.1.step hb3)); (have k0 := HS3.out.n0); clear hb3))
      go_ret2
      exact ⟨rfl, HS3.out.bel⟩
    | ok y =>
      have HB : Hid (∀ w2, Below W.heap.size W w2 → Calls Tryz.prog 13 #[.pointer (some ⟨bk, 0, none⟩), .agg #[.string b.kind, .string b.word, .int .i64 b.num, .slice kb0 b.kids.length kcb]] w2 fun e w' => e = .returned (.tuple #[.int .i64 y, .int .i64 0]) ∧ Below w2.heap.size w2 w') := fun w2 h => (HI.out 1 b HAB.out.2).ok (HC.out w2 h).1.fl (HC.out w2 h).1.lk (HC.out w2 h).2.2.2.2.2 heb
      have hy := valB_iff.1 (ev_val heb)
      rw [show bind2 (.ok x) (.ok y) (fun x y => chk (two t.kd x y)) = chk (two t.kd x y) from rfl]
      clear hea heb
      cases hq : t.kd <;> rw [hq] at hk <;> first | (cases hk; done) | skip
      all_goals (rw [← hkd, hq] at q0 q1 q2; simp only [reduceCtorEq, decide_false, decide_true] at q0 q1 q2; clear hk hkd hq)
      · have hwr : IntKind.i64.wrap (x + y) = x + y := by rw [IntKind.wrap_i64]; omega
        rw [show two .plus x y = x + y from rfl]
        cases hv : valB (x + y) with
        | false =>
          rw [chk_bad hv]
          have HG := hidLL (fun V => good_bad (x + y) V hv)
          clear hv hx hy
          go_enter Tryz.func34, Tryz.ntmps34
          go_upto_region 1 with fail
          rw [← HW.out.1, ← HW.out.2]
          go_wp2_with (first | (go_at_call 13; refine HA.out.mono ?_; rintro e w2 ⟨rfl, hb2⟩; (have HS2 := hidLL (HC.out w2 hb2)); (have HB2 := hidLL (HB.out w2 hb2)); (obtain ⟨c0, c1, c2, c3, _⟩ := HS2.out.2); (have m0 := HS2.out.1.n0); (have m3 := HS2.out.1.n3); rw [HL2.out] at m3; clear hb2 HA) | (go_at_call 13; refine HB2.out.mono ?_; rintro e w3 ⟨rfl, hb3⟩; (have HS3 := hidLL (HS2.out.1.step hb3)); (have k0 := HS3.out.n0); clear hb3) | (go_at_call 32; refine (HG.out _).mono ?_; rintro e w9 ⟨rfl, h9⟩; subst w9))
          go_ret2
          exact ⟨rfl, HS3.out.bel⟩
        | true =>
          rw [chk_fine hv]
          have HG := hidLL (fun V => good_ok (x + y) V hv)
          clear hv hx hy
          go_enter Tryz.func34, Tryz.ntmps34
          go_upto_region 1 with fail
          rw [← HW.out.1, ← HW.out.2]
          go_wp2_with (first | (go_at_call 13; refine HA.out.mono ?_; rintro e w2 ⟨rfl, hb2⟩; (have HS2 := hidLL (HC.out w2 hb2)); (have HB2 := hidLL (HB.out w2 hb2)); (obtain ⟨c0, c1, c2, c3, _⟩ := HS2.out.2); (have m0 := HS2.out.1.n0); (have m3 := HS2.out.1.n3); rw [HL2.out] at m3; clear hb2 HA) | (go_at_call 13; refine HB2.out.mono ?_; rintro e w3 ⟨rfl, hb3⟩; (have HS3 := hidLL (HS2.out.1.step hb3)); (have k0 := HS3.out.n0); clear hb3) | (go_at_call 32; refine (HG.out _).mono ?_; rintro e w9 ⟨rfl, h9⟩; subst w9))
          go_ret2
          exact ⟨rfl, HS3.out.bel⟩
      · have hwr : IntKind.i64.wrap (x - y) = x - y := by rw [IntKind.wrap_i64]; omega
        rw [show two .minus x y = x - y from rfl]
        cases hv : valB (x - y) with
        | false =>
          rw [chk_bad hv]
          have HG := hidLL (fun V => good_bad (x - y) V hv)
          clear hv hx hy
          go_enter Tryz.func34, Tryz.ntmps34
          go_upto_region 1 with fail
          rw [← HW.out.1, ← HW.out.2]
          go_wp2_with (first | (go_at_call 13; refine HA.out.mono ?_; rintro e w2 ⟨rfl, hb2⟩; (have HS2 := hidLL (HC.out w2 hb2)); (have HB2 := hidLL (HB.out w2 hb2)); (obtain ⟨c0, c1, c2, c3, _⟩ := HS2.out.2); (have m0 := HS2.out.1.n0); (have m3 := HS2.out.1.n3); rw [HL2.out] at m3; clear hb2 HA) | (go_at_call 13; refine HB2.out.mono ?_; rintro e w3 ⟨rfl, hb3⟩; (have HS3 := hidLL (HS2.out.1.step hb3)); (have k0 := HS3.out.n0); clear hb3) | (go_at_call 32; refine (HG.out _).mono ?_; rintro e w9 ⟨rfl, h9⟩; subst w9))
          go_ret2
          exact ⟨rfl, HS3.out.bel⟩
        | true =>
          rw [chk_fine hv]
          have HG := hidLL (fun V => good_ok (x - y) V hv)
          clear hv hx hy
          go_enter Tryz.func34, Tryz.ntmps34
          go_upto_region 1 with fail
          rw [← HW.out.1, ← HW.out.2]
          go_wp2_with (first | (go_at_call 13; refine HA.out.mono ?_; rintro e w2 ⟨rfl, hb2⟩; (have HS2 := hidLL (HC.out w2 hb2)); (have HB2 := hidLL (HB.out w2 hb2)); (obtain ⟨c0, c1, c2, c3, _⟩ := HS2.out.2); (have m0 := HS2.out.1.n0); (have m3 := HS2.out.1.n3); rw [HL2.out] at m3; clear hb2 HA) | (go_at_call 13; refine HB2.out.mono ?_; rintro e w3 ⟨rfl, hb3⟩; (have HS3 := hidLL (HS2.out.1.step hb3)); (have k0 := HS3.out.n0); clear hb3) | (go_at_call 32; refine (HG.out _).mono ?_; rintro e w9 ⟨rfl, h9⟩; subst w9))
          go_ret2
          exact ⟨rfl, HS3.out.bel⟩
      · rw [show two .max x y = Max.max x y from rfl]
        by_cases hxy : y < x
        · rw [show Max.max x y = x by omega, chk_fine (valB_iff.2 hx)]
          have hd : decide (y < x) = true := by simp; omega
          clear hx hy
          go_enter Tryz.func34, Tryz.ntmps34
          go_upto_region 1 with fail
          rw [← HW.out.1, ← HW.out.2]
          go_wp2_with (first | (go_at_call 13; refine HA.out.mono ?_; rintro e w2 ⟨rfl, hb2⟩; (have HS2 := hidLL (HC.out w2 hb2)); (have HB2 := hidLL (HB.out w2 hb2)); (obtain ⟨c0, c1, c2, c3, _⟩ := HS2.out.2); (have m0 := HS2.out.1.n0); (have m3 := HS2.out.1.n3); rw [HL2.out] at m3; clear hb2 HA) | (go_at_call 13; refine HB2.out.mono ?_; rintro e w3 ⟨rfl, hb3⟩; (have HS3 := hidLL (HS2.out.1.step hb3)); (have k0 := HS3.out.n0); clear hb3))
          go_ret2
          exact ⟨rfl, HS3.out.bel⟩
        · rw [show Max.max x y = y by omega, chk_fine (valB_iff.2 hy)]
          have hd : decide (y < x) = false := by simp; omega
          clear hx hy
          go_enter Tryz.func34, Tryz.ntmps34
          go_upto_region 1 with fail
          rw [← HW.out.1, ← HW.out.2]
          go_wp2_with (first | (go_at_call 13; refine HA.out.mono ?_; rintro e w2 ⟨rfl, hb2⟩; (have HS2 := hidLL (HC.out w2 hb2)); (have HB2 := hidLL (HB.out w2 hb2)); (obtain ⟨c0, c1, c2, c3, _⟩ := HS2.out.2); (have m0 := HS2.out.1.n0); (have m3 := HS2.out.1.n3); rw [HL2.out] at m3; clear hb2 HA) | (go_at_call 13; refine HB2.out.mono ?_; rintro e w3 ⟨rfl, hb3⟩; (have HS3 := hidLL (HS2.out.1.step hb3)); (have k0 := HS3.out.n0); clear hb3))
          go_ret2
          exact ⟨rfl, HS3.out.bel⟩
      · rw [show two .min x y = Min.min x y from rfl]
        by_cases hxy : y < x
        · rw [show Min.min x y = y by omega, chk_fine (valB_iff.2 hy)]
          have hd : decide (y < x) = true := by simp; omega
          clear hx hy
          go_enter Tryz.func34, Tryz.ntmps34
          go_upto_region 1 with fail
          rw [← HW.out.1, ← HW.out.2]
          go_wp2_with (first | (go_at_call 13; refine HA.out.mono ?_; rintro e w2 ⟨rfl, hb2⟩; (have HS2 := hidLL (HC.out w2 hb2)); (have HB2 := hidLL (HB.out w2 hb2)); (obtain ⟨c0, c1, c2, c3, _⟩ := HS2.out.2); (have m0 := HS2.out.1.n0); (have m3 := HS2.out.1.n3); rw [HL2.out] at m3; clear hb2 HA) | (go_at_call 13; refine HB2.out.mono ?_; rintro e w3 ⟨rfl, hb3⟩; (have HS3 := hidLL (HS2.out.1.step hb3)); (have k0 := HS3.out.n0); clear hb3))
          go_ret2
          exact ⟨rfl, HS3.out.bel⟩
        · rw [show Min.min x y = x by omega, chk_fine (valB_iff.2 hx)]
          have hd : decide (y < x) = false := by simp; omega
          clear hx hy
          go_enter Tryz.func34, Tryz.ntmps34
          go_upto_region 1 with fail
          rw [← HW.out.1, ← HW.out.2]
          go_wp2_with (first | (go_at_call 13; refine HA.out.mono ?_; rintro e w2 ⟨rfl, hb2⟩; (have HS2 := hidLL (HC.out w2 hb2)); (have HB2 := hidLL (HB.out w2 hb2)); (obtain ⟨c0, c1, c2, c3, _⟩ := HS2.out.2); (have m0 := HS2.out.1.n0); (have m3 := HS2.out.1.n3); rw [HL2.out] at m3; clear hb2 HA) | (go_at_call 13; refine HB2.out.mono ?_; rintro e w3 ⟨rfl, hb3⟩; (have HS3 := hidLL (HS2.out.1.step hb3)); (have k0 := HS3.out.n0); clear hb3))
          go_ret2
          exact ⟨rfl, HS3.out.bel⟩
end Go.Proofs.YtcfeflkhmncmjaaGreatDoor
namespace Go.Proofs.YtcfeflkhmncmjaaGreatDoor
open Go.RowKit

set_option maxHeartbeats 8000000 in
set_option maxRecDepth 20000 in
theorem sum_no {L : List Fct} {on known : Int} {t : Tr} (hc : kidsS t.kd = none) : SumIs L on known 13 t := by
  intro w bk bf who ka kc hf hl hn
  obtain ⟨W, hW⟩ : ∃ W, W = w.alloc (.cells #[.string t.kind, .string t.word, .int .i64 t.num, .slice ka t.kids.length kc] 25) := ⟨_, rfl⟩
  obtain ⟨ab, hab⟩ : ∃ ab, ab = w.heap.size := ⟨_, rfl⟩
  have HS : Hid (RS w W ab bk bf L who on known t ka kc) := by rw [hab]; exact RS.mk0 hf hl hn hW
  have n0 := HS.out.n0
  have n1 := HS.out.n1
  have HW := hidLL (And.intro hW hab)
  have q0 := kq_number t.kind
  have q1 := kq_name t.kind
  have q2 := kq_count t.kind
  have q3 := kq_total t.kind
  have q4 := kq_times t.kind
  have q5 := kq_plus t.kind
  have q6 := kq_minus t.kind
  have q7 := kq_max t.kind
  have q8 := kq_min t.kind
  have hkd : t.kd = kdOf t.kind := rfl
  have hlen := hn.lens.1
  clear hf hl hn hW hab
  have HIw := hidLL (rIsWord_f t.word)
  obtain ⟨iw, hiw⟩ : ∃ iw, iw = isWordB t.word := ⟨_, rfl⟩
  rw [← hiw] at HIw
  rw [ev_noS hc]
  rw [decide_eq_false (show ¬ kdOf t.kind = .number by intro h; rw [hkd, h] at hc; cases hc)] at q0
  rw [decide_eq_false (show ¬ kdOf t.kind = .name by intro h; rw [hkd, h] at hc; cases hc)] at q1
  rw [decide_eq_false (show ¬ kdOf t.kind = .count by intro h; rw [hkd, h] at hc; cases hc)] at q2
  rw [decide_eq_false (show ¬ kdOf t.kind = .total by intro h; rw [hkd, h] at hc; cases hc)] at q3
  rw [decide_eq_false (show ¬ kdOf t.kind = .times by intro h; rw [hkd, h] at hc; cases hc)] at q4
  rw [decide_eq_false (show ¬ kdOf t.kind = .plus by intro h; rw [hkd, h] at hc; cases hc)] at q5
  rw [decide_eq_false (show ¬ kdOf t.kind = .minus by intro h; rw [hkd, h] at hc; cases hc)] at q6
  rw [decide_eq_false (show ¬ kdOf t.kind = .max by intro h; rw [hkd, h] at hc; cases hc)] at q7
  rw [decide_eq_false (show ¬ kdOf t.kind = .min by intro h; rw [hkd, h] at hc; cases hc)] at q8
  clear hkd hiw hc
  go_enter Tryz.func13, Tryz.ntmps13
  go_upto_region 1 with fail
  rw [← HW.out.1, ← HW.out.2]
  go_wp2_with (go_at_call 23; refine (HIw.out _).mono ?_; rintro e w9 ⟨rfl, h9⟩; subst w9)
  go_ret2
  exact ⟨rfl, HS.out.bel⟩
set_option maxHeartbeats 8000000 in
set_option maxRecDepth 20000 in
theorem sum_number {L : List Fct} {on known : Int} {t : Tr} (hk : t.kd = .number) : SumIs L on known 13 t := by
  intro w bk bf who ka kc hf hl hn
  obtain ⟨W, hW⟩ : ∃ W, W = w.alloc (.cells #[.string t.kind, .string t.word, .int .i64 t.num, .slice ka t.kids.length kc] 25) := ⟨_, rfl⟩
  obtain ⟨ab, hab⟩ : ∃ ab, ab = w.heap.size := ⟨_, rfl⟩
  have HS : Hid (RS w W ab bk bf L who on known t ka kc) := by rw [hab]; exact RS.mk0 hf hl hn hW
  have n0 := HS.out.n0
  have n1 := HS.out.n1
  have n2 := HS.out.n2
  have n3 := HS.out.n3
  have HW := hidLL (And.intro hW hab)
  have q0 := kq_number t.kind
  have q1 := kq_name t.kind
  have q2 := kq_count t.kind
  have q3 := kq_total t.kind
  have q4 := kq_times t.kind
  have q5 := kq_plus t.kind
  have q6 := kq_minus t.kind
  have q7 := kq_max t.kind
  have q8 := kq_min t.kind
  have hkd : t.kd = kdOf t.kind := rfl
  have hlen := hn.lens.1
  clear hf hl hn hW hab
  have HIw := hidLL (rIsWord_f t.word)
  obtain ⟨iw, hiw⟩ : ∃ iw, iw = isWordB t.word := ⟨_, rfl⟩
  rw [← hiw] at HIw
  rw [ev_number hk]
  have HSm := hidLL (small_f t.num)
  obtain ⟨vb, hvb⟩ : ∃ vb, vb = valB t.num := ⟨_, rfl⟩
  rw [← hvb] at HSm
  rw [← hkd, hk] at q0 q1 q2 q3 q4 q5 q6 q7 q8
  simp only [reduceCtorEq, decide_false, decide_true] at q0 q1 q2 q3 q4 q5 q6 q7 q8
  clear hk hkd hiw
  by_cases h0 : t.kids.length = 0
  · rw [h0] at n3
    by_cases hn : t.num < 0
    · rw [if_neg (by omega)]
      have hn2 : decide (t.num < 0) = true := by simp; omega
      clear hvb h0
      go_enter Tryz.func13, Tryz.ntmps13
      go_upto_region 1 with fail
      rw [← HW.out.1, ← HW.out.2]
      go_wp2_with (first | (go_at_call 23; refine (HIw.out _).mono ?_; rintro e w9 ⟨rfl, h9⟩; subst w9) | (go_at_call 29; refine (HSm.out _).mono ?_; rintro e w9 ⟨rfl, h9⟩; subst w9))
      go_ret2
      exact ⟨rfl, HS.out.bel⟩
    · have hn2 : decide (t.num < 0) = false := by simp; omega
      cases vb with
      | false =>
        rw [if_neg (by rintro ⟨_, _, h⟩; have : valB t.num = true := valB_iff.2 ⟨by omega, h⟩; rw [this] at hvb; cases hvb)]
        clear hvb h0
        go_enter Tryz.func13, Tryz.ntmps13
        go_upto_region 1 with fail
        rw [← HW.out.1, ← HW.out.2]
        go_wp2_with (first | (go_at_call 23; refine (HIw.out _).mono ?_; rintro e w9 ⟨rfl, h9⟩; subst w9) | (go_at_call 29; refine (HSm.out _).mono ?_; rintro e w9 ⟨rfl, h9⟩; subst w9))
        go_ret2
        exact ⟨rfl, HS.out.bel⟩
      | true =>
        rw [if_pos ⟨h0, by omega, (valB_iff.1 hvb.symm).2⟩]
        clear hvb h0
        go_enter Tryz.func13, Tryz.ntmps13
        go_upto_region 1 with fail
        rw [← HW.out.1, ← HW.out.2]
        go_wp2_with (first | (go_at_call 23; refine (HIw.out _).mono ?_; rintro e w9 ⟨rfl, h9⟩; subst w9) | (go_at_call 29; refine (HSm.out _).mono ?_; rintro e w9 ⟨rfl, h9⟩; subst w9))
        go_ret2
        exact ⟨rfl, HS.out.bel⟩
  · rw [if_neg (by omega)]
    have hz : ((t.kids.length : Int) != 0) = true := by rw [bne_iff_ne]; omega
    clear hvb
    go_enter Tryz.func13, Tryz.ntmps13
    go_upto_region 1 with fail
    rw [← HW.out.1, ← HW.out.2]
    go_wp2_with (first | (go_at_call 23; refine (HIw.out _).mono ?_; rintro e w9 ⟨rfl, h9⟩; subst w9) | (go_at_call 29; refine (HSm.out _).mono ?_; rintro e w9 ⟨rfl, h9⟩; subst w9))
    go_ret2
    exact ⟨rfl, HS.out.bel⟩
set_option maxHeartbeats 8000000 in
set_option maxRecDepth 20000 in
theorem sum_name {L : List Fct} {on known : Int} {t : Tr} (hk : t.kd = .name) (hl5 : L.length ≤ 500) (hG : ∀ x ∈ L, Good x) : SumIs L on known 13 t := by
  intro w bk bf who ka kc hf hl hn
  obtain ⟨W, hW⟩ : ∃ W, W = w.alloc (.cells #[.string t.kind, .string t.word, .int .i64 t.num, .slice ka t.kids.length kc] 25) := ⟨_, rfl⟩
  obtain ⟨ab, hab⟩ : ∃ ab, ab = w.heap.size := ⟨_, rfl⟩
  have HS : Hid (RS w W ab bk bf L who on known t ka kc) := by rw [hab]; exact RS.mk0 hf hl hn hW
  have n0 := HS.out.n0
  have n1 := HS.out.n1
  have n3 := HS.out.n3
  have l0 := HS.out.lk.l0
  have l1 := HS.out.lk.l1
  have l2 := HS.out.lk.l2
  have l3 := HS.out.lk.l3
  have l4 := HS.out.lk.l4
  have HW := hidLL (And.intro hW hab)
  have q0 := kq_number t.kind
  have q1 := kq_name t.kind
  have q2 := kq_count t.kind
  have q3 := kq_total t.kind
  have q4 := kq_times t.kind
  have q5 := kq_plus t.kind
  have q6 := kq_minus t.kind
  have q7 := kq_max t.kind
  have q8 := kq_min t.kind
  have hkd : t.kd = kdOf t.kind := rfl
  have hlen := hn.lens.1
  clear hf hl hn hW hab
  have HIw := hidLL (rIsWord_f t.word)
  obtain ⟨iw, hiw⟩ : ∃ iw, iw = isWordB t.word := ⟨_, rfl⟩
  rw [← hiw] at HIw
  rw [ev_nameS hk (valB_iff.2 (val_bd L hG who t.word on known)), ← hiw]
  have HAm := hidLL (among_nil t.word)
  have HV : Hid (∀ V, Below W.heap.size W V → _) := fun V h => (HS.out.step h).value hl5 who t.word
  rw [show (envOf L on known).val who t.word = (valL L who t.word on known).1 from rfl]
  generalize valL L who t.word on known = VV at *
  obtain ⟨v, bb⟩ := VV
  simp only at HV ⊢
  rw [← hkd, hk] at q0 q1 q2 q3 q4 q5 q6 q7 q8
  simp only [reduceCtorEq, decide_false, decide_true] at q0 q1 q2 q3 q4 q5 q6 q7 q8
  clear hk hkd hiw hG
  by_cases hc : t.kids.length = 0 ∧ iw = true
  · rw [if_pos hc]
    obtain ⟨hc1, rfl⟩ := hc
    rw [hc1] at n3
    clear hc1
    go_enter Tryz.func13, Tryz.ntmps13
    go_upto_region 1 with fail
    rw [← HW.out.1, ← HW.out.2]
    go_upto_region 11 with (go_at_call 23; refine (HIw.out _).mono ?_; rintro e w9 ⟨rfl, h9⟩; subst w9)
    go_quiet ((go_at_call 30; exact Calls.quiet_of_same (HAm.out _)))
    go_upto_region 16 with fail
    go_region_held3 (fun V => V.cell? ⟨bk, 0, none⟩ = some (.pointer (some ⟨bf, 0, none⟩)) ∧ V.cell? ⟨bk, 1, none⟩ = some (.int .i64 who) ∧ V.cell? ⟨bk, 2, none⟩ = some (.int .i64 on) ∧ V.cell? ⟨bk, 3, none⟩ = some (.int .i64 known) ∧ V.cell? ⟨ab, 1, none⟩ = some (.string t.word)) (first | go_keep | exact ⟨z0, z1, z2, z3, z4⟩) ((go_simp; go_at_call 24; refine (HV.out _ ?_).mono ?_; (· first | exact (Below.refl _ W).drew | exact (bdrewN (Below.refl _ W) _).drew | exact bdrewN (Below.refl _ W) _); rintro e W3 ⟨rfl, _, hs3⟩; (have HS3 := hidLL hs3); (have z0 := HS3.out.lk.l0); (have z1 := HS3.out.lk.l1); (have z2 := HS3.out.lk.l2); (have z3 := HS3.out.lk.l3); (have z4 := HS3.out.n1); clear hs3))
    all_goals (go_wp2; go_ret2; exact ⟨rfl, HS3.out.bel⟩)
  · rw [if_neg hc]
    by_cases h0 : t.kids.length = 0
    · have hi : iw = false := by cases iw with | false => rfl | true => exact absurd ⟨h0, rfl⟩ hc
      subst hi
      rw [h0] at n3
      clear hc h0
      go_enter Tryz.func13, Tryz.ntmps13
      go_upto_region 1 with fail
      rw [← HW.out.1, ← HW.out.2]
      go_wp2_with (go_at_call 23; refine (HIw.out _).mono ?_; rintro e w9 ⟨rfl, h9⟩; subst w9)
      go_ret2
      exact ⟨rfl, HS.out.bel⟩
    · have hz : ((t.kids.length : Int) != 0) = true := by rw [bne_iff_ne]; omega
      clear hc
      go_enter Tryz.func13, Tryz.ntmps13
      go_upto_region 1 with fail
      rw [← HW.out.1, ← HW.out.2]
      go_wp2_with (go_at_call 23; refine (HIw.out _).mono ?_; rintro e w9 ⟨rfl, h9⟩; subst w9)
      go_ret2
      exact ⟨rfl, HS.out.bel⟩
set_option maxHeartbeats 8000000 in
set_option maxRecDepth 20000 in
theorem sum_count {L : List Fct} {on known : Int} {t : Tr} (hk : t.kd = .count) (hl5 : L.length ≤ 500) : SumIs L on known 13 t := by
  intro w bk bf who ka kc hf hl hn
  obtain ⟨W, hW⟩ : ∃ W, W = w.alloc (.cells #[.string t.kind, .string t.word, .int .i64 t.num, .slice ka t.kids.length kc] 25) := ⟨_, rfl⟩
  obtain ⟨ab, hab⟩ : ∃ ab, ab = w.heap.size := ⟨_, rfl⟩
  have HS : Hid (RS w W ab bk bf L who on known t ka kc) := by rw [hab]; exact RS.mk0 hf hl hn hW
  have n0 := HS.out.n0
  have n1 := HS.out.n1
  have n3 := HS.out.n3
  have l0 := HS.out.lk.l0
  have l1 := HS.out.lk.l1
  have l2 := HS.out.lk.l2
  have l3 := HS.out.lk.l3
  have HW := hidLL (And.intro hW hab)
  have q0 := kq_number t.kind
  have q1 := kq_name t.kind
  have q2 := kq_count t.kind
  have q3 := kq_total t.kind
  have q4 := kq_times t.kind
  have q5 := kq_plus t.kind
  have q6 := kq_minus t.kind
  have q7 := kq_max t.kind
  have q8 := kq_min t.kind
  have hkd : t.kd = kdOf t.kind := rfl
  have hlen := hn.lens.1
  clear hf hl hn hW hab
  have HIw := hidLL (rIsWord_f t.word)
  obtain ⟨iw, hiw⟩ : ∃ iw, iw = isWordB t.word := ⟨_, rfl⟩
  rw [← hiw] at HIw
  rw [ev_count hk (others_len L who t.word on known), ← hiw]
  have HV : Hid (∀ V, Below W.heap.size W V → _) := fun V h => (HS.out.step h).others hl5 who t.word
  rw [show (envOf L on known).oth who t.word = othersL L who t.word on known from rfl]
  have ho4 := others_len L who t.word on known
  generalize othersL L who t.word on known = OS at *
  rw [← hkd, hk] at q0 q1 q2 q3 q4 q5 q6 q7 q8
  simp only [reduceCtorEq, decide_false, decide_true] at q0 q1 q2 q3 q4 q5 q6 q7 q8
  clear hk hkd hiw
  by_cases hc : t.kids.length = 0 ∧ iw = true
  · rw [if_pos hc]
    obtain ⟨hc1, rfl⟩ := hc
    rw [hc1] at n3
    clear hc1
    go_enter Tryz.func13, Tryz.ntmps13
    go_upto_region 1 with fail
    rw [← HW.out.1, ← HW.out.2]
    go_upto_region 21 with (go_at_call 23; refine (HIw.out _).mono ?_; rintro e w9 ⟨rfl, h9⟩; subst w9)
    go_region_held3 (fun V => V.cell? ⟨bk, 0, none⟩ = some (.pointer (some ⟨bf, 0, none⟩)) ∧ V.cell? ⟨bk, 1, none⟩ = some (.int .i64 who) ∧ V.cell? ⟨bk, 2, none⟩ = some (.int .i64 on) ∧ V.cell? ⟨bk, 3, none⟩ = some (.int .i64 known) ∧ V.cell? ⟨ab, 1, none⟩ = some (.string t.word)) (first | go_keep | exact ⟨z0, z1, z2, z3, z4⟩) ((go_simp; go_at_call 31; refine (HV.out _ ?_).mono ?_; (· first | exact (Below.refl _ W).drew | exact (bdrewN (Below.refl _ W) _).drew | exact bdrewN (Below.refl _ W) _); rintro e W3 ⟨sa, sn, sc, rfl, hsn, _, _, _, hs3⟩; (have hwr : IntKind.i64.wrap ((sn : Int) * 100) = (sn : Int) * 100 := by rw [IntKind.wrap_i64]; omega); (have HSn := hidLL hsn); (have HS3 := hidLL hs3); (have z0 := HS3.out.lk.l0); (have z1 := HS3.out.lk.l1); (have z2 := HS3.out.lk.l2); (have z3 := HS3.out.lk.l3); (have z4 := HS3.out.n1); clear hs3 hsn))
    all_goals (go_wp2; go_ret2; exact ⟨by rw [← HSn.out, Int.mul_comm]; rfl, HS3.out.bel⟩)
  · rw [if_neg hc]
    by_cases h0 : t.kids.length = 0
    · have hi : iw = false := by cases iw with | false => rfl | true => exact absurd ⟨h0, rfl⟩ hc
      subst hi
      rw [h0] at n3
      clear hc h0
      go_enter Tryz.func13, Tryz.ntmps13
      go_upto_region 1 with fail
      rw [← HW.out.1, ← HW.out.2]
      go_wp2_with (go_at_call 23; refine (HIw.out _).mono ?_; rintro e w9 ⟨rfl, h9⟩; subst w9)
      go_ret2
      exact ⟨rfl, HS.out.bel⟩
    · have hz : ((t.kids.length : Int) != 0) = true := by rw [bne_iff_ne]; omega
      clear hc
      go_enter Tryz.func13, Tryz.ntmps13
      go_upto_region 1 with fail
      rw [← HW.out.1, ← HW.out.2]
      go_wp2_with (go_at_call 23; refine (HIw.out _).mono ?_; rintro e w9 ⟨rfl, h9⟩; subst w9)
      go_ret2
      exact ⟨rfl, HS.out.bel⟩
theorem szB_val (x : Int) : szB x 1000000000000 = valB x := by
  cases h : valB x with
  | true => exact szB_t (by have := valB_iff.1 h; omega) (valB_iff.1 h).2
  | false =>
    refine szB_f fun h2 => ?_
    have := valB_iff.2 (show -1000000000000 ≤ x ∧ x ≤ 1000000000000 by omega)
    rw [this] at h
    cases h
set_option maxHeartbeats 8000000 in
set_option maxRecDepth 20000 in
theorem sum_times {L : List Fct} {on known : Int} {t : Tr} (hk : t.kd = .times) (ih : ∀ (i : Nat) (u : Tr), t.kids[i]? = some u → SumIs L on known 13 u) : SumIs L on known 13 t := by
  intro w bk bf who ka kc hf hl hn
  obtain ⟨W, hW⟩ : ∃ W, W = w.alloc (.cells #[.string t.kind, .string t.word, .int .i64 t.num, .slice ka t.kids.length kc] 25) := ⟨_, rfl⟩
  obtain ⟨ab, hab⟩ : ∃ ab, ab = w.heap.size := ⟨_, rfl⟩
  have HS : Hid (RS w W ab bk bf L who on known t ka kc) := by rw [hab]; exact RS.mk0 hf hl hn hW
  have n0 := HS.out.n0
  have n1 := HS.out.n1
  have n3 := HS.out.n3
  have HW := hidLL (And.intro hW hab)
  have q0 := kq_number t.kind
  have q1 := kq_name t.kind
  have q2 := kq_count t.kind
  have q3 := kq_total t.kind
  have q4 := kq_times t.kind
  have q5 := kq_plus t.kind
  have q6 := kq_minus t.kind
  have q7 := kq_max t.kind
  have q8 := kq_min t.kind
  have hkd : t.kd = kdOf t.kind := rfl
  have hlen := hn.lens.1
  clear hf hl hn hW hab
  have HIw := hidLL (rIsWord_f t.word)
  obtain ⟨iw, hiw⟩ : ∃ iw, iw = isWordB t.word := ⟨_, rfl⟩
  rw [← hiw] at HIw
  by_cases h1 : t.kids.length = 1
  · obtain ⟨a, hab⟩ := one_len h1
    have ha : t.kids[0]? = some a := by rw [hab]; rfl
    obtain ⟨g, o, ka0, kc0, rfl, a0, a1, a2, a3, har⟩ := HS.out.nr.kid ha
    simp only [Nat.zero_mul, Nat.add_zero] at a0 a1 a2 a3
    rw [h1] at n3
    have HL1 := hidLL h1
    have HR := hidLL har
    have HAB := hidLL ha
    have HI := hidLL ih
    have HC : Hid (∀ w2, Below W.heap.size W w2 → RS w w2 ab bk bf L who on known t (some ⟨g, o, none⟩) kc) := fun w2 h => HS.out.step h
    rw [ev_times hk hab]
    rw [← hkd, hk] at q0 q1 q2 q3 q4 q5 q6 q7 q8
    simp only [reduceCtorEq, decide_false, decide_true] at q0 q1 q2 q3 q4 q5 q6 q7 q8
    clear hk hkd hiw ih har hab h1 ha hlen
    cases hea : ev (envOf L on known) a who true with
    | err c =>
      have HA := hidLL ((HI.out 0 a HAB.out).err HS.out.fl HS.out.lk HR.out hea)
      have hcz := ev_errz hea
      simp only
      clear hea
      go_enter Tryz.func13, Tryz.ntmps13
      go_upto_region 1 with fail
      rw [← HW.out.1, ← HW.out.2]
      go_wp2_with (first | (go_at_call 23; refine (HIw.out _).mono ?_; rintro e w9 ⟨rfl, h9⟩; subst w9) | (go_at_call 13; refine HA.out.mono ?_; rintro e w2 ⟨rfl, hb2⟩; (have HS2 := hidLL (HC.out w2 hb2)); (have m2 := HS2.out.n2); (have m7 := HS2.out.lk.l7); clear hb2))
      go_ret2
      exact ⟨rfl, HS2.out.bel⟩
    | ok x =>
      have HA := hidLL ((HI.out 0 a HAB.out).ok HS.out.fl HS.out.lk HR.out hea)
      have hx := ev_val hea
      simp only
      clear hea
      by_cases hn : t.num < 0
      · rw [if_pos (.inl hn)]
        have hn2 : decide (t.num < 0) = true := by simp; omega
        clear hx
        go_enter Tryz.func13, Tryz.ntmps13
        go_upto_region 1 with fail
        rw [← HW.out.1, ← HW.out.2]
        go_wp2_with (first | (go_at_call 23; refine (HIw.out _).mono ?_; rintro e w9 ⟨rfl, h9⟩; subst w9) | (go_at_call 13; refine HA.out.mono ?_; rintro e w2 ⟨rfl, hb2⟩; (have HS2 := hidLL (HC.out w2 hb2)); (have m2 := HS2.out.n2); (have m7 := HS2.out.lk.l7); clear hb2))
        go_ret2
        exact ⟨rfl, HS2.out.bel⟩
      · have hn2 : decide (t.num < 0) = false := by simp; omega
        by_cases hn3 : 1000000 < t.num
        · rw [if_pos (.inr hn3)]
          have hn4 : decide (1000000 < t.num) = true := by simp; omega
          clear hx
          go_enter Tryz.func13, Tryz.ntmps13
          go_upto_region 1 with fail
          rw [← HW.out.1, ← HW.out.2]
          go_wp2_with (first | (go_at_call 23; refine (HIw.out _).mono ?_; rintro e w9 ⟨rfl, h9⟩; subst w9) | (go_at_call 13; refine HA.out.mono ?_; rintro e w2 ⟨rfl, hb2⟩; (have HS2 := hidLL (HC.out w2 hb2)); (have m2 := HS2.out.n2); (have m7 := HS2.out.lk.l7); clear hb2))
          go_ret2
          exact ⟨rfl, HS2.out.bel⟩
        · have hn4 : decide (1000000 < t.num) = false := by simp; omega
          rw [if_neg (by omega)]
          have hr1 : szB t.num 1000000 = true := szB_t (by omega) (by omega)
          cases hv : valB (rnd (x * t.num) 4) with
          | false =>
            have HP := hidLL (fun V => refPart_over x t.num 4 V (by decide) (by rw [szB_val]; exact hx) hr1 (by rw [szB_val]; exact hv))
            rw [chk_bad hv]
            clear hx hr1 hv
            go_enter Tryz.func13, Tryz.ntmps13
            go_upto_region 1 with fail
            rw [← HW.out.1, ← HW.out.2]
            go_upto_region 41 with (first | (go_at_call 23; refine (HIw.out _).mono ?_; rintro e w9 ⟨rfl, h9⟩; subst w9) | (go_at_call 13; refine HA.out.mono ?_; rintro e w2 ⟨rfl, hb2⟩; (have HS2 := hidLL (HC.out w2 hb2)); (have m2 := HS2.out.n2); (have m7 := HS2.out.lk.l7); clear hb2))
            go_quiet ((go_at_call 33; exact Calls.quiet_of_same (HP.out _)))
            go_wp2
            go_ret2
            exact ⟨rfl, bdrewN HS2.out.bel _⟩
          | true =>
            have HP := hidLL (fun V => refPart_ok x t.num 4 V (by decide) (by rw [szB_val]; exact hx) hr1 (by rw [szB_val]; exact hv))
            rw [chk_fine hv]
            clear hx hr1 hv
            generalize rnd (x * t.num) 4 = rr at *
            go_enter Tryz.func13, Tryz.ntmps13
            go_upto_region 1 with fail
            rw [← HW.out.1, ← HW.out.2]
            go_upto_region 41 with (first | (go_at_call 23; refine (HIw.out _).mono ?_; rintro e w9 ⟨rfl, h9⟩; subst w9) | (go_at_call 13; refine HA.out.mono ?_; rintro e w2 ⟨rfl, hb2⟩; (have HS2 := hidLL (HC.out w2 hb2)); (have m2 := HS2.out.n2); (have m7 := HS2.out.lk.l7); clear hb2))
            go_quiet ((go_at_call 33; exact Calls.quiet_of_same (HP.out _)))
            go_wp2
            go_ret2
            exact ⟨rfl, bdrewN HS2.out.bel _⟩
  · rw [ev_times_bad hk h1]
    have hz : ((t.kids.length : Int) != 1) = true := by rw [bne_iff_ne]; omega
    rw [← hkd, hk] at q0 q1 q2 q3 q4 q5 q6 q7 q8
    simp only [reduceCtorEq, decide_false, decide_true] at q0 q1 q2 q3 q4 q5 q6 q7 q8
    clear hk hkd hiw ih
    go_enter Tryz.func13, Tryz.ntmps13
    go_upto_region 1 with fail
    rw [← HW.out.1, ← HW.out.2]
    go_wp2_with (go_at_call 23; refine (HIw.out _).mono ?_; rintro e w9 ⟨rfl, h9⟩; subst w9)
    go_ret2
    exact ⟨rfl, HS.out.bel⟩
set_option maxHeartbeats 8000000 in
set_option maxRecDepth 20000 in
theorem sum_two {L : List Fct} {on known : Int} {t : Tr} (hk : isTwo t.kd = true) (ih : ∀ (i : Nat) (u : Tr), t.kids[i]? = some u → SumIs L on known 13 u) : SumIs L on known 13 t := by
  intro w bk bf who ka kc hf hl hn
  obtain ⟨W, hW⟩ : ∃ W, W = w.alloc (.cells #[.string t.kind, .string t.word, .int .i64 t.num, .slice ka t.kids.length kc] 25) := ⟨_, rfl⟩
  obtain ⟨ab, hab⟩ : ∃ ab, ab = w.heap.size := ⟨_, rfl⟩
  have HS : Hid (RS w W ab bk bf L who on known t ka kc) := by rw [hab]; exact RS.mk0 hf hl hn hW
  have n0 := HS.out.n0
  have n1 := HS.out.n1
  have n2 := HS.out.n2
  have n3 := HS.out.n3
  have HW := hidLL (And.intro hW hab)
  have q0 := kq_number t.kind
  have q1 := kq_name t.kind
  have q2 := kq_count t.kind
  have q3 := kq_total t.kind
  have q4 := kq_times t.kind
  have q5 := kq_plus t.kind
  have q6 := kq_minus t.kind
  have q7 := kq_max t.kind
  have q8 := kq_min t.kind
  have hkd : t.kd = kdOf t.kind := rfl
  have hlen := hn.lens.1
  clear hf hl hn hW hab
  have HIw := hidLL (rIsWord_f t.word)
  obtain ⟨iw, hiw⟩ : ∃ iw, iw = isWordB t.word := ⟨_, rfl⟩
  rw [← hiw] at HIw
  by_cases h2 : t.kids.length = 2
  · have HT := hidLL (two_r hk h2 ih W bk bf who ka kc HS.out.fl HS.out.lk HS.out.nr)
    obtain ⟨R, hR⟩ : ∃ R, R = ev (envOf L on known) t who true := ⟨_, rfl⟩
    rw [← hR] at HT ⊢
    have HT2 : Hid (∃ x y, resS R = .tuple #[.int .i64 x, .int .i64 y]) := by cases R <;> exact ⟨_, _, rfl⟩
    obtain ⟨rx, ry, hrr⟩ := HT2.out
    rw [hrr] at HT ⊢
    rw [h2] at n3 HT
    clear ih hR HT2 hrr
    cases hq : t.kd <;> rw [hq] at hk <;> first | (cases hk; done) | skip
    all_goals (rw [← hkd, hq] at q0 q1 q2 q3 q4 q5 q6 q7 q8; simp only [reduceCtorEq, decide_false, decide_true] at q0 q1 q2 q3 q4 q5 q6 q7 q8; clear hk hkd hq hiw h2 hlen)
    all_goals (
      go_enter Tryz.func13, Tryz.ntmps13
      go_upto_region 1 with fail
      rw [← HW.out.1, ← HW.out.2]
      go_wp2_with (first | (go_at_call 23; refine (HIw.out _).mono ?_; rintro e w9 ⟨rfl, h9⟩; subst w9) | (go_at_call 34; refine HT.out.mono ?_; rintro e w2 ⟨rfl, hb2⟩; (have HS2 := hidLL (HS.out.step hb2)); clear hb2))
      go_ret2
      exact ⟨rfl, HS2.out.bel⟩)
  · rw [ev_two_bad hk h2]
    have hz : ((t.kids.length : Int) != 2) = true := by rw [bne_iff_ne]; omega
    cases hq : t.kd <;> rw [hq] at hk <;> first | (cases hk; done) | skip
    all_goals (rw [← hkd, hq] at q0 q1 q2 q3 q4 q5 q6 q7 q8; simp only [reduceCtorEq, decide_false, decide_true] at q0 q1 q2 q3 q4 q5 q6 q7 q8; clear hk hkd hq hiw h2 ih)
    all_goals (
      go_enter Tryz.func13, Tryz.ntmps13
      go_upto_region 1 with fail
      rw [← HW.out.1, ← HW.out.2]
      go_wp2_with (go_at_call 23; refine (HIw.out _).mono ?_; rintro e w9 ⟨rfl, h9⟩; subst w9)
      go_ret2
      exact ⟨rfl, HS.out.bel⟩)
end Go.Proofs.YtcfeflkhmncmjaaGreatDoor

/-
  The reference's Sum: totals (written by tools/genfr.py).
-/
import Derived.Test.YtcfeflkhmncmjaaGreatDoorFrB
namespace Go.Proofs.YtcfeflkhmncmjaaGreatDoor
open Go.RowKit

set_option maxHeartbeats 2000000 in
set_option maxRecDepth 20000 in
theorem sum_total {L : List Fct} {on known : Int} {t : Tr} (hk : t.kd = .total) (hl5 : L.length ≤ 500) (hG : ∀ x ∈ L, Good x) : SumIs L on known 13 t := by
  intro w bk bf who ka kc hf hl hn
  obtain ⟨W, hW⟩ : ∃ W, W = w.alloc (.cells #[.string t.kind, .string t.word, .int .i64 t.num, .slice ka t.kids.length kc] 25) := ⟨_, rfl⟩
  obtain ⟨ab, hab⟩ : ∃ ab, ab = w.heap.size := ⟨_, rfl⟩
  have HS : Hid (RS w W ab bk bf L who on known t ka kc) := by rw [hab]; exact RS.mk0 hf hl hn hW
  have n0 := HS.out.n0
  have n1 := HS.out.n1
  have n3 := HS.out.n3
  have l0 := HS.out.lk.l0
  have l1 := HS.out.lk.l1
  have l2 := HS.out.lk.l2
  have l3 := HS.out.lk.l3
  have HW := hidLL (And.intro hW hab)
  have q0 := kq_number t.kind
  have q1 := kq_name t.kind
  have q2 := kq_count t.kind
  have q3 := kq_total t.kind
  have q4 := kq_times t.kind
  have q5 := kq_plus t.kind
  have q6 := kq_minus t.kind
  have q7 := kq_max t.kind
  have q8 := kq_min t.kind
  have hkd : t.kd = kdOf t.kind := rfl
  have hlen := hn.lens.1
  clear hf hl hn hW hab
  have HIw := hidLL (rIsWord_f t.word)
  obtain ⟨iw, hiw⟩ : ∃ iw, iw = isWordB t.word := ⟨_, rfl⟩
  rw [← hiw] at HIw
  by_cases h1 : t.kids.length = 1
  · obtain ⟨a, hab⟩ := one_len h1
    have ha : t.kids[0]? = some a := by rw [hab]; rfl
    obtain ⟨g, o, ka0, kc0, rfl, a0, a1, a2, a3, har⟩ := HS.out.nr.kid ha
    simp only [Nat.zero_mul, Nat.add_zero] at a0 a1 a2 a3
    rw [h1] at n3
    have HL1 := hidLL h1
    have HR := hidLL har
    have HAB := hidLL ha
    have HIw2 := hidLL (rIsWord_f a.word)
    obtain ⟨iw2, hiw2⟩ : ∃ iw2, iw2 = isWordB a.word := ⟨_, rfl⟩
    rw [← hiw2] at HIw2
    have qn := kq_name a.kind
    have hbad : ¬ (iw = true ∧ (kdOf a.kind = .name ∧ a.kids.length = 0 ∧ iw2 = true)) → ev (envOf L on known) t who true = .err 9 := fun h => by
      refine ev_total_bad hk fun h9 => h ?_
      obtain ⟨e1, a', e2, e3⟩ := h9
      rw [hab] at e2
      injection e2 with e2
      subst e2
      unfold nameB at e3
      simp only [Bool.and_eq_true, decide_eq_true_eq] at e3
      exact ⟨hiw.trans e1, e3.1.1, e3.1.2, hiw2.trans e3.2⟩
    have hgood : iw = true → kdOf a.kind = .name → a.kids.length = 0 → iw2 = true → ev (envOf L on known) t who true = chk (sumI ((othersL L who a.word on known).map fun o => (valL L o t.word on known).1)) := fun e1 e2 e3 e4 => by
      refine ev_total hk hab (hiw.symm.trans e1) ?_
      unfold nameB
      rw [show a.kd = kdOf a.kind from rfl, e2, e3, ← hiw2, e4]
      rfl
    rw [← hkd, hk] at q0 q1 q2 q3 q4 q5 q6 q7 q8
    simp only [reduceCtorEq, decide_false, decide_true] at q0 q1 q2 q3 q4 q5 q6 q7 q8
    clear hk hkd hiw hiw2 h1 hlen
    cases iw with
    | false =>
      rw [hbad (by simp)]
      clear hbad hgood hG hab
      go_enter Tryz.func13, Tryz.ntmps13
      go_upto_region 1 with fail
      rw [← HW.out.1, ← HW.out.2]
      go_wp2_with (first | (go_at_call 23; refine (HIw.out _).mono ?_; rintro e w9 ⟨rfl, h9⟩; subst w9; clear HIw) | (go_at_call 23; refine (HIw2.out _).mono ?_; rintro e w9 ⟨rfl, h9⟩; subst w9))
      go_ret2
      exact ⟨rfl, HS.out.bel⟩
    | true =>
      by_cases hn : kdOf a.kind = .name
      · rw [hn] at qn
        simp only [decide_true] at qn
        by_cases h0 : a.kids.length = 0
        · rw [h0] at a3
          cases iw2 with
          | false =>
            rw [hbad (by simp)]
            clear hbad hgood hG h0 hn hab
            go_enter Tryz.func13, Tryz.ntmps13
            go_upto_region 1 with fail
            rw [← HW.out.1, ← HW.out.2]
            go_wp2_with (first | (go_at_call 23; refine (HIw.out _).mono ?_; rintro e w9 ⟨rfl, h9⟩; subst w9; clear HIw) | (go_at_call 23; refine (HIw2.out _).mono ?_; rintro e w9 ⟨rfl, h9⟩; subst w9))
            go_ret2
            exact ⟨rfl, HS.out.bel⟩
          | true =>
            rw [hgood rfl hn h0 rfl]
            clear hbad hgood hn h0 hab
            have HO : Hid (∀ V, Below W.heap.size W V → _) := fun V h => (HS.out.step h).others hl5 who a.word
            have HVb : Hid (∀ x, -1000000000000 ≤ (valL L x t.word on known).1 ∧ (valL L x t.word on known).1 ≤ 1000000000000) := fun x => val_bd L hG x t.word on known
            have ho4 := others_len L who a.word on known
            generalize othersL L who a.word on known = OS at *
            have HSb : Hid (∀ j, -(1000000000000 * ((OS.take j).length : Int)) ≤ sumI ((OS.take j).map fun x => (valL L x t.word on known).1) ∧ sumI ((OS.take j).map fun x => (valL L x t.word on known).1) ≤ 1000000000000 * ((OS.take j).length : Int)) := fun j => by
              have := sum_bd ((OS.take j).map fun x => (valL L x t.word on known).1) (fun y hy => by obtain ⟨x, _, rfl⟩ := List.mem_map.1 hy; exact HVb.out x)
              rw [List.length_map] at this
              exact this
            clear hG
            go_enter Tryz.func13, Tryz.ntmps13
            go_upto_region 1 with fail
            rw [← HW.out.1, ← HW.out.2]
            go_upto_region 25 with (first | (go_at_call 23; refine (HIw.out _).mono ?_; rintro e w9 ⟨rfl, h9⟩; subst w9; clear HIw) | (go_at_call 23; refine (HIw2.out _).mono ?_; rintro e w9 ⟨rfl, h9⟩; subst w9))
            clear HIw2
            go_cut [11] (fun x wx => ∃ sa sn sc, x = .slice sa sn sc ∧ sn = OS.length ∧ RS w wx ab bk bf L who on known t (some ⟨g, o, none⟩) kc ∧ IRead wx (.slice sa sn sc) OS)
            case first =>
              go_region_held3 (fun V => V.cell? ⟨bk, 0, none⟩ = some (.pointer (some ⟨bf, 0, none⟩)) ∧ V.cell? ⟨bk, 1, none⟩ = some (.int .i64 who) ∧ V.cell? ⟨bk, 2, none⟩ = some (.int .i64 on) ∧ V.cell? ⟨bk, 3, none⟩ = some (.int .i64 known) ∧ V.cell? ⟨ab, 3, none⟩ = some (.slice (some ⟨g, o, none⟩) 1 kc) ∧ V.cell? ⟨g, o + 1, none⟩ = some (.string a.word)) (first | go_keep | exact ⟨z0, z1, z2, z3, z4, z5⟩) ((go_simp; go_at_call 31; refine (HO.out _ ?_).mono ?_; (· first | exact (Below.refl _ W).drew | exact (bdrewN (Below.refl _ W) _).drew | exact bdrewN (Below.refl _ W) _); rintro e W3 ⟨sa, sn, sc, rfl, hsn, hsc, hrd, hb3, hs3⟩; (have HS3 := hidLL (And.intro hs3 hrd)); (have z0 := HS3.out.1.lk.l0); (have z1 := HS3.out.1.lk.l1); (have z2 := HS3.out.1.lk.l2); (have z3 := HS3.out.1.lk.l3); (have z4 := HS3.out.1.n3); rw [HL1.out] at z4; (have z5 := (hb3.cell (p := ⟨g, o + 1, none⟩) (cell_lt a1)).trans a1); (have HSn := hidLL hsn); clear hs3 hrd hb3 hsn))
              all_goals (go_wp2_with fail; go_meet; exact ⟨sa, sn, sc, rfl, HSn.out, HS3.out.1, HS3.out.2⟩)
            case rest =>
              obtain ⟨sa, sn, sc, rfl, hsn, hs3, hr3⟩ := hcut
              have HS3 := hidLL (And.intro hs3 hr3)
              have HSn := hidLL hsn
              have hs4 : sn ≤ 40 := by omega
              clear hsn ho4 HO hs3 hr3 a0 a1 a2 a3 n0 n1 n3 l0 l1 l2 l3
              go_wp2_with fail
              go_loopw [12, 13] (fun s i wr => ∃ (j : Nat) (y : Int), j ≤ sn ∧ i = .int .i64 j ∧ s = .int .i64 y ∧ y = sumI ((OS.take j).map fun x => (valL L x t.word on known).1) ∧ RS w wr ab bk bf L who on known t (some ⟨g, o, none⟩) kc ∧ IRead wr (.slice sa sn sc) OS) (fun _ i _ => sn - (RowKit.intOf i).toNat)
              case atStart => exact ⟨0, 0, by omega, rfl, rfl, by simp [sumI], HS3.out.1, HS3.out.2⟩
              case round =>
                obtain ⟨j, y, hj, rfl, rfl, hy, hs5, hr5⟩ := hrel
                have HY := hidLL hy
                have HT5 := hidLL (And.intro hs5 hr5)
                clear hy hs5 hr5
                by_cases hlt : j < sn
                · have hjz : (j : Int) < sn := by omega
                  obtain ⟨x, hx⟩ : ∃ x, OS[j]? = some x := ⟨_, List.getElem?_eq_getElem (by have := HSn.out; omega)⟩
                  obtain ⟨g2, rfl, p0⟩ := HT5.out.2.at hx
                  have hVb := HVb.out x
                  have hSb := HSb.out j
                  rw [← HY.out, List.length_take] at hSb
                  have hy1 : -40000000000000 ≤ y := by omega
                  have hy2 : y ≤ 40000000000000 := by omega
                  have HN : Hid (y + (valL L x t.word on known).1 = sumI ((OS.take (j + 1)).map fun x => (valL L x t.word on known).1)) := by
                    show _ = _
                    rw [List.take_add_one, hx, List.map_append]
                    show _ = sumI (_ ++ [(valL L x t.word on known).1])
                    rw [sum_snoc, ← HY.out]
                  have HVal : Hid (∀ V, Below wr.heap.size wr V → _) := fun V h => (HT5.out.1.step h).value hl5 x t.word
                  have hwr : IntKind.i64.wrap (y + (valL L x t.word on known).1) = y + (valL L x t.word on known).1 := by rw [IntKind.wrap_i64]; omega
                  generalize valL L x t.word on known = VV at *
                  obtain ⟨v, vb⟩ := VV
                  simp only at HN HVal hwr hVb
                  have l0 := HT5.out.1.lk.l0
                  have l2 := HT5.out.1.lk.l2
                  have l3 := HT5.out.1.lk.l3
                  have n1 := HT5.out.1.n1
                  clear hx hVb hSb
                  go_wp2_with fail
                  go_region_held3 (fun V => V.cell? ⟨bk, 0, none⟩ = some (.pointer (some ⟨bf, 0, none⟩)) ∧ V.cell? ⟨bk, 2, none⟩ = some (.int .i64 on) ∧ V.cell? ⟨bk, 3, none⟩ = some (.int .i64 known) ∧ V.cell? ⟨ab, 1, none⟩ = some (.string t.word) ∧ V.cell? ⟨g2, j, none⟩ = some (.int .i64 x)) (first | go_keep | exact ⟨z0, z2, z3, z4, z5⟩) ((go_simp; go_at_call 24; refine (HVal.out _ ?_).mono ?_; (· first | exact (Below.refl _ wr).drew | exact (bdrewN (Below.refl _ wr) _).drew | exact bdrewN (Below.refl _ wr) _); rintro e W6 ⟨rfl, hb6, hs6⟩; (have HS6 := hidLL (And.intro hs6 (HT5.out.2.bel ((Below.refl _ wr).drew.trans hb6)))); (have z0 := HS6.out.1.lk.l0); (have z2 := HS6.out.1.lk.l2); (have z3 := HS6.out.1.lk.l3); (have z4 := HS6.out.1.n1); (have z5 := (((Below.refl _ wr).drew.trans hb6).cell (p := ⟨g2, j, none⟩) (cell_lt p0)).trans p0); clear hs6 hb6))
                  all_goals (go_wp2; go_roundw)
                  all_goals first | (show _ < _; simp [RowKit.intOf]; omega) | exact ⟨j + 1, y + v, by omega, by simp, rfl, HN.out, HS6.out⟩
                · have hjz : ¬ (j : Int) < sn := by omega
                  have HFin : Hid (y = sumI (OS.map fun x => (valL L x t.word on known).1)) := by
                    show _ = _
                    rw [HY.out, List.take_of_length_le (by have := HSn.out; omega)]
                  have HB5 := hidLL HT5.out.1.bel
                  cases hv : valB y with
                  | false =>
                    have HE := hidLL (chk_bad hv)
                    have HG := hidLL (fun V => good_bad y V hv)
                    clear hv hlt
                    go_wp2_with (go_at_call 32; refine (HG.out _).mono ?_; rintro e w9 ⟨rfl, h9⟩; subst w9)
                    go_ret2
                    exact ⟨by rw [← HFin.out, HE.out]; rfl, HB5.out⟩
                  | true =>
                    have HE := hidLL (chk_fine hv)
                    have HG := hidLL (fun V => good_ok y V hv)
                    clear hv hlt
                    go_wp2_with (go_at_call 32; refine (HG.out _).mono ?_; rintro e w9 ⟨rfl, h9⟩; subst w9)
                    go_ret2
                    exact ⟨by rw [← HFin.out, HE.out]; rfl, HB5.out⟩
        · rw [hbad (by simp [h0])]
          have hlk := (HR.out).lens.1
          have hz : ((a.kids.length : Int) != 0) = true := by rw [bne_iff_ne]; omega
          clear hbad hgood hG hn hab h0
          go_enter Tryz.func13, Tryz.ntmps13
          go_upto_region 1 with fail
          rw [← HW.out.1, ← HW.out.2]
          go_wp2_with (first | (go_at_call 23; refine (HIw.out _).mono ?_; rintro e w9 ⟨rfl, h9⟩; subst w9; clear HIw) | (go_at_call 23; refine (HIw2.out _).mono ?_; rintro e w9 ⟨rfl, h9⟩; subst w9))
          go_ret2
          exact ⟨rfl, HS.out.bel⟩
      · rw [hbad (by simp [hn])]
        rw [decide_eq_false hn] at qn
        clear hbad hgood hG hn hab
        go_enter Tryz.func13, Tryz.ntmps13
        go_upto_region 1 with fail
        rw [← HW.out.1, ← HW.out.2]
        go_wp2_with (first | (go_at_call 23; refine (HIw.out _).mono ?_; rintro e w9 ⟨rfl, h9⟩; subst w9; clear HIw) | (go_at_call 23; refine (HIw2.out _).mono ?_; rintro e w9 ⟨rfl, h9⟩; subst w9))
        go_ret2
        exact ⟨rfl, HS.out.bel⟩
  · rw [ev_total_bad hk (by rintro ⟨_, a, h, _⟩; rw [h] at h1; exact h1 rfl)]
    have hz : ((t.kids.length : Int) != 1) = true := by rw [bne_iff_ne]; omega
    rw [← hkd, hk] at q0 q1 q2 q3 q4 q5 q6 q7 q8
    simp only [reduceCtorEq, decide_false, decide_true] at q0 q1 q2 q3 q4 q5 q6 q7 q8
    clear hk hkd hiw hG
    go_enter Tryz.func13, Tryz.ntmps13
    go_upto_region 1 with fail
    rw [← HW.out.1, ← HW.out.2]
    go_wp2_with (go_at_call 23; refine (HIw.out _).mono ?_; rintro e w9 ⟨rfl, h9⟩; subst w9)
    go_ret2
    exact ⟨rfl, HS.out.bel⟩
end Go.Proofs.YtcfeflkhmncmjaaGreatDoor

/-
  SumsMonths, walked.
-/
import Derived.Test.YtgfkaheoahkbcaaDoorSuPays
import Derived.Test.YtgfkaheoahkbcaaDoorSuCod
namespace Go.Proofs.YtgfkaheoahkbcaaDoor
open Go.RowKit Go.Extern.Stop Go.Stop Go.Extern

set_option maxHeartbeats 1000000 in
theorem samePays_w {B1 B2 n c n2 c2 : Nat} {a a2 : Option Addr} {ps : List Py} {w : World} (h1 : PRd w B1 (.slice a n c) ps) (h2 : PRd w B2 (.slice a2 n2 c2) ps) :
    Calls Tryd.prog 9 #[.slice a n c, .slice a2 n2 c2] w fun e w' => e = .returned (.bool true) ∧ Below w.heap.size w w' := by
  have e1 : n = ps.length := by obtain ⟨_, _, e, _⟩ := h1; injection e
  have e2 : n2 = ps.length := by obtain ⟨_, _, e, _⟩ := h2; injection e
  have hlen : n ≤ 100000000 := by obtain ⟨_, _, _, e, _⟩ := h1; omega
  obtain rfl : n = n2 := by omega
  have H1 := hidIt h1
  have H2 := hidIt h2
  have HL := hidIt e1
  have hnn : ((n : Int) != (n : Int)) = false := by simp
  clear h1 h2 e1 e2
  go_enter Tryd.func9, Tryd.ntmps9
  go_wp2_with fail
  go_loopw [5] (fun t wr => ∃ i q : Nat, i ≤ n ∧ t = .int .i64 i ∧ wr = w.drewN q) (fun t _ => n - (RowKit.intOf t).toNat)
  case atStart => exact ⟨0, 0, by omega, rfl, rfl⟩
  case round =>
    obtain ⟨i, q, hi, rfl, rfl⟩ := hrel
    by_cases hlt : i < n
    · have c0 : decide ((i : Int) < n) = true := by simp; omega
      obtain ⟨x, hx⟩ : ∃ x, ps[i]? = some x := ⟨_, List.getElem?_eq_getElem (by have := HL.out; omega)⟩
      obtain ⟨g, rfl, _, p1, p2, p3⟩ := H1.out.at hx
      obtain ⟨g2, rfl, _, r1, r2, r3⟩ := H2.out.at hx
      obtain ⟨x1, x2, x3⟩ := x
      have d1 : (x1 != x1) = false := by simp
      have d2 : (x2 != x2) = false := by simp
      have d3 : (x3 != x3) = false := by simp
      have hiz : (i : Int) < n := by omega
      clear hx
      go_wp2_with fail
      go_quiet (fail)
      go_wp2
      go_roundw
      case rel => exact ⟨i + 1, _, by omega, by go_num, rfl⟩
      case measure => simp [RowKit.intOf]; omega
    · have c0 : decide ((i : Int) < n) = false := by simp; omega
      go_wp2
      go_ret
      exact ⟨rfl, bdrewN (Below.refl _ _) _⟩
theorem Laid.sent {w : World} {p : Nat → Addr} (h : Laid w p) : Sent w p := ⟨h.cell 8 (by omega), h.cell 1 (by omega), h.cell 3 (by omega), h.cell 2 (by omega)⟩
theorem errM_lt {l : List Int} {f way : Int} {k : Nat} (h : errM l f way = some k) : k < 11 := by
  unfold errM at h
  (repeat' split at h) <;> first | (injection h with h; omega) | cases h
set_option maxHeartbeats 1000000 in
/-- The law. -/
theorem sumsMonths_walk {n c : Nat} {a : Option Addr} {l : List Int} {f way : Int} {p : Nat → Addr} {w : World} (h : IRd w w.heap.size (.slice a n c) l) (hn : n = l.length) (L : Laid w p) :
    Calls Tryd.prog 3 #[.slice a n c, .int .i64 f, .int .i64 way] w fun e w' => e = .returned (.bool true) ∧ Below w.heap.size w w' := by
  have HP := hidIt (fun W => pays_w W)
  by_cases hbig : 4002 < n
  · have hz : (4002 : Int) < (n : Int) := by omega
    clear h hn
    go_enter Tryd.func3, Tryd.ntmps3
    go_wp2_with fail
    refine (HP.out _).mono ?_
    rintro e w1 ⟨rfl, hb1⟩
    have HB1 := hidIt hb1
    clear hb1
    go_wp2
    go_ret
    exact ⟨rfl, HB1.out⟩
  · have hz : ¬ (4002 : Int) < (n : Int) := by omega
    have HR := hidIt h
    have HL := hidIt hn
    have HLd := hidIt L
    cases hk : errM l f way with
    | some k =>
      have HK := hidIt hk
      clear h hn L hk
      go_enter Tryd.func3, Tryd.ntmps3
      go_wp2_with fail
      refine (HP.out _).mono ?_
      rintro e w1 ⟨rfl, hb1⟩
      have HB1 := hidIt hb1
      have HR1 := hidIt (HR.out.below hb1)
      clear hb1
      go_wp2_with fail
      refine (months_err HR1.out HL.out (HLd.out.below HB1.out).sent HK.out).mono ?_
      rintro e w2 ⟨rfl, hb2⟩
      have HB2 := hidIt (HB1.out.trans (hb2.mono HB1.out.size))
      clear hb2
      have HR2 := hidIt (HR.out.below HB2.out)
      go_wp2_with fail
      refine (monthsOf_err HR2.out HL.out HK.out).mono ?_
      rintro e w3 ⟨rfl, hb3⟩
      have HB3 := hidIt (HB2.out.trans (hb3.mono HB2.out.size))
      clear hb3
      go_wp2_with fail
      refine (coded_sent k (errM_lt HK.out) _ p _ (HLd.out.below HB3.out)).mono ?_
      rintro e w4 ⟨rfl, hb4⟩
      have ht : ((k : Int) + 1 == (k : Int) + 1) = true := by simp
      rw [ht]
      have HB4 := hidIt (HB3.out.trans (hb4.mono HB3.out.size))
      clear hb4 ht
      go_wp2_with fail
      refine (samePays_w (PRd.none _ 0 _ _) (PRd.none _ 0 _ _)).mono ?_
      rintro e w5 ⟨rfl, hb5⟩
      have HB5 := hidIt (HB4.out.trans (hb5.mono HB4.out.size))
      clear hb5
      go_wp2
      go_ret
      exact ⟨rfl, HB5.out⟩
    | none =>
      obtain ⟨ps, hps⟩ := MoR.ex way l.length f l (Nat.le_refl _) (by
        rcases (errM_none hk).2.2.1 with e | e
        · exact .inl (List.eq_nil_of_length_eq_zero e)
        · exact .inr e)
      have HK := hidIt hk
      have HPs := hidIt hps
      have HRf : Hid (∀ W, Below w.heap.size w W → Calls Tryd.prog 7 #[.slice a n c, .int .i64 f, .int .i64 way] W (PayRR W ps)) := fun W hW => by
        rcases Nat.eq_zero_or_pos n with e | e
        · subst e
          have hl0 : l = [] := List.eq_nil_of_length_eq_zero hn.symm
          rw [hl0] at hps
          rw [hps.inv_nil]
          exact monthsOf_none (errM_none hk).1
        · exact monthsOf_some (HR.out.below hW) hn hW.size e hk hps
      clear h hn L hk hps
      go_enter Tryd.func3, Tryd.ntmps3
      go_wp2_with fail
      refine (HP.out _).mono ?_
      rintro e w1 ⟨rfl, hb1⟩
      have HB1 := hidIt hb1
      have HR1 := hidIt (HR.out.below hb1)
      clear hb1
      go_wp2_with fail
      refine (months_ok HR1.out HL.out HB1.out.size HK.out HPs.out).mono ?_
      rintro e w2 ⟨ad2, m2, cc2, rfl, hm2, hb2, hr2⟩
      have HB2 := hidIt (HB1.out.trans (hb2.mono HB1.out.size))
      have HP2 := hidIt hr2.rd
      clear hb2 hr2 hm2
      go_wp2_with fail
      refine (HRf.out _ HB2.out).mono ?_
      rintro e w3 ⟨ad3, m3, cc3, rfl, hm3, hb3, hr3⟩
      have HB3 := hidIt (HB2.out.trans (hb3.mono HB2.out.size))
      have HP3 := hidIt hr3.rd
      have HP23 := hidIt (HP2.out.below hb3)
      clear hb3 hr3 hm3
      go_wp2_with fail
      refine (coded_nil 0 _).mono ?_
      rintro e w4 ⟨rfl, rfl⟩
      go_wp2_with fail
      refine (samePays_w HP23.out HP3.out).mono ?_
      rintro e w5 ⟨rfl, hb5⟩
      have HB5 := hidIt (HB3.out.trans (hb5.mono HB3.out.size))
      clear hb5
      go_wp2
      go_ret
      exact ⟨rfl, HB5.out⟩
end Go.Proofs.YtgfkaheoahkbcaaDoor

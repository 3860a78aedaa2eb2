/-
  DutiesFirm, walked.
-/
import Derived.Test.YtkaeolcchhneoaaDoorDuL2
import Derived.Test.YtkaeolcchhneoaaDoorDuEq
import Derived.Test.YtkaeolcchhneoaaDoorDuEx
namespace Go.Proofs.YtkaeolcchhneoaaDoor
open Go.RowKit Go.Sort Go.Lib

theorem plan_null (w : World) : Calls Tryd.prog 24 #[.pointer none] w (PlanR (fun _ => false) [] w) := by
  go_enter Tryd.func24, Tryd.ntmps24
  go_wp2
  refine bodyPost_ret (v := .agg #[.bool false, .bool false, .bool false, .bool false, .bool false, .bool false, .bool false, .int .i64 7, .slice none 0 0]) (by simp [results, Tryd.results24, go_sem]) rfl ⟨⟨_, rfl, fun _ => false, .slice none 0 0, fun _ => rfl, rfl, .inl ⟨rfl, ?_⟩, by simp⟩, bel1 _ _⟩
  have h1 : hol (fun _ => false) [] = [] := rfl
  rw [h1]
  simp [ready, Lib.compact, Lib.compactUpTo]
theorem newPlan_nil (w : World) : Calls Tryd.prog 19 #[.pointer none] w (NewPl (fun _ => false) [] w) := newPlan_p (plan_null w)
/-- Are two states the same but for what they stand for? -/
def likeB (s t : St) : Bool := decide (t.d = s.d) && (t.st == s.st && t.day == s.day)
theorem like_self (s : St) : likeB s s = true := by simp [likeB]
theorem any_take {α : Type} (f : α → Bool) {l : List α} {k : Nat} {x : α} (h : l[k]? = some x) : (l.take (k + 1)).any f = ((l.take k).any f || f x) := by
  rw [List.take_add_one, h, List.any_append]
  simp
set_option maxHeartbeats 8000000 in
set_option maxRecDepth 10000 in
theorem dutiesFirm_w {n c m cc : Nat} {a aa : Option Addr} {l : List Du} {ev : List Ev} {on later : Int} {p : Nat → Addr} {w : World} (h : RdG duE w w.heap.size (.slice a n c) l) (he : RdG evE w w.heap.size (.slice aa m cc) ev) (L : Laid w p) :
    Calls Tryd.prog 3 #[.slice a n c, .slice aa m cc, .int .i64 on, .int .i64 later] w fun e w' => e = .returned (.bool true) ∧ Below w.heap.size w w' := by
  obtain ⟨F, hF, hx⟩ := due_all (fun _ => false) [] p
  have HDu := hidIt (due_w (w := w) L hF hx (fun W _ => newPlan_nil W))
  have HN : Hid (∀ W, Below w.heap.size w W → Calls Tryd.prog 5 #[.slice a n c, .slice aa m cc, .int .i64 on] W (NearR n m W)) := fun W hW => near_p (h.below hW) he.len.2
  have HO : Hid (n ≤ 202 → ∀ W, Below w.heap.size w W → Calls Tryd.prog 7 #[.slice a n c] W fun e w' => (∃ a' n' c', e = .returned (.slice a' n' c') ∧ RdG duE w' w'.heap.size (.slice a' n' c') l) ∧ Below W.heap.size W w') := fun hn W hW => dutiesOf_p (h.below hW) hW.size hn
  have HE : Hid (m ≤ 402 → ∀ W, Below w.heap.size w W → Calls Tryd.prog 8 #[.slice aa m cc] W fun e w' => (∃ a' n' c', e = .returned (.slice a' n' c') ∧ RdG evE w' w'.heap.size (.slice a' n' c') ev) ∧ Below W.heap.size W w') := fun hn W hW => eventsOf_p (he.below hW) hW.size hn
  have HS : Hid (∀ (day : Int) W a' n' c' aa' m' cc', Below w.heap.size w W → RdG duE W W.heap.size (.slice a' n' c') l → RdG evE W W.heap.size (.slice aa' m' cc') ev → Calls Tryd.prog 6 #[.slice a' n' c', .slice aa' m' cc', .pointer none, .int .i64 day] W fun e w' => StsR p F l ev day e w' ∧ Below W.heap.size W w') := fun day W a' n' c' aa' m' cc' hW h1 h2 => states_top h1 h2 (Nat.le_refl _) (L.below hW) hF hx (fun W' _ => newPlan_nil W')
  clear h he L hF hx
  go_enter Tryd.func3, Tryd.ntmps3
  go_wp2_with fail
  refine HDu.out.mono ?_
  rintro e w1 ⟨rfl, hb⟩
  have HB1 := hidIt hb
  clear hb
  go_wp2_with fail
  refine (HN.out _ HB1.out).mono ?_
  rintro e w2 ⟨⟨b, rfl, hbn⟩, hb⟩
  have HB2 := hidIt (HB1.out.trans (hb.mono HB1.out.size))
  clear hb
  cases b
  · clear hbn
    go_wp2
    go_ret
    exact ⟨rfl, HB2.out⟩
  obtain ⟨hn2, hm2⟩ := hbn rfl
  by_cases hlo : later < on
  · go_wp2
    go_ret
    exact ⟨rfl, HB2.out⟩
  have hlo2 : on ≤ later := by omega
  go_wp2_with fail
  refine (HO.out hn2 _ HB2.out).mono ?_
  rintro e w3 ⟨⟨a3, n3, c3, rfl, hr3⟩, hb⟩
  have HB3 := hidIt (HB2.out.trans (hb.mono HB2.out.size))
  have HR3 := hidIt hr3
  clear hb hr3
  go_wp2_with fail
  refine (HE.out hm2 _ HB3.out).mono ?_
  rintro e w4 ⟨⟨a4, n4, c4, rfl, hr4⟩, hb⟩
  have HB4 := hidIt (HB3.out.trans (hb.mono HB3.out.size))
  have HR4 := hidIt hr4
  have HR34 := hidIt ((HR3.out.below hb).mono hb.size)
  clear hb hr4
  go_wp2_with fail
  refine (HS.out on _ _ _ _ _ _ _ HB4.out HR34.out HR4.out).mono ?_
  rintro e w5 ⟨hs5, hb⟩
  have HB5 := hidIt (HB4.out.trans (hb.mono HB4.out.size))
  have HSt5 := hidIt hs5
  clear hb hs5
  have hcase : ∀ {day : Int} {e : Ending} {w' : World}, StsR p F l ev day e w' → (∃ k, e = .returned (.tuple #[.slice none 0 0, .iface 116 (.pointer (some (p k)))])) ∨ ∃ a' n' c', e = .returned (.tuple #[.slice a' n' c', .nilIface]) ∧ RdG stE w' w'.heap.size (.slice a' n' c') (statesL (insD F) ev day l) := fun {day e w'} hs => by
    unfold StsR at hs
    cases hk : statesK F l ev day with
    | some k => rw [hk] at hs; exact .inl ⟨k, hs⟩
    | none => rw [hk] at hs; exact .inr hs
  rcases hcase HSt5.out with ⟨k5, rfl⟩ | ⟨a5, n5, c5, rfl, hr5⟩
  · clear HSt5
    go_wp2_with fail
    refine (HO.out hn2 _ HB5.out).mono ?_
    rintro e w6 ⟨⟨a6, n6, c6, rfl, hr6⟩, hb⟩
    have HB6 := hidIt (HB5.out.trans (hb.mono HB5.out.size))
    have HR6 := hidIt hr6
    clear hb hr6
    go_wp2_with fail
    refine (HE.out hm2 _ HB6.out).mono ?_
    rintro e w7 ⟨⟨a7, n7, c7, rfl, hr7⟩, hb⟩
    have HB7 := hidIt (HB6.out.trans (hb.mono HB6.out.size))
    have HR7 := hidIt hr7
    have HR67 := hidIt ((HR6.out.below hb).mono hb.size)
    clear hb hr7
    go_wp2_with fail
    refine (HS.out later _ _ _ _ _ _ _ HB7.out HR67.out HR7.out).mono ?_
    rintro e w8 ⟨hs8, hb⟩
    have HB8 := hidIt (HB7.out.trans (hb.mono HB7.out.size))
    have HSt8 := hidIt hs8
    clear hb hs8
    rcases hcase HSt8.out with ⟨k8, rfl⟩ | ⟨a8, n8, c8, rfl, hr8⟩
    · go_wp2
      go_ret
      exact ⟨rfl, HB8.out⟩
    · clear hr8
      go_wp2
      go_ret
      exact ⟨rfl, HB8.out⟩
  clear HSt5
  have HR5 := hidIt hr5
  clear hr5
  go_wp2_with fail
  refine (HO.out hn2 _ HB5.out).mono ?_
  rintro e w6 ⟨⟨a6, n6, c6, rfl, hr6⟩, hb⟩
  have HB6 := hidIt (HB5.out.trans (hb.mono HB5.out.size))
  have HR6 := hidIt hr6
  have HR56 := hidIt ((HR5.out.below hb).mono hb.size)
  clear hb hr6
  go_wp2_with fail
  refine (HE.out hm2 _ HB6.out).mono ?_
  rintro e w7 ⟨⟨a7, n7, c7, rfl, hr7⟩, hb⟩
  have HB7 := hidIt (HB6.out.trans (hb.mono HB6.out.size))
  have HR7 := hidIt hr7
  have HR67 := hidIt ((HR6.out.below hb).mono hb.size)
  have HR57 := hidIt ((HR56.out.below hb).mono hb.size)
  clear hb hr7
  go_wp2_with fail
  refine (HS.out later _ _ _ _ _ _ _ HB7.out HR67.out HR7.out).mono ?_
  rintro e w8 ⟨hs8, hb⟩
  have HB8 := hidIt (HB7.out.trans (hb.mono HB7.out.size))
  have HSt8 := hidIt hs8
  have HR58 := hidIt ((HR57.out.below hb).mono hb.size)
  clear hb hs8
  rcases hcase HSt8.out with ⟨k8, rfl⟩ | ⟨a8, n8, c8, rfl, hr8⟩
  · go_wp2
    go_ret
    exact ⟨rfl, HB8.out⟩
  have HR8 := hidIt hr8
  have HFi : Hid (∀ s, s ∈ statesL (insD F) ev on l → s.st ≠ 0 → s.st ≠ 3 → s.of < 0 → s ∈ statesL (insD F) ev later l) := fun s hs h0 h3 ho => done_firm hlo2 hs h0 h3 ho
  clear hr8 HSt8 hcase HS HO HE HN HDu HR34 HR4 HR3 HR5 HR56 HR57 HR67 HR6 HR7
  generalize statesL (insD F) ev on l = A at *
  generalize statesL (insD F) ev later l = C at *
  obtain ⟨hnA, hbA⟩ := HR58.out.len
  obtain ⟨hnC, hbC⟩ := HR8.out.len
  have HNA := hidIt hnA
  have HNC := hidIt hnC
  clear hnA hnC
  have HBq : Hid (∀ q, Below w.heap.size w (w8.drewN q)) := fun q => bdrewN HB8.out q
  go_wp2_with fail
  go_loopw [15] (fun t wr => ∃ i q : Nat, i ≤ n5 ∧ t = .int .i64 i ∧ wr = w8.drewN q) (fun t _ => n5 - (RowKit.intOf t).toNat)
  case atStart => exact ⟨0, 0, by omega, rfl, rfl⟩
  case round =>
    obtain ⟨i, q, hi, rfl, rfl⟩ := hrel
    by_cases hlt : i < n5
    · have c0 : decide ((i : Int) < n5) = true := by simp; omega
      obtain ⟨s, hs, _⟩ := get_in (l := A) (i := i) (by have := HNA.out; omega)
      obtain ⟨gs, os, rfl, _, hrg⟩ := HR58.out.at hs
      obtain ⟨hsd, s8, s9, s10⟩ := st_cells hrg
      obtain ⟨d0, d1, d2, d3, d4, d5, d6, d7⟩ := du_cells hsd
      have hk : stE.k = 11 := rfl
      rw [hk] at s8 s9 s10 d0 d1 d2 d3 d4 d5 d6 d7
      have hiz : (i : Int) < n5 := by omega
      have HIn := hidIt (HFi.out s (List.mem_of_getElem? hs))
      obtain ⟨⟨sn, sw, sf, st, se, sN, sU, sR⟩, sst, sdy, sof⟩ := s
      simp only at s8 s9 s10 d0 d1 d2 d3 d4 d5 d6 d7
      clear hk hrg hsd hs
      by_cases h0 : sst = 0
      · subst h0
        go_wp2
        exact ⟨⟨i + 1, _, by omega, by go_num, rfl⟩, by simp [RowKit.intOf]; omega⟩
      by_cases h3 : sst = 3
      · subst h3
        go_wp2
        exact ⟨⟨i + 1, _, by omega, by go_num, rfl⟩, by simp [RowKit.intOf]; omega⟩
      have b0 : (sst == 0) = false := by simp [h0]
      have b3 : (sst == 3) = false := by simp [h3]
      by_cases ho : 0 ≤ sof
      · go_wp2
        exact ⟨⟨i + 1, _, by omega, by go_num, rfl⟩, by simp [RowKit.intOf]; omega⟩
      have HAny : Hid (C.any (likeB ⟨⟨sn, sw, sf, st, se, sN, sU, sR⟩, sst, sdy, sof⟩) = true) := List.any_eq_true.2 ⟨_, HIn.out h0 h3 (by show sof < 0; omega), like_self _⟩
      clear HIn
      go_wp2_with fail
      go_loopw [16, 17] (fun t16 t17 wr => ∃ (k : Nat) (b : Bool), k ≤ n8 ∧ t16 = .bool b ∧ t17 = .int .i64 k ∧ b = (C.take k).any (likeB ⟨⟨sn, sw, sf, st, se, sN, sU, sR⟩, sst, sdy, sof⟩) ∧ ∃ q, wr = w8.drewN q) (fun _ t17 _ => n8 - (RowKit.intOf t17).toNat)
      case atStart => exact ⟨0, false, by omega, rfl, rfl, rfl, _, rfl⟩
      case round =>
        obtain ⟨k, b, hk, rfl, rfl, hbb, q2, rfl⟩ := hrel
        have HF := hidIt hbb
        clear hbb
        by_cases hlt2 : k < n8
        · have c1 : decide ((k : Int) < n8) = true := by simp; omega
          obtain ⟨t, ht, _⟩ := get_in (l := C) (i := k) (by have := HNC.out; omega)
          obtain ⟨gt, ot, rfl, _, htg⟩ := HR8.out.at ht
          obtain ⟨htd, t8, t9, _⟩ := st_cells htg
          obtain ⟨x0, x1, x2, x3, x4, x5, x6, x7⟩ := du_cells htd
          have hk2 : stE.k = 11 := rfl
          rw [hk2] at t8 t9 x0 x1 x2 x3 x4 x5 x6 x7
          have hkz : (k : Int) < n8 := by omega
          have HT := hidIt ht
          obtain ⟨⟨tn, tw, tf, tt, te, tN, tU, tR⟩, tst, tdy, tof⟩ := t
          simp only at t8 t9 x0 x1 x2 x3 x4 x5 x6 x7
          have hEq : ∀ W : World, (Op.equalIn 10000 38 (.agg #[.string tn, .string tw, .int .i64 tf, .int .i64 tt, .string te, .int .i64 tN, .int .i64 tU, .int .i64 tR]) (.agg #[.string sn, .string sw, .int .i64 sf, .int .i64 st, .string se, .int .i64 sN, .int .i64 sU, .int .i64 sR])).run Tryd.prog W = .ok (decide ((⟨tn, tw, tf, tt, te, tN, tU, tR⟩ : Du) = ⟨sn, sw, sf, st, se, sN, sU, sR⟩)) W := fun W => eq_duty ⟨tn, tw, tf, tt, te, tN, tU, tR⟩ ⟨sn, sw, sf, st, se, sN, sU, sR⟩ W
          have HLk : Hid (likeB ⟨⟨sn, sw, sf, st, se, sN, sU, sR⟩, sst, sdy, sof⟩ ⟨⟨tn, tw, tf, tt, te, tN, tU, tR⟩, tst, tdy, tof⟩ = (decide ((⟨tn, tw, tf, tt, te, tN, tU, tR⟩ : Du) = ⟨sn, sw, sf, st, se, sN, sU, sR⟩) && (tst == sst && tdy == sdy))) := rfl
          clear hk2 htg htd ht
          generalize decide ((⟨tn, tw, tf, tt, te, tN, tU, tR⟩ : Du) = ⟨sn, sw, sf, st, se, sN, sU, sR⟩) = eD at *
          cases b
          · cases eD
            · go_wp2_with fail
              go_quiet (fail)
              go_wp2
              refine ⟨⟨k + 1, false, by omega, rfl, by go_num, ?_, _, rfl⟩, by simp [RowKit.intOf]; omega⟩
              rw [any_take _ HT.out, ← HF.out, HLk.out]
              rfl
            · cases eS : (tst == sst)
              · rw [eS] at HLk
                go_wp2_with fail
                go_quiet (fail)
                go_wp2
                refine ⟨⟨k + 1, false, by omega, rfl, by go_num, ?_, _, rfl⟩, by simp [RowKit.intOf]; omega⟩
                rw [any_take _ HT.out, ← HF.out, HLk.out]
                rfl
              · cases eY : (tdy == sdy)
                · rw [eS, eY] at HLk
                  go_wp2_with fail
                  go_quiet (fail)
                  go_wp2
                  refine ⟨⟨k + 1, false, by omega, rfl, by go_num, ?_, _, rfl⟩, by simp [RowKit.intOf]; omega⟩
                  rw [any_take _ HT.out, ← HF.out, HLk.out]
                  rfl
                · rw [eS, eY] at HLk
                  go_wp2_with fail
                  go_quiet (fail)
                  go_wp2
                  refine ⟨⟨k + 1, true, by omega, rfl, by go_num, ?_, _, rfl⟩, by simp [RowKit.intOf]; omega⟩
                  rw [any_take _ HT.out, ← HF.out, HLk.out]
                  rfl
          · go_wp2_with fail
            go_quiet (fail)
            go_wp2
            refine ⟨⟨k + 1, true, by omega, rfl, by go_num, ?_, _, rfl⟩, by simp [RowKit.intOf]; omega⟩
            rw [any_take _ HT.out, ← HF.out]
            simp
        · have c1 : decide ((k : Int) < n8) = false := by simp; omega
          have HT : Hid (C.take k = C) := List.take_of_length_le (by have := HNC.out; omega)
          obtain rfl : b = true := by rw [HF.out, HT.out]; exact HAny.out
          go_wp2
          exact ⟨⟨i + 1, _, by omega, by go_num, rfl⟩, by simp [RowKit.intOf]; omega⟩
    · have c0 : decide ((i : Int) < n5) = false := by simp; omega
      go_wp2
      go_ret
      exact ⟨rfl, HBq.out _⟩
end Go.Proofs.YtkaeolcchhneoaaDoor

/-
  Duties, the reference: DutiesValid.
-/
import Derived.Test.YtkaeolcchhneoaaGreatDoorDuR1
import Derived.Test.YtkaeolcchhneoaaGreatDoorDuP7
import Derived.Test.YtkaeolcchhneoaaGreatDoorAgrG
import Derived.Deep.RegionHeld3
namespace Go.Proofs.YtkaeolcchhneoaaGreatDoor
open Go.RowKit Go.Sort Go.Lib

def codeN : Option Nat → Int
  | none => 0
  | some k => (k : Int) + 1
theorem retI {a b : Int} (h : a = b) : Ending.returned (.int .i64 a) = .returned (.int .i64 b) := by rw [h]
set_option maxHeartbeats 8000000 in
set_option maxRecDepth 10000 in
theorem rValid_p {B n c m cc bb : Nat} {a aa : Option Addr} {vv : Value} {l : List Du} {ev : List Ev} {on : Int} {F : Du → DR} {off : Int → Bool} {xs : List Int} {w : World} (h : RdG duE w B (.slice a n c) l) (he : RdG evE w B (.slice aa m cc) ev) (hB : B ≤ w.heap.size) (hC : Cal w bb off xs vv) (hF : ∀ d, RDue off xs (d.til + 1) d.n d.u d.r (F d)) :
    Calls Tryz.prog 11 #[.slice a n c, .slice aa m cc, .pointer (some ⟨bb, 0, none⟩), .int .i64 on] w fun e w' => e = .returned (.int .i64 (codeN (statesK F l ev on))) ∧ Below w.heap.size w w' := by
  obtain ⟨hn, hnb⟩ := h.len
  obtain ⟨hm, hmb⟩ := he.len
  have HR := hidIt (And.intro h hn)
  have HE := hidIt (And.intro he hm)
  have HC := hidIt hC
  have HF := hidIt hF
  have HD := hidIt (fun n w => rIsDay_any n w)
  have HV : Hid (validK l ev on = if 200 < n ∨ 400 < m then some 1 else if (!isDayB on || l.any wrongB || ev.any neverB) = true then some 3 else none) := by show _ = _; unfold validK; rw [← hn, ← hm]
  clear h he hn hm hC hF
  by_cases h1 : 200 < n
  · have HX : Hid (statesK F l ev on = some 1) := by show _ = _; unfold statesK; rw [HV.out, if_pos (.inl h1)]
    have h1z : (200 : Int) < n := by omega
    go_enter Tryz.func11, Tryz.ntmps11
    go_wp2
    go_ret
    exact ⟨retI (by rw [HX.out]; rfl), Below.refl _ _⟩
  by_cases h2 : 400 < m
  · have HX : Hid (statesK F l ev on = some 1) := by show _ = _; unfold statesK; rw [HV.out, if_pos (.inr h2)]
    have h1z : ¬ (200 : Int) < n := by omega
    have h2z : (400 : Int) < m := by omega
    go_enter Tryz.func11, Tryz.ntmps11
    go_wp2
    go_ret
    exact ⟨retI (by rw [HX.out]; rfl), Below.refl _ _⟩
  have h1z : ¬ (200 : Int) < n := by omega
  have h2z : ¬ (400 : Int) < m := by omega
  rw [if_neg (by omega)] at HV
  have HDo := hidIt (fun w => HD.out on w)
  have HBq : Hid (∀ q, Below w.heap.size w (w.drewN q)) := fun q => bdrewN (Below.refl _ _) q
  go_enter Tryz.func11, Tryz.ntmps11
  go_wp2_with fail
  refine (HDo.out _).mono ?_
  rintro e w1 ⟨rfl, ew⟩
  subst w1
  go_wp2_with fail
  go_loopw [9, 10] (fun t9 t10 wr => ∃ (i q : Nat) (b : Bool), i ≤ n ∧ t9 = .bool b ∧ t10 = .int .i64 i ∧ b = (isDayB on && !(l.take i).any wrongB) ∧ wr = w.drewN q) (fun _ t10 _ => n - (RowKit.intOf t10).toNat)
  case atStart => exact ⟨0, 0, isDayB on, by omega, rfl, rfl, by simp, rfl⟩
  case round =>
    obtain ⟨i, q, b, hi, rfl, rfl, hb, rfl⟩ := hrel
    have HBb := hidIt hb
    clear hb
    by_cases hlt : i < n
    · have c0 : decide ((i : Int) < n) = true := by simp; omega
      obtain ⟨d, hd, _⟩ := get_in (l := l) (i := i) (by have := HR.out.2; omega)
      obtain ⟨g, o, rfl, _, hrg⟩ := HR.out.1.at hd
      obtain ⟨_, _, e2, e3, _, _, _, _⟩ := du_cells hrg
      have hk : duE.k = 8 := rfl
      rw [hk] at e2 e3
      have hiz : (i : Int) < n := by omega
      have HT : Hid ((l.take (i + 1)).any wrongB = ((l.take i).any wrongB || wrongB d)) := by show _ = _; rw [List.take_add_one, hd, List.any_append]; simp
      obtain ⟨dn, dw, df, dt, de, dN, dU, dR⟩ := d
      simp only at e2 e3
      have HW : Hid (wrongB ⟨dn, dw, df, dt, de, dN, dU, dR⟩ = (!isDayB df || !isDayB dt || decide (dt < df))) := rfl
      have HX := hidIt (fun w => HD.out df w)
      have HY := hidIt (fun w => HD.out dt w)
      clear hrg hd hk
      generalize isDayB df = x at *
      generalize isDayB dt = y at *
      go_wp2_with fail
      refine (HX.out _).mono ?_
      rintro e w1 ⟨rfl, ew⟩
      subst w1
      go_wp2_with fail
      refine (HY.out _).mono ?_
      rintro e w1 ⟨rfl, ew⟩
      subst w1
      cases b
      · go_wp2_with fail
        go_quiet (fail)
        go_wp2
        exact ⟨⟨i + 1, _, false, by omega, rfl, by go_num, by rw [HT.out, Bool.not_or, ← Bool.and_assoc, ← HBb.out]; rfl, rfl⟩, by simp [RowKit.intOf]; omega⟩
      · cases x
        · go_wp2_with fail
          go_quiet (fail)
          go_wp2
          exact ⟨⟨i + 1, _, false, by omega, rfl, by go_num, by rw [HT.out, HW.out, Bool.not_or, ← Bool.and_assoc, ← HBb.out]; rfl, rfl⟩, by simp [RowKit.intOf]; omega⟩
        · cases y
          · go_wp2_with fail
            go_quiet (fail)
            go_wp2
            exact ⟨⟨i + 1, _, false, by omega, rfl, by go_num, by rw [HT.out, HW.out, Bool.not_or, ← Bool.and_assoc, ← HBb.out]; rfl, rfl⟩, by simp [RowKit.intOf]; omega⟩
          · by_cases hle : df ≤ dt
            · have hdec : decide (df ≤ dt) = true := by simp [hle]
              have HDc : Hid (decide (dt < df) = false) := by show _ = _; simp; omega
              go_wp2_with fail
              go_quiet (fail)
              go_wp2
              exact ⟨⟨i + 1, _, true, by omega, rfl, by go_num, by rw [HT.out, HW.out, HDc.out, Bool.not_or, ← Bool.and_assoc, ← HBb.out]; rfl, rfl⟩, by simp [RowKit.intOf]; omega⟩
            · have hdec : decide (df ≤ dt) = false := by simp; omega
              have HDc : Hid (decide (dt < df) = true) := by show _ = _; simp; omega
              go_wp2_with fail
              go_quiet (fail)
              go_wp2
              exact ⟨⟨i + 1, _, false, by omega, rfl, by go_num, by rw [HT.out, HW.out, HDc.out, Bool.not_or, ← Bool.and_assoc, ← HBb.out]; rfl, rfl⟩, by simp [RowKit.intOf]; omega⟩
    · have c0 : decide ((i : Int) < n) = false := by simp; omega
      have HT : Hid (l.take i = l) := List.take_of_length_le (by have := HR.out.2; omega)
      rw [HT.out] at HBb
      go_wp2_with fail
      go_loopw [9, 13] (fun t9 t13 wr => ∃ (i q : Nat) (b : Bool), i ≤ m ∧ t9 = .bool b ∧ t13 = .int .i64 i ∧ b = (isDayB on && !l.any wrongB && !(ev.take i).any neverB) ∧ wr = w.drewN q) (fun _ t13 _ => m - (RowKit.intOf t13).toNat)
      case atStart => exact ⟨0, q, b, by omega, rfl, rfl, by rw [← HBb.out]; simp, rfl⟩
      case round =>
        obtain ⟨i, q, b, hi, rfl, rfl, hb, rfl⟩ := hrel
        have HBc := hidIt hb
        clear hb
        by_cases hlt : i < m
        · have c0 : decide ((i : Int) < m) = true := by simp; omega
          obtain ⟨e, hd, _⟩ := get_in (l := ev) (i := i) (by have := HE.out.2; omega)
          obtain ⟨g, o, rfl, _, hrg⟩ := HE.out.1.at hd
          obtain ⟨e0, _, _, _⟩ := ev_cells hrg
          have hk : evE.k = 4 := rfl
          rw [hk] at e0
          have hiz : (i : Int) < m := by omega
          have HT : Hid ((ev.take (i + 1)).any neverB = ((ev.take i).any neverB || neverB e)) := by show _ = _; rw [List.take_add_one, hd, List.any_append]; simp
          obtain ⟨ed, en, ew, ewv⟩ := e
          simp only at e0
          have HW : Hid (neverB ⟨ed, en, ew, ewv⟩ = !isDayB ed) := rfl
          have HX := hidIt (fun w => HD.out ed w)
          clear hrg hd hk
          generalize isDayB ed = x at *
          go_wp2_with fail
          refine (HX.out _).mono ?_
          rintro e w1 ⟨rfl, ew⟩
          subst w1
          cases b
          · go_wp2
            exact ⟨⟨i + 1, _, false, by omega, rfl, by go_num, by rw [HT.out, Bool.not_or, ← Bool.and_assoc, ← HBc.out]; rfl, rfl⟩, by simp [RowKit.intOf]; omega⟩
          · go_wp2
            exact ⟨⟨i + 1, _, x, by omega, rfl, by go_num, by rw [HT.out, HW.out, Bool.not_or, ← Bool.and_assoc, ← HBc.out]; simp, rfl⟩, by simp [RowKit.intOf]; omega⟩
        · have c0 : decide ((i : Int) < m) = false := by simp; omega
          have HT : Hid (ev.take i = ev) := List.take_of_length_le (by have := HE.out.2; omega)
          rw [HT.out] at HBc
          have HQ : Hid ((!isDayB on || l.any wrongB || ev.any neverB) = !b) := by show _ = _; rw [HBc.out]; cases isDayB on <;> cases l.any wrongB <;> cases ev.any neverB <;> rfl
          rw [HQ.out] at HV
          cases b
          · have HX : Hid (statesK F l ev on = some 3) := by show _ = _; unfold statesK; rw [HV.out]; rfl
            go_wp2
            go_ret
            exact ⟨retI (by rw [HX.out]; rfl), HBq.out _⟩
          · have hvn : validK l ev on = none := HV.out
            obtain ⟨_, _, _, l4, _⟩ := validK_none hvn
            have HL4 := hidIt l4
            have HX : Hid (statesK F l ev on = insK F l) := by show _ = _; unfold statesK; rw [hvn]
            clear l4 hvn
            go_wp2_with fail
            go_loopw [15] (fun t wr => ∃ i : Nat, i ≤ n ∧ t = .int .i64 i ∧ insK F (l.drop i) = insK F l ∧ Below w.heap.size w wr) (fun t _ => n - (RowKit.intOf t).toNat)
            case atStart => exact ⟨0, by omega, rfl, rfl, HBq.out _⟩
            case round =>
              obtain ⟨i, hi, rfl, hK, hb⟩ := hrel
              have HK := hidIt hK
              have HB := hidIt hb
              clear hK hb
              by_cases hlt : i < n
              · have c0 : decide ((i : Int) < n) = true := by simp; omega
                obtain ⟨d, hd, hdr⟩ := get_in (l := l) (i := i) (by have := HR.out.2; omega)
                obtain ⟨g, o, rfl, hg, hrg⟩ := HR.out.1.at hd
                obtain ⟨e0, e1, e2, e3, e4, e5, e6, e7⟩ := du_cells (range_bel hrg (HB.out.mono hB) hg)
                have hk : duE.k = 8 := rfl
                rw [hk] at e0 e1 e2 e3 e4 e5 e6 e7
                rw [hdr] at HK
                have hiz : (i : Int) < n := by omega
                obtain ⟨t1, t2, t3⟩ := HL4.out d (List.mem_of_getElem? hd)
                have HFd := hidIt (HF.out d)
                obtain ⟨dn, dw, df, dt, de, dN, dU, dR⟩ := d
                simp only at e0 e1 e2 e3 e4 e5 e6 e7 t1 t2 t3
                have t0 : 1 ≤ dt := by omega
                have yw : IntKind.i64.wrap (dt + 1) = dt + 1 := by rw [IntKind.wrap_i64]; omega
                have HDue : Hid (∀ W, Below w.heap.size w W → Calls Tryz.prog 23 #[.pointer (some ⟨bb, 0, none⟩), .int .i64 (dt + 1), .agg #[.int .i64 dN, .int .i64 dU, .int .i64 dR]] W fun e w' => e = .returned ((F ⟨dn, dw, df, dt, de, dN, dU, dR⟩).ref) ∧ Below W.heap.size W w') := fun W hW => HFd.out bb vv W (HC.out.below hW)
                clear hrg hd hk hg hdr
                by_cases hde : de = ByteArray.empty
                · subst hde
                  have HK2 : Hid (insK F (l.drop (i + 1)) = insK F l) := by
                    have := HK.out
                    rw [insK_skip rfl] at this
                    exact this
                  go_wp2
                  exact ⟨⟨i + 1, by omega, by go_num, HK2.out, HB.out⟩, by simp [RowKit.intOf]; omega⟩
                · obtain ⟨n1, n2⟩ := els_ne hde
                  cases hFF : F ⟨dn, dw, df, dt, de, dN, dU, dR⟩ with
                  | ok x =>
                    have HK2 : Hid (insK F (l.drop (i + 1)) = insK F l) := by
                      have := HK.out
                      rw [insK_ok hde hFF] at this
                      exact this
                    rw [hFF] at HDue
                    unfold DR.ref at HDue
                    clear hFF HR HE HC HF HD HV HDo HBq HBc HT HQ HL4 HFd HK e0 e1 e2 hde hB h1 h2 hnb hmb t1 t2
                    go_wp2_with fail
                    go_region_held3 (fun W => W.cell? ⟨g, o + i * 8 + 3, none⟩ = some (.int .i64 dt) ∧ W.cell? ⟨g, o + i * 8 + 5, none⟩ = some (.int .i64 dN) ∧ W.cell? ⟨g, o + i * 8 + 6, none⟩ = some (.int .i64 dU) ∧ W.cell? ⟨g, o + i * 8 + 7, none⟩ = some (.int .i64 dR)) (first | go_keep | exact ⟨z0, z1, z2, z3⟩) ((go_simp; go_at_call 23; refine (HDue.out _ HB.out.drew).mono ?_; rintro e w2 ⟨rfl, hb2⟩; have HB2 := hidIt (HB.out.drew.trans (hb2.mono HB.out.drew.size)); have z0 := (hb2.cell (p := ⟨g, o + i * 8 + 3, none⟩) (cell_lt e3)).trans e3; have z1 := (hb2.cell (p := ⟨g, o + i * 8 + 5, none⟩) (cell_lt e3)).trans e5; have z2 := (hb2.cell (p := ⟨g, o + i * 8 + 6, none⟩) (cell_lt e3)).trans e6; have z3 := (hb2.cell (p := ⟨g, o + i * 8 + 7, none⟩) (cell_lt e3)).trans e7; clear hb2))
                    all_goals
                      go_wp2
                      exact ⟨⟨i + 1, by omega, by go_num, HK2.out, HB2.out⟩, by simp [RowKit.intOf]; omega⟩
                  | er k =>
                    have HK2 : Hid (insK F l = some k) := by
                      have := HK.out
                      rw [insK_er hde hFF] at this
                      exact this.symm
                    rw [hFF] at HDue
                    unfold DR.ref at HDue
                    clear hFF HR HE HC HF HD HV HDo HBq HBc HT HQ HL4 HFd HK e0 e1 e2 hde hB h1 h2 hnb hmb t1 t2
                    have hkp : (0 : Int) < (k : Int) + 1 := by omega
                    go_wp2_with fail
                    go_region_held3 (fun W => W.cell? ⟨g, o + i * 8 + 3, none⟩ = some (.int .i64 dt) ∧ W.cell? ⟨g, o + i * 8 + 5, none⟩ = some (.int .i64 dN) ∧ W.cell? ⟨g, o + i * 8 + 6, none⟩ = some (.int .i64 dU) ∧ W.cell? ⟨g, o + i * 8 + 7, none⟩ = some (.int .i64 dR)) (first | go_keep | exact ⟨z0, z1, z2, z3⟩) ((go_simp; go_at_call 23; refine (HDue.out _ HB.out.drew).mono ?_; rintro e w2 ⟨rfl, hb2⟩; have HB2 := hidIt (HB.out.drew.trans (hb2.mono HB.out.drew.size)); have z0 := (hb2.cell (p := ⟨g, o + i * 8 + 3, none⟩) (cell_lt e3)).trans e3; have z1 := (hb2.cell (p := ⟨g, o + i * 8 + 5, none⟩) (cell_lt e3)).trans e5; have z2 := (hb2.cell (p := ⟨g, o + i * 8 + 6, none⟩) (cell_lt e3)).trans e6; have z3 := (hb2.cell (p := ⟨g, o + i * 8 + 7, none⟩) (cell_lt e3)).trans e7; clear hb2))
                    all_goals
                      go_wp2
                      go_ret
                      exact ⟨retI (by rw [HX.out, HK2.out]; rfl), HB2.out⟩
              · have c0 : decide ((i : Int) < n) = false := by simp; omega
                have HK2 : Hid (insK F l = none) := by
                  have := HK.out
                  rw [List.drop_eq_nil_of_le (by have := HR.out.2; omega)] at this
                  exact this.symm
                go_wp2
                go_ret
                exact ⟨retI (by rw [HX.out, HK2.out]; rfl), HB.out⟩
end Go.Proofs.YtkaeolcchhneoaaGreatDoor

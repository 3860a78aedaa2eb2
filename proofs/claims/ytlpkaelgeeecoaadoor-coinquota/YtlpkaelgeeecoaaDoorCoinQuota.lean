/-
  The walk of CoinQuota.
-/
import Derived.Test.YtlpkaelgeeecoaaDoorCoinShare
namespace Go.Proofs.YtlpkaelgeeecoaaDoor
open Go.RowKit Go.Sort Go.Shelf

theorem cq_out (T : Int) (o : Option Addr) (n cap : Nat) (w : World) (hn : 60 < n ∨ T < 0) (hal : Calls Tryd.prog 9 #[] w fun e w' => e = .returned (.bool true) ∧ Below w.heap.size w w') :
    Calls Tryd.prog 8 #[.int .i64 T, .slice o n cap] w fun e w' => e = .returned (.bool true) ∧ Below w.heap.size w w' := by
  have HA := hidIt hal
  clear hal
  by_cases h : 60 < n
  · have d0 : decide ((60 : Int) < n) = true := by simp; omega
    clear hn
    go_enter Tryd.func8, Tryd.ntmps8
    go_wp2_with fail
    refine HA.out.mono ?_
    rintro e w1 ⟨rfl, hb1⟩
    go_wp2
    go_ret
    exact ⟨rfl, hb1⟩
  · have d0 : decide ((60 : Int) < n) = false := by simp; omega
    have d1 : decide (T < 0) = true := by simp; omega
    clear hn
    go_enter Tryd.func8, Tryd.ntmps8
    go_wp2_with fail
    refine HA.out.mono ?_
    rintro e w1 ⟨rfl, hb1⟩
    go_wp2
    go_ret
    exact ⟨rfl, hb1⟩

set_option maxHeartbeats 2000000 in
theorem cq_err (T : Int) (o : Option Addr) (n cap : Nat) (a : Addr) (w : World) (hn : n ≤ 60) (hT : 0 ≤ T) (hal : Calls Tryd.prog 9 #[] w fun e w' => e = .returned (.bool true) ∧ Below w.heap.size w w')
    (hS : ∀ w1, Below w.heap.size w w1 → Calls Tryd.prog 21 #[.int .i64 T, .slice o n cap] w1 fun e w' => e = errOut a ∧ ∃ k, w' = w1.drewN k) :
    Calls Tryd.prog 8 #[.int .i64 T, .slice o n cap] w fun e w' => e = .returned (.bool true) ∧ Below w.heap.size w w' := by
  have d0 : decide ((60 : Int) < n) = false := by simp; omega
  have d1 : decide (T < 0) = false := by simp; omega
  have HA := hidIt hal
  have HS := hidIt hS
  clear hal hS
  go_enter Tryd.func8, Tryd.ntmps8
  go_wp2_with fail
  refine HA.out.mono ?_
  rintro e w1 ⟨rfl, hb1⟩
  have H1 := hidIt hb1
  clear hb1
  go_wp2_with fail
  refine (HS.out w1 H1.out).mono ?_
  rintro e w2 ⟨he, n2, rfl⟩
  rw [errOut] at he
  subst he
  go_wp2
  go_ret
  exact ⟨rfl, bdrewN H1.out n2⟩

set_option maxHeartbeats 4000000 in
set_option maxRecDepth 100000 in
theorem cq_ok (b off cap N : Nat) (T : Int) (wv : Nat → Int) (w : World) (hw : ∀ i, i < N + 1 → w.cell? ⟨b, off + i, none⟩ = some (.int .i64 (wv i))) (hb : b < w.heap.size) (hn : N + 1 ≤ 60) (hT : 0 ≤ T) (hs : szB T 1000000000000 = true) (all : Int) (hall : (lst wv (N + 1)).sum = all) (ha : 0 < all) (hbad : (lst wv (N + 1)).any badW = false)
    (hal : Calls Tryd.prog 9 #[] w fun e w' => e = .returned (.bool true) ∧ Below w.heap.size w w') :
    Calls Tryd.prog 8 #[.int .i64 T, .slice (some ⟨b, off, none⟩) (N + 1) cap] w fun e w' => e = .returned (.bool true) ∧ Below w.heap.size w w' := by
  have hT1 := (szB_iff.1 hs).2
  have d0 : decide ((60 : Int) < (N : Int) + 1) = false := by simp; omega
  have d1 : decide (T < 0) = false := by simp; omega
  have d2 : decide (all ≤ 0) = false := by simp; omega
  have hall1 := (sum_lt hbad hn).2
  rw [hall] at hall1
  have HV := hidIt (bad_at hbad)
  have HSum := hidIt (fun i => lst_succ wv i)
  have HSb : Hid (∀ i, i ≤ N + 1 → 0 ≤ (lst wv i).sum ∧ (lst wv i).sum ≤ 60000000) := fun i hi => by
    have := sum_bd 1000000 (by decide) (lst wv i) (fun x hx => by
      obtain ⟨j, hj, rfl⟩ := lst_mem _ _ _ hx
      exact HV.out j (by omega))
    rw [lst_len] at this
    omega
  have HQb : Hid (∀ i, i < N + 1 → 0 ≤ qf T all wv i ∧ qf T all wv i ≤ T) := fun i hi => q_bd T all wv (N + 1) hT ha (fun i hi => (HV.out i hi).1) hall i hi
  have HWle : Hid (∀ i, i < N + 1 → wv i ≤ all) := fun i hi => by
    have := (part_le wv (N + 1) (fun i hi => (HV.out i hi).1)).2 i hi
    rw [hall] at this
    exact this
  obtain ⟨l0, l1⟩ := left_bd T all wv (N + 1) ha (by omega) hall
  have HLf : Hid (T - (lst (qf T all wv) (N + 1)).sum = lf T all wv (N + 1)) := by show _ = _; unfold lf; omega
  have hlf : lf T all wv (N + 1) ≤ N + 1 := by have := HLf.out; omega
  have HPs : Hid (∀ d : Array (Fin (N + 1)), Picks d T all wv → (lst (part d T all wv) (N + 1)).sum = T ∧ ∀ i, i < N + 1 → wv i = 0 → qf T all wv i = 0 ∧ hit1 d (lf T all wv (N + 1)) i = 0) := fun d P => by
    refine ⟨parts_sum T all wv P.once _ HLf.out hlf, fun i hi h0 => ?_⟩
    have hq : qf T all wv i = 0 := by simp [qf, h0]
    have hr : rf T all wv i = 0 := by simp [rf, h0]
    have := none_hit T all wv ha hall P.once P.sorted P.every i hr _ HLf.out hlf
    exact ⟨hq, by simp [hit1, this]⟩
  have HSh : Hid (∀ w1, Below w.heap.size w w1 → Calls Tryd.prog 21 #[.int .i64 T, .slice (some ⟨b, off, none⟩) (N + 1) cap] w1 fun e w' => ∃ d : Array (Fin (N + 1)), Picks d T all wv ∧
      e = .returned (.tuple #[.slice (some ⟨w1.heap.size, 0, none⟩) (N + 1) (N + 1), .nilIface]) ∧ RowF w' w1.heap.size (N + 1) (part d T all wv) ∧ w1.heap.size < w'.heap.size ∧ Below w1.heap.size w1 w') := fun w1 hb1 =>
    share_pos b off cap N T all wv w1 (fun i hi => (hb1.cell (p := ⟨b, off + i, none⟩) hb).trans (hw i hi)) (by have := hb1.size; omega) hn hall hT hs ha hbad
  have HW := hidIt hw
  have HA := hidIt hal
  have HAll := hidIt hall
  clear hal hw hall l0 l1 hbad
  go_enter Tryd.func8, Tryd.ntmps8
  go_wp2_with fail
  refine HA.out.mono ?_
  rintro e w1 ⟨rfl, hb1⟩
  have H1 := hidIt hb1
  clear hb1
  go_wp2_with fail
  refine (HSh.out w1 H1.out).mono ?_
  rintro e w2 ⟨d, P, rfl, r2, hz, hb2⟩
  obtain ⟨ps, pz⟩ := HPs.out d P
  have R2 := hidIt r2
  have H2 := hidIt (H1.out.trans (hb2.mono H1.out.size))
  have PS := hidIt ps
  have PZ := hidIt pz
  have W2 : Hid (∀ i, i < N + 1 → w2.cell? ⟨b, off + i, none⟩ = some (.int .i64 (wv i))) := fun i hi => (H2.out.cell (p := ⟨b, off + i, none⟩) hb).trans (HW.out i hi)
  have HPb : Hid (∀ i, i < N + 1 → 0 ≤ part d T all wv i ∧ part d T all wv i ≤ 1000000000001) := fun i hi => by
    have h1 := HQb.out i hi
    have h2 := hit1_bd d (lf T all wv (N + 1)) i
    unfold part
    omega
  have HPsb : Hid (∀ i, i ≤ N + 1 → 0 ≤ (lst (part d T all wv) i).sum ∧ (lst (part d T all wv) i).sum ≤ 60000000000060) := fun i hi => by
    have := sum_bd 1000000000001 (by decide) (lst (part d T all wv) i) (fun x hx => by
      obtain ⟨j, hj, rfl⟩ := lst_mem _ _ _ hx
      exact HPb.out j (by omega))
    rw [lst_len] at this
    omega
  have HPsum := hidIt (fun i => lst_succ (part d T all wv) i)
  have HPart : Hid (∀ i, part d T all wv i = qf T all wv i + hit1 d (lf T all wv (N + 1)) i) := fun i => rfl
  clear r2 hb2 ps pz P HPs HSh HA
  go_wp2_with fail
  go_loop [8, 9, 10] (fun t8 t9 t10 => ∃ i : Nat, i ≤ N + 1 ∧ t10 = .int .i64 i ∧ t8 = .int .i64 (lst (part d T all wv) i).sum ∧ t9 = .int .i64 (lst wv i).sum) (fun _ _ t => N + 1 - (RowKit.intOf t).toNat)
  case atStart => exact ⟨0, by omega, rfl, rfl, rfl⟩
  case round =>
    obtain ⟨i, hi, rfl, rfl, rfl⟩ := hrel
    by_cases hlt : i < N + 1
    · have c0 : decide ((i : Int) < (N : Int) + 1) = true := by simp; omega
      have hiz : (i : Int) < (N : Int) + 1 := by omega
      have c1 := (R2.out i hlt).1
      have c2 := W2.out i hlt
      obtain ⟨v0, v1⟩ := HV.out i hlt
      obtain ⟨u0, u1⟩ := HPb.out i hlt
      obtain ⟨s0, s1⟩ := HSb.out i hi
      obtain ⟨t0, t1⟩ := HPsb.out i hi
      have HS1 := hidIt (HSum.out i)
      have HS2 := hidIt (HPsum.out i)
      generalize (lst wv i).sum = s at *
      generalize (lst (part d T all wv) i).sum = ss at *
      generalize part d T all wv i = v at *
      go_wp2
      go_round
      case rel => exact ⟨i + 1, by omega, by go_num, by rw [HS2.out], by rw [HS1.out]⟩
      case measure => simp [RowKit.intOf]; omega
    · have c0 : decide ((i : Int) < (N : Int) + 1) = false := by simp; omega
      obtain rfl : i = N + 1 := by omega
      rw [HAll.out, PS.out]
      go_wp2_with fail
      go_loop [11] (fun t => ∃ i : Nat, i ≤ N + 1 ∧ t = .int .i64 i) (fun t => N + 1 - (RowKit.intOf t).toNat)
      case atStart => exact ⟨0, by omega, rfl⟩
      case round =>
        obtain ⟨i, hi, rfl⟩ := hrel
        by_cases hlt : i < N + 1
        · have c1 : decide ((i : Int) < (N : Int) + 1) = true := by simp; omega
          have hiz : (i : Int) < (N : Int) + 1 := by omega
          have cc1 := (R2.out i hlt).1
          have cc2 := W2.out i hlt
          obtain ⟨v0, v1⟩ := HV.out i hlt
          obtain ⟨q0, q1⟩ := HQb.out i hlt
          have HPo := hidIt (fun w => portion_any T (wv i) all w hT hT1 v0 (HWle.out i hlt) ha hall1)
          have E1 : Hid (qf T all wv i = T * wv i / all) := rfl
          rw [← E1.out] at HPo
          have hz0 := PZ.out i hlt
          rw [HPart.out i] at cc1
          rcases (show hit1 d (lf T all wv (N + 1)) i = 0 ∨ hit1 d (lf T all wv (N + 1)) i = 1 by have := hit1_bd d (lf T all wv (N + 1)) i; omega) with hh | hh
          · rw [hh, Int.add_zero] at cc1
            rw [hh] at hz0
            have HZ : Hid (wv i = 0 → qf T all wv i = 0) := fun h => (hz0 h).1
            clear hz0 hh
            by_cases hw0 : wv i = 0
            · have hq := HZ.out hw0
              rw [hq] at cc1 HPo
              rw [hw0] at cc2 HPo
              clear hw0 hq
              go_wp2_with fail
              refine (HPo.out _).mono ?_
              rintro e w3 ⟨rfl, ew⟩
              subst w3
              go_wp2
              go_round
              case rel => exact ⟨i + 1, by omega, by go_num⟩
              case measure => simp [RowKit.intOf]; omega
            · have c2 : (wv i == 0) = false := by simpa using hw0
              generalize qf T all wv i = q at *
              go_wp2_with fail
              refine (HPo.out _).mono ?_
              rintro e w3 ⟨rfl, ew⟩
              subst w3
              go_wp2
              go_round
              case rel => exact ⟨i + 1, by omega, by go_num⟩
              case measure => simp [RowKit.intOf]; omega
          · rw [hh] at cc1 hz0
            have hw0 : ¬ wv i = 0 := fun h => by have := (hz0 h).2; omega
            have c2 : (wv i == 0) = false := by simpa using hw0
            clear hz0 hh
            generalize qf T all wv i = q at *
            go_wp2_with fail
            refine (HPo.out _).mono ?_
            rintro e w3 ⟨rfl, ew⟩
            subst w3
            go_wp2
            go_round
            case rel => exact ⟨i + 1, by omega, by go_num⟩
            case measure => simp [RowKit.intOf]; omega
        · have c1 : decide ((i : Int) < (N : Int) + 1) = false := by simp; omega
          go_wp2
          go_ret
          exact ⟨rfl, H2.out⟩

theorem coinQuota_walk (T : Int) (o : Option Addr) (n cap : Nat) (wv : Nat → Int) (a : Addr) (w : World) (hW : Wts w o n wv) (hc : w.cell? ⟨1, 0, none⟩ = some (.iface 157 (.pointer (some a)))) (hal : Calls Tryd.prog 9 #[] w fun e w' => e = .returned (.bool true) ∧ Below w.heap.size w w') :
    Calls Tryd.prog 8 #[.int .i64 T, .slice o n cap] w fun e w' => e = .returned (.bool true) ∧ Below w.heap.size w w' := by
  by_cases h1 : 60 < n ∨ T < 0
  · exact cq_out T o n cap w h1 hal
  have hn : n ≤ 60 := by omega
  have hT : 0 ≤ T := by omega
  have hc' : ∀ w1, Below w.heap.size w w1 → w1.cell? ⟨1, 0, none⟩ = some (.iface 157 (.pointer (some a))) := fun w1 hb => cell_below hc hb
  cases hs : szB T 1000000000000
  · exact cq_err T o n cap a w hn hT hal (fun w1 hb1 => share_great T o n cap a w1 (hc' w1 hb1) hn hs)
  cases hb : (lst wv n).any badW
  · by_cases h0 : (lst wv n).sum = 0
    · exact cq_err T o n cap a w hn hT hal (fun w1 hb1 => share_zero T o n cap wv a w1 (hc' w1 hb1) hn hs (hW.below hb1) hb h0)
    · have ha : 0 < (lst wv n).sum := by have := (sum_lt hb hn).1; omega
      rcases hW with rfl | ⟨b, off, rfl, hlt, hcw⟩
      · exact absurd rfl h0
      · obtain ⟨N, rfl⟩ : ∃ N, n = N + 1 := by
          cases n with
          | zero => exact absurd rfl h0
          | succ N => exact ⟨N, rfl⟩
        exact cq_ok b off cap N T wv w hcw hlt hn hT hs _ rfl ha hb hal
  · exact cq_err T o n cap a w hn hT hal (fun w1 hb1 => share_bad T o n cap wv a w1 (hc' w1 hb1) hn hs (hW.below hb1) hb)
end Go.Proofs.YtlpkaelgeeecoaaDoor

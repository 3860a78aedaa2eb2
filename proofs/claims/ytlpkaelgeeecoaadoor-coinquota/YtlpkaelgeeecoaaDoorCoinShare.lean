/-
  The walk of CoinShare.
-/
import Derived.Test.YtlpkaelgeeecoaaDoorRefShare3
import Derived.Test.YtlpkaelgeeecoaaDoorAlive
namespace Go.Proofs.YtlpkaelgeeecoaaDoor
open Go.RowKit Go.Sort Go.Shelf

theorem Laid.drewN {w : World} {p : Nat → Addr} (L : Laid w p) (n : Nat) : Laid (w.drewN n) p := L.below (bdrewN (Below.refl _ _) n)
theorem Wts.drewN {w : World} {o : Option Addr} {n : Nat} {wv : Nat → Int} (h : Wts w o n wv) (k : Nat) : Wts (w.drewN k) o n wv := h.below (bdrewN (Below.refl _ _) k)

theorem cs_out (T : Int) (o : Option Addr) (n cap : Nat) (w : World) (hn : 100 < n) (hal : Calls Tryd.prog 9 #[] w fun e w' => e = .returned (.bool true) ∧ Below w.heap.size w w') :
    Calls Tryd.prog 7 #[.int .i64 T, .slice o n cap] w fun e w' => e = .returned (.bool true) ∧ Below w.heap.size w w' := by
  have d0 : decide ((100 : Int) < n) = true := by simp; omega
  have HA := hidIt hal
  clear hal
  go_enter Tryd.func7, Tryd.ntmps7
  go_wp2_with fail
  refine HA.out.mono ?_
  rintro e w1 ⟨rfl, hb1⟩
  go_wp2
  go_ret
  exact ⟨rfl, hb1⟩

set_option maxHeartbeats 2000000 in
theorem cs_err (T : Int) (o : Option Addr) (n cap k : Nat) (hk : k < 11) (wv : Nat → Int) (p : Nat → Addr) (w : World) (hn : n ≤ 100) (L : Laid w p) (hW : Wts w o n wv) (hal : Calls Tryd.prog 9 #[] w fun e w' => e = .returned (.bool true) ∧ Below w.heap.size w w')
    (hS : ∀ w1, Laid w1 p → Wts w1 o n wv → Calls Tryd.prog 21 #[.int .i64 T, .slice o n cap] w1 fun e w' => e = errOut (p k) ∧ ∃ k, w' = w1.drewN k)
    (hR : ∀ w1, Wts w1 o n wv → Calls Tryd.prog 22 #[.int .i64 T, .slice o n cap] w1 fun e w' => e = refErr (k + 1) ∧ w' = w1) :
    Calls Tryd.prog 7 #[.int .i64 T, .slice o n cap] w fun e w' => e = .returned (.bool true) ∧ Below w.heap.size w w' := by
  have d0 : decide ((100 : Int) < n) = false := by simp; omega
  have HA := hidIt hal
  have HS := hidIt hS
  have HR := hidIt hR
  have HL := hidIt L
  have HW := hidIt hW
  clear hal hS hR L hW
  go_enter Tryd.func7, Tryd.ntmps7
  go_wp2_with fail
  refine HA.out.mono ?_
  rintro e w1 ⟨rfl, hb1⟩
  have H1 := hidIt hb1
  clear hb1
  go_wp2_with fail
  refine (HS.out w1 (HL.out.below H1.out) (HW.out.below H1.out)).mono ?_
  rintro e w2 ⟨he, n2, rfl⟩
  rw [errOut] at he
  subst he
  go_wp2_with fail
  refine (HR.out _ ((HW.out.below H1.out).drewN n2)).mono ?_
  rintro e w3 ⟨he, ew⟩
  rw [refErr] at he
  subst he
  subst w3
  go_wp2_with fail
  refine (coded_sent k hk _ p _ ((HL.out.below H1.out).drewN n2)).mono ?_
  rintro e w4 ⟨rfl, hb⟩
  have ht : ((k : Int) + 1 == (k : Int) + 1) = true := by simp
  rw [ht]
  have Hb := hidIt (H1.out.trans ((bdrewN (Below.refl w1.heap.size w1) n2).trans hb |>.mono H1.out.size))
  clear hb ht
  go_wp2_with fail
  go_loop [11] (fun t => t = .int .i64 0) (fun _ => 0)
  case atStart => rfl
  case round =>
    obtain rfl := hrel
    go_wp2
    go_ret
    exact ⟨rfl, Hb.out⟩

set_option maxHeartbeats 2000000 in
theorem cs_ok (T : Int) (b off cap N : Nat) (w : World) (hn : N + 1 ≤ 60) (hal : Calls Tryd.prog 9 #[] w fun e w' => e = .returned (.bool true) ∧ Below w.heap.size w w')
    (hS : ∀ w1, Below w.heap.size w w1 → Calls Tryd.prog 21 #[.int .i64 T, .slice (some ⟨b, off, none⟩) (N + 1) cap] w1 fun e w' => ∃ f : Nat → Int, e = .returned (.tuple #[.slice (some ⟨w1.heap.size, 0, none⟩) (N + 1) (N + 1), .nilIface]) ∧ RowF w' w1.heap.size (N + 1) f ∧ w1.heap.size < w'.heap.size ∧ Below w1.heap.size w1 w' ∧
      (∀ w2, Below w.heap.size w w2 → Calls Tryd.prog 22 #[.int .i64 T, .slice (some ⟨b, off, none⟩) (N + 1) cap] w2 fun e w' => e = .returned (.tuple #[.slice (some ⟨w2.heap.size, 0, none⟩) (N + 1) (N + 1), .int .i64 0]) ∧ RowF w' w2.heap.size (N + 1) f ∧ Below w2.heap.size w2 w')) :
    Calls Tryd.prog 7 #[.int .i64 T, .slice (some ⟨b, off, none⟩) (N + 1) cap] w fun e w' => e = .returned (.bool true) ∧ Below w.heap.size w w' := by
  have d0 : decide ((100 : Int) < (N : Int) + 1) = false := by simp; omega
  have HA := hidIt hal
  have HS := hidIt hS
  clear hal hS
  go_enter Tryd.func7, Tryd.ntmps7
  go_wp2_with fail
  refine HA.out.mono ?_
  rintro e w1 ⟨rfl, hb1⟩
  have H1 := hidIt hb1
  clear hb1
  go_wp2_with fail
  refine (HS.out w1 H1.out).mono ?_
  rintro e w2 ⟨f, rfl, r2, hz, hb2, hR⟩
  have R2 := hidIt r2
  have H2 := hidIt (H1.out.trans (hb2.mono H1.out.size))
  have HR := hidIt hR
  clear r2 hb2 hR
  go_wp2_with fail
  refine (HR.out w2 H2.out).mono ?_
  rintro e w3 ⟨rfl, r3, hb3⟩
  have R3 := hidIt r3
  have R2' := hidIt (R2.out.below hb3 hz)
  have H3 := hidIt (H2.out.trans (hb3.mono H2.out.size))
  clear r3 hb3 R2 HR HS HA
  go_wp2_with fail
  refine (coded_nil _ _).mono ?_
  rintro e w4 ⟨rfl, ew⟩
  subst w4
  have hz2 : w1.heap.size ≠ w2.heap.size := by omega
  go_wp2_with fail
  go_loopw [11] (fun t wr => ∃ i m : Nat, t = .int .i64 i ∧ i ≤ N + 1 ∧ wr = w3.drewN m) (fun t _ => N + 1 - (RowKit.intOf t).toNat)
  case atStart => exact ⟨0, 0, rfl, by omega, rfl⟩
  case round =>
    obtain ⟨i, m, rfl, hi, rfl⟩ := hrel
    by_cases hlt : i < N + 1
    · have c0 : decide ((i : Int) < (N : Int) + 1) = true := by simp; omega
      have hiz : (i : Int) < (N : Int) + 1 := by omega
      have c1 := (R2'.out i hlt).1
      have c2 := (R3.out i hlt).1
      go_wp2_with fail
      go_quiet (fail)
      go_wp2
      exact ⟨⟨i + 1, m + nq, by go_num, by omega, by simp⟩, by simp [RowKit.intOf]; omega⟩
    · have c0 : decide ((i : Int) < (N : Int) + 1) = false := by simp; omega
      go_wp2
      go_ret
      exact ⟨rfl, bdrewN H3.out m⟩

theorem coinShare_walk (T : Int) (o : Option Addr) (n cap : Nat) (wv : Nat → Int) (p : Nat → Addr) (w : World) (L : Laid w p) (hW : Wts w o n wv) (hal : Calls Tryd.prog 9 #[] w fun e w' => e = .returned (.bool true) ∧ Below w.heap.size w w') :
    Calls Tryd.prog 7 #[.int .i64 T, .slice o n cap] w fun e w' => e = .returned (.bool true) ∧ Below w.heap.size w w' := by
  by_cases h1 : 100 < n
  · exact cs_out T o n cap w h1 hal
  by_cases h2 : 60 < n
  · exact cs_err T o n cap 1 (by omega) wv p w (by omega) L hW hal (fun w1 L1 _ => share_bound T o n cap (p 1) w1 (L1.cell 1 (by omega)) h2) (fun w1 _ => ref_bound T o n cap w1 h2)
  have hn : n ≤ 60 := by omega
  have herr : ((lst wv n).any badW = true ∨ szB T 1000000000000 = false ∨ (lst wv n).sum = 0) → ∀ w1, Wts w1 o n wv → Calls Tryd.prog 22 #[.int .i64 T, .slice o n cap] w1 fun e w' => e = refErr 3 ∧ w' = w1 := fun hE w1 W1 => by
    rcases W1 with rfl | ⟨b, off, rfl, _, hc⟩
    · exact ref_none T o cap w1
    · exact ref_err T b off n cap wv w1 hn hc hE
  cases hs : szB T 1000000000000
  · exact cs_err T o n cap 2 (by omega) wv p w (by omega) L hW hal (fun w1 L1 _ => share_great T o n cap (p 2) w1 (L1.cell 2 (by omega)) hn hs) (herr (.inr (.inl hs)))
  cases hb : (lst wv n).any badW
  · by_cases h0 : (lst wv n).sum = 0
    · exact cs_err T o n cap 2 (by omega) wv p w (by omega) L hW hal (fun w1 L1 W1 => share_zero T o n cap wv (p 2) w1 (L1.cell 2 (by omega)) hn hs W1 hb h0) (herr (.inr (.inr h0)))
    · have ha : 0 < (lst wv n).sum := by have := (sum_lt hb hn).1; omega
      rcases hW with rfl | ⟨b, off, rfl, hlt, hc⟩
      · exact absurd rfl h0
      · obtain ⟨N, rfl⟩ : ∃ N, n = N + 1 := by
          cases n with
          | zero => exact absurd rfl h0
          | succ N => exact ⟨N, rfl⟩
        have hc' : ∀ w1, Below w.heap.size w w1 → b < w1.heap.size ∧ ∀ i, i < N + 1 → w1.cell? ⟨b, off + i, none⟩ = some (.int .i64 (wv i)) := fun w1 hb1 =>
          ⟨by have := hb1.size; omega, fun i hi => (hb1.cell (p := ⟨b, off + i, none⟩) hlt).trans (hc i hi)⟩
        refine cs_ok T b off cap N w hn hal (fun w1 hb1 => ?_)
        obtain ⟨k1, k2⟩ := hc' w1 hb1
        by_cases hT : 0 ≤ T
        · refine (share_pos b off cap N T _ wv w1 k2 k1 hn rfl hT hs ha hb).mono ?_
          rintro e w2 ⟨d, P, rfl, r2, hz, hb2⟩
          refine ⟨_, rfl, r2, hz, hb2, fun w3 hb3 => ?_⟩
          obtain ⟨j1, j2⟩ := hc' w3 hb3
          refine (ref_pos b off cap N T _ wv d w3 j2 j1 hn rfl hT hs ha hb P).mono ?_
          rintro e w4 ⟨rfl, r4, _, hb4⟩
          exact ⟨rfl, r4, hb4⟩
        · refine (share_neg b off cap N T _ wv w1 k2 k1 hn rfl (by omega) hs ha hb).mono ?_
          rintro e w2 ⟨d, P, rfl, r2, hz, hb2⟩
          refine ⟨_, rfl, r2, hz, hb2, fun w3 hb3 => ?_⟩
          obtain ⟨j1, j2⟩ := hc' w3 hb3
          refine (ref_neg b off cap N T _ wv d w3 j2 j1 hn rfl (by omega) hs ha hb P).mono ?_
          rintro e w4 ⟨rfl, r4, _, hb4⟩
          exact ⟨rfl, r4, hb4⟩
  · exact cs_err T o n cap 2 (by omega) wv p w (by omega) L hW hal (fun w1 L1 W1 => share_bad T o n cap wv (p 2) w1 (L1.cell 2 (by omega)) hn hs W1 hb) (herr (.inl hb))
end Go.Proofs.YtlpkaelgeeecoaaDoor

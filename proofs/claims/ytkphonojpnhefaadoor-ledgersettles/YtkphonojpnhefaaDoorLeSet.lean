/-
  LedgerSettles, walked.
-/
import Derived.Test.YtkphonojpnhefaaDoorLeR2
import Derived.Test.YtkphonojpnhefaaDoorCode
namespace Go.Proofs.YtkphonojpnhefaaDoor
open Go.RowKit Go.Extern.Stop Go.Stop Go.Extern

theorem coded_nil (n : Int) (w : World) : Calls Tryd.prog 10 #[.nilIface, .int .i64 n] w fun e w' => e = .returned (.bool ((0 : Int) == n)) ∧ w' = w := by
  go_enter Tryd.func10, Tryd.ntmps10
  go_wp2_with (go_at_call 20; refine (code_nil _).mono ?_; rintro e w' ⟨rfl, rfl⟩)
  go_ret
  exact ⟨rfl, rfl⟩
theorem coded_sent (k : Nat) (hk : k < 11) (n : Int) (p : Nat → Addr) (w : World) (L : Laid w p) :
    Calls Tryd.prog 10 #[.iface 123 (.pointer (some (p k))), .int .i64 n] w fun e w' => e = .returned (.bool (((k : Int) + 1) == n)) ∧ Below w.heap.size w w' := by
  go_enter Tryd.func10, Tryd.ntmps10
  go_wp2_with fail
  refine (code_sent k hk p _ L).mono ?_
  rintro e w' ⟨rfl, hb⟩
  go_wp2
  go_ret
  exact ⟨rfl, hb⟩
theorem Laid.sent {w : World} {p : Nat → Addr} (h : Laid w p) : Sent w p := ⟨h.cell 1 (by omega), h.cell 2 (by omega), h.cell 3 (by omega)⟩
set_option maxHeartbeats 2000000 in
/-- Two entries that say the same. -/
theorem same_w {B n c n2 c2 : Nat} {a a2 : Option Addr} {dy : Int} {tx : ByteArray} {ls : List Ln} {w : World} (h1 : RdS lnE w (· < B) (.slice a n c) ls) (h2 : RdS lnE w (· < B) (.slice a2 n2 c2) ls) (hB : B ≤ w.heap.size) :
    Calls Tryd.prog 11 #[.agg #[.int .i64 dy, .string tx, .slice a n c], .agg #[.int .i64 dy, .string tx, .slice a2 n2 c2]] w fun e w' => e = .returned (.bool true) ∧ Below w.heap.size w w' := by
  obtain ⟨e1, hbig⟩ := h1.len
  obtain ⟨e2, _⟩ := h2.len
  obtain rfl : n = n2 := by omega
  have H1 := hidIt h1
  have H2 := hidIt h2
  have HL := hidIt e1
  have d0 : (dy != dy) = false := by simp
  have d1 : (tx.toList != tx.toList) = false := by simp
  have d2 : ((n : Int) != (n : Int)) = false := by simp
  clear h1 h2 e1 e2
  go_enter Tryd.func11, Tryd.ntmps11
  obtain ⟨W, hW⟩ : ∃ W, W = (w.alloc (.cells #[.int .i64 dy, .string tx, .slice a n c] 39)).alloc (.cells #[.int .i64 dy, .string tx, .slice a2 n c2] 42) := ⟨_, rfl⟩
  have HBW : Hid (Below w.heap.size w W) := by rw [hW]; exact (bel1 _ _).trans ((bel1 _ _).mono (by simp))
  have b2 : W.cell? ⟨w.heap.size, 2, none⟩ = some (.slice a n c) := by rw [hW]; simp
  have b3 : W.cell? ⟨w.heap.size + 1, 2, none⟩ = some (.slice a2 n c2) := by rw [hW]; simp
  go_wp2_with fail
  rw [← hW]
  clear hW
  go_loopw [5] (fun t wr => ∃ i q : Nat, i ≤ n ∧ t = .int .i64 i ∧ wr = W.drewN q) (fun t _ => n - (RowKit.intOf t).toNat)
  case atStart => exact ⟨0, 0, by omega, rfl, rfl⟩
  case round =>
    obtain ⟨i, q, hi, rfl, rfl⟩ := hrel
    by_cases hlt : i < n
    · have c0 : decide ((i : Int) < n) = true := by simp; omega
      have hiz : (i : Int) < n := by omega
      obtain ⟨x, hx, _⟩ := get_in (l := ls) (i := i) (by have := HL.out; omega)
      obtain ⟨g, o, rfl, hg, hr⟩ := (H1.out.below (HBW.out.mono hB)).at hx
      obtain ⟨g2, o2, rfl, hg2, hr2⟩ := (H2.out.below (HBW.out.mono hB)).at hx
      obtain ⟨p1, p2⟩ := ln_cells hr
      obtain ⟨r1, r2⟩ := ln_cells hr2
      have hk : lnE.k = 2 := rfl
      rw [hk] at p1 p2 r1 r2
      obtain ⟨xa, xc⟩ := x
      simp only at p1 p2 r1 r2
      have f1 : (xa.toList != xa.toList) = false := by simp
      have f2 : (xc != xc) = false := by simp
      clear hx hr hr2 hk
      go_wp2_with fail
      go_quiet (fail)
      go_wp2
      go_roundw
      case rel => exact ⟨i + 1, _, by omega, by go_num, rfl⟩
      case measure => simp [RowKit.intOf]; omega
    · have c0 : decide ((i : Int) < n) = false := by simp; omega
      go_wp2
      go_ret
      exact ⟨rfl, bdrewN HBW.out _⟩
theorem settleL_lt {l : List Cl} {rate : Int} {k : Nat} (h : settleL l rate = .inl k) : k < 11 := by
  unfold settleL at h
  split at h
  · rename_i k' h1
    injection h with h
    subst h
    exact claimsK_lt h1
  · split at h
    · injection h with h
      omega
    · cases h
set_option maxHeartbeats 4000000 in
set_option maxRecDepth 10000 in
theorem settles_walk {n c : Nat} {a : Option Addr} {l : List Cl} {rate : Int} {p : Nat → Addr} {w : World} (h : NRd clN w (· < w.heap.size) (.slice a n c) l) (L : Laid w p) :
    Calls Tryd.prog 3 #[.slice a n c, .int .i64 rate] w fun e w' => e = .returned (.bool true) ∧ Below w.heap.size w w' := by
  obtain ⟨hn, hbig⟩ := h.len
  have HA := hidIt (settles_w L.sent)
  have HR := hidIt (And.intro h hn)
  have HS := hidIt L
  clear h hn L
  go_enter Tryd.func3, Tryd.ntmps3
  go_wp2_with fail
  refine HA.out.mono ?_
  rintro e w1 ⟨rfl, hb1⟩
  have HB1 := hidIt hb1
  have HF := hidIt (few_p (HR.out.1.below hb1))
  clear hb1 HA
  go_wp2_with fail
  refine HF.out.mono ?_
  rintro e w2 ⟨b, rfl, hfew, ew⟩
  subst w2
  clear HF
  cases b
  · clear hfew
    go_wp2
    go_ret
    exact ⟨rfl, HB1.out⟩
  · obtain ⟨f1, f2⟩ := hfew rfl
    clear hfew
    have HCl := hidIt (claims_p (HR.out.1.below HB1.out) HB1.out.size (by have := HR.out.2; omega) f2)
    clear f1 f2
    go_wp2_with fail
    refine HCl.out.mono ?_
    rintro e w3 ⟨⟨ra, rm, rc, rfl, hr⟩, hb3⟩
    have HB3 := hidIt (HB1.out.trans (hb3.mono HB1.out.size))
    have HSe := hidIt (settle_p (rate := rate) hr (Nat.le_refl _) (HS.out.below HB3.out).sent)
    clear hr hb3 HCl
    have HSq : Hid (∀ W, Below w.heap.size w W → Calls Tryd.prog 9 #[.slice a n c, .int .i64 rate] W (SetQ W (settleL l rate))) := fun W hW => settleR_p (HR.out.1.below hW) hW.size
    go_wp2_with fail
    refine HSe.out.mono ?_
    clear HSe
    cases hse : settleL l rate with
    | inl k =>
      rw [hse] at HSq
      have HK := hidIt (settleL_lt hse)
      rintro e w4 ⟨rfl, hb4⟩
      have HB4 := hidIt (HB3.out.trans (hb4.mono HB3.out.size))
      clear hb4 hse
      go_wp2_with fail
      refine (HSq.out _ HB4.out).mono ?_
      rintro e w5 ⟨rfl, hb5⟩
      have HB5 := hidIt (HB4.out.trans (hb5.mono HB4.out.size))
      clear hb5
      go_wp2_with fail
      refine (coded_sent k HK.out _ p _ (HS.out.below HB5.out)).mono ?_
      rintro e w6 ⟨rfl, hb6⟩
      have ht : ((k : Int) + 1 == (k : Int) + 1) = true := by simp
      rw [ht]
      have HB6 := hidIt (HB5.out.trans (hb6.mono HB5.out.size))
      clear hb6 ht
      go_wp2_with fail
      go_loopw [12] (fun t wr => t = .int .i64 0 ∧ wr = w6) (fun _ _ => 0)
      case atStart => exact ⟨rfl, rfl⟩
      case round =>
        obtain ⟨rfl, ew⟩ := hrel
        subst wr
        go_wp2
        go_ret
        exact ⟨rfl, HB6.out⟩
    | inr es =>
      rw [hse] at HSq
      have hlen := setL_len rate l 0 0 es (by
        unfold settleL at hse
        split at hse
        · cases hse
        · split at hse
          · cases hse
          · rename_i h2
            injection hse with hse
            rw [h2, hse])
      rintro e w4 ⟨ea, en, ec, rfl, hre, hb4⟩
      have HB4 := hidIt (HB3.out.trans (hb4.mono HB3.out.size))
      have HE4 := hidIt hre
      clear hb4 hse hre
      go_wp2_with fail
      refine (HSq.out _ HB4.out).mono ?_
      rintro e w5 ⟨fa, fn, fc, rfl, hrf, hb5⟩
      have HB5 := hidIt (HB4.out.trans (hb5.mono HB4.out.size))
      have HE5 := hidIt (HE4.out.upto hb5 hb5.size)
      have HF5 := hidIt hrf
      have e1 := HE5.out.len.1
      have e2 := hrf.len.1
      obtain rfl : en = fn := by omega
      have hen : en ≤ 17592186044416 := hrf.len.2
      have HL := hidIt e1
      have hee : ((en : Int) != (en : Int)) = false := by simp
      clear hb5 hrf e1 e2 HE4 HSq
      go_wp2_with fail
      refine (coded_nil 0 _).mono ?_
      rintro e w6 ⟨rfl, ew⟩
      subst w6
      go_wp2_with fail
      go_loopw [12] (fun t wr => ∃ i : Nat, i ≤ en ∧ t = .int .i64 i ∧ Below w5.heap.size w5 wr) (fun t _ => en - (RowKit.intOf t).toNat)
      case atStart => exact ⟨0, by omega, rfl, Below.refl _ _⟩
      case round =>
        obtain ⟨i, hi, rfl, hbw⟩ := hrel
        have HBw := hidIt hbw
        clear hbw
        by_cases hlt : i < en
        · have c0 : decide ((i : Int) < en) = true := by simp; omega
          have hiz : (i : Int) < en := by omega
          obtain ⟨x, hx, _⟩ := get_in (l := es) (i := i) (by have := HL.out; omega)
          obtain ⟨g, o, sa, sn, sc, rfl, hg, q0, q1, q2, hl1⟩ := en_at (HE5.out.below HBw.out) hx
          obtain ⟨g2, o2, ta, tn, tc, rfl, hg2, r0, r1, r2, hl2⟩ := en_at (HF5.out.below HBw.out) hx
          have HSm : Hid (∀ W, Below wr.heap.size wr W → Calls Tryd.prog 11 #[.agg #[.int .i64 x.day, .string x.text, .slice sa sn sc], .agg #[.int .i64 x.day, .string x.text, .slice ta tn tc]] W fun e w' => e = .returned (.bool true) ∧ Below W.heap.size W w') := fun W hW =>
            same_w (hl1.below (hW.mono HBw.out.size)) (hl2.below (hW.mono HBw.out.size)) (Nat.le_trans HBw.out.size hW.size)
          obtain ⟨xd, xt, xl⟩ := x
          simp only at q0 q1 r0 r1 HSm
          clear hx hl1 hl2
          go_upto_region 13 with fail
          go_cut [13] (fun y wx => y = .bool true ∧ Below wr.heap.size wr wx)
          case first =>
            go_region_with (go_at_call 11; refine (HSm.out _ ?_).mono ?_; (· first | exact Below.refl _ _ | exact Below.drew (Below.refl _ _) | exact bdrewN (Below.refl _ _) _); rintro e w7 ⟨rfl, hb7⟩)
            all_goals
              go_wp2
              go_meet
              refine ⟨rfl, ?_⟩
              first
                | exact hb7
                | exact ⟨hb7.os, hb7.tape, hb7.output, hb7.size, hb7.block⟩
          case rest =>
            obtain ⟨h13, hb7⟩ := hcut
            subst h13
            have HB7 := hidIt hb7
            clear hb7
            go_wp2
            go_roundw
            case rel => exact ⟨i + 1, hlt, by go_num, HBw.out.trans (HB7.out.mono HBw.out.size)⟩
            case measure => simp [RowKit.intOf]; omega
        · have c0 : decide ((i : Int) < en) = false := by simp; omega
          go_wp2
          go_ret
          exact ⟨rfl, HB5.out.trans (HBw.out.mono HB5.out.size)⟩
end Go.Proofs.YtkphonojpnhefaaDoor

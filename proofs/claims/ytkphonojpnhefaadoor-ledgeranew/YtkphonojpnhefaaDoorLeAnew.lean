/-
  LedgerAnew, walked.
-/
import Derived.Test.YtkphonojpnhefaaDoorLeL2
namespace Go.Proofs.YtkphonojpnhefaaDoor
open Go.RowKit Go.Extern.Stop Go.Stop Go.Extern

theorem settleL_inr {l : List Cl} {rate : Int} {es : List En} (h : settleL l rate = .inr es) : claimsK l rate = none ∧ setL rate 0 0 l = some es := by
  unfold settleL at h
  split at h
  · cases h
  · split at h
    · cases h
    · rename_i h1 _ _ h2
      injection h with h
      exact ⟨h1, by rw [h2, h]⟩
theorem sumL_bd : ∀ l : List Ln, (∀ x, x ∈ l → -2000000000000 ≤ x.cents ∧ x.cents ≤ 2000000000000) → -(2000000000000 * (l.length : Int)) ≤ sumL l ∧ sumL l ≤ 2000000000000 * (l.length : Int)
  | [], _ => by simp [sumL]
  | x :: l, h => by
    have h1 := sumL_bd l (fun y hy => h y (List.mem_cons_of_mem _ hy))
    have h2 := h x (List.mem_cons_self ..)
    rw [sumL, List.length_cons]
    omega
theorem sumL_one (x : Ln) : sumL [x] = x.cents := by simp [sumL]
set_option maxHeartbeats 4000000 in
set_option maxRecDepth 10000 in
theorem anew_walk {n c : Nat} {a : Option Addr} {l : List Cl} {rate : Int} {p : Nat → Addr} {w : World} (h : NRd clN w (· < w.heap.size) (.slice a n c) l) (hs : Sent w p) :
    Calls Tryd.prog 4 #[.slice a n c, .int .i64 rate] w fun e w' => e = .returned (.bool true) ∧ Below w.heap.size w w' := by
  obtain ⟨hn, hbig⟩ := h.len
  have HA := hidIt (settles_w hs)
  have HR := hidIt (And.intro h hn)
  have HS := hidIt hs
  clear h hn hs
  go_enter Tryd.func4, Tryd.ntmps4
  go_wp2_with fail
  refine HA.out.mono ?_
  rintro e w1 ⟨rfl, hb1⟩
  have HB1 := hidIt hb1
  have HF := hidIt (few_p (HR.out.1.below hb1))
  clear hb1 HA
  go_wp2_with fail
  refine HF.out.mono ?_
  rintro e w2 ⟨b, rfl, hfew, ew⟩
  subst w2
  clear HF
  cases b
  · clear hfew
    go_wp2
    go_ret
    exact ⟨rfl, HB1.out⟩
  · obtain ⟨f1, f2⟩ := hfew rfl
    clear hfew
    by_cases hn0 : n = 0
    · subst hn0
      go_wp2
      go_ret
      exact ⟨rfl, HB1.out⟩
    · have hnz : ((n : Int) == 0) = false := by simp; omega
      have HCl := hidIt (claims_p (HR.out.1.below HB1.out) HB1.out.size (by have := HR.out.2; omega) f2)
      have HF := hidIt (And.intro f1 f2)
      clear f1 f2
      go_wp2_with fail
      refine HCl.out.mono ?_
      rintro e w3 ⟨⟨ra, rm, rc, rfl, hr⟩, hb3⟩
      have HB3 := hidIt (HB1.out.trans (hb3.mono HB1.out.size))
      have HSe := hidIt (settle_p (rate := rate) hr (Nat.le_refl _) (HS.out.below HB3.out))
      clear hr hb3 HCl
      go_wp2_with fail
      refine HSe.out.mono ?_
      clear HSe
      cases hse : settleL l rate with
      | inl k =>
        rintro e w4 ⟨rfl, hb4⟩
        have HB4 := hidIt (HB3.out.trans (hb4.mono HB3.out.size))
        clear hb4 hse
        go_wp2
        go_ret
        exact ⟨rfl, HB4.out⟩
      | inr es =>
        rintro e w4 ⟨ea, en, ec, rfl, hre, hb4⟩
        have HB4 := hidIt (HB3.out.trans (hb4.mono HB3.out.size))
        obtain ⟨k1, k2⟩ := settleL_inr hse
        obtain ⟨j1, j2, _, _, j5, j6, j7⟩ := claimsK_none k1
        obtain ⟨o1, o2, o3, o4⟩ := setL_ok rate j6 l 0 0 es (by omega) (by omega) k2
        have hel := setL_len rate l 0 0 es k2
        obtain ⟨e1, e2⟩ := hre.len
        have hen : en ≤ 400 := by omega
        have hbd : EnBd es := fun e he => ⟨(o1 e he).len, (o1 e he).bd⟩
        obtain ⟨x, hx⟩ : ∃ x, l[n - 1]? = some x := ⟨_, List.getElem?_eq_getElem (by have := HR.out.2; omega)⟩
        have hlast : l.getLast? = some x := by
          rw [List.getLast?_eq_getElem?]
          have := HR.out.2
          rw [← this]
          exact hx
        rw [rLast_last 0 l x hlast] at o2
        have hgx : x.due.any great = false := by simpa using (List.any_eq_false.1 j5) x (List.mem_of_getElem? hx)
        have hxd : x.due.length ≤ 1500 := by have := totalL_due l x (List.mem_of_getElem? hx); have := HF.out.2; omega
        have hxb := rightL_bd x.day x.due hgx
        obtain ⟨g, o, sa, sn, sc, rfl, hg, q0, q1, hdu⟩ := cl_at (HR.out.1.below HB4.out) hx
        have HRt := hidIt (rightOf_p (dy := x.day) hdu HB4.out.size hgx (by have := hdu.len; omega))
        have HBal1 := hidIt (balance_p (acc := ⟨#[114, 105, 103, 104, 116, 115]⟩) hre hbd (by omega))
        have HBal2 := hidIt (balance_p (acc := ⟨#[112, 97, 105, 100]⟩) hre hbd (by omega))
        have hX : rightL x.day x.due = x.right := rfl
        rw [hX] at HRt hxb
        have HEs := hidIt (And.intro hre (And.intro e1 o1))
        have HO := hidIt (And.intro o3 o4)
        have hb9 : balE tRights es = -x.right := by omega
        have hb9 : balE ⟨#[114, 105, 103, 104, 116, 115]⟩ es = -x.right := hb9
        rw [hb9] at HBal1
        obtain ⟨X, hXX⟩ : ∃ X, X = x.right := ⟨_, rfl⟩
        rw [← hXX] at HRt HBal1 hxb
        obtain ⟨P, hP⟩ : ∃ P, P = balE ⟨#[112, 97, 105, 100]⟩ es := ⟨_, rfl⟩
        rw [← hP] at HBal2
        have HP : Hid (P = X - balE tDebts es) := by
          have h1 : P = balE tPaid es := hP
          have h2 : balE tRights es = -x.right := hb9
          show _ = _
          omega
        have hxb2 : -1500000000000000 ≤ X ∧ X ≤ 1500000000000000 := by omega
        obtain ⟨dy, due⟩ := x
        obtain ⟨m, hm⟩ : ∃ m, m = n - 1 := ⟨_, rfl⟩
        rw [← hm] at q0 q1
        have hmz : (n : Int) - 1 = (m : Int) := by omega
        have hmn : (m : Int) < (n : Int) := by omega
        simp only at q0 HRt
        clear hb4 hse k1 k2 j1 j2 j5 o1 o2 o3 o4 hel hre e1 hbd hx hlast hgx hxd hxb hdu hX hb9 hXX hP hm
        go_wp2_with fail
        go_loopw [9, 10] (fun s t wr => ∃ (i : Nat) (y : Int), i ≤ en ∧ s = .int .i64 y ∧ t = .int .i64 i ∧ y = -balE tDebts (es.take i) ∧ -(6000000000000 * (i : Int)) ≤ y ∧ y ≤ 6000000000000 * (i : Int) ∧ wr = w4) (fun _ t _ => en - (RowKit.intOf t).toNat)
        case atStart => exact ⟨0, 0, by omega, rfl, rfl, by simp [balE], by omega, by omega, rfl⟩
        case round =>
          obtain ⟨i, y, hi, rfl, rfl, hy, hy1, hy2, ew⟩ := hrel
          subst wr
          have HY := hidIt hy
          clear hy
          by_cases hlt : i < en
          · have c0 : decide ((i : Int) < en) = true := by simp; omega
            have hiz : (i : Int) < en := by omega
            obtain ⟨e, he, _⟩ := get_in (l := es) (i := i) (by have := HEs.out.2.1; omega)
            obtain ⟨g3, o3, ta, tn, tc, rfl, hg3, r0, r1, r2, hln⟩ := en_at HEs.out.1 he
            have hok := HEs.out.2.2 e (List.mem_of_getElem? he)
            have htn : tn ≤ 3 := by have := hln.len; have := hok.len; omega
            have HT : Hid (balE tDebts (es.take (i + 1)) = balE tDebts (es.take i) + balL tDebts e.lines) := by
              show _ = _
              rw [take_succ' he, balE_app, balE_one]
            have HL := hidIt (And.intro hln (And.intro hln.len.1 hok))
            clear hln hok he
            go_wp2_with fail
            go_loopw [9, 11, 12] (fun s u t wr => ∃ (k : Nat) (z v : Int), k ≤ tn ∧ s = .int .i64 z ∧ u = .int .i64 v ∧ t = .int .i64 k ∧ z = y - balL tDebts (e.lines.take k) ∧ v = sumL (e.lines.take k) ∧ -(6000000000000 * (i : Int) + 2000000000000 * (k : Int)) ≤ z ∧ z ≤ 6000000000000 * (i : Int) + 2000000000000 * (k : Int) ∧ -(2000000000000 * (k : Int)) ≤ v ∧ v ≤ 2000000000000 * (k : Int) ∧ wr = w4) (fun _ _ t _ => tn - (RowKit.intOf t).toNat)
            case atStart => exact ⟨0, y, 0, by omega, rfl, rfl, rfl, by simp [balL], by simp [sumL], by omega, by omega, by omega, by omega, rfl⟩
            case round =>
              obtain ⟨k, z, v, hk, rfl, rfl, rfl, hz, hv, hz1, hz2, hv1, hv2, ew⟩ := hrel
              subst wr
              have HZ := hidIt (And.intro hz hv)
              clear hz hv
              by_cases hltk : k < tn
              · have c1 : decide ((k : Int) < tn) = true := by simp; omega
                have hkz : (k : Int) < tn := by omega
                obtain ⟨u, hu, _⟩ := get_in (l := e.lines) (i := k) (by have := HL.out.2.1; omega)
                obtain ⟨g4, o4, rfl, hg4, hrg⟩ := HL.out.1.at hu
                obtain ⟨p0, p1⟩ := ln_cells hrg
                have hk2 : lnE.k = 2 := rfl
                rw [hk2] at p0 p1
                obtain ⟨u1, u2⟩ := HL.out.2.2.bd u (List.mem_of_getElem? hu)
                have HU : Hid (balL tDebts (e.lines.take (k + 1)) = balL tDebts (e.lines.take k) + (if u.acc = tDebts then u.cents else 0) ∧ sumL (e.lines.take (k + 1)) = sumL (e.lines.take k) + u.cents) := by
                  show _ ∧ _
                  rw [take_succ' hu, balL_app, balL_one, sumL_app, sumL_one]
                  exact ⟨rfl, rfl⟩
                obtain ⟨ua, uc⟩ := u
                simp only at p0 p1 u1 u2 HU
                clear hrg hu hk2 hg4
                by_cases hacc : ua = tDebts
                · have HQ : Hid (z - uc = y - balL tDebts (e.lines.take (k + 1)) ∧ v + uc = sumL (e.lines.take (k + 1))) := by
                    obtain ⟨h1, h2⟩ := HZ.out
                    obtain ⟨h3, h4⟩ := HU.out
                    rw [if_pos hacc] at h3
                    show _ ∧ _
                    omega
                  have hacc2 : ua = ⟨#[100, 101, 98, 116, 115]⟩ := hacc
                  subst hacc2
                  clear hacc
                  go_wp2
                  go_roundw
                  case rel => exact ⟨k + 1, z - uc, v + uc, hltk, by go_num, by go_num, by go_num, HQ.out.1, HQ.out.2, by omega, by omega, by omega, by omega, by simp⟩
                  case measure => simp [RowKit.intOf]; omega
                · have HQ : Hid (z = y - balL tDebts (e.lines.take (k + 1)) ∧ v + uc = sumL (e.lines.take (k + 1))) := by
                    obtain ⟨h1, h2⟩ := HZ.out
                    obtain ⟨h3, h4⟩ := HU.out
                    rw [if_neg hacc] at h3
                    show _ ∧ _
                    omega
                  have hacc2 : ¬ ua = ⟨#[100, 101, 98, 116, 115]⟩ := hacc
                  have h4 := toListB_ne hacc2
                  rw [Lib.toList_data ⟨#[100, 101, 98, 116, 115]⟩] at h4
                  have h3 : (ua.toList == [100, 101, 98, 116, 115]) = false := h4
                  clear h4
                  clear hacc hacc2
                  go_wp2
                  go_roundw
                  case rel => exact ⟨k + 1, z, v + uc, hltk, rfl, by go_num, by go_num, HQ.out.1, HQ.out.2, by omega, by omega, by omega, by omega, by simp⟩
                  case measure => simp [RowKit.intOf]; omega
              · have c1 : decide ((k : Int) < tn) = false := by simp; omega
                have HQ : Hid (z = -balE tDebts (es.take (i + 1)) ∧ v = 0 ∧ 0 ≤ z) := by
                  obtain ⟨h1, h2⟩ := HZ.out
                  rw [show e.lines.take k = e.lines from List.take_of_length_le (by have := HL.out.2.1; omega)] at h1 h2
                  have h3 := HL.out.2.2.sum
                  have h4 := HT.out
                  have h5 := HO.out.2 (i + 1)
                  have h6 := HY.out
                  show _ ∧ _
                  omega
                obtain rfl : v = 0 := HQ.out.2.1
                have hz0 : ¬ z < 0 := by have := HQ.out.2.2; omega
                go_wp2
                go_roundw
                case rel => exact ⟨i + 1, z, hlt, rfl, by go_num, HQ.out.1, by omega, by omega, by simp⟩
                case measure => simp [RowKit.intOf]; omega
          · have c0 : decide ((i : Int) < en) = false := by simp; omega
            have HQ : Hid (P = X + y) := by
              have h1 := HP.out
              have h2 := HY.out
              rw [show es.take i = es from List.take_of_length_le (by have := HEs.out.2.1; omega)] at h2
              show _ = _
              omega
            have hPe : (P == X + y) = true := by have := HQ.out; simpa using this
            have hxx : (X == X) = true := by simp
            have hyb : -2400000000000000 ≤ y ∧ y ≤ 2400000000000000 := by omega
            go_wp2_with fail
            refine HBal1.out.mono ?_
            rintro e w5 ⟨rfl, ew⟩
            subst w5
            go_wp2_with fail
            refine HBal2.out.mono ?_
            rintro e w5 ⟨rfl, ew⟩
            subst w5
            go_wp2_with fail
            refine HRt.out.mono ?_
            rintro e w5 ⟨rfl, hb5⟩
            have HB5 := hidIt (HB4.out.trans (hb5.mono HB4.out.size))
            clear hb5
            go_wp2
            go_ret
            exact ⟨rfl, HB5.out⟩
end Go.Proofs.YtkphonojpnhefaaDoor

/-
  LedgerKeeps, walked.
-/
import Derived.Test.YtdeccdmplmclmaaGreatDoorLkLaw
namespace Go.Proofs.YtdeccdmplmclmaaGreatDoor
open Go.RowKit Go.Extern.Stop Go.Stop Go.Extern

set_option maxHeartbeats 8000000 in
set_option maxRecDepth 20000 in
theorem keeps_walk {n c : Nat} {a : Option Addr} {l : List En} {acc : ByteArray} {on : Int} {p : Nat → Addr} {w : World} (h : NRd enN w (· < w.heap.size) (.slice a n c) l) (L : Laid w p) :
    Calls Tryz.prog 3 #[.slice a n c, .string acc, .int .i64 on] w fun e w' => e = .returned (.bool true) ∧ Below w.heap.size w w' := by
  obtain ⟨hn, hbig⟩ := h.len
  have HN0 := hidLL (new_p (w := w))
  have HR := hidLL (And.intro h hn)
  have HS := hidLL L
  have HB0 := hidLL (both_new w)
  clear h hn L
  go_enter Tryz.func3, Tryz.ntmps3
  go_wp2_with fail
  refine HN0.out.mono ?_
  rintro e w1 ⟨rfl, ew⟩
  subst w1
  clear HN0
  by_cases h402 : 402 < n
  · have hz : (402 : Int) < n := by omega
    go_wp2
    go_ret
    exact ⟨rfl, bel1 _ _⟩
  · have c402 : decide ((402 : Int) < n) = false := by simp; omega
    by_cases h100 : 100 < acc.size
    · have hz : (100 : Int) < acc.size := by omega
      go_wp2
      go_ret
      exact ⟨rfl, bel1 _ _⟩
    · have c100 : decide ((100 : Int) < acc.size) = false := by simp; omega
      obtain ⟨W, hW⟩ : ∃ W, W = (w.alloc (.cells #[.slice none 0 0, .map none] 53)).alloc (.cells #[.slice none 0 0] 27) := ⟨_, rfl⟩
      obtain ⟨gb, hgb⟩ : ∃ gb, gb = w.heap.size := ⟨_, rfl⟩
      obtain ⟨rb, hrb⟩ : ∃ rb, rb = w.heap.size + 1 := ⟨_, rfl⟩
      rw [← hW, ← hrb, ← hgb] at HB0
      go_upto_region 7 with fail
      rw [← hW, ← hrb, ← hgb]
      clear hW hrb hgb
      have hn4 : n ≤ 402 := by omega
      clear h402 c402 h100 c100 hbig
      go_wp2_with fail
      go_loopw [9] (fun t wr => ∃ (i : Nat) (M : List En), i ≤ n ∧ t = .int .i64 i ∧ Both w wr gb rb M) (fun t _ => n - (RowKit.intOf t).toNat)
      case atStart => exact ⟨0, [], by omega, rfl, HB0.out⟩
      case round =>
        clear HB0
        obtain ⟨i, M, hi, rfl, hBo⟩ := hrel
        have HBo := hidLL hBo
        clear hBo
        by_cases hlt : i < n
        · have c0 : decide ((i : Int) < n) = true := by simp; omega
          have hiz : (i : Int) < n := by omega
          obtain ⟨x, hx, _⟩ := get_in (l := l) (i := i) (by have := HR.out.2; omega)
          obtain ⟨g, o, sa, sn, sc, rfl, hg, q0, q1, q2, hln⟩ := en_at HR.out.1 hx
          have HLn := hidLL hln
          obtain ⟨dy, tx, ls⟩ := x
          simp only at q0 q1
          have r0 : wr.cell? ⟨g, o + i * 3, none⟩ = some (.int .i64 dy) := (HBo.out.bel.cell (p := ⟨g, o + i * 3, none⟩) hg).trans q0
          have r1 : wr.cell? ⟨g, o + i * 3 + 1, none⟩ = some (.string tx) := (HBo.out.bel.cell (p := ⟨g, o + i * 3 + 1, none⟩) hg).trans q1
          have r2 : wr.cell? ⟨g, o + i * 3 + 2, none⟩ = some (.slice sa sn sc) := (HBo.out.bel.cell (p := ⟨g, o + i * 3 + 2, none⟩) hg).trans q2
          have hsnb : sn ≤ 17592186044416 := hln.len.2
          clear hx hln
          by_cases h30 : 30 < sn
          · have hz : (30 : Int) < sn := by omega
            go_wp2
            go_ret
            exact ⟨rfl, HBo.out.bel⟩
          · have c30 : decide ((30 : Int) < sn) = false := by simp; omega
            by_cases h1k : 1000 < tx.size
            · have hz : (1000 : Int) < tx.size := by omega
              go_wp2
              go_ret
              exact ⟨rfl, HBo.out.bel⟩
            · have c1k : decide ((1000 : Int) < tx.size) = false := by simp; omega
              have htx : tx.size ≤ 1000 := by omega
              have HEn := hidLL (entry_w (dy := dy) (tx := tx) (w := wr) (HLn.out.below HBo.out.bel) HBo.out.bel.size (by omega))
              go_wp2_with fail
              refine HEn.out.mono ?_
              clear HEn
              rintro e w2 ⟨⟨ca, cn, cc, rfl, hcl⟩, hb2⟩
              have HBo2 := hidLL (HBo.out.below hb2)
              obtain ⟨v, mv, hG⟩ := HBo2.out.led
              have HP := hidLL (post_p (dy := dy) (tx := tx) (p := p) hG HBo2.out.good hcl (HS.out.below HBo2.out.bel).sentL (by omega) HBo2.out.bel.size)
              have r0' : w2.cell? ⟨g, o + i * 3, none⟩ = some (.int .i64 dy) := (HBo2.out.bel.cell (p := ⟨g, o + i * 3, none⟩) hg).trans q0
              have r1' : w2.cell? ⟨g, o + i * 3 + 1, none⟩ = some (.string tx) := (HBo2.out.bel.cell (p := ⟨g, o + i * 3 + 1, none⟩) hg).trans q1
              have r2' : w2.cell? ⟨g, o + i * 3 + 2, none⟩ = some (.slice sa sn sc) := (HBo2.out.bel.cell (p := ⟨g, o + i * 3 + 2, none⟩) hg).trans q2
              clear hcl hb2 hG r0 r1 r2
              go_wp2_with fail
              refine HP.out.mono ?_
              clear HP
              rintro e w3 hP
              obtain ⟨hR3, hb3⟩ := ref_post HBo2.out.ref hP
              have HP3 := hidLL hP
              have hbw3 := HBo2.out.bel.trans hb3
              have s0 : w3.cell? ⟨g, o + i * 3, none⟩ = some (.int .i64 dy) := (hbw3.cell (p := ⟨g, o + i * 3, none⟩) hg).trans q0
              have s1 : w3.cell? ⟨g, o + i * 3 + 1, none⟩ = some (.string tx) := (hbw3.cell (p := ⟨g, o + i * 3 + 1, none⟩) hg).trans q1
              have s2 : w3.cell? ⟨g, o + i * 3 + 2, none⟩ = some (.slice sa sn sc) := (hbw3.cell (p := ⟨g, o + i * 3 + 2, none⟩) hg).trans q2
              obtain ⟨u3, hR3⟩ := hR3
              have HQ := hidLL (rPost_p (dy := dy) (tx := tx) hR3 HBo2.out.good (HLn.out.below hbw3) (by omega))
              obtain ⟨v1, rfl⟩ := hP.ret
              clear hR3 hb3 hbw3 hP r0' r1' r2'
              go_wp2_with fail
              refine HQ.out.mono ?_
              clear HQ
              rintro e w4 hQ
              obtain ⟨v1', z, he1, rfl, ⟨M', hM'⟩, hC⟩ := coded_both HS.out HBo2.out.good HBo2.out.text htx HBo2.out.bel HBo2.out.led HBo2.out.ref HP3.out hQ
              injection he1 with he1
              subst he1
              have HC := hidLL hC
              have HM' := hidLL hM'
              clear hC hM' hQ HP3 s0 s1 s2
              go_wp2_with fail
              refine HC.out.mono ?_
              clear HC
              rintro e w5 ⟨rfl, hb5⟩
              have HM5 := hidLL (HM'.out.below hb5)
              clear hb5
              go_wp2
              go_roundw
              case rel => exact ⟨i + 1, M', hlt, by go_num, HM5.out⟩
              case measure => simp [RowKit.intOf]; omega
        · have c0 : decide ((i : Int) < n) = false := by simp; omega
          obtain ⟨v, mv, hG⟩ := HBo.out.led
          have HE := hidLL (entries_p hG HBo.out.good)
          clear hG
          go_wp2_with fail
          refine HE.out.mono ?_
          clear HE
          rintro e w5 ⟨⟨ea, en, ec, rfl, hE⟩, hb5⟩
          have HBo5 := hidLL (HBo.out.below hb5)
          have hen : en = M.length := by
            obtain ⟨_, _, _, e, hm⟩ := hE.any3
            injection e with _ e _
            rw [e, hm]
          obtain ⟨u5, hR5⟩ := HBo5.out.ref
          obtain ⟨ra, rn, rc, rfl, hrn⟩ := hR5.row.any3
          obtain rfl : rn = en := by omega
          have c5 := hR5.c0
          have HE5 : Hid (NRd enN w5 (· < w5.heap.size) (.slice ea rn ec) M) := hE.rd (fun _ hk => hk.lt) (fun _ _ hk => hk)
          have HR5 : Hid (NRd enN w5 (· < w5.heap.size) (.slice ra rn rc) M) := hR5.rd
          have hrb5 := hR5.lt
          have HLen := hidLL hen
          have hrn4 : rn ≤ 400 := by have := HBo5.out.good.len; omega
          have hee : ((rn : Int) != (rn : Int)) = false := by simp
          clear hE hb5 hR5 hen hrn HBo c0 hlt hi HR
          go_wp2_with fail
          go_loopw [13] (fun t wr => ∃ i : Nat, i ≤ rn ∧ t = .int .i64 i ∧ Below w5.heap.size w5 wr) (fun t _ => rn - (RowKit.intOf t).toNat)
          case atStart => exact ⟨0, by omega, rfl, Below.refl _ _⟩
          case round =>
            obtain ⟨i, hi, rfl, hbw⟩ := hrel
            have HBw := hidLL hbw
            have d5 : wr.cell? ⟨rb, 0, none⟩ = some (.slice ra rn rc) := (hbw.cell (p := ⟨rb, 0, none⟩) hrb5).trans c5
            clear hbw
            by_cases hlt : i < rn
            · have c0 : decide ((i : Int) < rn) = true := by simp; omega
              have hiz : (i : Int) < rn := by omega
              obtain ⟨x, hx, _⟩ := get_in (l := M) (i := i) (by have := HLen.out; omega)
              obtain ⟨g, o, sa, sn, sc, rfl, hg, q0, q1, q2, hl1⟩ := en_at (HE5.out.below HBw.out) hx
              obtain ⟨g2, o2, ta, tn, tc, rfl, hg2, r0, r1, r2, hl2⟩ := en_at (HR5.out.below HBw.out) hx
              have HSm : Hid (∀ W, Below wr.heap.size wr W → Calls Tryz.prog 10 #[.agg #[.int .i64 x.day, .string x.text, .slice sa sn sc], .agg #[.int .i64 x.day, .string x.text, .slice ta tn tc]] W fun e w' => e = .returned (.bool true) ∧ Below W.heap.size W w') := fun W hW =>
                same_w (hl1.below (hW.mono HBw.out.size)) (hl2.below (hW.mono HBw.out.size)) (Nat.le_trans HBw.out.size hW.size)
              obtain ⟨xd, xt, xl⟩ := x
              simp only at q0 q1 r0 r1 HSm
              clear hx hl1 hl2
              go_upto_region 22 with fail
              go_cut [14] from 83 to 102 (fun y wx => y = .bool true ∧ Below wr.heap.size wr wx)
              case first =>
                go_region_with (go_at_call 10; refine (HSm.out _ ?_).mono ?_; (· first | exact Below.refl _ _ | exact Below.drew (Below.refl _ _) | exact bdrewN (Below.refl _ _) _); rintro e w7 ⟨rfl, hb7⟩)
                all_goals
                  go_wp2
                  go_meet
                  refine ⟨rfl, ?_⟩
                  first
                    | exact hb7
                    | exact ⟨hb7.os, hb7.tape, hb7.output, hb7.size, hb7.block⟩
              case rest =>
                obtain ⟨h14, hb7⟩ := hcut
                subst h14
                have HB7 := hidLL hb7
                clear hb7
                go_wp2
                go_roundw
                case rel => exact ⟨i + 1, hlt, by go_num, HBw.out.trans (HB7.out.mono HBw.out.size)⟩
                case measure => simp [RowKit.intOf]; omega
            · have c0 : decide ((i : Int) < rn) = false := by simp; omega
              have hBo6 := HBo5.out.below HBw.out
              obtain ⟨v, mv, hG⟩ := hBo6.led
              have HA := hidLL (accounts_p hG hBo6.good)
              have HE6 := hidLL (HE5.out.below HBw.out)
              have HBo6 := hidLL hBo6
              have hw56 := HBw.out.size
              obtain ⟨w6, hw6⟩ : ∃ w6 : World, w6 = wr := ⟨_, rfl⟩
              subst wr
              clear hG hBo6 HE5 HR5 d5 HBo5 HBw
              go_wp2_with fail
              refine HA.out.mono ?_
              clear HA
              rintro e w7 ⟨⟨na, nm, nc, N, rfl, hr7, hN, hN16⟩, hb7⟩
              have HBo7 := hidLL (HBo6.out.below hb7)
              have HE7 : Hid (NRd enN w7 (· < w7.heap.size) (.slice ea rn ec) M) := HE6.out.upto (hb7.mono hw56) (by have := hb7.size; omega)
              have HNm := hidLL (And.intro hN hN16)
              have HRd := hidLL hr7.rd
              have hnm : nm = N.length := hr7.rd.len.1
              have hnm16 : nm ≤ 16000 := by omega
              clear hb7 hr7 hN hN16 HBo6 HE6 hi hlt c0
              go_wp2_with fail
              go_loopw [16, 17] (fun s t wr => ∃ (k : Nat) (y : Int), k ≤ nm ∧ s = .int .i64 y ∧ t = .int .i64 k ∧ y = sumN (fun a => balOn a on M) (N.take k) ∧ -(1000000000000 * (k : Int)) ≤ y ∧ y ≤ 1000000000000 * (k : Int) ∧ Below w7.heap.size w7 wr) (fun _ t _ => nm - (RowKit.intOf t).toNat)
              case atStart => exact ⟨0, 0, by omega, rfl, rfl, rfl, by omega, by omega, Below.refl _ _⟩
              case round =>
                obtain ⟨k, y, hk, rfl, rfl, hy, hy1, hy2, hbk⟩ := hrel
                have HY := hidLL hy
                have HBk := hidLL hbk
                clear hy hbk
                by_cases hlt : k < nm
                · have c0 : decide ((k : Int) < nm) = true := by simp; omega
                  have hkz : (k : Int) < nm := by omega
                  obtain ⟨nk, hnk, _⟩ := get_in (l := N) (i := k) (by omega)
                  obtain ⟨g, o, rfl, hg, hrg⟩ := HRd.out.at hnk
                  have p0 : wr.cell? ⟨g, o + k, none⟩ = some (.string nk) := by
                    have h1 := hrg 0 (.string nk) rfl
                    have hk1 : strE.k = 1 := rfl
                    rw [hk1, Nat.mul_one, Nat.add_zero] at h1
                    exact (HBk.out.cell (p := ⟨g, o + k, none⟩) hg).trans h1
                  have HNk := hidLL hnk
                  clear hrg hnk
                  go_upto_region 30 with fail
                  go_cut [124] from 105 to 133 (fun b wx => b = .bool false ∧ Below wr.heap.size wr wx)
                  case first =>
                    by_cases hk0 : 0 < k
                    · have hk0z : (0 : Int) < k := by omega
                      have ck : decide (0 < k) = true := by simpa using hk0
                      obtain ⟨m, hm⟩ : ∃ m, m = k - 1 := ⟨_, rfl⟩
                      obtain ⟨nj, hnj, _⟩ := get_in (l := N) (i := m) (by omega)
                      obtain ⟨g2, o2, eg, hg2, hrg⟩ := HRd.out.at hnj
                      injection eg with eg
                      injection eg with eg1 eg2 _
                      subst eg1 eg2
                      have p1 : wr.cell? ⟨g, o + m, none⟩ = some (.string nj) := by
                        have h1 := hrg 0 (.string nj) rfl
                        have hk1 : strE.k = 1 := rfl
                        rw [hk1, Nat.mul_one, Nat.add_zero] at h1
                        exact (HBk.out.cell (p := ⟨g, o + m, none⟩) hg).trans h1
                      obtain ⟨l1, l2⟩ := up_at HNm.out.1 hnj HNk.out (by omega)
                      have hmz : (k : Int) - 1 = (m : Int) := by omega
                      have hmw : IntKind.i64.wrap (m : Int) = (m : Int) := by rw [IntKind.wrap_i64]; omega
                      have hmw2 : IntKind.i64.wrap ((k : Int) - 1) = (m : Int) := by rw [IntKind.wrap_i64]; omega
                      have hmn : (m : Int) < (nm : Int) := by omega
                      clear hrg hnj hm
                      go_quiet (fail)
                      go_wp2
                      go_meet
                      exact ⟨by first | rfl | simp, by first | exact Below.refl _ _ | exact (Below.refl _ _).drew | exact bdrewN (Below.refl _ _) _⟩
                    · have ck : decide ((0 : Int) < k) = false := by simp; omega
                      go_quiet (fail)
                      go_wp2
                      go_meet
                      exact ⟨rfl, by first | exact Below.refl _ _ | exact (Below.refl _ _).drew | exact bdrewN (Below.refl _ _) _⟩
                  case rest =>
                    obtain ⟨h124, hbc⟩ := hcut
                    subst h124
                    have p2 : wc.cell? ⟨g, o + k, none⟩ = some (.string nk) := (hbc.cell (p := ⟨g, o + k, none⟩) (show g < wr.heap.size by have := HBk.out.size; omega)).trans p0
                    have HBc := hidLL (HBk.out.trans (hbc.mono HBk.out.size))
                    obtain ⟨v, mv, hG⟩ := (HBo7.out.below HBc.out).led
                    have HBal := hidLL (balance_p (acc := nk) (on := on) hG HBo7.out.good)
                    obtain ⟨b1, b2⟩ := HBo7.out.good.onBd nk on
                    have HY2 : Hid (y + balOn nk on M = sumN (fun a => balOn a on M) (N.take (k + 1))) := by
                      show _ = _
                      rw [take_succ' HNk.out, sumN_snoc, HY.out]
                    generalize balOn nk on M = bk at *
                    clear hG hbc p0
                    go_wp2_with fail
                    refine HBal.out.mono ?_
                    clear HBal
                    rintro e w8 ⟨rfl, hb8⟩
                    have HB8 := hidLL (HBc.out.trans (hb8.mono HBc.out.size))
                    clear hb8
                    go_wp2
                    go_roundw
                    case rel => exact ⟨k + 1, y + bk, hlt, by go_num, by go_num, HY2.out, by omega, by omega, HB8.out⟩
                    case measure => simp [RowKit.intOf]; omega
                · have c0 : decide ((k : Int) < nm) = false := by simp; omega
                  have hy0 : y = 0 := by
                    have h1 := HY.out
                    rw [show N.take k = N from List.take_of_length_le (by omega), names_sum HBo7.out.good HNm.out.1] at h1
                    exact h1
                  subst hy0
                  have hBo8 := HBo7.out.below HBk.out
                  have HBo8 := hidLL hBo8
                  have HSh := hidLL (sheet_p (p := p) (HE7.out.upto HBk.out HBk.out.size) hBo8.good hBo8.text (HS.out.below hBo8.bel).sentL)
                  have HRd8 : Hid (RdG strE wr w7.heap.size (.slice na nm nc) N) := HRd.out.below HBk.out
                  have hw78 := HBk.out.size
                  obtain ⟨w8, hw8⟩ : ∃ w8 : World, w8 = wr := ⟨_, rfl⟩
                  subst wr
                  clear hBo8 HBk HY HE7 HBo7 HRd hy1 hy2
                  go_wp2_with fail
                  refine HSh.out.mono ?_
                  clear HSh
                  rintro e w9 ⟨⟨sa, sm, sc, N', rfl, hrs, hN', _⟩, hb9⟩
                  obtain rfl : N' = N := names_one hN' HNm.out.1
                  have hsm : sm = nm := by
                    have h1 : sm = (sheetL M N').length := hrs.rd.len.1
                    rw [h1, hnm]
                    unfold sheetL
                    rw [List.length_map]
                  subst hsm
                  have HRd9 : Hid (RdG strE w9 w7.heap.size (.slice na sm nc) N') := HRd8.out.below (hb9.mono hw78)
                  have HSd9 := hidLL hrs.rd
                  have HBo9 := hidLL (HBo8.out.below hb9)
                  have hw79 : w7.heap.size ≤ w9.heap.size := Nat.le_trans hw78 hb9.size
                  have hee : ((sm : Int) != (sm : Int)) = false := by simp
                  clear hrs hN' hb9 HRd8 HBo8 hk hlt c0
                  go_wp2_with fail
                  go_loopw [20] (fun t wr => ∃ k : Nat, k ≤ sm ∧ t = .int .i64 k ∧ Below w9.heap.size w9 wr) (fun t _ => sm - (RowKit.intOf t).toNat)
                  case atStart => exact ⟨0, by omega, rfl, Below.refl _ _⟩
                  case round =>
                    obtain ⟨k, hk, rfl, hbk⟩ := hrel
                    have HBk := hidLL hbk
                    clear hbk
                    by_cases hlt : k < sm
                    · have c0 : decide ((k : Int) < sm) = true := by simp; omega
                      have hkz : (k : Int) < sm := by omega
                      obtain ⟨nk, hnk, _⟩ := get_in (l := N') (i := k) (by omega)
                      obtain ⟨g, o, rfl, hg, hrg⟩ := HRd9.out.at hnk
                      have p0 : wr.cell? ⟨g, o + k, none⟩ = some (.string nk) := by
                        have h1 := hrg 0 (.string nk) rfl
                        have hk1 : strE.k = 1 := rfl
                        rw [hk1, Nat.mul_one, Nat.add_zero] at h1
                        exact (HBk.out.cell (p := ⟨g, o + k, none⟩) (show g < w9.heap.size by omega)).trans h1
                      have hsk : (sheetL M N')[k]? = some ⟨nk, balE nk M⟩ := by unfold sheetL; rw [List.getElem?_map, hnk]; rfl
                      obtain ⟨g2, o2, rfl, hg2, hrg2⟩ := HSd9.out.at hsk
                      obtain ⟨q0, q1⟩ := ln_cells hrg2
                      have hk2 : lnE.k = 2 := rfl
                      rw [hk2] at q0 q1
                      simp only at q0 q1
                      have r0 : wr.cell? ⟨g2, o2 + k * 2, none⟩ = some (.string nk) := (HBk.out.cell (p := ⟨g2, o2 + k * 2, none⟩) hg2).trans q0
                      have r1 : wr.cell? ⟨g2, o2 + k * 2 + 1, none⟩ = some (.int .i64 (balE nk M)) := (HBk.out.cell (p := ⟨g2, o2 + k * 2 + 1, none⟩) hg2).trans q1
                      have HBal : Hid (∀ q, Calls Tryz.prog 14 #[.pointer (some ⟨rb, 0, none⟩), .string nk, .int .i64 3652059] (wr.drewN q) fun e w' => e = .returned (.int .i64 (balE nk M)) ∧ w' = wr.drewN q) := fun q => by
                        obtain ⟨u, hR⟩ := ((HBo9.out.below HBk.out).below (bdrewN (Below.refl _ _) q)).ref
                        have h1 := rBal_p (acc := nk) (on := 3652059) hR HBo9.out.good
                        rw [HBo9.out.good.onAll] at h1
                        exact h1
                      generalize balE nk M = bk at *
                      have f1 : (nk.toList != nk.toList) = false := by simp
                      have f2 : (bk != bk) = false := by simp
                      clear hrg hnk hsk hrg2 hk2 q0 q1
                      go_upto_region 39 with fail
                      go_cut [177] from 148 to 177 (fun b wx => b = .bool false ∧ Below wr.heap.size wr wx)
                      case first =>
                        go_quiet ((go_at_call 14; exact Calls.quiet_of_same (HBal.out _)))
                        go_wp2
                        go_meet
                        exact ⟨by first | rfl | simp, by first | exact Below.refl _ _ | exact (Below.refl _ _).drew | exact bdrewN (Below.refl _ _) _⟩
                      case rest =>
                        obtain ⟨h177, hbc⟩ := hcut
                        subst h177
                        have HBc := hidLL (HBk.out.trans (hbc.mono HBk.out.size))
                        clear hbc
                        go_wp2
                        go_roundw
                        case rel => exact ⟨k + 1, hlt, by go_num, HBc.out⟩
                        case measure => simp [RowKit.intOf]; omega
                    · have c0 : decide ((k : Int) < sm) = false := by simp; omega
                      have hBoA := HBo9.out.below HBk.out
                      obtain ⟨v, mv, hG⟩ := hBoA.led
                      have HB1 := hidLL (balance_p (acc := acc) (on := on) hG hBoA.good)
                      have HBoA := hidLL hBoA
                      obtain ⟨wA, hwA⟩ : ∃ wA : World, wA = wr := ⟨_, rfl⟩
                      subst wr
                      clear hG hBoA
                      go_wp2_with fail
                      refine HB1.out.mono ?_
                      clear HB1
                      rintro e wB ⟨rfl, hbB⟩
                      have hBoB := HBoA.out.below hbB
                      obtain ⟨u, hR⟩ := hBoB.ref
                      have HB2 := hidLL (rBal_p (acc := acc) (on := on) hR hBoB.good)
                      have HBoB := hidLL hBoB
                      generalize balOn acc on M = ba at *
                      have fb : (ba == ba) = true := by simp
                      clear hR hBoB hbB
                      go_wp2_with fail
                      refine HB2.out.mono ?_
                      clear HB2
                      rintro e wC ⟨rfl, ew⟩
                      subst wC
                      go_wp2
                      go_ret
                      exact ⟨by first | rfl | simp, HBoB.out.bel⟩
end Go.Proofs.YtdeccdmplmclmaaGreatDoor

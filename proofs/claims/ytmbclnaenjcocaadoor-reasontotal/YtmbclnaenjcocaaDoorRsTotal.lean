/-
  ReasonTotal: the law's walk.
-/
import Derived.Test.YtmbclnaenjcocaaDoorRsFirm
namespace Go.Proofs.YtmbclnaenjcocaaDoor
open Go.RowKit

theorem placeR_p (q : Int) (h0 : q ≠ 0) (h1 : -1000000 ≤ q) (h2 : q ≤ 1000000) (w : World) : Calls Tryd.prog 17 #[.int .i64 q] w fun e w' => e = .returned (.int .i64 (pl q)) ∧ w' = w := by
  by_cases hq : q < 0
  · have HP : Hid ((pl q : Int) = -2 * q - 1) := by
      show _ = _
      unfold pl; rw [if_pos hq]; omega
    generalize pl q = P at *
    go_enter Tryd.func17, Tryd.ntmps17
    go_wp2
    go_ret
    exact ⟨retI HP.out.symm, rfl⟩
  · have HP : Hid ((pl q : Int) = 2 * q - 2) := by
      show _ = _
      unfold pl; rw [if_neg hq]; omega
    generalize pl q = P at *
    go_enter Tryd.func17, Tryd.ntmps17
    go_wp2
    go_ret
    exact ⟨retI HP.out.symm, rfl⟩
/-- Bodies of the first rules speak of names ahead of their heads' alone. -/
def Ahead (T : Thy) (i : Nat) : Prop := ∀ k, k < i → ∀ r, T.rl k r → ∀ b, b ∈ r.body → b.natAbs < r.head.natAbs
def AheadB (T : Thy) (i j : Nat) : Prop := ∀ r, T.rl i r → ∀ m, m < j → ∀ b, r.body[m]? = some b → b.natAbs < r.head.natAbs
theorem Ahead.next {T : Thy} {i j : Nat} (h : Ahead T i) (hb : AheadB T i j) (hj : ∀ r, T.rl i r → r.body.length ≤ j) : Ahead T (i + 1) := fun k hk r hr b hbm => by
  rcases Nat.lt_or_ge k i with hki | hki
  · exact h k hki r hr b hbm
  · obtain rfl : k = i := by omega
    obtain ⟨m, hm⟩ := List.mem_iff_getElem?.1 hbm
    have hml := (List.getElem?_eq_some_iff.1 hm).1
    exact hb r hr m (by have := hj r hr; omega) b hm
theorem Ahead.all {T : Thy} (h : Ahead T T.rules.length) : ∀ i r, T.rl i r → ∀ b, b ∈ r.body → b.natAbs < r.head.natAbs := fun i r hr => h i (List.getElem?_eq_some_iff.1 hr).1 r hr
theorem AheadB.next {T : Thy} {i j : Nat} (h : AheadB T i j) {r : Rl} (hr : T.rl i r) {b : Int} (hb : r.body[j]? = some b) (hlt : b.natAbs < r.head.natAbs) : AheadB T i (j + 1) := fun r' hr' m hm b' hb' => by
  have e : some r' = some r := hr'.symm.trans hr
  injection e with e
  subst e
  rcases Nat.lt_or_ge m j with h1 | h1
  · exact h r' hr' m h1 b' hb'
  · obtain rfl : m = j := by omega
    rw [hb] at hb'
    injection hb' with e
    subst e
    exact hlt
theorem pl_le {q : Int} (h1 : -120 ≤ q) (h2 : q ≤ 120) : (pl q : Int) / 2 ≤ 120 ∧ 0 ≤ (pl q : Int) / 2 := by
  unfold pl
  split <;> omega
theorem pl_half (q : Int) : pl q / 2 = q.natAbs - 1 := by
  unfold pl
  split <;> omega
set_option maxHeartbeats 4000000 in
set_option maxRecDepth 100000 in
theorem total_none {w : World} {p : Nat → Addr} (hE : Sent4 w p) : Calls Tryd.prog 5 #[.pointer none] w fun e w' => e = .returned (.bool true) ∧ Below w.heap.size w w' := by
  have HL := hidLL (live_w hE ordC)
  clear hE
  go_enter Tryd.func5, Tryd.ntmps5
  go_wp2_with fail
  refine HL.out.mono ?_
  rintro e w1 ⟨rfl, hb⟩
  have HB := hidLL hb
  clear hb
  go_wp2
  go_ret
  exact ⟨rfl, HB.out⟩
set_option maxHeartbeats 4000000 in
set_option maxRecDepth 100000 in
theorem total_w {w : World} {p : Nat → Addr} (hE : Sent4 w p) {B : Nat} {T : Thy} {rv ov : Value} {pb po : Nat} (h : TP w B T rv ov pb po) (hB : B ≤ w.heap.size) : Calls Tryd.prog 5 #[.pointer (some ⟨pb, po, none⟩)] w fun e w' => e = .returned (.bool true) ∧ Below w.heap.size w w' := by
  have HL := hidLL (live_w hE ordC)
  have HX : Hid (∀ W, Below w.heap.size w W → TP W B T rv ov pb po ∧ B ≤ W.heap.size ∧ Sent4 W p) := fun W hW => ⟨h.bel hW hB, by have := hW.size; omega, hE.bel hW⟩
  clear hE h hB
  go_enter Tryd.func5, Tryd.ntmps5
  go_wp2_with fail
  refine HL.out.mono ?_
  rintro e w1 ⟨rfl, hb1⟩
  have HB1 := hidLL hb1
  clear hb1 HL
  go_wp2_with fail
  refine (few_w (HX.out w1 HB1.out).1).mono ?_
  rintro e w2 ⟨b, rfl, ew⟩
  subst ew
  cases b with
  | false =>
    go_wp2
    go_ret
    exact ⟨rfl, HB1.out⟩
  | true =>
    go_wp2_with fail
    refine (theory_w (HX.out w2 HB1.out).1 (HX.out w2 HB1.out).2.1).mono ?_
    rintro e w3 ⟨rv', ov', rfl, hM, hb3⟩
    have HB3 := hidLL (HB1.out.trans (hb3.mono HB1.out.size))
    have HM := hidLL hM
    clear hb3 hM
    go_wp2_with fail
    refine (solve_v HM.out (Nat.le_refl _) (HX.out w3 HB3.out).2.2 (fun h W hW => ordC T _ _ w3.heap.size W h (HM.out.below hW (Nat.le_refl _)) hW.size)).mono ?_
    rintro e w4 ⟨hb4, ⟨k, hk, rfl⟩ | ⟨hk, bS, bH, s, rfl, _, _, hS, hH, hF, hQ⟩⟩
    · have HB4 := hidLL (HB3.out.trans (hb4.mono HB3.out.size))
      clear hb4 hk
      unfold errV
      go_wp2
      go_ret
      exact ⟨rfl, HB4.out.alloc HB4.out.size _⟩
    · have HB4 := hidLL (HB3.out.trans (hb4.mono HB3.out.size))
      have hOR : Okt T ∧ Ranked T := by
        rcases hk with ⟨e, _⟩ | ⟨e, _⟩ | ⟨e, _⟩ | ⟨e, _⟩ | ⟨_, h1, _, h3, h4⟩
        · cases e
        · cases e
        · cases e
        · cases e
        · exact ⟨okt_of h1 h3, h4⟩
      obtain ⟨N, hN⟩ : ∃ N, N = (shOf T).N := ⟨_, rfl⟩
      have hN1 : N ≤ 120 := by
        have := hOR.1.n1
        have h9 : N = T.names.toNat := hN
        omega
      have HTot : Hid (Ahead T T.rules.length → ∀ q, q < 2 * N → s.su q ≠ 0 ∧ s.ho q ≠ 0) := fun ha q hq => total_at hOR.1 hF hQ ha.all (by rw [← hN]; exact hq)
      have HOk := hidLL hOR.1
      rw [← hN] at hS hH ⊢
      have hlS := hS.lt
      have hlH := hH.lt
      have HFI := hidLL (And.intro hS hH)
      clear hS hH hN hOR hF hQ hk hb4 HM HB1 HB3
      go_wp2_with fail
      obtain ⟨W5, hW5⟩ : ∃ W5 : World, W5 = w4.alloc (.cells #[.slice (some ⟨bS, 0, none⟩) (2 * N) (2 * N), .slice (some ⟨bH, 0, none⟩) (2 * N) (2 * N)] 27) := ⟨_, rfl⟩
      obtain ⟨kb, hkb⟩ : ∃ kb, kb = w4.heap.size := ⟨_, rfl⟩
      rw [← hW5, ← hkb]
      have hb5 : Below w4.heap.size w4 W5 := by rw [hW5]; exact (Below.refl _ _).alloc (Nat.le_refl _) _
      have hk5 : W5.heap[kb]? = some (.cells #[.slice (some ⟨bS, 0, none⟩) (2 * N) (2 * N), .slice (some ⟨bH, 0, none⟩) (2 * N) (2 * N)] 27) := by rw [hW5, hkb]; exact blk_new _ _
      have hb5w := HB4.out.trans (hb5.mono HB4.out.size)
      have k0 : W5.cell? ⟨kb, 0, none⟩ = some (.slice (some ⟨bS, 0, none⟩) (2 * N) (2 * N)) := by simp [World.cell?, hk5]
      have k1 : W5.cell? ⟨kb, 1, none⟩ = some (.slice (some ⟨bH, 0, none⟩) (2 * N) (2 * N)) := by simp [World.cell?, hk5]
      have hrS : ∀ q, q < 2 * N → W5.cell? ⟨bS, q, none⟩ = some (.int .i64 (s.su q)) := fun q hq => (hb5.cell (p := ⟨bS, q, none⟩) hlS).trans (HFI.out.1.cell hq)
      have hrH : ∀ q, q < 2 * N → W5.cell? ⟨bH, q, none⟩ = some (.int .i64 (s.ho q)) := fun q hq => (hb5.cell (p := ⟨bH, q, none⟩) hlH).trans (HFI.out.2.cell hq)
      have HW : Hid (∀ W, Below W5.heap.size W5 W → W.cell? ⟨kb, 0, none⟩ = some (.slice (some ⟨bS, 0, none⟩) (2 * N) (2 * N)) ∧ W.cell? ⟨kb, 1, none⟩ = some (.slice (some ⟨bH, 0, none⟩) (2 * N) (2 * N)) ∧ (∀ q, q < 2 * N → W.cell? ⟨bS, q, none⟩ = some (.int .i64 (s.su q)) ∧ W.cell? ⟨bH, q, none⟩ = some (.int .i64 (s.ho q))) ∧ TP W B T rv ov pb po ∧ Below w.heap.size w W) := fun W hW =>
        ⟨(hW.cell (p := ⟨kb, 0, none⟩) (cell_lt k0)).trans k0, (hW.cell (p := ⟨kb, 1, none⟩) (cell_lt k1)).trans k1, fun q hq => ⟨(hW.cell (p := ⟨bS, q, none⟩) (cell_lt (hrS q hq))).trans (hrS q hq), (hW.cell (p := ⟨bH, q, none⟩) (cell_lt (hrH q hq))).trans (hrH q hq)⟩, (HX.out W (hb5w.trans (hW.mono hb5w.size))).1, hb5w.trans (hW.mono hb5w.size)⟩
      clear hW5 hkb hb5 hk5 hrS hrH HFI HB4 hlS hlH k0 k1 hb5w HX
      obtain ⟨R, hR⟩ : ∃ R, R = T.rules.length := ⟨_, rfl⟩
      have hR1 : R ≤ 120 := by rw [hR]; exact HOk.out.r
      obtain ⟨ra, rc, hrv, _, _⟩ := (HW.out W5 (Below.refl _ _)).2.2.2.1.tm.r
      rw [← hR] at hrv HTot
      subst hrv
      have HRR := hidLL hR
      clear hR
      go_loopw [7] (fun t wr => ∃ i : Nat, i ≤ R ∧ t = .int .i64 i ∧ Ahead T i ∧ Below W5.heap.size W5 wr) (fun t _ => R - (RowKit.intOf t).toNat)
      case atStart => exact ⟨0, by omega, rfl, fun k hk => by omega, Below.refl _ _⟩
      case round =>
        obtain ⟨i, hi, rfl, hah, hbr⟩ := hrel
        obtain ⟨W6, hW6⟩ : ∃ W6 : World, W6 = wr := ⟨_, rfl⟩
        subst hW6
        by_cases hlt : i < R
        · have hiz : (i : Int) < R := by omega
          have hrl2 : i < T.rules.length := by rw [← HRR.out]; exact hlt
          have HRL := hidLL (rl_of hrl2)
          have hbl := HOk.out.body i _ HRL.out
          obtain ⟨ll1, ll2⟩ := HOk.out.lit i _ HRL.out
          obtain ⟨m, hm⟩ : ∃ m, m = (rlAt T i).body.length := ⟨_, rfl⟩
          obtain ⟨Q, hQ⟩ : ∃ Q, Q = (rlAt T i).head := ⟨_, rfl⟩
          have hn120 := HOk.out.n1
          have hQ0 : Q ≠ 0 := by rw [hQ]; exact ll1.1
          have hQ1 : -120 ≤ Q := by rw [hQ]; have := ll1.2.1; omega
          have hQ2 : Q ≤ 120 := by rw [hQ]; have := ll1.2.2; omega
          have HB : Hid (∀ j b, (rlAt T i).body[j]? = some b → b ≠ 0 ∧ -120 ≤ b ∧ b ≤ 120) := fun j b hb => by
            have h9 := ll2 b (List.mem_of_getElem? hb)
            exact ⟨h9.1, by have := h9.2.1; omega, by have := h9.2.2; omega⟩
          rw [← hm] at hbl
          have HY : Hid (∀ W, Below W5.heap.size W5 W → ∃ g o ba bc, ra = some ⟨g, o, none⟩ ∧ W.cell? ⟨pb, po + 1, none⟩ = some (.slice (some ⟨g, o, none⟩) R rc) ∧ W.cell? ⟨g, o + i * 3 + 1, none⟩ = some (.int .i64 Q) ∧ W.cell? ⟨g, o + i * 3 + 2, none⟩ = some (.slice ba m bc) ∧ ∀ j b, (rlAt T i).body[j]? = some b → ∃ g' o', ba = some ⟨g', o', none⟩ ∧ W.cell? ⟨g', o' + j, none⟩ = some (.int .i64 b)) := fun W hW => by
            obtain ⟨_, _, _, hTP, _⟩ := HW.out W hW
            obtain ⟨g, o, bv, er, _, _, y1, y2, ⟨ba, bc, ebv, _, hbx⟩⟩ := hTP.tm.r.at HRL.out
            subst er
            rw [ebv, ← hm] at y2
            rw [← hQ] at y1
            exact ⟨g, o, ba, bc, rfl, hTP.c1, y1, y2, fun j b hb => by obtain ⟨g', o', e1, _, e2⟩ := hbx j b hb; exact ⟨g', o', e1, e2⟩⟩
          have HMQ := hidLL (And.intro hm hQ)
          have HAH := hidLL hah
          clear hm hQ ll1 ll2 hn120 hah
          obtain ⟨g, o, ba, bc, er, v1, v2, v3, hbx⟩ := HY.out W5 (Below.refl _ _)
          subst er
          have HZ : Hid (∀ W, Below W5.heap.size W5 W → W.cell? ⟨pb, po + 1, none⟩ = some (.slice (some ⟨g, o, none⟩) R rc) ∧ W.cell? ⟨g, o + i * 3 + 1, none⟩ = some (.int .i64 Q) ∧ W.cell? ⟨g, o + i * 3 + 2, none⟩ = some (.slice ba m bc) ∧ ∀ j b, (rlAt T i).body[j]? = some b → ∃ g' o', ba = some ⟨g', o', none⟩ ∧ W.cell? ⟨g', o' + j, none⟩ = some (.int .i64 b)) := fun W hW =>
            ⟨(hW.cell (p := ⟨pb, po + 1, none⟩) (cell_lt v1)).trans v1, (hW.cell (p := ⟨g, o + i * 3 + 1, none⟩) (cell_lt v2)).trans v2, (hW.cell (p := ⟨g, o + i * 3 + 2, none⟩) (cell_lt v3)).trans v3, fun j b hb => by
              obtain ⟨g', o', e1, e2⟩ := hbx j b hb
              exact ⟨g', o', e1, (hW.cell (p := ⟨g', o' + j, none⟩) (cell_lt e2)).trans e2⟩⟩
          have t1 := (HZ.out W6 hbr).1
          have HBR := hidLL hbr
          clear HY v1 v2 v3 hbx hbr
          go_wp2_with fail
          go_loopw [8] (fun t wr => ∃ j : Nat, j ≤ m ∧ t = .int .i64 j ∧ AheadB T i j ∧ Below W5.heap.size W5 wr) (fun t _ => m - (RowKit.intOf t).toNat)
          case atStart => exact ⟨0, by omega, rfl, fun r _ k hk => by omega, HBR.out⟩
          case round =>
            obtain ⟨j, hj, rfl, hab, hbr2⟩ := hrel
            obtain ⟨z1, z2, z3, z4⟩ := HZ.out wr hbr2
            clear t1
            by_cases hlt2 : j < m
            · have hjz : (j : Int) < m := by omega
              obtain ⟨b, hb⟩ : ∃ b, (rlAt T i).body[j]? = some b := ⟨_, List.getElem?_eq_getElem (by rw [← HMQ.out.1]; exact hlt2)⟩
              obtain ⟨g', o', eba, z5⟩ := z4 j b hb
              subst eba
              obtain ⟨hb0, hb1, hb2⟩ := HB.out j b hb
              have HJ := hidLL (And.intro hab (And.intro hbr2 hb))
              have hh1 := pl_half b
              have hh2 := pl_half Q
              have HH := hidLL (And.intro hh1 (And.intro hh2 (And.intro (pl_le hb1 hb2) (pl_le hQ1 hQ2))))
              clear hab hbr2 hb z4 hh1 hh2
              go_wp2_with fail
              go_quiet ((go_at_call 17; exact Calls.quiet_of_same (placeR_p _ (by omega) (by omega) (by omega) _)))
              go_wp2
              · go_ret
                exact ⟨rfl, (HW.out _ (bdrewN HJ.out.2.1 _)).2.2.2.2⟩
              · rename_i hcc
                have HCC : Hid (b.natAbs < Q.natAbs) := by
                  obtain ⟨x1, x2, ⟨x3, x4⟩, x5, x6⟩ := HH.out
                  show _ < _
                  unfold wrap64 at hcc
                  omega
                clear hcc
                go_roundw
                case measure => simp [RowKit.intOf]; omega
                case rel => exact ⟨j + 1, by omega, by go_num, HJ.out.1.next HRL.out HJ.out.2.2 (by rw [← HMQ.out.2]; exact HCC.out), bdrewN HJ.out.2.1 _⟩
            · have hjz : ¬ (j : Int) < m := by omega
              have HJ := hidLL (And.intro hab hbr2)
              clear hab hbr2 z4
              go_wp2_with fail
              go_roundw
              case measure => simp [RowKit.intOf]; omega
              case rel =>
                refine ⟨i + 1, by omega, by go_num, HAH.out.next HJ.out.1 (fun r hr => ?_), HJ.out.2⟩
                rw [← rlAt_of hr, ← HMQ.out.1]
                omega
        · have hiz : ¬ (i : Int) < R := by omega
          obtain rfl : i = R := by omega
          have HT2 := hidLL (HTot.out hah)
          have t1 := (HW.out W6 hbr).2.2.2.1.c1
          obtain ⟨k0, k1, hcell, _, hbw⟩ := HW.out W6 hbr
          have HCB := hidLL (And.intro hcell hbw)
          clear hcell hbw hbr hah HTot HW HOk
          go_wp2_with fail
          go_loopw [9] (fun t wr => ∃ q : Nat, q ≤ 2 * N ∧ t = .int .i64 q ∧ wr = W6) (fun t _ => 2 * N - (RowKit.intOf t).toNat)
          case atStart => exact ⟨0, by omega, rfl, rfl⟩
          case round =>
            obtain ⟨q, hq, rfl, ew⟩ := hrel
            subst ew
            by_cases hlt2 : q < 2 * N
            · have hqz : (q : Int) < 2 * N := by omega
              obtain ⟨n1, n2⟩ := HT2.out q hlt2
              obtain ⟨c1, c2⟩ := HCB.out.1 q hlt2
              generalize s.su q = A at *
              generalize s.ho q = C at *
              have n3 : (A == 0) = false := by simpa using n1
              have n4 : (C == 0) = false := by simpa using n2
              clear n1 n2
              go_wp2
              go_roundw
              case measure => simp [RowKit.intOf]; omega
              case rel => exact ⟨q + 1, by omega, by go_num, by first | rfl | trivial⟩
            · have hqz : ¬ (q : Int) < 2 * N := by omega
              go_wp2
              go_ret
              exact ⟨rfl, HCB.out.2⟩
end Go.Proofs.YtmbclnaenjcocaaDoor

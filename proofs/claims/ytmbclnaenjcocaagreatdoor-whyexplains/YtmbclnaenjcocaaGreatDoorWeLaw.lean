/-
  WhyExplains: the law's walk.
-/
import Derived.Test.YtmbclnaenjcocaaGreatDoorWeG3
import Derived.Deep.RegionHeld
import Derived.BigQuiet
namespace Go.Proofs.YtmbclnaenjcocaaGreatDoor
open Go.RowKit

set_option maxHeartbeats 1000000 in
set_option maxRecDepth 100000 in
theorem whyExplains_none {w : World} {p : Nat → Addr} (hE : Sent4 w p) (xa xb : Bool) (xq : Int) : Calls Tryz.prog 3 #[.pointer none, .agg #[.bool xa, .bool xb, .int .i64 xq]] w fun e w' => e = .returned (.bool true) ∧ Below w.heap.size w w' := by
  obtain ⟨W0, hW0⟩ : ∃ W0 : World, W0 = w.alloc (.cells #[.bool xa, .bool xb, .int .i64 xq] 24) := ⟨_, rfl⟩
  have hb0 : Below w.heap.size w W0 := by rw [hW0]; exact (Below.refl _ _).alloc (Nat.le_refl _) _
  have HL := hidLL (checks_w (hE.bel hb0))
  have HW := hidLL (And.intro hW0 hb0)
  clear hE hW0 hb0
  go_enter Tryz.func3, Tryz.ntmps3
  go_upto_region 1 with fail
  rw [← HW.out.1]
  go_wp2_with fail
  refine HL.out.mono ?_
  rintro e w1 ⟨rfl, hb⟩
  have HB := hidLL hb
  clear hb
  go_wp2
  go_ret
  exact ⟨rfl, HW.out.2.trans (HB.out.mono HW.out.2.size)⟩
/-- What stands behind the call of Explain. -/
def P7 (T : Thy) (p : Nat → Addr) (c : Clm) (W0 : World) (t7 t8 t9 : Value) (wx : World) : Prop :=
  Below W0.heap.size W0 wx ∧ ((∃ k, errIs T (some k) ∧ t7 = .slice none 0 0 ∧ t8 = .bool false ∧ t9 = errV p (some k)) ∨
    (errIs T none ∧ ∃ s tr, t8 = .bool (decide (0 < (pick (fun x => x == c) tr).length)) ∧ t9 = .nilIface ∧ Told T s tr ∧ Fine T s ∧ AllQ T s ∧ SRd wx wx.heap.size t7 (pick (fun x => x == c) tr).reverse))
set_option maxHeartbeats 8000000 in
set_option maxRecDepth 100000 in
theorem whyExplains_w {w : World} {p : Nat → Addr} (hL : Laid w p) {B : Nat} {T : Thy} {rv ov : Value} {pb po : Nat} (h : TP w B T rv ov pb po) (hB : B ≤ w.heap.size) (xa xb : Bool) (xq : Int) (hq : ClmWf (xa, xb, xq)) : Calls Tryz.prog 3 #[.pointer (some ⟨pb, po, none⟩), .agg #[.bool xa, .bool xb, .int .i64 xq]] w fun e w' => e = .returned (.bool true) ∧ Below w.heap.size w w' := by
  obtain ⟨W0, hW0⟩ : ∃ W0 : World, W0 = w.alloc (.cells #[.bool xa, .bool xb, .int .i64 xq] 24) := ⟨_, rfl⟩
  have hb0 : Below w.heap.size w W0 := by rw [hW0]; exact (Below.refl _ _).alloc (Nat.le_refl _) _
  have hz0 : W0.heap.size = w.heap.size + 1 := by rw [hW0]; simp
  have hk0 : W0.heap[w.heap.size]? = some (.cells #[.bool xa, .bool xb, .int .i64 xq] 24) := by rw [hW0]; exact blk_new _ _
  have HX : Hid (∀ W, Below W0.heap.size W0 W → TP W B T rv ov pb po ∧ B ≤ W.heap.size ∧ Laid W p ∧ Below w.heap.size w W ∧ W.cell? ⟨w.heap.size, 0, none⟩ = some (.bool xa) ∧ W.cell? ⟨w.heap.size, 1, none⟩ = some (.bool xb) ∧ W.cell? ⟨w.heap.size, 2, none⟩ = some (.int .i64 xq) ∧ w.heap.size < W.heap.size) := fun W hW => by
    have h1 := (hW.block w.heap.size (by omega)).trans hk0
    have h4 : Below w.heap.size w W := hb0.trans (hW.mono (by omega))
    exact ⟨h.bel h4 hB, by have := h4.size; omega, hL.below h4, h4, by simp [World.cell?, h1], by simp [World.cell?, h1], by simp [World.cell?, h1], by have := hW.size; omega⟩
  have HL := hidLL (checks_w (hL.below hb0).sent4)
  have HW := hidLL hW0
  have hzw : w.heap.size < W0.heap.size := by omega
  have HTh : Hid (∀ W, Below W0.heap.size W0 W → Calls Tryz.prog 7 #[.pointer (some ⟨pb, po, none⟩)] W fun e w' => ∃ rv' ov', e = .returned (.agg #[.int .i64 T.names, rv', ov']) ∧ (∀ W', Below w'.heap.size w' W' → TM W' w'.heap.size T rv' ov') ∧ Below W.heap.size W w' ∧ Below W0.heap.size W0 w') := fun W hW => by
    refine (theory_w (HX.out W hW).1 (HX.out W hW).2.1).mono ?_
    rintro e w' ⟨rv', ov', rfl, hM, hb⟩
    exact ⟨rv', ov', rfl, fun W' hW' => hM.below hW' (Nat.le_refl _), hb, hW.trans (hb.mono hW.size)⟩
  have HSt : Hid (∀ W, Below W0.heap.size W0 W → Calls Tryz.prog 8 #[.agg #[.bool xa, .bool xb, .int .i64 xq]] W fun e w' => e = .returned (.agg #[.bool xa, .bool xb, .int .i64 xq]) ∧ Below W.heap.size W w' ∧ Below W0.heap.size W0 w') := fun W hW => by
    refine (step_w xa xb xq W).mono ?_
    rintro e w' ⟨rfl, hb⟩
    exact ⟨rfl, hb, hW.trans (hb.mono hW.size)⟩
  have HEx : Hid (∀ (W wt : World) rv' ov', (∀ W', Below wt.heap.size wt W' → TM W' wt.heap.size T rv' ov') → Below wt.heap.size wt W → Below W0.heap.size W0 W → Calls Tryz.prog 6 #[.agg #[.int .i64 T.names, rv', ov'], .agg #[.bool xa, .bool xb, .int .i64 xq]] W fun e w' => ∃ t7 t8 t9, e = .returned (.tuple #[t7, t8, t9]) ∧ P7 T p (xa, xb, xq) W0 t7 t8 t9 w') := fun W wt rv' ov' hM hB' hW => by
    refine (explain_v (hM W hB') hB'.size (HX.out W hW).2.2.1.sent4 xa xb xq hq).mono ?_
    rintro e w' ⟨hb, ⟨k, hk, rfl⟩ | ⟨hk, u, s, tr, rfl, h1, h2, h3, h4⟩⟩
    · exact ⟨_, _, _, rfl, hW.trans (hb.mono hW.size), .inl ⟨k, hk, rfl, rfl, rfl⟩⟩
    · exact ⟨_, _, _, rfl, hW.trans (hb.mono hW.size), .inr ⟨hk, s, tr, rfl, rfl, h1, h2, h3, h4⟩⟩
  clear hW0 hb0 hz0 hk0 hL h hB
  go_enter Tryz.func3, Tryz.ntmps3
  go_upto_region 1 with fail
  rw [← HW.out]
  go_wp2_with fail
  refine HL.out.mono ?_
  rintro e w1 ⟨rfl, hb1⟩
  have HB1 := hidLL hb1
  clear hb1 HL
  go_wp2_with fail
  refine (few_w (HX.out w1 HB1.out).1).mono ?_
  rintro e w2 ⟨b, rfl, ew⟩
  subst ew
  cases b with
  | false =>
    go_wp2
    go_ret
    exact ⟨rfl, (HX.out w2 HB1.out).2.2.2.1⟩
  | true =>
    obtain ⟨_, _, _, _, y0, y1, y2, hlw⟩ := HX.out w2 HB1.out
    obtain ⟨nm, hnm⟩ : ∃ nm, nm = T.names := ⟨_, rfl⟩
    rw [← hnm] at HTh HEx
    clear hnm
    go_upto_region 7 with fail
    go_cut [7, 8, 9] (fun t7 t8 t9 wx => P7 T p (xa, xb, xq) W0 t7 t8 t9 wx)
    case first =>
      have hB1 := HB1.out
      go_region_with (first
        | (go_at_call 7; refine (HTh.out _ ?_).mono ?_; (· first | assumption | exact Below.drew (by assumption)); rintro e wt ⟨rv', ov', rfl, hMt, hbt, hBt⟩; obtain ⟨_, _, _, _, z0, z1, z2, _⟩ := HX.out wt hBt)
        | (go_at_call 8; refine (HSt.out _ ?_).mono ?_; (· first | assumption | exact Below.drew (by assumption)); rintro e ws ⟨rfl, hbs, hBs⟩)
        | (go_at_call 6; refine (HEx.out _ _ _ _ hMt ?_ ?_).mono ?_; (· first | exact Below.refl _ _ | exact (Below.refl _ _).drew | exact hbs | exact hbs.drew); (· first | assumption | exact Below.drew (by assumption)); rintro e w3 ⟨t7, t8, t9, rfl, hP⟩))
      all_goals
        go_wp2
        go_meet
        exact hP
    case rest =>
      obtain ⟨hbc, hcase⟩ := hcut
      obtain ⟨hTPc, hBc, hLc, hbw, k0, k1, k2, hlc⟩ := HX.out wc hbc
      have HV := hidLL (valid_r hTPc hBc)
      have HBC := hidLL hbc
      clear hTPc hBc hLc hbw HTh HEx
      rcases hcase with ⟨k, hk, rfl, rfl, rfl⟩ | ⟨hk, s, tr, rfl, rfl, hTo, hF, hQ, hS⟩
      · have HCd : Hid (∀ W, Below W0.heap.size W0 W → Calls Tryz.prog 10 #[errV p (some k), .int .i64 (codeK (some k))] W fun e w' => e = .returned (.bool true) ∧ Below W.heap.size W w') := fun W hW => coded_k hk W (HX.out W hW).2.2.1
        have HK := hidLL hk
        have hpos : 0 < codeK (some k) := by show (0 : Int) < (k : Int) + 1; omega
        obtain ⟨ev, hev⟩ : ∃ ev, ev = errV p (some k) := ⟨_, rfl⟩
        obtain ⟨cz, hcz⟩ : ∃ cz, cz = codeK (some k) := ⟨_, rfl⟩
        rw [← hev, ← hcz] at HCd
        rw [← hcz] at hpos
        rw [← hev]
        have HEV := hidLL (And.intro hev hcz)
        clear hev hcz hk
        go_wp2_with fail
        refine HV.out.mono ?_
        rintro e w6 ⟨⟨k', hk', rfl⟩, hb6⟩
        rw [errIs_uniq hk' HK.out, ← HEV.out.2]
        have HB6 := hidLL (HBC.out.trans (hb6.mono HBC.out.size))
        clear hk' hb6
        go_wp2_with fail
        refine (HCd.out w6 HB6.out).mono ?_
        rintro e w7 ⟨rfl, hb7⟩
        have HB7 := hidLL (HB6.out.trans (hb7.mono HB6.out.size))
        clear hb7
        go_wp2
        go_ret
        exact ⟨rfl, (HX.out w7 HB7.out).2.2.2.1⟩
      · have HK := hidLL (And.intro hk (And.intro hTo (And.intro hF hQ)))
        have hOk := okt_none hk
        obtain ⟨L, hL⟩ : ∃ L, L = (pick (fun x => x == (xa, xb, xq)) tr).reverse := ⟨_, rfl⟩
        have hLl : (pick (fun x => x == (xa, xb, xq)) tr).length = L.length := by rw [hL, List.length_reverse]
        rw [hLl]
        have hLn : L.length ≤ 1000000 := by
          have h1 := (pick_sub tr (fun x => x == (xa, xb, xq))).length_le
          have hnd := Trc.nodup tr hTo.trc
          have hsub : ∀ c, c ∈ tr.map (·.1) → c ∈ allClm := fun c hc => by
            have hl := Trc.lit tr hTo.trc c hc
            have := hOk.n1
            exact mem_allClm (by have := hl.2.1; omega) (by have := hl.2.2; omega)
          have h9 := List.Nodup.length_le_of_subset hnd hsub
          rw [allClm_len] at h9
          omega
        rw [← hL] at hS
        have HS := hidLL (And.intro hS hL)
        obtain ⟨la, lc, hla, _, _⟩ := hS
        obtain ⟨n5, hn5⟩ : ∃ n5, n5 = L.length := ⟨_, rfl⟩
        rw [← hn5] at hla hLn ⊢
        have HN5 := hidLL (And.intro hn5 hLl)
        subst hla
        have HOk := hidLL hOk
        clear hk hTo hF hQ hL hLl hn5 hOk
        go_wp2_with fail
        refine HV.out.mono ?_
        rintro e w6 ⟨⟨k', hk', rfl⟩, hb6⟩
        rw [errIs_uniq hk' HK.out.1, show codeK none = 0 from rfl]
        have hB6 := HBC.out.trans (hb6.mono HBC.out.size)
        obtain ⟨hTP6, hBd6, hL6, hbw6, k0', k1', k2', hl6⟩ := HX.out w6 hB6
        have HI := hidLL (isLit_r hTP6.c0 HOk.out.n0 HOk.out.n1 xq)
        have HB6 := hidLL (And.intro hB6 (And.intro hb6 hTP6))
        clear hk' hb6 hB6 hTP6 hBd6 hL6 hbw6 k0 k1 k2
        cases hno : noLit T xq with
        | true =>
          rw [hno] at HI
          have hnl : ¬ IsLit T xq := fun e => by rw [noLit_iff.2 e] at hno; cases hno
          have hn0 : n5 = 0 := by
            have h9 := has_none (c := (xa, xb, xq)) HK.out.2.1 hnl
            have h8 := HN5.out.2
            rw [h9] at h8
            have := HN5.out.1
            simp at h8
            omega
          subst hn0
          clear hno hnl
          go_wp2_with fail
          refine HI.out.mono ?_
          rintro e w' ⟨rfl, ew⟩
          subst w'
          go_wp2
          go_ret
          exact ⟨rfl, (HX.out w6 HB6.out.1).2.2.2.1⟩
        | false =>
          rw [hno] at HI
          have HLit := hidLL (noLit_iff.1 hno)
          clear hno
          go_wp2_with fail
          refine HI.out.mono ?_
          rintro e w' ⟨rfl, ew⟩
          subst w'
          have HX6 : Hid (∀ W, Below w6.heap.size w6 W → TP W B T rv ov pb po ∧ B ≤ W.heap.size ∧ Below w.heap.size w W ∧ W.cell? ⟨w.heap.size, 0, none⟩ = some (.bool xa) ∧ W.cell? ⟨w.heap.size, 1, none⟩ = some (.bool xb) ∧ W.cell? ⟨w.heap.size, 2, none⟩ = some (.int .i64 xq) ∧ w.heap.size < W.heap.size ∧ SRd W W.heap.size (.slice la n5 lc) L) := fun W hW => by
            have hB := HB6.out.1.trans (hW.mono HB6.out.1.size)
            obtain ⟨q1, q2, _, q4, q5, q6, q7, q8⟩ := HX.out W hB
            have hcw : Below wc.heap.size wc W := HB6.out.2.1.trans (hW.mono HB6.out.2.1.size)
            refine ⟨q1, q2, q4, q5, q6, q7, q8, (HS.out.1.on fun k hk => hcw.block k hk).mono hcw.size⟩
          have HSo : Hid (∀ W, Below w6.heap.size w6 W → Calls Tryz.prog 12 #[.pointer (some ⟨pb, po, none⟩)] W fun e w' => ∃ sb bM m, e = .returned (.pointer (some ⟨sb, 0, none⟩)) ∧ SM w' T rv ov B pb po sb bM m ∧ m (pl xq) (kOf xa xb) = decide (0 < n5) ∧ Below w6.heap.size w6 w') := fun W hW => by
            refine (solved_r (HX6.out W hW).1 (HX6.out W hW).2.1 HOk.out).mono ?_
            rintro e w' ⟨sb, bM, m, rfl, hSM, hSh, hCl, hb⟩
            refine ⟨sb, bM, m, rfl, hSM, ?_, hW.trans (hb.mono hW.size)⟩
            rw [← has_want (c := (xa, xb, xq)) HOk.out HK.out.2.1 HK.out.2.2.1 HK.out.2.2.2 hSh hCl HLit.out, HN5.out.2, HN5.out.1]
          obtain ⟨q0, q1, q2, q3⟩ := HLit.out.ok HOk.out
          have HPl : Hid (∀ W, Calls Tryz.prog 13 #[.int .i64 xq] W fun e w' => e = .returned (.int .i64 (pl xq)) ∧ w' = W) := fun W => plR_w xq q0 q1 q2 W
          have HKd : Hid (∀ W, Below w6.heap.size w6 W → Calls Tryz.prog 14 #[.agg #[.bool xa, .bool xb, .int .i64 xq]] W fun e w' => e = .returned (.int .i64 (kOf xa xb)) ∧ Below W.heap.size W w' ∧ Below w6.heap.size w6 w') := fun W hW => by
            refine (kind_r xa xb xq W).mono ?_
            rintro e w' ⟨rfl, hb⟩
            exact ⟨rfl, hb, hW.trans (hb.mono hW.size)⟩
          have hk4 := kOf_lt xa xb
          obtain ⟨N2, hN2⟩ : ∃ N2, N2 = 2 * T.names.toNat := ⟨_, rfl⟩
          have hpN : pl xq < N2 := by rw [hN2]; exact q3
          obtain ⟨P, hP⟩ : ∃ P, P = pl xq := ⟨_, rfl⟩
          obtain ⟨K, hK⟩ : ∃ K, K = kOf xa xb := ⟨_, rfl⟩
          rw [← hP] at HSo HPl hpN
          rw [← hK] at HSo HKd hk4
          have HSel : Hid (∀ W sb bM m, SM W T rv ov B pb po sb bM m → m P K = decide (0 < n5) → W.cell? ⟨sb, 1, none⟩ = some (.slice (some ⟨bM, 0, none⟩) N2 N2) ∧ W.cell? ⟨bM, P * 4 + K, none⟩ = some (.bool (decide (0 < n5)))) := fun W sb bM m hM hm => by
            refine ⟨by rw [hN2]; simp [World.cell?, hM.sh], ?_⟩
            have h9 := hM.row.cell (i := P * 4 + K) (by rw [← hN2]; omega)
            rw [show (P * 4 + K) / 4 = P by omega, show (P * 4 + K) % 4 = K by omega, hm] at h9
            exact h9
          have hPz : (P : Int) < N2 := by omega
          have hKz : (K : Int) < 4 := by omega
          clear q0 q1 q2 q3 hP hK hN2 HI
          obtain ⟨hs, hhs⟩ : ∃ hs, hs = decide (0 < n5) := ⟨_, rfl⟩
          rw [← hhs] at HSo HSel ⊢
          have HHS := hidLL hhs
          clear hhs
          go_upto_region 14 with fail
          go_cut [12] (fun t12 wx => t12 = .bool hs ∧ Below w6.heap.size w6 wx)
          case first =>
            have hB6 : Below w6.heap.size w6 w6 := Below.refl _ _
            refine wp_region_held_drew (S := fun W => W.cell? ⟨w.heap.size, 0, none⟩ = some (.bool xa) ∧ W.cell? ⟨w.heap.size, 1, none⟩ = some (.bool xb) ∧ W.cell? ⟨w.heap.size, 2, none⟩ = some (.int .i64 xq)) (by kernel_rfl) (by go_keep) (fun hHeld => ?_)
            refine wpAnyH_take (i := 0) (oi := { dst := some 58, op := Op.move (Operand.tmp 0), type := 22, pos := "reason.go:253", after := #[], guard := none }) (v := .pointer (some ⟨pb, po, none⟩)) rfl (by kernel_rfl) (by kernel_rfl) (by kernel_rfl) (fun _ _ _ h => h) (Or.inl ⟨by rfl, ?_⟩) hHeld ?_
            · intro wz hSw
              obtain ⟨hS0, hS1, hS2⟩ := hSw
              go_simp
            simp only [Act.put, List.setIfInBounds_toArray, List.set_cons_zero, List.set_cons_succ]
            refine wpAnyH_take (i := 5) (oi := { dst := some 63, op := Op.fieldAddr 24 (Operand.tmp 3) 2, type := 0, pos := "reason.go:253", after := #[], guard := none }) (v := .pointer (some ⟨w.heap.size, 2, none⟩)) rfl (by kernel_rfl) (by kernel_rfl) (by kernel_rfl) (fun _ _ _ h => h) (Or.inl ⟨by rfl, ?_⟩) hHeld ?_
            · intro wz hSw
              obtain ⟨hS0, hS1, hS2⟩ := hSw
              go_simp
            simp only [Act.put, List.setIfInBounds_toArray, List.set_cons_zero, List.set_cons_succ]
            refine wpAnyH_take (i := 6) (oi := { dst := some 64, op := Op.load 3 (Operand.tmp 63), type := 3, pos := "reason.go:253", after := #[{ on := 5, ground := Ground.data }], guard := none }) (v := .int .i64 xq) rfl (by kernel_rfl) (by kernel_rfl) (by kernel_rfl) (fun _ _ _ h => h) (Or.inl ⟨by rfl, ?_⟩) hHeld ?_
            · intro wz hSw
              obtain ⟨hS0, hS1, hS2⟩ := hSw
              go_simp
            simp only [Act.put, List.setIfInBounds_toArray, List.set_cons_zero, List.set_cons_succ]
            refine wpAnyH_take (i := 8) (oi := { dst := some 66, op := Op.load 24 (Operand.tmp 3), type := 24, pos := "reason.go:253", after := #[], guard := none }) (v := .agg #[.bool xa, .bool xb, .int .i64 xq]) rfl (by kernel_rfl) (by kernel_rfl) (by kernel_rfl) (fun _ _ _ h => h) (Or.inl ⟨by rfl, ?_⟩) hHeld ?_
            · intro wz hSw
              obtain ⟨hS0, hS1, hS2⟩ := hSw
              go_simp
            simp only [Act.put, List.setIfInBounds_toArray, List.set_cons_zero, List.set_cons_succ]
            refine wpAnyH_ready (rs := [1]) (by kernel_rfl) (by simp) ?_
            refine AllReadyH.cons rfl (fun Kk hK => ?_) AllReadyH.nil
            go_simp
            go_wp2_with (first | (go_at_call 12; refine (HSo.out _ ?_).mono ?_; (· first | assumption | exact Below.drew (by assumption)); rintro e wt ⟨sb, bM, m, rfl, hSM, hmm, hBt⟩; obtain ⟨_, _, _, z0, z1, z2, _, _⟩ := HX6.out wt hBt; obtain ⟨s1, s2⟩ := HSel.out wt sb bM m hSM hmm))
            refine hK.out _ _ ?_ (fun hHeld => ?_)
            · exact ⟨z0, z1, z2⟩
            clear hK Kk
            refine wpAnyH_weaken (S' := fun W => W.cell? ⟨w.heap.size, 0, none⟩ = some (.bool xa) ∧ W.cell? ⟨w.heap.size, 1, none⟩ = some (.bool xb) ∧ W.cell? ⟨w.heap.size, 2, none⟩ = some (.int .i64 xq) ∧ W.cell? ⟨sb, 1, none⟩ = some (.slice (some ⟨bM, 0, none⟩) N2 N2) ∧ W.cell? ⟨bM, P * 4 + K, none⟩ = some (.bool hs)) (fun _ h => ⟨h.1, h.2.1, h.2.2.1⟩) _ _ _ _ ?_
            have hHeld2 : wt.cell? ⟨w.heap.size, 0, none⟩ = some (.bool xa) ∧ wt.cell? ⟨w.heap.size, 1, none⟩ = some (.bool xb) ∧ wt.cell? ⟨w.heap.size, 2, none⟩ = some (.int .i64 xq) ∧ wt.cell? ⟨sb, 1, none⟩ = some (.slice (some ⟨bM, 0, none⟩) N2 N2) ∧ wt.cell? ⟨bM, P * 4 + K, none⟩ = some (.bool hs) := ⟨z0, z1, z2, s1, s2⟩
            clear hHeld
            refine wpAnyH_take (i := 2) (oi := { dst := some 60, op := Op.nilCheck (Operand.tmp 59), type := 0, pos := "reason.go:253", after := #[{ on := 1, ground := Ground.data }], guard := none }) (v := .pointer (some ⟨sb, 0, none⟩)) rfl (by kernel_rfl) (by kernel_rfl) (by kernel_rfl) (fun _ _ _ h => h) (Or.inl ⟨by rfl, ?_⟩) hHeld2 ?_
            · intro wz hSw
              obtain ⟨hS0, hS1, hS2, hS3, hS4⟩ := hSw
              go_simp
            simp only [Act.put, List.setIfInBounds_toArray, List.set_cons_zero, List.set_cons_succ]
            refine wpAnyH_take (i := 3) (oi := { dst := some 61, op := Op.fieldAddr 45 (Operand.tmp 60) 1, type := 0, pos := "reason.go:253", after := #[{ on := 2, ground := Ground.data }], guard := none }) (v := .pointer (some ⟨sb, 1, none⟩)) rfl (by kernel_rfl) (by kernel_rfl) (by kernel_rfl) (fun _ _ _ h => h) (Or.inl ⟨by rfl, ?_⟩) hHeld2 ?_
            · intro wz hSw
              obtain ⟨hS0, hS1, hS2, hS3, hS4⟩ := hSw
              go_simp
            simp only [Act.put, List.setIfInBounds_toArray, List.set_cons_zero, List.set_cons_succ]
            refine wpAnyH_take (i := 4) (oi := { dst := some 62, op := Op.load 43 (Operand.tmp 61), type := 43, pos := "reason.go:253", after := #[{ on := 3, ground := Ground.data }], guard := none }) (v := .slice (some ⟨bM, 0, none⟩) N2 N2) rfl (by kernel_rfl) (by kernel_rfl) (by kernel_rfl) (fun _ _ _ h => h) (Or.inl ⟨by rfl, ?_⟩) hHeld2 ?_
            · intro wz hSw
              obtain ⟨hS0, hS1, hS2, hS3, hS4⟩ := hSw
              go_simp
            simp only [Act.put, List.setIfInBounds_toArray, List.set_cons_zero, List.set_cons_succ]
            refine wpAnyH_ready (rs := [7]) (by kernel_rfl) (by simp) ?_
            refine AllReadyH.cons rfl (fun Kk hK => ?_) AllReadyH.nil
            go_simp
            go_wp2_with (first | (go_at_call 13; refine (HPl.out _).mono ?_; rintro e w' ⟨rfl, rfl⟩))
            refine hK.out _ _ ?_ (fun _ => ?_)
            · exact hHeld2
            clear hK Kk
            refine wpAnyH_take (i := 10) (oi := { dst := some 68, op := Op.indexAddr 43 (Operand.tmp 62) (Operand.tmp 65), type := 0, pos := "reason.go:253", after := #[{ on := 4, ground := Ground.data }, { on := 7, ground := Ground.data }], guard := none }) (v := .pointer (some ⟨bM, P * 4, none⟩)) rfl (by kernel_rfl) (by kernel_rfl) (by kernel_rfl) (fun _ _ _ h => h) (Or.inl ⟨by rfl, ?_⟩) hHeld2 ?_
            · intro wz hSw
              obtain ⟨hS0, hS1, hS2, hS3, hS4⟩ := hSw
              go_simp
            simp only [Act.put, List.setIfInBounds_toArray, List.set_cons_zero, List.set_cons_succ]
            refine wpAnyH_ready (rs := [9]) (by kernel_rfl) (by simp) ?_
            refine AllReadyH.cons rfl (fun Kk hK => ?_) AllReadyH.nil
            go_simp
            go_wp2_with (first | (go_at_call 14; refine (HKd.out _ ?_).mono ?_; (· first | assumption | exact Below.drew (by assumption)); rintro e wu ⟨rfl, hbu, hBu⟩; obtain ⟨_, _, _, v0, v1, v2, _, _⟩ := HX6.out wu hBu; obtain ⟨r1, r2⟩ := HSel.out wu sb bM m (hSM.bel hbu) hmm))
            refine hK.out _ _ ?_ (fun hHeld3 => ?_)
            · exact ⟨v0, v1, v2, r1, r2⟩
            clear hK Kk
            refine wpAnyH_take (i := 11) (oi := { dst := some 69, op := Op.indexAddr 42 (Operand.tmp 68) (Operand.tmp 67), type := 0, pos := "reason.go:253", after := #[{ on := 10, ground := Ground.data }, { on := 9, ground := Ground.data }], guard := none }) (v := .pointer (some ⟨bM, P * 4 + K, none⟩)) rfl (by kernel_rfl) (by kernel_rfl) (by kernel_rfl) (fun _ _ _ h => h) (Or.inl ⟨by rfl, ?_⟩) hHeld3 ?_
            · intro wz hSw
              obtain ⟨hS0, hS1, hS2, hS3, hS4⟩ := hSw
              go_simp
            simp only [Act.put, List.setIfInBounds_toArray, List.set_cons_zero, List.set_cons_succ]
            refine wpAnyH_take (i := 12) (oi := { dst := some 70, op := Op.load 4 (Operand.tmp 69), type := 4, pos := "reason.go:253", after := #[{ on := 11, ground := Ground.data }], guard := none }) (v := .bool hs) rfl (by kernel_rfl) (by kernel_rfl) (by kernel_rfl) (fun _ _ _ h => h) (Or.inl ⟨by rfl, ?_⟩) hHeld3 ?_
            · intro wz hSw
              obtain ⟨hS0, hS1, hS2, hS3, hS4⟩ := hSw
              go_simp
            simp only [Act.put, List.setIfInBounds_toArray, List.set_cons_zero, List.set_cons_succ]
            refine wpAnyH_take (i := 13) (oi := { dst := some 12, op := Op.assign (Operand.tmp 70), type := 4, pos := "reason.go:253", after := #[{ on := 12, ground := Ground.data }, { on := 9, ground := Ground.chain }, { on := 0, ground := Ground.phase }, { on := 1, ground := Ground.phase }, { on := 2, ground := Ground.phase }, { on := 3, ground := Ground.phase }, { on := 4, ground := Ground.phase }, { on := 5, ground := Ground.phase }, { on := 6, ground := Ground.phase }, { on := 7, ground := Ground.phase }, { on := 8, ground := Ground.phase }, { on := 9, ground := Ground.phase }, { on := 10, ground := Ground.phase }, { on := 11, ground := Ground.phase }, { on := 12, ground := Ground.phase }], guard := none }) (v := .bool hs) rfl (by kernel_rfl) (by kernel_rfl) (by kernel_rfl) (fun _ _ _ h => h) (Or.inl ⟨by rfl, ?_⟩) hHeld3 ?_
            · intro wz hSw
              obtain ⟨hS0, hS1, hS2, hS3, hS4⟩ := hSw
              go_simp
            simp only [Act.put, List.setIfInBounds_toArray, List.set_cons_zero, List.set_cons_succ]
            refine wpAnyH_done (by kernel_rfl) ?_ _
            go_wp2
            go_meet
            exact ⟨rfl, hBu⟩
          case rest =>
            obtain ⟨ht, hb8⟩ := hcut
            subst ht
            obtain ⟨w8, hw8⟩ : ∃ w8 : World, w8 = wc := ⟨_, rfl⟩
            subst hw8
            have HB8 := hidLL hb8
            clear hb8 HSo HPl HKd HSel hPz hKz hpN hk4
            cases hs with
            | false =>
              have hn0 : n5 = 0 := by
                have := HHS.out
                have h9 : ¬ 0 < n5 := fun e => by rw [decide_eq_true e] at this; cases this
                omega
              subst hn0
              go_wp2
              go_ret
              exact ⟨rfl, (HX6.out w8 HB8.out).2.2.1⟩
            | true =>
              have hpos : 0 < n5 := by
                have := HHS.out
                exact of_decide_eq_true this.symm
              obtain ⟨n6, hn6⟩ : ∃ n6, n5 = n6 + 1 := ⟨n5 - 1, by omega⟩
              have hlast : L[n6]? = some (xa, xb, xq) := by
                have hmem : (xa, xb, xq) ∈ tr.map (·.1) := pick_pos.1 (by rw [HN5.out.2, ← HN5.out.1]; exact decide_eq_true hpos)
                obtain ⟨l', hl'⟩ := pick_goal (xa, xb, xq) tr hmem
                have e1 := HS.out.2
                rw [hl', List.reverse_cons] at e1
                have e2 : n6 = l'.reverse.length := by
                  have h9 := HN5.out.1
                  rw [e1] at h9
                  simp at h9
                  simp
                  omega
                rw [e1, e2]
                simp
              have hgood : goodL T (fun _ _ => False) L := by rw [HS.out.2]; exact pick_good tr _ HK.out.2.1.trc
              have hnd : L.Nodup := by rw [HS.out.2]; exact pick_nodup HK.out.2.1 _
              have HLD := hidLL (And.intro hlast (And.intro hgood hnd))
              have HBk := hidLL (back_w (HX6.out w8 HB8.out).2.2.2.2.2.2.2 (Nat.le_refl _) HN5.out.1 hLn)
              have HN6 := hidLL hn6
              clear hlast hgood hnd hn6
              have hpz : (0 : Int) < n5 := by omega
              go_wp2_with fail
              refine HBk.out.mono ?_
              rintro e w9 ⟨ba, bn, bc, rfl, hbn, hbs, hb9⟩
              have hB9 := HB8.out.trans (hb9.mono HB8.out.size)
              have HCh := hidLL (checked_r ((HX6.out w9 hB9).1.mono (HX6.out w9 hB9).2.1) (Nat.le_refl _) HOk.out hbs hbn)
              have HB9 := hidLL hB9
              clear hb9 hB9 hbs hbn HBk
              go_wp2_with fail
              refine HCh.out.mono ?_
              rintro e w10 ⟨b', rfl, hb', hb10⟩
              obtain rfl : b' = true := hb'.2 HLD.out.2.1
              have hB10 := HB9.out.trans (hb10.mono HB9.out.size)
              obtain ⟨_, _, _, x0, x1, x2, hlx, hSR⟩ := HX6.out w10 hB10
              obtain ⟨g, o, hla, hgB, y0, y1, y2⟩ := hSR.at HLD.out.1
              have HB10 := hidLL hB10
              have HSt2 : Hid (∀ W, Below w10.heap.size w10 W → Calls Tryz.prog 8 #[.agg #[.bool xa, .bool xb, .int .i64 xq]] W fun e w' => e = .returned (.agg #[.bool xa, .bool xb, .int .i64 xq]) ∧ Below w10.heap.size w10 w') := fun W hW => by
                refine (step_w xa xb xq W).mono ?_
                rintro e w' ⟨rfl, hb⟩
                exact ⟨rfl, hW.trans (hb.mono hW.size)⟩
              subst hla
              clear hb10 hB10 hb' HCh hSR
              have hgz : ((n5 : Int) == 0) = false := by
                have : (n5 : Int) ≠ 0 := by omega
                simpa using this
              have hgd : decide ((n5 : Int) = 0) = false := decide_eq_false (by omega)
              have hgn : (n5 : Int) ≠ 0 := by omega
              have hw1 : IntKind.i64.wrap (n6 : Int) = (n6 : Int) := by rw [IntKind.wrap_i64]; have := HN6.out; omega
              have hw2 : (n6 : Int) < (n5 : Int) := by have := HN6.out; omega
              have hw3 : (n5 : Int) - 1 = (n6 : Int) := by have := HN6.out; omega
              simp only at y0 y1 y2
              go_upto_region 20 with fail
              go_cut [104] (fun t wx => t = .bool false ∧ Below w10.heap.size w10 wx)
              case first =>
                have hBz : Below w10.heap.size w10 w10 := Below.refl _ _
                go_region_held (fun W => (W.cell? ⟨w.heap.size, 0, none⟩ = some (.bool xa) ∧ W.cell? ⟨w.heap.size, 1, none⟩ = some (.bool xb) ∧ W.cell? ⟨w.heap.size, 2, none⟩ = some (.int .i64 xq)) ∧ W.cell? ⟨g, o + n6 * 3, none⟩ = some (.bool xa) ∧ W.cell? ⟨g, o + n6 * 3 + 1, none⟩ = some (.bool xb) ∧ W.cell? ⟨g, o + n6 * 3 + 2, none⟩ = some (.int .i64 xq)) (go_keep)
                  (first | (go_at_call 8; refine (HSt2.out _ ?_).mono ?_; (· first | assumption | exact Below.drew (by assumption)); rintro e ws ⟨rfl, hbz⟩; have a0 := (hbz.cell (p := ⟨w.heap.size, 0, none⟩) hlx).trans x0; have a1 := (hbz.cell (p := ⟨w.heap.size, 1, none⟩) hlx).trans x1; have a2 := (hbz.cell (p := ⟨w.heap.size, 2, none⟩) hlx).trans x2; have b0 := (hbz.cell (p := ⟨g, o + n6 * 3, none⟩) hgB).trans y0; have b1 := (hbz.cell (p := ⟨g, o + n6 * 3 + 1, none⟩) hgB).trans y1; have b2 := (hbz.cell (p := ⟨g, o + n6 * 3 + 2, none⟩) hgB).trans y2))
                all_goals
                  go_wp2
                  go_meet
                  exact ⟨rfl, by first | assumption | exact Below.drew (by assumption)⟩
              case rest =>
                obtain ⟨ht, hb11⟩ := hcut
                subst ht
                obtain ⟨w11, hw11⟩ : ∃ w11 : World, w11 = wc := ⟨_, rfl⟩
                subst hw11
                have HSL : Hid (∀ W, Below w11.heap.size w11 W → SRd W W.heap.size (.slice (some ⟨g, o, none⟩) n5 lc) L ∧ Below w.heap.size w W) := fun W hW => by
                  have hb := HB10.out.trans ((hb11.trans (hW.mono hb11.size)).mono HB10.out.size)
                  exact ⟨(HX6.out W hb).2.2.2.2.2.2.2, (HX6.out W hb).2.2.1⟩
                clear hb11 x0 x1 x2 y0 y1 y2 HSt2 hw1 hw2 hw3 hgz hgd hgn hlx hgB
                go_wp2_with fail
                go_loopw [14] (fun t wr => ∃ i : Nat, i ≤ n5 ∧ t = .int .i64 i ∧ Below w11.heap.size w11 wr) (fun t _ => n5 - (RowKit.intOf t).toNat)
                case atStart => exact ⟨0, by omega, rfl, Below.refl _ _⟩
                case round =>
                  obtain ⟨i, hi, rfl, hbi⟩ := hrel
                  obtain ⟨w12, hw12⟩ : ∃ w12 : World, w12 = wr := ⟨_, rfl⟩
                  subst hw12
                  have HBI := hidLL hbi
                  clear hbi
                  by_cases hlt : i < n5
                  · have hiz : (i : Int) < n5 := by omega
                    go_wp2_with fail
                    go_loopw [15] (fun t wr => ∃ k : Nat, k ≤ i ∧ t = .int .i64 k ∧ Below w11.heap.size w11 wr) (fun t _ => i - (RowKit.intOf t).toNat)
                    case atStart => exact ⟨0, by omega, rfl, HBI.out⟩
                    case round =>
                      obtain ⟨k, hk, rfl, hbk⟩ := hrel
                      obtain ⟨w13, hw13⟩ : ∃ w13 : World, w13 = wr := ⟨_, rfl⟩
                      subst hw13
                      by_cases hlt2 : k < i
                      · have hkz : (k : Int) < i := by omega
                        have hkz2 : (k : Int) < n5 := by omega
                        obtain ⟨ci, hci⟩ : ∃ ci, L[i]? = some ci := ⟨_, List.getElem?_eq_getElem (by have := HN5.out.1; omega)⟩
                        obtain ⟨ck, hck⟩ : ∃ ck, L[k]? = some ck := ⟨_, List.getElem?_eq_getElem (by have := HN5.out.1; omega)⟩
                        obtain ⟨g1, o1, e1, _, a0, a1, a2⟩ := (HSL.out w13 hbk).1.at hci
                        obtain ⟨g2, o2, e2, _, b0, b1, b2⟩ := (HSL.out w13 hbk).1.at hck
                        injection e1 with e1
                        injection e1 with e11 e12 _
                        injection e2 with e2
                        injection e2 with e21 e22 _
                        rw [← e11, ← e12] at a0 a1 a2
                        rw [← e21, ← e22] at b0 b1 b2
                        have hne : ci ≠ ck := fun e => by
                          obtain ⟨h1, h1'⟩ := List.getElem?_eq_some_iff.1 hci
                          obtain ⟨h2, h2'⟩ := List.getElem?_eq_some_iff.1 hck
                          exact (List.pairwise_iff_getElem.1 HLD.out.2.2) k i h2 h1 hlt2 (h2'.trans (e.symm.trans h1'.symm))
                        obtain ⟨p1, p2, p3⟩ := ci
                        obtain ⟨r1, r2, r3⟩ := ck
                        simp only at a0 a1 a2 b0 b1 b2
                        have HBK := hidLL hbk
                        clear hbk hci hck e11 e12 e21 e22
                        have key : (p1 = r1 ∧ p2 = r2 ∧ p3 ≠ r3) ∨ (p1 = r1 ∧ p2 ≠ r2) ∨ p1 ≠ r1 := by
                          by_cases q1 : p1 = r1
                          · by_cases q2 : p2 = r2
                            · exact .inl ⟨q1, q2, fun q3 => hne (by rw [q1, q2, q3])⟩
                            · exact .inr (.inl ⟨q1, q2⟩)
                          · exact .inr (.inr q1)
                        clear hne
                        rcases key with ⟨q1, q2, q3⟩ | ⟨q1, q2⟩ | q1
                        · subst q1
                          subst q2
                          have f1 : (p3 == r3) = false := by simpa using q3
                          have f2 : decide (p3 = r3) = false := decide_eq_false q3
                          go_wp2_with fail
                          go_quiet (fail)
                          go_wp2
                          go_roundw
                          case rel => exact ⟨k + 1, by omega, by go_num, ⟨HBK.out.os, HBK.out.tape, HBK.out.output, HBK.out.size, HBK.out.block⟩⟩
                          case measure => simp [RowKit.intOf]; omega
                        · subst q1
                          have f1 : (p2 == r2) = false := by simpa using q2
                          have f2 : decide (p2 = r2) = false := decide_eq_false q2
                          go_wp2_with fail
                          go_quiet (fail)
                          go_wp2
                          go_roundw
                          case rel => exact ⟨k + 1, by omega, by go_num, ⟨HBK.out.os, HBK.out.tape, HBK.out.output, HBK.out.size, HBK.out.block⟩⟩
                          case measure => simp [RowKit.intOf]; omega
                        · have f1 : (p1 == r1) = false := by simpa using q1
                          have f2 : decide (p1 = r1) = false := decide_eq_false q1
                          go_wp2_with fail
                          go_quiet (fail)
                          go_wp2
                          go_roundw
                          case rel => exact ⟨k + 1, by omega, by go_num, ⟨HBK.out.os, HBK.out.tape, HBK.out.output, HBK.out.size, HBK.out.block⟩⟩
                          case measure => simp [RowKit.intOf]; omega
                      · have hge : ¬ (k : Int) < i := by omega
                        have HBK := hidLL hbk
                        clear hbk
                        go_wp2
                        go_roundw
                        case rel => exact ⟨i + 1, by omega, by go_num, HBK.out⟩
                        case measure => simp [RowKit.intOf]; omega
                  · have hge : ¬ (i : Int) < n5 := by omega
                    go_wp2
                    go_ret
                    exact ⟨rfl, (HSL.out w12 HBI.out).2⟩
end Go.Proofs.YtmbclnaenjcocaaGreatDoor

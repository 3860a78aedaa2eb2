/-
  The laws of rules: Theory, walked.
-/
import Derived.Test.YtmbclnaenjcocaaGreatDoorRsLaw2
import Derived.Deep.RegionHeld3
namespace Go.Proofs.YtmbclnaenjcocaaGreatDoor
open Go.RowKit

theorem pairC_inv : ∀ (l : List (Int × Int)) (j : Nat) (u : Value), (pairC l)[j]? = some u → ∃ i x, l[i]? = some x ∧ ((j = i * 2 ∧ u = .int .i64 x.1) ∨ (j = i * 2 + 1 ∧ u = .int .i64 x.2))
  | [], j, u, h => by simp [pairC] at h
  | a :: l, 0, u, h => ⟨0, a, rfl, Or.inl ⟨rfl, by simpa [pairC] using h.symm⟩⟩
  | a :: l, 1, u, h => ⟨0, a, rfl, Or.inr ⟨rfl, by simpa [pairC] using h.symm⟩⟩
  | a :: l, j + 2, u, h => by
    obtain ⟨i, x, h1, h2⟩ := pairC_inv l j u (by simpa [pairC] using h)
    refine ⟨i + 1, x, by simpa using h1, ?_⟩
    rcases h2 with ⟨h2, h3⟩ | ⟨h2, h3⟩
    · exact Or.inl ⟨by omega, h3⟩
    · exact Or.inr ⟨by omega, h3⟩
theorem pairC_one (l : List (Int × Int)) : ∀ u ∈ pairC l, u.oneCell' = true := fun u hu => by
  obtain ⟨j, hj⟩ := List.mem_iff_getElem?.1 hu
  obtain ⟨i, x, _, h2⟩ := pairC_inv l j u hj
  rcases h2 with ⟨_, rfl⟩ | ⟨_, rfl⟩ <;> rfl
def ThyR (T : Thy) (w : World) (e : Ending) (w' : World) : Prop := ∃ rv ov, e = .returned (.agg #[.int .i64 T.names, rv, ov]) ∧ TM w' w'.heap.size T rv ov ∧ Below w.heap.size w w'
set_option maxHeartbeats 4000000 in
set_option maxRecDepth 100000 in
theorem theory_w {w : World} {B : Nat} {T : Thy} {rv ov : Value} {pb po : Nat} (h : TP w B T rv ov pb po) (hB : B ≤ w.heap.size) : Calls Tryz.prog 7 #[.pointer (some ⟨pb, po, none⟩)] w (ThyR T w) := by
  obtain ⟨ra, rc, hrv, hrl, _⟩ := h.tm.r
  obtain ⟨oa, oc, hov, hol, _⟩ := h.tm.o
  subst hrv hov
  obtain ⟨rb, hrb⟩ : ∃ rb, rb = w.heap.size := ⟨_, rfl⟩
  obtain ⟨ob, hob⟩ : ∃ ob, ob = w.heap.size + 1 := ⟨_, rfl⟩
  obtain ⟨W0, hW0⟩ : ∃ W0 : World, W0 = w.alloc (.cells #[.int .i64 0, .slice none 0 0, .slice none 0 0] 35) := ⟨_, rfl⟩
  obtain ⟨W1, hW1⟩ : ∃ W1 : World, W1 = W0.alloc (.cells #[.int .i64 T.names, .slice none 0 0, .slice none 0 0] 35) := ⟨_, rfl⟩
  have hz0 : W0.heap.size = ob := by rw [hW0, hob]; simp
  have hb0 : Below w.heap.size w W0 := by rw [hW0]; exact (Below.refl _ _).alloc (Nat.le_refl _) _
  have hb1 : Below W0.heap.size W0 W1 := by rw [hW1]; exact (Below.refl _ _).alloc (Nat.le_refl _) _
  have hk0 : W1.heap[rb]? = some (.cells #[.int .i64 0, .slice none 0 0, .slice none 0 0] 35) := by rw [hb1.block rb (by omega), hW0, hrb]; exact blk_new _ _
  have hk1 : W1.heap[ob]? = some (.cells #[.int .i64 T.names, .slice none 0 0, .slice none 0 0] 35) := by rw [hW1, ← hz0]; exact blk_new _ _
  have hbw : Below w.heap.size w W1 := hb0.trans (hb1.mono (by omega))
  have HX : Hid (∀ W, Below w.heap.size w W → TP W B T (.slice ra T.rules.length rc) (.slice oa T.over.length oc) pb po ∧ B ≤ W.heap.size) := fun W hW => ⟨h.bel hW hB, by have := hW.size; omega⟩
  have c0 := (HX.out W0 hb0).1.c0
  have HW0 := hidLL (And.intro hW0 (And.intro hW1 (And.intro hrb hob)))
  have HZ0 := hidLL hz0
  have HK := hidLL (And.intro hk0 (And.intro hk1 hbw))
  have hro : rb < ob := by omega
  have hpl : pb < rb := by have := h.lt; omega
  clear hW0 hW1 hrb hob hb0 hb1 hk0 hk1 hbw hz0
  obtain ⟨R, hR⟩ : ∃ R, R = T.rules.length := ⟨_, rfl⟩
  obtain ⟨OO, hOO⟩ : ∃ OO, OO = T.over.length := ⟨_, rfl⟩
  obtain ⟨nm, hnm⟩ : ∃ nm, nm = T.names := ⟨_, rfl⟩
  rw [← hR, ← hOO] at HX
  rw [← hR] at hrl
  rw [← hOO] at hol
  rw [← hnm] at c0 HW0 HK
  have HRR := hidLL (And.intro hR (And.intro hOO hnm))
  have HNM := hidLL (And.intro h.tm.n1 h.tm.n2)
  clear hR hOO hnm h
  go_enter Tryz.func7, Tryz.ntmps7
  go_upto_region 1 with fail
  rw [← HW0.out.1, ← HW0.out.2.2.1]
  go_upto_region 2 with fail
  rw [← HW0.out.2.1, HZ0.out]
  go_wp2_with fail
  go_loopw [4] (fun t wr => ∃ (i : Nat) (v : Value) (L : List (Rl × Value)), i ≤ R ∧ t = .int .i64 i ∧ L.map (·.1) = T.rules.take i ∧ wr.heap[ob]? = some (.cells #[.int .i64 nm, v, .slice none 0 0] 35) ∧ wr.heap[rb]? = some (.cells #[.int .i64 0, .slice none 0 0, .slice none 0 0] 35) ∧ Rm wr (ob + 1) v L ∧ Below w.heap.size w wr) (fun t _ => R - (RowKit.intOf t).toNat)
  case atStart => exact ⟨0, .slice none 0 0, [], by omega, rfl, rfl, HK.out.2.1, HK.out.1, ⟨World.ownsRow_nil _ _ _ _, fun i x hx => by simp at hx⟩, HK.out.2.2⟩
  case round =>
    obtain ⟨i, v, L, hi, rfl, hL, ho1, hr1, hRm, hbel⟩ := hrel
    obtain ⟨w2, hw2⟩ : ∃ w2 : World, w2 = wr := ⟨_, rfl⟩
    subst hw2
    obtain ⟨hTP, hB2⟩ := HX.out w2 hbel
    have t1 := hTP.c1
    have t2 := hTP.c2
    by_cases hlt : i < R
    · have hiz : (i : Int) < R := by omega
      have hrl2 : i < T.rules.length := by rw [← HRR.out.1]; exact hlt
      obtain ⟨g, o, bv, er, hgB, y0, y1, y2, hbd⟩ := hTP.tm.r.at (rl_of hrl2)
      subst er
      obtain ⟨ba, bc, ebv, hbl, hbx⟩ := hbd
      subst ebv
      have hnw1 := World.new_ne w2 ⟨pb, po + 1, none⟩ t1
      have hnw2 := World.new_ne w2 ⟨g, o + i * 3, none⟩ y0
      have hnw3 := World.new_ne w2 ⟨g, o + i * 3 + 1, none⟩ y1
      have hgl := cell_lt y0
      have hpl2 := cell_lt t1
      have hnil := hTP.nb g o i R rc _ rfl hrl2 y2
      have HQ := hidLL (And.intro hL (And.intro ho1 (And.intro hr1 (And.intro hRm (And.intro hbel (And.intro hnil hbx))))))
      clear hL ho1 hr1 hRm hbel hTP hbx hnil
      obtain ⟨KD, hKD⟩ : ∃ KD, KD = (rlAt T i).kind := ⟨_, rfl⟩
      obtain ⟨Q, hQ⟩ : ∃ Q, Q = (rlAt T i).head := ⟨_, rfl⟩
      rw [← hKD] at y0
      rw [← hQ] at y1
      have HKQ := hidLL (And.intro hKD hQ)
      clear hKD hQ
      go_upto_region 5 with fail
      go_region_held3 (fun W => W.cell? ⟨pb, po + 1, none⟩ = some (.slice (some ⟨g, o, none⟩) R rc) ∧ W.cell? ⟨g, o + i * 3, none⟩ = some (.int .i64 KD) ∧ W.cell? ⟨g, o + i * 3 + 1, none⟩ = some (.int .i64 Q)) (go_keep) (fail)
      obtain ⟨W3, hW3⟩ : ∃ W3 : World, W3 = (w2.alloc (.cells #[.int .i64 KD, .int .i64 Q, .slice none 0 0] 56)).drew := ⟨_, rfl⟩
      obtain ⟨bx, hbx2⟩ : ∃ bx, bx = w2.heap.size := ⟨_, rfl⟩
      rw [← hW3, ← hbx2]
      have hb3 : Below w2.heap.size w2 W3 := by rw [hW3]; exact ((Below.refl _ _).alloc (Nat.le_refl _) _).drew
      have hk3 : W3.heap[bx]? = some (.cells #[.int .i64 KD, .int .i64 Q, .slice none 0 0] 56) := by rw [hW3, hbx2]; exact blk_kept (Chg.refl [] _).drew (blk_new _ _) (by simp)
      have t3 := (hb3.cell (p := ⟨pb, po + 1, none⟩) hpl2).trans t1
      have y3 := (hb3.cell (p := ⟨g, o + i * 3 + 2, none⟩) (cell_lt y2)).trans y2
      have x2 : W3.cell? ⟨bx, 2, none⟩ = some (.slice none 0 0) := by simp [World.cell?, hk3]
      have x3 : W3.frozen? ⟨bx, 2, none⟩ = false := by simp [World.frozen?, hk3]
      have hl3 : bx < W3.heap.size := blk_lt hk3
      have hpl3 : pb < W3.heap.size := cell_lt t3
      have hgl3 : g < W3.heap.size := cell_lt y3
      have HQ3 := hidLL (And.intro hb3 (And.intro hk3 hbx2))
      obtain ⟨m, hm⟩ : ∃ m, m = (rlAt T i).body.length := ⟨_, rfl⟩
      rw [← hm] at y3 hbl
      have HM := hidLL hm
      have hob3 : ob < bx := by have := blk_lt HQ.out.2.1; omega
      have had : ba = none → m = 0 ∧ bc = 0 := fun e => by
        refine ⟨?_, HQ.out.2.2.2.2.2.1 _ _ (by rw [e])⟩
        rcases Nat.eq_zero_or_pos m with h0 | h0
        · exact h0
        · obtain ⟨_, _, e2, _⟩ := HQ.out.2.2.2.2.2.2 0 _ (List.getElem?_eq_getElem (by omega))
          rw [e] at e2
          cases e2
      have HNW : Hid (∀ b, ba = some b → ∀ j u, (intC (rlAt T i).body)[j]? = some u → W3.drew.cell? (b.add j) = some u) := fun b eb j u hu => by
        unfold intC at hu
        rw [List.getElem?_map] at hu
        obtain ⟨x, hx, rfl⟩ := Option.map_eq_some_iff.1 hu
        obtain ⟨g', o', e2, hg2, hc2⟩ := HQ.out.2.2.2.2.2.2 j x hx
        rw [eb] at e2
        injection e2 with e2
        subst e2
        have e3 : (⟨g', o', none⟩ : Addr).add j = ⟨g', o' + j, none⟩ := by cases j <;> simp [Addr.add]
        rw [e3]
        exact (hb3.cell (p := ⟨g', o' + j, none⟩) (cell_lt hc2)).trans hc2
      have HOC : Hid (∀ u ∈ intC (rlAt T i).body, u.oneCell' = true) := fun u hu => by unfold intC at hu; rw [List.mem_map] at hu; obtain ⟨_, _, rfl⟩ := hu; rfl
      have HLN : Hid ((intC (rlAt T i).body).length = m * 1) := by show _ = _; unfold intC; rw [List.length_map, hm]; omega
      obtain ⟨i0, z, hi0, hz0', hz1, hz2, hz3⟩ := Tryz.infoIn
      have HI := hidLL (And.intro hi0 (And.intro hz0' (And.intro hz1 (And.intro hz2 hz3))))
      clear hi0 hz0' hz1 hz2 hz3 hm hW3 hbx2 hb3 hk3 t1 t2 y0 y1 y2 hnw1 hnw2 hnw3 hgl hpl2
      obtain ⟨NW, hNW⟩ : ∃ NW, NW = intC (rlAt T i).body := ⟨_, rfl⟩
      rw [← hNW] at HNW HOC HLN
      have HNE := hidLL hNW
      clear hNW
      go_upto_region 6 with fail
      go_cut [] (fun wx => ∃ (v1 : Value) (w4 : World), wx = w4.setCell ⟨bx, 2, none⟩ v1 ∧ w4.ownsRow (ob + 1) 3 1 v1 m NW ∧ Below W3.heap.size W3 w4)
      case first =>
        go_region_law
          (first
            | (refine step_append_nil rfl (.tmp 38) (.tmp 46) 54 rfl (ob + 1) 3 i0 z 1 8 Tryz.underlying54 HI.out.1 HI.out.2.1 HI.out.2.2.1 HI.out.2.2.2.1 HI.out.2.2.2.2 (by decide) (by first | (simp [Act.eval]; done) | simp [Act.eval, Act.put]) ba m bc NW (by first | (simp [Act.eval]; done) | simp [Act.eval, Act.put]) had HLN.out HNW.out HOC.out (by unfold maxLen; omega) (by omega) (by simp; omega) ?_
               intro v' w8 ho hg
               have hkb : w8.heap[bx]? = W3.heap[bx]? := hg.block bx (by simpa using hl3) (fun e => by cases e)
               have x8 := (World.cell?_of_block (a := ⟨bx, 2, none⟩) hkb).trans x2
               have z8 := (World.frozen?_of_block (a := ⟨bx, 2, none⟩) hkb).trans x3
               obtain ⟨a', c', hv'⟩ := row_any ho
               subst hv'
               have HH := hidLL (And.intro ho hg)
               clear ho hg hkb))
        all_goals
          go_wp2
          go_meet
          exact ⟨_, _, rfl, HH.out.1, ⟨HH.out.2.os, HH.out.2.tape, HH.out.2.output, HH.out.2.size, fun k hk => HH.out.2.block k hk (fun e => by cases e)⟩⟩
      case rest =>
        obtain ⟨v1, w4, ewc, ho4, hb4⟩ := hcut
        obtain ⟨hb3, hk3, hbx2⟩ := HQ3.out
        obtain ⟨hL, ho1, hr1, hRm, hbel, _, _⟩ := HQ.out
        have hlo2 := blk_lt ho1
        have hb24 : Below w2.heap.size w2 w4 := hb3.trans (hb4.mono hb3.size)
        have hk4 : w4.heap[bx]? = some (.cells #[.int .i64 KD, .int .i64 Q, .slice none 0 0] 56) := (hb4.block bx hl3).trans hk3
        have hb2c : Below w2.heap.size w2 wc := by rw [ewc]; exact hb24.setCell (p := ⟨bx, 2, none⟩) (by show _ ≤ bx; omega) _
        have hkc : wc.heap[bx]? = some (.cells #[.int .i64 KD, .int .i64 Q, v1] 56) := by
          rw [ewc, heap_setCell_same w4 bx 2 _ _ v1 hk4]
          rfl
        have hoc : wc.ownsRow (ob + 1) 3 1 v1 m NW := by
          rw [ewc]
          refine row_step ho4 fun g' hg' _ => Below.heap_setCell _ _ _ _ ?_
          show g' ≠ bx
          intro e
          subst e
          rcases ho4.2 with ⟨e1, _⟩ | ⟨g2, cap2, cur2, e1, _, hgg2, _⟩
          · rw [e1] at hg'; cases hg'
          · rw [e1] at hg'
            injection hg' with hg'
            have hg' : g2 = g' := hg'
            subst hg'
            rw [hk4] at hgg2
            injection hgg2 with e3
            injection e3 with _ e3 _
            exact absurd e3 (by decide)
        have hob : wc.heap[ob]? = some (.cells #[.int .i64 nm, v, .slice none 0 0] 35) := (hb2c.block ob hlo2).trans ho1
        have hrb : wc.heap[rb]? = some (.cells #[.int .i64 0, .slice none 0 0, .slice none 0 0] 35) := (hb2c.block rb (by omega)).trans hr1
        have hRmc : Rm wc (ob + 1) v L := hRm.on fun k cs t hk _ _ _ => hb2c.block k hk
        obtain ⟨va, vc, hvv⟩ := row_any hRm.row
        obtain ⟨v1a, v1c, hv1⟩ := row_any hoc
        have q0 : wc.cell? ⟨bx, 0, none⟩ = some (.int .i64 KD) := by simp [World.cell?, hkc]
        have q1 : wc.cell? ⟨bx, 1, none⟩ = some (.int .i64 Q) := by simp [World.cell?, hkc]
        have q2 : wc.cell? ⟨bx, 2, none⟩ = some v1 := by simp [World.cell?, hkc]
        have q3 : wc.cell? ⟨ob, 1, none⟩ = some v := by simp [World.cell?, hob]
        have q4 : ∀ k, wc.frozen? ⟨ob, k, none⟩ = false := fun k => by simp [World.frozen?, hob]
        have hLl : L.length ≤ i := by
          have := congrArg List.length hL
          rw [List.length_map, List.length_take] at this
          omega
        have hloc := blk_lt hob
        have hlbc := blk_lt hkc
        have HC := hidLL (And.intro hL (And.intro hob (And.intro hrb (And.intro hRmc (And.intro hoc (And.intro (hbel.trans (hb2c.mono hbel.size)) hkc))))))
        clear hb3 hk3 hbx2 hL ho1 hr1 hRm hbel hb24 hk4 hb2c hkc hoc hob hrb hRmc ewc ho4 hb4 HNW HOC HLN had x2 x3 t3 y3
        subst hvv hv1
        obtain ⟨i1, z1, hi1, hz1', hz11, hz12, hz13⟩ := Tryz.infoRule
        have HI1 := hidLL (And.intro hi1 (And.intro hz1' (And.intro hz11 (And.intro hz12 hz13))))
        clear hi1 hz1' hz11 hz12 hz13
        have HNW : Hid (∀ (j : Nat) (u : Value), [Value.int .i64 KD, .int .i64 Q, .slice v1a m v1c][j]? = some u → (wc.alloc (.cells #[.int .i64 KD, .int .i64 Q, .slice v1a m v1c] 56)).cell? ((⟨wc.heap.size, 0, none⟩ : Addr).add j) = some u) := fun j u h => alloc_cell wc [.int .i64 KD, .int .i64 Q, .slice v1a m v1c] 56 j u h
        have HOC : Hid (∀ u ∈ [Value.int .i64 KD, .int .i64 Q, .slice v1a m v1c], u.oneCell' = true) := fun u hu => by simp at hu; rcases hu with rfl | rfl | rfl <;> rfl
        go_wp2_with (first
          | (at_builtin; refine wpList_append_own _ rfl (.tmp 50) (.tmp 52) 32 rfl (ob + 1) 56 i1 z1 3 40 Tryz.underlying32 HI1.out.1 HI1.out.2.1 HI1.out.2.2.1 HI1.out.2.2.2.1 HI1.out.2.2.2.2 (by decide) (.slice va L.length vc) L.length (rcells L) rfl (World.ownsRow.alloc HC.out.2.2.2.1.row _) ⟨wc.heap.size, 0, none⟩ 1 1 [.int .i64 KD, .int .i64 Q, .slice v1a m v1c] (by simp [Act.eval]) rfl HNW.out HOC.out (by unfold maxLen; omega) (by omega) (by simp; omega) ?_; intro v2 w6 ho6 hg6 _; have hk6 : w6.heap[ob]? = wc.heap[ob]? := (by
              rw [hg6.block ob (by simp; omega) (fun e => by have := (row_blk HC.out.2.2.2.1.row e.symm).1; omega)]
              exact Below.heap_alloc wc _ ob hloc); have r3 := (World.cell?_of_block (a := ⟨ob, 1, none⟩) hk6).trans q3; have r4 := fun k => (World.frozen?_of_block (a := ⟨ob, k, none⟩) hk6).trans (q4 k); obtain ⟨a', c', hv'⟩ := row_any ho6; subst hv'; have HO := hidLL (And.intro ho6 (And.intro hg6 hk6)); clear ho6 hg6 hk6)
          | go_in)
        go_roundw
        case measure => simp [RowKit.intOf]; omega
        case rel =>
          obtain ⟨ho6, hg6, hk6⟩ := HO.out
          obtain ⟨hL, hob, hrb, hRmc, hoc, hbelc, hkc⟩ := HC.out
          rw [HNE.out] at hoc
          have hWb : Below wc.heap.size wc (wc.alloc (.cells #[.int .i64 KD, .int .i64 Q, .slice v1a m v1c] 56)) := (Below.refl _ _).alloc (Nat.le_refl _) _
          rw [HKQ.out.1, HKQ.out.2] at ho6
          rw [HM.out] at hoc
          have hRm6 := hRmc.push (r := rlAt T i) (bv := .slice v1a m v1c) (by rw [HM.out]; exact hoc) (by rw [← HM.out]; exact hbl) hWb hg6 (by rw [HM.out] at ho6 ⊢; exact ho6)
          have hke : ∀ k, k < wc.heap.size → k ≤ ob → w6.heap[k]? = wc.heap[k]? := fun k hk hk2 => by
            rw [hg6.block k (by simp; omega) (fun e => by have := (row_blk hRmc.row e.symm).1; omega)]
            exact Below.heap_alloc wc _ k hk
          refine ⟨i + 1, _, L ++ [(rlAt T i, .slice v1a m v1c)], by omega, by go_num, ?_, ?_, ?_, hRm6.on fun k cs t hk hlo _ _ => Below.heap_setCell _ _ _ _ (by show k ≠ ob; omega), ?_⟩
          · rw [List.map_append, hL, List.take_succ_eq_append_getElem hrl2]
            congr 1
            have h9 := rl_of (T := T) (i := i) hrl2
            unfold Thy.rl at h9
            rw [List.getElem?_eq_getElem hrl2] at h9
            injection h9 with h9
            rw [h9]
            rfl
          · rw [heap_setCell_same w6 ob 1 _ _ _ (hk6.trans hob)]
            rfl
          · rw [Below.heap_setCell _ _ _ _ (by show rb ≠ ob; omega), hke rb (by omega) (by omega)]
            exact hrb
          · have hb6 : Below w.heap.size w w6 := by
              refine ⟨hg6.os.trans hbelc.os, hg6.tape.trans hbelc.tape, hg6.output.trans hbelc.output, Nat.le_trans hbelc.size (Nat.le_trans (by simp) hg6.size), fun k hk => ?_⟩
              rw [hke k (by have := hbelc.size; omega) (by have := HW0.out.2.2.2; omega)]
              exact hbelc.block k hk
            exact hb6.setCell (p := ⟨ob, 1, none⟩) (by show w.heap.size ≤ ob; have := HW0.out.2.2.2; omega) _
    · have hiz : ¬ (i : Int) < R := by omega
      have hie : i = R := by omega
      have x2 : w2.cell? ⟨ob, 2, none⟩ = some (.slice none 0 0) := by simp [World.cell?, ho1]
      have x3 : w2.frozen? ⟨ob, 2, none⟩ = false := by simp [World.frozen?, ho1]
      have hl3 := blk_lt ho1
      have hpl3 : pb < w2.heap.size := cell_lt t2
      obtain ⟨oa2, oc2, eo, _, hox⟩ := hTP.tm.o
      have had : oa = none → OO = 0 ∧ oc = 0 := fun e => by
        refine ⟨?_, hTP.no _ _ (by rw [e])⟩
        rcases Nat.eq_zero_or_pos OO with h0 | h0
        · exact h0
        · obtain ⟨_, _, e2, _⟩ := hox 0 _ (List.getElem?_eq_getElem (by rw [← HRR.out.2.1]; exact h0))
          rw [e] at eo
          injection eo with eo _ _
          rw [← eo] at e2
          cases e2
      have HNW : Hid (∀ b, oa = some b → ∀ j u, (pairC T.over)[j]? = some u → w2.drew.cell? (b.add j) = some u) := fun b eb j u hu => by
        obtain ⟨k, x, hk, h2⟩ := pairC_inv _ _ _ hu
        obtain ⟨g', o', e2, hg2, hc2, hc3⟩ := hox k x hk
        injection eo with eo _ _
        rw [← eo, eb] at e2
        injection e2 with e2
        subst e2
        have e3 : (⟨g', o', none⟩ : Addr).add j = ⟨g', o' + j, none⟩ := by cases j <;> simp [Addr.add]
        rw [e3]
        rcases h2 with ⟨rfl, rfl⟩ | ⟨rfl, rfl⟩
        · exact hc2
        · exact hc3
      have HLN : Hid ((pairC T.over).length = OO * 2) := by show _ = _; rw [pairC_len, HRR.out.2.1]
      have HOC : Hid (∀ u ∈ pairC T.over, u.oneCell' = true) := pairC_one _
      obtain ⟨i0, z, hi0, hz0', hz1, hz2, hz3⟩ := Tryz.infoPair
      have HI := hidLL (And.intro hi0 (And.intro hz0' (And.intro hz1 (And.intro hz2 hz3))))
      have HQ := hidLL (And.intro hL (And.intro ho1 (And.intro hr1 (And.intro hRm (And.intro hbel hie)))))
      clear hL ho1 hr1 hRm hbel hTP hi0 hz0' hz1 hz2 hz3 hox eo hie
      obtain ⟨NW, hNW⟩ : ∃ NW, NW = pairC T.over := ⟨_, rfl⟩
      rw [← hNW] at HNW HOC HLN
      have HNE := hidLL hNW
      clear hNW
      go_upto_region 8 with fail
      go_cut [] (fun wx => ∃ (v1 : Value) (w4 : World), wx = w4.setCell ⟨ob, 2, none⟩ v1 ∧ w4.ownsRow (ob + 1) 71 2 v1 OO NW ∧ Below w2.heap.size w2 w4)
      case first =>
        go_region_law
          (first
            | (refine step_append_nil rfl (.tmp 56) (.tmp 60) 33 rfl (ob + 1) 71 i0 z 2 16 Tryz.underlying33 HI.out.1 HI.out.2.1 HI.out.2.2.1 HI.out.2.2.2.1 HI.out.2.2.2.2 (by decide) (by first | (simp [Act.eval]; done) | simp [Act.eval, Act.put]) oa OO oc NW (by first | (simp [Act.eval]; done) | simp [Act.eval, Act.put]) had HLN.out HNW.out HOC.out (by unfold maxLen; omega) (by omega) (by simp; omega) ?_
               intro v' w8 ho hg
               have hkb : w8.heap[ob]? = w2.heap[ob]? := hg.block ob (by simpa using hl3) (fun e => by cases e)
               have x8 := (World.cell?_of_block (a := ⟨ob, 2, none⟩) hkb).trans x2
               have z8 := (World.frozen?_of_block (a := ⟨ob, 2, none⟩) hkb).trans x3
               obtain ⟨a', c', hv'⟩ := row_any ho
               subst hv'
               have HH := hidLL (And.intro ho hg)
               clear ho hg hkb))
        all_goals
          go_wp2
          go_meet
          exact ⟨_, _, rfl, HH.out.1, ⟨HH.out.2.os, HH.out.2.tape, HH.out.2.output, HH.out.2.size, fun k hk => HH.out.2.block k hk (fun e => by cases e)⟩⟩
      case rest =>
        obtain ⟨v1, w4, ewc, ho4, hb4⟩ := hcut
        obtain ⟨hL, ho1, hr1, hRm, hbel, hie⟩ := HQ.out
        have hk4 : w4.heap[ob]? = some (.cells #[.int .i64 nm, v, .slice none 0 0] 35) := (hb4.block ob hl3).trans ho1
        have hkc : wc.heap[ob]? = some (.cells #[.int .i64 nm, v, v1] 35) := by
          rw [ewc, heap_setCell_same w4 ob 2 _ _ v1 hk4]
          rfl
        have hrc : wc.heap[rb]? = some (.cells #[.int .i64 0, .slice none 0 0, .slice none 0 0] 35) := by
          rw [ewc, Below.heap_setCell _ _ _ _ (by show rb ≠ ob; omega), hb4.block rb (by omega)]
          exact hr1
        have hRmc : Rm wc (ob + 1) v L := hRm.on fun k cs t hk hlo _ _ => by
          rw [ewc, Below.heap_setCell _ _ _ _ (by show k ≠ ob; omega), hb4.block k hk]
        have hoc : wc.ownsRow (ob + 1) 71 2 v1 OO NW := by
          rw [ewc]
          refine row_step ho4 fun g' hg' _ => Below.heap_setCell _ _ _ _ ?_
          have := (row_blk ho4 hg').1
          show g' ≠ ob
          omega
        have hbc : Below w.heap.size w wc := by
          rw [ewc]
          exact (hbel.trans (hb4.mono hbel.size)).setCell (p := ⟨ob, 2, none⟩) (by show w.heap.size ≤ ob; have := HW0.out.2.2.2; omega) _
        have q0 : wc.cell? ⟨ob, 0, none⟩ = some (.int .i64 nm) := by simp [World.cell?, hkc]
        have q1 : wc.cell? ⟨ob, 1, none⟩ = some v := by simp [World.cell?, hkc]
        have q2 : wc.cell? ⟨ob, 2, none⟩ = some v1 := by simp [World.cell?, hkc]
        have r0 : wc.cell? ⟨rb, 0, none⟩ = some (.int .i64 0) := by simp [World.cell?, hrc]
        have r1 : wc.cell? ⟨rb, 1, none⟩ = some (.slice none 0 0) := by simp [World.cell?, hrc]
        have r2 : wc.cell? ⟨rb, 2, none⟩ = some (.slice none 0 0) := by simp [World.cell?, hrc]
        have r3 : ∀ k, wc.frozen? ⟨rb, k, none⟩ = false := fun k => by simp [World.frozen?, hrc]
        have hrl3 := blk_lt hrc
        obtain ⟨va, vc, hvv⟩ := row_any hRmc.row
        obtain ⟨v1a, v1c, hv1⟩ := row_any hoc
        have HC := hidLL (And.intro hL (And.intro hRmc (And.intro hoc (And.intro hbc (And.intro hie hrc)))))
        clear hL ho1 hr1 hRm hbel hie hk4 hkc hrc hRmc hoc hbc ewc ho4 hb4 HNW HOC HLN had x2 x3 t1 t2
        subst hvv hv1
        go_wp2
        refine bodyPost_ret (v := .agg #[.int .i64 nm, .slice va L.length vc, .slice v1a OO v1c]) (by simp [results, Tryz.results7, go_sem, r0, r1, r2]) rfl ?_
        obtain ⟨hL, hRmc, hoc, hbc, hie, hrc⟩ := HC.out
        have hrw := HW0.out.2.2.1
        have hLT : L.map (·.1) = T.rules := by
          rw [hL, hie, HRR.out.1]
          exact List.take_length
        have hLn : L.length = T.rules.length := by rw [← hLT, List.length_map]
        rw [HNE.out, HRR.out.2.1] at hoc
        rw [HRR.out.2.2, HRR.out.2.1]
        have key : ∀ W : World, Below w.heap.size w W → (∀ k, k ≠ rb → W.heap[k]? = wc.heap[k]?) → ThyR T w (.returned (.agg #[.int .i64 T.names, .slice va L.length vc, .slice v1a T.over.length v1c])) W := fun W hW hk => by
          have h1 : Rm W (ob + 1) (.slice va L.length vc) L := hRmc.on fun k cs t _ hlo _ _ => hk k (by omega)
          have h2 : W.ownsRow (ob + 1) 71 2 (.slice v1a T.over.length v1c) T.over.length (pairC T.over) := row_step hoc fun g' hg' _ => hk g' (by have := (row_blk hoc hg').1; omega)
          have h3 := h1.rrd (by rw [hLn, ← HRR.out.1]; exact hrl)
          rw [hLT] at h3
          exact ⟨_, _, rfl, ⟨h3, ord_of h2 (by rw [← HRR.out.2.1]; exact hol), HNM.out.1, HNM.out.2⟩, hW⟩
        refine key _ (((hbc.setCell (p := ⟨rb, 0, none⟩) ?_ _).setCell (p := ⟨rb, 1, none⟩) ?_ _).setCell (p := ⟨rb, 2, none⟩) ?_ _) fun k hk => ((Below.heap_setCell _ _ _ _ ?_).trans (Below.heap_setCell _ _ _ _ ?_)).trans (Below.heap_setCell _ _ _ _ ?_)
        · show w.heap.size ≤ rb; omega
        · show w.heap.size ≤ rb; omega
        · show w.heap.size ≤ rb; omega
        all_goals exact hk
end Go.Proofs.YtmbclnaenjcocaaGreatDoor

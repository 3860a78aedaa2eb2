/-
  day.ReadTerm by contracts (written by tools/genreadterm.py).
-/
import Derived.Test.YtplhamloddighaaDoorTermOut
namespace Go.Proofs.YtplhamloddighaaDoor
open Go.RowKit Go.Extern.Stop Go.Stop Go.Extern

theorem frz_alloc {w : World} {o : Obj} {x : Addr} (h : x.block < w.heap.size) : (w.alloc o).frozen? x = w.frozen? x := by
  exact World.frozen?_alloc_old _ _ _ (Nat.ne_of_lt h)
theorem set3_cell {w : World} {g : Nat} {v v' : Value} (W : World) (h0 : w.cell? ⟨g, 0, none⟩ = some v') (h : W.cell? ⟨g, 0, none⟩ = some v) (x y z : Value) : (((W.setCell ⟨w.heap.size, 0, none⟩ x).setCell ⟨w.heap.size, 1, none⟩ y).setCell ⟨w.heap.size, 2, none⟩ z).cell? ⟨g, 0, none⟩ = some v := by
  have hlt : g < w.heap.size := by
    rcases Nat.lt_or_ge g w.heap.size with k | k
    · exact k
    · simp [World.cell?, Array.getElem?_eq_none k] at h0
  have hne : w.heap.size ≠ g := by omega
  rw [World.cell?_setCell_other _ _ _ _ (by intro e; injection e with e1; exact hne e1), World.cell?_setCell_other _ _ _ _ (by intro e; injection e with e1; exact hne e1), World.cell?_setCell_other _ _ _ _ (by intro e; injection e with e1; exact hne e1)]; exact h
theorem tfault_drew {w w' : World} {e : Ending} {pos : Int} {a : Addr} (h : IsTFault w w' e pos a) : IsTFault w w'.drew e pos a := by
  obtain ⟨blk, h1, h2, h3, h4, h5⟩ := h
  exact ⟨blk, h1, h2.drew, h3, by simpa using h4, by simpa using h5⟩
theorem tfault_mk2 {w W : World} {N U R : Int} (hT : TS w W N U R) (pos : Int) (a : Addr) (x y z : Value) :
    IsTFault w ((((W.setCell ⟨w.heap.size, 0, none⟩ x).setCell ⟨w.heap.size, 1, none⟩ y).setCell ⟨w.heap.size, 2, none⟩ z).alloc (.cells #[.int .i64 pos, .iface 159 (.pointer (some a))] 77)) (.returned (.tuple #[.agg #[.int .i64 0, .int .i64 0, .int .i64 0], .iface 75 (.pointer (some ⟨W.heap.size, 0, none⟩))])) pos a := by
  have hl := hT.lt
  have hb : Below w.heap.size w (((W.setCell ⟨w.heap.size, 0, none⟩ x).setCell ⟨w.heap.size, 1, none⟩ y).setCell ⟨w.heap.size, 2, none⟩ z) := ((hT.bel.setCell (Nat.le_refl _) _).setCell (Nat.le_refl _) _).setCell (Nat.le_refl _) _
  exact ⟨W.heap.size, rfl, hb.alloc hb.size _, by omega, by rw [World.cell?_alloc_at _ _ _ _ (by simp)]; rfl, by rw [World.cell?_alloc_at _ _ _ _ (by simp)]; rfl⟩
theorem set3a_cell {w W : World} {N U R : Int} (hT : TS w W N U R) (o : Obj) {x y z v : Value} {i : Nat} (h : (((W.setCell ⟨w.heap.size, 0, none⟩ x).setCell ⟨w.heap.size, 1, none⟩ y).setCell ⟨w.heap.size, 2, none⟩ z).cell? ⟨w.heap.size, i, none⟩ = some v) : ((((W.setCell ⟨w.heap.size, 0, none⟩ x).setCell ⟨w.heap.size, 1, none⟩ y).setCell ⟨w.heap.size, 2, none⟩ z).alloc o).cell? ⟨w.heap.size, i, none⟩ = some v := by
  have hl := hT.lt
  rw [World.cell?_alloc_lt _ _ ⟨w.heap.size, i, none⟩ (by simp; omega)]
  exact h
theorem pos_eq {s : ByteArray} {x y : Int} (h : tout s = ⟨0, 0, 0, 1, x⟩) (e : x = y) : tout s = ⟨0, 0, 0, 1, y⟩ := by rw [h, e]

set_option maxHeartbeats 8000000 in
set_option maxRecDepth 10000 in
theorem readTerm_any (s : ByteArray) (p : Nat → Addr) (w : World) (L : Laid w p) (hs : s.size ≤ 3000) :
    Calls Tryd.prog 19 #[.string s] w fun e w' => POut w w' e (tout s) p := by
  have HL := hidIt L
  have hrl := fun w => readLength_any s w hs
  obtain ⟨a, ha⟩ : ∃ a, a = len0 s := ⟨_, rfl⟩
  obtain ⟨n, hn⟩ : ∃ n, n = num s := ⟨_, rfl⟩
  simp only [← ha, ← hn] at hrl
  have HRL := hidIt hrl
  obtain ⟨n1, n2⟩ : 0 ≤ n ∧ n ≤ 100001 := by rw [hn]; exact num_bd s
  have al : a ≤ s.size := by rw [ha]; exact len0_le s
  have HA := hidIt ha
  have HN := hidIt hn
  clear hrl ha hn L
  go_enter Tryd.func19, Tryd.ntmps19
  go_wp2_with fail
  refine (HRL.out _).mono ?_
  rintro e w1 ⟨rfl, ew⟩
  have HT : Hid (TS w w1 0 0 0) := by show TS _ _ _ _ _; rw [ew]; exact TS.start w _ _
  clear ew
  by_cases a0 : a = 0
  · have HO : Hid (tout s = ⟨0, 0, 0, 1, a⟩) := by show _ = _; rw [HA.out]; exact tout_1 (.inl (by rw [← HA.out]; exact a0))
    have e0 : ((a : Int) == 0) = true := by simp; omega
    clear a0
    go_wp2_with fail
    refine (wrongText_any _ (p 0) _ ((HL.out.below HT.out.bel).cell 0 (by omega))).mono ?_
    rintro e w2 ⟨rfl, ew⟩
    have HTf : Hid (TS w w2 0 0 0) := by show TS _ _ _ _ _; rw [ew]; exact HT.out.on ((Below.refl _ _).alloc (Nat.le_refl _) _) (fun x hx => frz_alloc hx)
    have HF0 : Hid (w2.cell? ⟨w1.heap.size, 0, none⟩ = some (.int .i64 a)) := by show _ = _; rw [ew]; simp
    have HF1 : Hid (w2.cell? ⟨w1.heap.size, 0 + 1, none⟩ = some (.iface 159 (.pointer (some (p 0))))) := by show _ = _; rw [ew]; simp
    have HBf : Hid (w.heap.size + 2 ≤ w1.heap.size) := by have := HT.out.lt; show _ ≤ _; omega
    clear ew
    have r0 := HTf.out.r0
    have r1 := HTf.out.r1
    have r2 := HTf.out.r2
    have g0 := HTf.out.g0
    have g1 := HTf.out.g1
    have g2 := HTf.out.g2
    go_wp2
    exact bodyPost_ret (v := .tuple #[.agg #[.int .i64 0, .int .i64 0, .int .i64 0], .iface 75 (.pointer (some ⟨w1.heap.size, 0, none⟩))]) (by simp [results, Tryd.results19, go_sem, rs0 r0, rs1 r1, rs2 r2]) rfl (pout_text HO.out (tfault_mk HTf.out HBf.out HF0.out HF1.out _ _ _))
  have e0 : ((a : Int) == 0) = false := by simp; omega
  have HS := hidIt (fun w => stands_any s a 32 32 w (by decide))
  cases hb : atIs s a 32
  · rw [hb] at HS
    have HO : Hid (tout s = ⟨0, 0, 0, 1, a⟩) := by show _ = _; rw [HA.out]; exact tout_1 (.inr (by rw [← HA.out]; exact hb))
    clear a0 hb
    go_wp2_with fail
    refine (HS.out _).mono ?_
    rintro e w2 ⟨rfl, ew⟩
    subst w2
    go_wp2_with fail
    refine (wrongText_any _ (p 0) _ ((HL.out.below HT.out.bel).cell 0 (by omega))).mono ?_
    rintro e w2 ⟨rfl, ew⟩
    have HTf : Hid (TS w w2 0 0 0) := by show TS _ _ _ _ _; rw [ew]; exact HT.out.on ((Below.refl _ _).alloc (Nat.le_refl _) _) (fun x hx => frz_alloc hx)
    have HF0 : Hid (w2.cell? ⟨w1.heap.size, 0, none⟩ = some (.int .i64 a)) := by show _ = _; rw [ew]; simp
    have HF1 : Hid (w2.cell? ⟨w1.heap.size, 0 + 1, none⟩ = some (.iface 159 (.pointer (some (p 0))))) := by show _ = _; rw [ew]; simp
    have HBf : Hid (w.heap.size + 2 ≤ w1.heap.size) := by have := HT.out.lt; show _ ≤ _; omega
    clear ew
    have r0 := HTf.out.r0
    have r1 := HTf.out.r1
    have r2 := HTf.out.r2
    have g0 := HTf.out.g0
    have g1 := HTf.out.g1
    have g2 := HTf.out.g2
    go_wp2
    exact bodyPost_ret (v := .tuple #[.agg #[.int .i64 0, .int .i64 0, .int .i64 0], .iface 75 (.pointer (some ⟨w1.heap.size, 0, none⟩))]) (by simp [results, Tryd.results19, go_sem, rs0 r0, rs1 r1, rs2 r2]) rfl (pout_text HO.out (tfault_mk HTf.out HBf.out HF0.out HF1.out _ _ _))
  · rw [hb] at HS
    have lt := atIs_lt hb
    have HC1 : Hid (¬ (len0 s = 0 ∨ atIs s (len0 s) 32 = false)) := by show ¬ _; rw [← HA.out]; simp [a0, hb]
    obtain ⟨u, hu⟩ : ∃ u, u = uOf s := ⟨_, rfl⟩
    obtain ⟨u1, u2, u3⟩ : -1 ≤ u ∧ u ≤ 4 ∧ IsUnit (bl (s.extract (a + 1) s.size)) u := by rw [hu, HA.out]; exact unitOf_spec _
    have HWU := hidIt (fun w => wordAhead_unit (s.extract (a + 1) s.size) u u3 u1 u2 w)
    have HU := hidIt hu
    clear a0 hb u3 hu
    go_wp2_with fail
    refine (HS.out _).mono ?_
    rintro e w2 ⟨rfl, ew⟩
    subst w2
    have c1 := HT.out.c1
    have f1 := HT.out.f1
    go_wp2_with fail
    refine (HWU.out _).mono ?_
    rintro e w2 ⟨rfl, ew⟩
    subst w2
    have HT2 := hidIt (HT.out.setU u)
    obtain ⟨w2, hw2⟩ : ∃ w2, w2 = w1.setCell ⟨w.heap.size + 1, 0 + 1, none⟩ (.int .i64 u) := ⟨_, rfl⟩
    rw [← hw2] at HT2
    have d1 := HT2.out.c1
    by_cases u0 : u < 0
    · have HO : Hid (tout s = ⟨0, 0, 0, 1, (a + 1 : Nat)⟩) := by show _ = _; rw [HA.out]; exact tout_2 HC1.out (by rw [← HU.out]; exact u0)
      rw [hw2] at d1
      go_wp2_with fail
      rw [← hw2]
      clear hw2 d1 c1 f1
      refine (wrongText_any _ (p 0) _ ((HL.out.below HT2.out.bel).cell 0 (by omega))).mono ?_
      rintro e w3 ⟨rfl, ew⟩
      have HTf : Hid (TS w w3 0 u 0) := by show TS _ _ _ _ _; rw [ew]; exact HT2.out.on ((Below.refl _ _).alloc (Nat.le_refl _) _) (fun x hx => frz_alloc hx)
      have HF0 : Hid (w3.cell? ⟨w2.heap.size, 0, none⟩ = some (.int .i64 (a + 1))) := by show _ = _; rw [ew]; simp
      have HF1 : Hid (w3.cell? ⟨w2.heap.size, 0 + 1, none⟩ = some (.iface 159 (.pointer (some (p 0))))) := by show _ = _; rw [ew]; simp
      have HBf : Hid (w.heap.size + 2 ≤ w2.heap.size) := by have := HT2.out.lt; show _ ≤ _; omega
      clear ew
      have r0 := HTf.out.r0
      have r1 := HTf.out.r1
      have r2 := HTf.out.r2
      have g0 := HTf.out.g0
      have g1 := HTf.out.g1
      have g2 := HTf.out.g2
      go_wp2
      exact bodyPost_ret (v := .tuple #[.agg #[.int .i64 0, .int .i64 0, .int .i64 0], .iface 75 (.pointer (some ⟨w2.heap.size, 0, none⟩))]) (by simp [results, Tryd.results19, go_sem, rs0 r0, rs1 r1, rs2 r2]) rfl (pout_text (pos_eq HO.out (by omega)) (tfault_mk HTf.out HBf.out HF0.out HF1.out _ _ _))
    obtain ⟨k, rfl⟩ : ∃ k : Nat, u = k := ⟨u.toNat, by omega⟩
    have k5 : k < 5 := by omega
    have HC2 : Hid (0 ≤ uOf s) := by show _ ≤ _; rw [← HU.out]; omega
    have HWd := hidIt (fun w => unitWord_any k k5 w)
    obtain ⟨b, hb⟩ : ∃ b, b = eAt s := ⟨_, rfl⟩
    have hz := wdS_size k
    have ebz : b = a + 1 + (wdS k).size := by rw [hb, HA.out]; unfold eAt; rw [← HU.out]; simp
    have ble : b ≤ s.size := by rw [hb]; exact eAt_le HC2.out (by rw [← HA.out]; omega)
    have HB := hidIt hb
    have eb : (b : Int) = (a : Int) + 1 + ((wdS k).size : Int) := by omega
    clear hb u0 u1 u2
    rw [hw2] at d1
    go_wp2_with fail
    rw [← hw2]
    clear hw2 d1 c1 f1
    refine (HWd.out _).mono ?_
    rintro e w3 ⟨rfl, ew⟩
    subst w3
    generalize wdS k = wd at *
    have HEb := hidIt eb
    by_cases h3 : b < s.size
    · have h3' : (a : Int) + 1 + (wd.size : Int) < s.size := by omega
      have HC3 : Hid (eAt s < s.size) := by show _ < _; rw [← HB.out]; exact h3
      cases h4 : atIs s b 44
      · have HRR := hidIt (fun w hc => rr_comma s b (p 0) w hc (by omega) h4)
        simp only [eb] at HRR
        have HO : Hid (tout s = ⟨0, 0, 0, 1, b⟩) := by show _ = _; rw [HB.out]; exact tout_3 HC1.out HC2.out HC3.out (by rw [← HB.out]; exact h4)
        clear eb ebz
        go_wp2_with fail
        refine (HRR.out _ ((HL.out.below HT2.out.bel).cell 0 (by omega))).mono ?_
        rintro e w3 ⟨rfl, ew⟩
        have HTf : Hid (TS w w3 0 k 0) := by show TS _ _ _ _ _; rw [ew]; exact HT2.out.on ((Below.refl _ _).alloc (Nat.le_refl _) _) (fun x hx => frz_alloc hx)
        have HF0 : Hid (w3.cell? ⟨w2.heap.size, 0, none⟩ = some (.int .i64 ((a : Int) + 1 + (wd.size : Int)))) := by show _ = _; rw [ew]; simp
        have HF1 : Hid (w3.cell? ⟨w2.heap.size, 0 + 1, none⟩ = some (.iface 159 (.pointer (some (p 0))))) := by show _ = _; rw [ew]; simp
        have HBf : Hid (w.heap.size + 2 ≤ w2.heap.size) := by have := HT2.out.lt; show _ ≤ _; omega
        clear ew
        have r0 := HTf.out.r0
        have r1 := HTf.out.r1
        have r2 := HTf.out.r2
        have g0 := HTf.out.g0
        have g1 := HTf.out.g1
        have g2 := HTf.out.g2
        go_wp2
        exact bodyPost_ret (v := .tuple #[.agg #[.int .i64 0, .int .i64 0, .int .i64 0], .iface 75 (.pointer (some ⟨w2.heap.size, 0, none⟩))]) (by simp [results, Tryd.results19, go_sem, rs0 r0, rs1 r1, rs2 r2]) rfl (pout_text (pos_eq HO.out (by have := HEb.out; omega)) (tfault_mk HTf.out HBf.out HF0.out HF1.out _ _ _))
      · have HC4 : Hid (atIs s (eAt s) 44 = true) := by show _ = _; rw [← HB.out]; exact h4
        cases h5 : atIs s (b + 1) 32
        · have HRR := hidIt (fun w hc => rr_blank s b (p 0) w hc (by omega) h4 h5)
          simp only [eb] at HRR
          have HO : Hid (tout s = ⟨0, 0, 0, 1, (b + 1 : Nat)⟩) := by show _ = _; rw [HB.out]; exact tout_4 HC1.out HC2.out HC3.out HC4.out (by rw [← HB.out]; exact h5)
          clear eb ebz
          go_wp2_with fail
          refine (HRR.out _ ((HL.out.below HT2.out.bel).cell 0 (by omega))).mono ?_
          rintro e w3 ⟨rfl, ew⟩
          have HTf : Hid (TS w w3 0 k 0) := by show TS _ _ _ _ _; rw [ew]; exact HT2.out.on ((Below.refl _ _).alloc (Nat.le_refl _) _) (fun x hx => frz_alloc hx)
          have HF0 : Hid (w3.cell? ⟨w2.heap.size, 0, none⟩ = some (.int .i64 (((a : Int) + 1 + (wd.size : Int)) + 1))) := by show _ = _; rw [ew]; simp
          have HF1 : Hid (w3.cell? ⟨w2.heap.size, 0 + 1, none⟩ = some (.iface 159 (.pointer (some (p 0))))) := by show _ = _; rw [ew]; simp
          have HBf : Hid (w.heap.size + 2 ≤ w2.heap.size) := by have := HT2.out.lt; show _ ≤ _; omega
          clear ew
          have r0 := HTf.out.r0
          have r1 := HTf.out.r1
          have r2 := HTf.out.r2
          have g0 := HTf.out.g0
          have g1 := HTf.out.g1
          have g2 := HTf.out.g2
          go_wp2
          exact bodyPost_ret (v := .tuple #[.agg #[.int .i64 0, .int .i64 0, .int .i64 0], .iface 75 (.pointer (some ⟨w2.heap.size, 0, none⟩))]) (by simp [results, Tryd.results19, go_sem, rs0 r0, rs1 r1, rs2 r2]) rfl (pout_text (pos_eq HO.out (by have := HEb.out; omega)) (tfault_mk HTf.out HBf.out HF0.out HF1.out _ _ _))
        · have HC5 : Hid (atIs s (eAt s + 1) 32 = true) := by show _ = _; rw [← HB.out]; exact h5
          have b2 := atIs_lt h5
          obtain ⟨r, hr⟩ : ∃ r, r = rOf s := ⟨_, rfl⟩
          obtain ⟨r1, r3⟩ : (r = -1 ∨ r = 1 ∨ r = 2) ∧ IsRoll (bl (s.extract (b + 2) s.size)) r := by rw [hr, HB.out]; exact rollOf_spec _
          have HR := hidIt hr
          clear hr
          by_cases r0 : r < 0
          · obtain rfl : r = -1 := by omega
            clear r1 r0
            have HRR := hidIt (fun w hc => rr_word s b (p 0) w hc (by omega) h4 h5 r3)
            simp only [eb] at HRR
            have HO : Hid (tout s = ⟨0, 0, 0, 1, (b + 2 : Nat)⟩) := by show _ = _; rw [HB.out]; exact tout_5 HC1.out HC2.out HC3.out HC4.out HC5.out (by rw [← HR.out]; omega)
            clear eb ebz
            go_wp2_with fail
            refine (HRR.out _ ((HL.out.below HT2.out.bel).cell 0 (by omega))).mono ?_
            rintro e w3 ⟨rfl, ew⟩
            have HTf : Hid (TS w w3 0 k 0) := by show TS _ _ _ _ _; rw [ew]; exact HT2.out.on ((Below.refl _ _).alloc (Nat.le_refl _) _) (fun x hx => frz_alloc hx)
            have HF0 : Hid (w3.cell? ⟨w2.heap.size, 0, none⟩ = some (.int .i64 (((a : Int) + 1 + (wd.size : Int)) + 2))) := by show _ = _; rw [ew]; simp
            have HF1 : Hid (w3.cell? ⟨w2.heap.size, 0 + 1, none⟩ = some (.iface 159 (.pointer (some (p 0))))) := by show _ = _; rw [ew]; simp
            have HBf : Hid (w.heap.size + 2 ≤ w2.heap.size) := by have := HT2.out.lt; show _ ≤ _; omega
            clear ew
            have r0 := HTf.out.r0
            have r1 := HTf.out.r1
            have r2 := HTf.out.r2
            have g0 := HTf.out.g0
            have g1 := HTf.out.g1
            have g2 := HTf.out.g2
            go_wp2
            exact bodyPost_ret (v := .tuple #[.agg #[.int .i64 0, .int .i64 0, .int .i64 0], .iface 75 (.pointer (some ⟨w2.heap.size, 0, none⟩))]) (by simp [results, Tryd.results19, go_sem, rs0 r0, rs1 r1, rs2 r2]) rfl (pout_text (pos_eq HO.out (by have := HEb.out; omega)) (tfault_mk HTf.out HBf.out HF0.out HF1.out _ _ _))
          obtain ⟨j, rfl⟩ : ∃ j : Nat, r = j := ⟨r.toNat, by omega⟩
          have j1 : j = 1 ∨ j = 2 := by omega
          have HC6 : Hid (0 ≤ rOf s) := by show _ ≤ _; rw [← HR.out]; omega
          have HRR := hidIt (fun w => rr_ok s b j j1 w (by omega) h4 h5 r3)
          simp only [eb] at HRR
          obtain ⟨f, hf⟩ : ∃ f, f = fAt s := ⟨_, rfl⟩
          have hz2 := rwS_size j
          have ef : (f : Int) = (a : Int) + 1 + (wd.size : Int) + 2 + ((rwS j).size : Int) := by
            have e : f = b + 2 + (rwS j).size := by rw [hf, HB.out]; unfold fAt; rw [← HR.out]; simp
            omega
          have fle : f ≤ s.size := by rw [hf]; exact fAt_le HC6.out (by rw [← HB.out]; omega)
          have HFf := hidIt hf
          clear hf r1 r0 r3 eb ebz
          generalize rwS j = rw' at *
          have c2 := HT2.out.c2
          have f2 := HT2.out.f2
          go_wp2_with fail
          refine (HRR.out _).mono ?_
          rintro e w3 ⟨rfl, ew⟩
          subst w3
          have HT3 := hidIt (HT2.out.setR j)
          obtain ⟨w3, hw3⟩ : ∃ w3, w3 = w2.setCell ⟨w.heap.size + 1, 0 + 2, none⟩ (.int .i64 j) := ⟨_, rfl⟩
          rw [← hw3] at HT3
          by_cases h7 : f < s.size
          · have h7' : (a : Int) + 1 + (wd.size : Int) + 2 + (rw'.size : Int) < s.size := by omega
            have HO : Hid (tout s = ⟨0, 0, 0, 1, f⟩) := by show _ = _; rw [HFf.out]; exact tout_6 HC1.out HC2.out HC3.out HC4.out HC5.out HC6.out (by rw [← HFf.out]; exact h7)
            go_wp2_with fail
            rw [← hw3]
            clear hw3 c2 f2
            refine (wrongText_any _ (p 0) _ ((HL.out.below HT3.out.bel).cell 0 (by omega))).mono ?_
            rintro e w4 ⟨rfl, ew⟩
            have HTf : Hid (TS w w4 0 k j) := by show TS _ _ _ _ _; rw [ew]; exact HT3.out.on ((Below.refl _ _).alloc (Nat.le_refl _) _) (fun x hx => frz_alloc hx)
            have HF0 : Hid (w4.cell? ⟨w3.heap.size, 0, none⟩ = some (.int .i64 (((a : Int) + 1 + (wd.size : Int)) + 2 + (rw'.size : Int)))) := by show _ = _; rw [ew]; simp
            have HF1 : Hid (w4.cell? ⟨w3.heap.size, 0 + 1, none⟩ = some (.iface 159 (.pointer (some (p 0))))) := by show _ = _; rw [ew]; simp
            have HBf : Hid (w.heap.size + 2 ≤ w3.heap.size) := by have := HT3.out.lt; show _ ≤ _; omega
            clear ew
            have r0 := HTf.out.r0
            have r1 := HTf.out.r1
            have r2 := HTf.out.r2
            have g0 := HTf.out.g0
            have g1 := HTf.out.g1
            have g2 := HTf.out.g2
            go_wp2
            exact bodyPost_ret (v := .tuple #[.agg #[.int .i64 0, .int .i64 0, .int .i64 0], .iface 75 (.pointer (some ⟨w3.heap.size, 0, none⟩))]) (by simp [results, Tryd.results19, go_sem, rs0 r0, rs1 r1, rs2 r2]) rfl (pout_text (pos_eq HO.out (by omega)) (tfault_mk HTf.out HBf.out HF0.out HF1.out _ _ _))
          have h7' : decide ((a : Int) + 1 + (wd.size : Int) + 2 + (rw'.size : Int) < s.size) = false := by simp; omega
          have HC7 : Hid (s.size ≤ fAt s) := by show _ ≤ _; rw [← HFf.out]; omega
          have HTl : Hid (tout s = tend s j) := by show _ = _; rw [HR.out]; exact tout_7 HC1.out HC2.out HC3.out HC4.out HC5.out HC6.out HC7.out
          clear h7
          rw [hw3] at HT3
          by_cases hn : 100000 < n
          · have HO : Hid (tout s = ⟨0, 0, 0, 2, 0⟩) := by show _ = _; rw [HTl.out]; exact tend_far _ (by rw [← HN.out]; exact hn)
            have HBf : Hid (w.heap.size + 2 ≤ w3.heap.size) := by have := HT3.out.lt; rw [← hw3] at this; show _ ≤ _; omega
            go_wp2_with fail
            rw [← hw3]
            rw [← hw3] at HT3
            clear hw3 c2 f2
            have hcell : w3.cell? ⟨2, 0, none⟩ = some (.iface 159 (.pointer (some (p 1)))) := (HL.out.below HT3.out.bel).cell 1 (by omega)
            have hcell2 : (((w3.setCell ⟨w.heap.size, 0, none⟩ (.int .i64 0)).setCell ⟨w.heap.size, 1, none⟩ (.int .i64 0)).setCell ⟨w.heap.size, 2, none⟩ (.int .i64 0)).cell? ⟨2, 0, none⟩ = some (.iface 159 (.pointer (some (p 1)))) := set3_cell _ (HL.out.cell 1 (by omega)) hcell _ _ _
            have HTf : Hid (TS w (w3.alloc (.cells #[.int .i64 0, .iface 159 (.pointer (some (p 1)))] 77)) 0 k j) := HT3.out.on ((Below.refl _ _).alloc (Nat.le_refl _) _) (fun x hx => frz_alloc hx)
            have hr0 := HTf.out.r0
            have hr1 := HTf.out.r1
            have hr2 := HTf.out.r2
            have hg0 := HTf.out.g0
            have hg1 := HTf.out.g1
            have hg2 := HTf.out.g2
            have r0 := HT3.out.r0
            have r1 := HT3.out.r1
            have r2 := HT3.out.r2
            have g0 := HT3.out.g0
            have g1 := HT3.out.g1
            have g2 := HT3.out.g2
            go_region
            all_goals go_wp2
            · exact bodyPost_ret (v := .tuple #[.agg #[.int .i64 0, .int .i64 0, .int .i64 0], .iface 75 (.pointer (some ⟨w3.heap.size, 0, none⟩))]) (by simp [results, Tryd.results19, go_sem, rs0 hr0, rs1 hr1, rs2 hr2]) rfl (pout_far HO.out (tfault_drew (tfault_mk HTf.out HBf.out (by simp) (by simp) _ _ _)))
            · have s0 := set3a_cell HT3.out (.cells #[.int .i64 0, .iface 159 (.pointer (some (p 1)))] 77) (rs0 r0 (.int .i64 0) (.int .i64 0) (.int .i64 0))
              have s1 := set3a_cell HT3.out (.cells #[.int .i64 0, .iface 159 (.pointer (some (p 1)))] 77) (rs1 r1 (.int .i64 0) (.int .i64 0) (.int .i64 0))
              have s2 := set3a_cell HT3.out (.cells #[.int .i64 0, .iface 159 (.pointer (some (p 1)))] 77) (rs2 r2 (.int .i64 0) (.int .i64 0) (.int .i64 0))
              exact bodyPost_ret (v := .tuple #[.agg #[.int .i64 0, .int .i64 0, .int .i64 0], .iface 75 (.pointer (some ⟨w3.heap.size, 0, none⟩))]) (by simp [results, Tryd.results19, go_sem, s0, s1, s2]) rfl (pout_far HO.out (tfault_drew (tfault_mk2 HT3.out _ _ _ _ _)))
          · have HO : Hid (tout s = ⟨n, k, j, 0, -1⟩) := by show _ = _; rw [HTl.out, HN.out, HU.out]; exact tend_ok _ (by rw [← HN.out]; exact hn)
            have q0 := HT3.out.c0
            have q1 := HT3.out.f0
            have HTn := hidIt (HT3.out.setN n)
            have r0 := HTn.out.r0
            have r1 := HTn.out.r1
            have r2 := HTn.out.r2
            have g0 := HTn.out.g0
            have g1 := HTn.out.g1
            have g2 := HTn.out.g2
            have c0 := HTn.out.c0
            have c1 := HTn.out.c1
            have c2 := HTn.out.c2
            go_wp2
            exact bodyPost_ret (v := .tuple #[.agg #[.int .i64 n, .int .i64 k, .int .i64 j], .nilIface]) (by simp [results, Tryd.results19, go_sem, rs0 r0, rs1 r1, rs2 r2]) rfl (pout_ok HO.out rfl (((HTn.out.bel.setCell (Nat.le_refl _) _).setCell (Nat.le_refl _) _).setCell (Nat.le_refl _) _))
    · have h3' : decide ((a : Int) + 1 + (wd.size : Int) < s.size) = false := by simp; omega
      have HTl : Hid (tout s = tend s 0) := tout_8 HC1.out HC2.out (by rw [← HB.out]; omega)
      clear h3 eb ebz
      by_cases hn : 100000 < n
      · have HO : Hid (tout s = ⟨0, 0, 0, 2, 0⟩) := by show _ = _; rw [HTl.out]; exact tend_far _ (by rw [← HN.out]; exact hn)
        have HBf : Hid (w.heap.size + 2 ≤ w2.heap.size) := by have := HT2.out.lt; show _ ≤ _; omega
        go_wp2_with fail
        have hcell : w2.cell? ⟨2, 0, none⟩ = some (.iface 159 (.pointer (some (p 1)))) := (HL.out.below HT2.out.bel).cell 1 (by omega)
        have hcell2 : (((w2.setCell ⟨w.heap.size, 0, none⟩ (.int .i64 0)).setCell ⟨w.heap.size, 1, none⟩ (.int .i64 0)).setCell ⟨w.heap.size, 2, none⟩ (.int .i64 0)).cell? ⟨2, 0, none⟩ = some (.iface 159 (.pointer (some (p 1)))) := set3_cell _ (HL.out.cell 1 (by omega)) hcell _ _ _
        have HTf : Hid (TS w (w2.alloc (.cells #[.int .i64 0, .iface 159 (.pointer (some (p 1)))] 77)) 0 k 0) := HT2.out.on ((Below.refl _ _).alloc (Nat.le_refl _) _) (fun x hx => frz_alloc hx)
        have hr0 := HTf.out.r0
        have hr1 := HTf.out.r1
        have hr2 := HTf.out.r2
        have hg0 := HTf.out.g0
        have hg1 := HTf.out.g1
        have hg2 := HTf.out.g2
        have r0 := HT2.out.r0
        have r1 := HT2.out.r1
        have r2 := HT2.out.r2
        have g0 := HT2.out.g0
        have g1 := HT2.out.g1
        have g2 := HT2.out.g2
        go_region
        all_goals go_wp2
        · exact bodyPost_ret (v := .tuple #[.agg #[.int .i64 0, .int .i64 0, .int .i64 0], .iface 75 (.pointer (some ⟨w2.heap.size, 0, none⟩))]) (by simp [results, Tryd.results19, go_sem, rs0 hr0, rs1 hr1, rs2 hr2]) rfl (pout_far HO.out (tfault_drew (tfault_mk HTf.out HBf.out (by simp) (by simp) _ _ _)))
        · have s0 := set3a_cell HT2.out (.cells #[.int .i64 0, .iface 159 (.pointer (some (p 1)))] 77) (rs0 r0 (.int .i64 0) (.int .i64 0) (.int .i64 0))
          have s1 := set3a_cell HT2.out (.cells #[.int .i64 0, .iface 159 (.pointer (some (p 1)))] 77) (rs1 r1 (.int .i64 0) (.int .i64 0) (.int .i64 0))
          have s2 := set3a_cell HT2.out (.cells #[.int .i64 0, .iface 159 (.pointer (some (p 1)))] 77) (rs2 r2 (.int .i64 0) (.int .i64 0) (.int .i64 0))
          exact bodyPost_ret (v := .tuple #[.agg #[.int .i64 0, .int .i64 0, .int .i64 0], .iface 75 (.pointer (some ⟨w2.heap.size, 0, none⟩))]) (by simp [results, Tryd.results19, go_sem, s0, s1, s2]) rfl (pout_far HO.out (tfault_drew (tfault_mk2 HT2.out _ _ _ _ _)))
      · have HO : Hid (tout s = ⟨n, k, 0, 0, -1⟩) := by show _ = _; rw [HTl.out, HN.out, HU.out]; exact tend_ok _ (by rw [← HN.out]; exact hn)
        have q0 := HT2.out.c0
        have q1 := HT2.out.f0
        have HTn := hidIt (HT2.out.setN n)
        have r0 := HTn.out.r0
        have r1 := HTn.out.r1
        have r2 := HTn.out.r2
        have g0 := HTn.out.g0
        have g1 := HTn.out.g1
        have g2 := HTn.out.g2
        have c0 := HTn.out.c0
        have c1 := HTn.out.c1
        have c2 := HTn.out.c2
        go_wp2
        exact bodyPost_ret (v := .tuple #[.agg #[.int .i64 n, .int .i64 k, .int .i64 0], .nilIface]) (by simp [results, Tryd.results19, go_sem, rs0 r0, rs1 r1, rs2 r2]) rfl (pout_ok HO.out rfl (((HTn.out.bel.setCell (Nat.le_refl _) _).setCell (Nat.le_refl _) _).setCell (Nat.le_refl _) _))
end Go.Proofs.YtplhamloddighaaDoor

/-
  The reference's ReadDay by contracts (written by tools/genrefread.py).
-/
import Derived.Test.YtepljjagfoiinaaDoorRead
import Derived.Deep.RegionWith
namespace Go.Proofs.YtepljjagfoiinaaDoor
open Go.RowKit Go.Extern.Stop Go.Stop Go.Extern

theorem rIsDigit_any (c : UInt8) (w : World) : Calls Tryd.prog 42 #[.int .u8 c.toNat] w fun e w' => e = .returned (.bool (isDg c)) ∧ w' = w := by
  have hd := dg_raw c
  by_cases h0 : (48 : Int) ≤ c.toNat
  · have HE : Hid (isDg c = decide ((c.toNat : Int) ≤ 57)) := by show _ = _; rw [← hd]; simp [h0]
    have h1 : decide ((48 : Int) ≤ c.toNat) = true := by simpa using h0
    clear hd
    go_enter Tryd.func42, Tryd.ntmps42
    go_wp2
    go_ret
    exact ⟨ret_bool HE.out.symm, rfl⟩
  · have HE : Hid (isDg c = false) := by show _ = _; rw [← hd]; simp [h0]
    have h1 : decide ((48 : Int) ≤ c.toNat) = false := by simpa using h0
    clear hd
    go_enter Tryd.func42, Tryd.ntmps42
    go_wp2
    go_ret
    exact ⟨ret_bool HE.out.symm, rfl⟩
theorem res0 {w : World} {b : Nat} {u : Value} (h : w.cell? ⟨b, 0, none⟩ = some u) (x : Value) : (w.setCell ⟨b, 0, none⟩ x).cell? ⟨b, 0, none⟩ = some x := World.cell?_setCell_same _ _ _ h
theorem res1 {w : World} {b : Nat} {u : Value} (h : w.cell? ⟨b, 0 + 1, none⟩ = some u) (x y : Value) : ((w.setCell ⟨b, 0, none⟩ x).setCell ⟨b, 1, none⟩ y).cell? ⟨b, 1, none⟩ = some y :=
  World.cell?_setCell_same _ _ _ (by rw [World.cell?_setCell_other _ _ _ _ (by intro e; cases e)]; exact h)
theorem byte_ne (c : UInt8) (n : Nat) (hn : n < 256) : (((c.toNat : Nat) : Int) != (n : Int)) = !(c == UInt8.ofNat n) := by
  rw [bne, byte_is c n hn]

/-- The three numbers behind i places, in the slice's block, and the answer's own cells. -/
structure RSt (s : ByteArray) (w : World) (i : Nat) (wr : World) : Prop where
  fit : Fit s i
  c0 : wr.cell? ⟨w.heap.size + 1, 0, none⟩ = some (.int .i64 (dv s 0 (min i 4)))
  c1 : wr.cell? ⟨w.heap.size + 1, 0 + 1, none⟩ = some (.int .i64 (dv s 5 (min (i - 5) 2)))
  c2 : wr.cell? ⟨w.heap.size + 1, 0 + 2, none⟩ = some (.int .i64 (dv s 8 (i - 8)))
  f0 : wr.frozen? ⟨w.heap.size + 1, 0, none⟩ = false
  f1 : wr.frozen? ⟨w.heap.size + 1, 0 + 1, none⟩ = false
  f2 : wr.frozen? ⟨w.heap.size + 1, 0 + 2, none⟩ = false
  r0 : wr.cell? ⟨w.heap.size, 0, none⟩ = some (.int .i64 0)
  r1 : wr.cell? ⟨w.heap.size, 0 + 1, none⟩ = some (.int .i64 0)
  g0 : wr.frozen? ⟨w.heap.size, 0, none⟩ = false
  g1 : wr.frozen? ⟨w.heap.size, 0 + 1, none⟩ = false
  bel : Below w.heap.size w wr
theorem RSt.start (s : ByteArray) (w : World) (t u : TypeId) : RSt s w 0 ((w.alloc (.cells #[.int .i64 0, .int .i64 0] t)).alloc (.cells #[.int .i64 0, .int .i64 0, .int .i64 0] u)) := by
  refine ⟨fun j hj => by omega, ?_, ?_, ?_, ?_, ?_, ?_, ?_, ?_, ?_, ?_, ((Below.refl _ _).alloc (Nat.le_refl _) _).alloc (by simp) _⟩
  all_goals simp [dv]
theorem RSt.skip {s : ByteArray} {w : World} {i : Nat} {wr : World} (h : RSt s w i wr) (hi : i = 4 ∨ i = 7) (hs : i < s.size) (hf : fitB i s[i] = true) : RSt s w (i + 1) wr := by
  refine ⟨h.fit.succ hs hf, ?_, ?_, ?_, h.f0, h.f1, h.f2, h.r0, h.r1, h.g0, h.g1, h.bel⟩
  · rcases hi with rfl | rfl <;> simpa using h.c0
  · rcases hi with rfl | rfl <;> simpa using h.c1
  · rcases hi with rfl | rfl <;> simpa using h.c2
theorem RSt.set0 {s : ByteArray} {w : World} {i : Nat} {wr : World} (h : RSt s w i wr) (h1 : i < 4) (hs : i < s.size) (hf : fitB i s[i] = true) (n : Nat) (v : Int) (hv : dv s 0 (i) = v) :
    RSt s w (i + 1) ((wr.drewN n).setCell ⟨w.heap.size + 1, 0, none⟩ (.int .i64 (v * 10 + ((s[i].toNat : Int) - 48)))) := by
  have hd := dv_step s 0 (i) i (by omega) hs v hv
  have hne : w.heap.size ≠ w.heap.size + 1 := by omega
  refine ⟨h.fit.succ hs hf, ?_, ?_, ?_, by simpa using h.f0, by simpa using h.f1, by simpa using h.f2, ?_, ?_, by simpa using h.g0, by simpa using h.g1, (bdrewN h.bel n).setCell (Nat.le_succ _) _⟩
  · rw [World.cell?_setCell_same _ _ _ (u := _) (by rw [World.cell?_drewN]; exact h.c0), show min (i + 1) 4 = i + 1 by omega, hd]
  · rw [show min (i + 1 - 5) 2 = min (i - 5) 2 by omega, World.cell?_setCell_other _ _ _ _ (by intro e; cases e), World.cell?_drewN]; exact h.c1
  · rw [show i + 1 - 8 = i - 8 by omega, World.cell?_setCell_other _ _ _ _ (by intro e; cases e), World.cell?_drewN]; exact h.c2
  · rw [World.cell?_setCell_other _ _ _ _ (by intro e; injection e; omega), World.cell?_drewN]; exact h.r0
  · rw [World.cell?_setCell_other _ _ _ _ (by intro e; injection e; omega), World.cell?_drewN]; exact h.r1
theorem RSt.set1 {s : ByteArray} {w : World} {i : Nat} {wr : World} (h : RSt s w i wr) (h1 : 5 ≤ i ∧ i < 7) (hs : i < s.size) (hf : fitB i s[i] = true) (n : Nat) (v : Int) (hv : dv s 5 (i - 5) = v) :
    RSt s w (i + 1) ((wr.drewN n).setCell ⟨w.heap.size + 1, 0 + 1, none⟩ (.int .i64 (v * 10 + ((s[i].toNat : Int) - 48)))) := by
  have hd := dv_step s 5 (i - 5) i (by omega) hs v hv
  have hne : w.heap.size ≠ w.heap.size + 1 := by omega
  refine ⟨h.fit.succ hs hf, ?_, ?_, ?_, by simpa using h.f0, by simpa using h.f1, by simpa using h.f2, ?_, ?_, by simpa using h.g0, by simpa using h.g1, (bdrewN h.bel n).setCell (Nat.le_succ _) _⟩
  · rw [show min (i + 1) 4 = min i 4 by omega, World.cell?_setCell_other _ _ _ _ (by intro e; cases e), World.cell?_drewN]; exact h.c0
  · rw [World.cell?_setCell_same _ _ _ (u := _) (by rw [World.cell?_drewN]; exact h.c1), show min (i + 1 - 5) 2 = i - 5 + 1 by omega, hd]
  · rw [show i + 1 - 8 = i - 8 by omega, World.cell?_setCell_other _ _ _ _ (by intro e; cases e), World.cell?_drewN]; exact h.c2
  · rw [World.cell?_setCell_other _ _ _ _ (by intro e; injection e; omega), World.cell?_drewN]; exact h.r0
  · rw [World.cell?_setCell_other _ _ _ _ (by intro e; injection e; omega), World.cell?_drewN]; exact h.r1
theorem RSt.set2 {s : ByteArray} {w : World} {i : Nat} {wr : World} (h : RSt s w i wr) (h1 : 8 ≤ i ∧ i < 10) (hs : i < s.size) (hf : fitB i s[i] = true) (n : Nat) (v : Int) (hv : dv s 8 (i - 8) = v) :
    RSt s w (i + 1) ((wr.drewN n).setCell ⟨w.heap.size + 1, 0 + 2, none⟩ (.int .i64 (v * 10 + ((s[i].toNat : Int) - 48)))) := by
  have hd := dv_step s 8 (i - 8) i (by omega) hs v hv
  have hne : w.heap.size ≠ w.heap.size + 1 := by omega
  refine ⟨h.fit.succ hs hf, ?_, ?_, ?_, by simpa using h.f0, by simpa using h.f1, by simpa using h.f2, ?_, ?_, by simpa using h.g0, by simpa using h.g1, (bdrewN h.bel n).setCell (Nat.le_succ _) _⟩
  · rw [show min (i + 1) 4 = min i 4 by omega, World.cell?_setCell_other _ _ _ _ (by intro e; cases e), World.cell?_drewN]; exact h.c0
  · rw [show min (i + 1 - 5) 2 = min (i - 5) 2 by omega, World.cell?_setCell_other _ _ _ _ (by intro e; cases e), World.cell?_drewN]; exact h.c1
  · rw [World.cell?_setCell_same _ _ _ (u := _) (by rw [World.cell?_drewN]; exact h.c2), show i + 1 - 8 = i - 8 + 1 by omega, hd]
  · rw [World.cell?_setCell_other _ _ _ _ (by intro e; injection e; omega), World.cell?_drewN]; exact h.r0
  · rw [World.cell?_setCell_other _ _ _ _ (by intro e; injection e; omega), World.cell?_drewN]; exact h.r1

set_option maxHeartbeats 8000000 in
set_option maxRecDepth 10000 in
theorem rRead_bad (s : ByteArray) (w : World) (i0 : Nat) (hi0 : i0 < 10) (hs : s.size ≤ 3000)
    (hfit : Fit s i0) (hbad : i0 = s.size ∨ ∃ h : i0 < s.size, fitB i0 s[i0] = false) :
    Calls Tryd.prog 17 #[.string s] w fun e w' => e = .returned (.tuple #[.int .i64 0, .agg #[.int .i64 1, .int .i64 i0]]) ∧ Below w.heap.size w w' := by
  have HSz : Hid (∀ i, i < i0 → i < s.size) := fun i hi => (hfit i hi).1
  have HFi : Hid (∀ i, i < i0 → ∀ h : i < s.size, fitB i s[i] = true) := fun i hi h => (hfit i hi).2
  have HBad := hidIt hbad
  clear hfit hbad
  go_enter Tryd.func17, Tryd.ntmps17
  go_wp2_with fail
  go_loopw [5, 6] (fun pt t wr => ∃ i : Nat, i ≤ i0 ∧ t = .int .i64 i ∧ pt = .int .i64 (pno i) ∧ RSt s w i wr) (fun _ t _ => (10 - RowKit.intOf t).toNat)
  case atStart => exact ⟨0, by omega, rfl, rfl, RSt.start s w _ _⟩
  case round =>
    obtain ⟨i, hi, rfl, rfl, hst⟩ := hrel
    have HSt := hidIt hst
    clear hst
    have r0 := HSt.out.r0
    have r1 := HSt.out.r1
    have g0 := HSt.out.g0
    have g1 := HSt.out.g1
    by_cases hlt : i < i0
    · have hcs : i = 0 ∨ i = 1 ∨ i = 2 ∨ i = 3 ∨ i = 4 ∨ i = 5 ∨ i = 6 ∨ i = 7 ∨ i = 8 := by omega
      rcases hcs with rfl | rfl | rfl | rfl | rfl | rfl | rfl | rfl | rfl
      · rw [show pno 0 = 0 from rfl]
        have hsz : 0 < s.size := HSz.out 0 (by omega)
        have hsz2 : (0 : Int) < s.size := by omega
        have e0 : ¬ s = ByteArray.empty := by intro h; subst h; exact absurd hsz (by decide)
        have e1 : decide (s = ByteArray.empty) = false := by simpa using e0
        have HFit := hidIt (HFi.out 0 (by omega) hsz)
        have HF := hidIt (fun w => rIsDigit_any s[0] w)
        have hq : isDg s[0] = true := HFit.out
        rw [hq] at HF
        have hb := dg_bd hq
        clear hq
        have hc : wr.cell? ⟨w.heap.size + 1, 0, none⟩ = some (.int .i64 (dv s 0 0)) := HSt.out.c0
        have hz := HSt.out.f0
        have hv := dv4 s 0 HSt.out.fit 0 (by omega) (by omega)
        have hv2 : dv s 0 0 < 100000 := by have := hv.2; simp at this; omega
        have hv1 := hv.1
        clear hv
        generalize hdv : dv s 0 0 = v at *
        have HV := hidIt hdv
        clear hdv
        go_wp2_with fail
        refine (HF.out _).mono ?_
        rintro e w1 ⟨rfl, ew⟩
        subst w1
        go_wp2_with fail
        have mixed := Tryd.mixedR
        go_big_region_o
        all_goals go_wp2
        all_goals refine ⟨⟨1, by omega, by first | rfl | go_num, by first | rfl | go_num, HSt.out.set0 (by omega) hsz HFit.out _ v HV.out⟩, by simp [RowKit.intOf]; try omega⟩
      · rw [show pno 1 = 0 from rfl]
        have hsz : 1 < s.size := HSz.out 1 (by omega)
        have hsz2 : (1 : Int) < s.size := by omega
        have e0 : decide ((s.size : Int) ≤ 1) = false := by simp; omega
        have HFit := hidIt (HFi.out 1 (by omega) hsz)
        have HF := hidIt (fun w => rIsDigit_any s[1] w)
        have hq : isDg s[1] = true := HFit.out
        rw [hq] at HF
        have hb := dg_bd hq
        clear hq
        have hc : wr.cell? ⟨w.heap.size + 1, 0, none⟩ = some (.int .i64 (dv s 0 1)) := HSt.out.c0
        have hz := HSt.out.f0
        have hv := dv4 s 1 HSt.out.fit 1 (by omega) (by omega)
        have hv2 : dv s 0 1 < 100000 := by have := hv.2; simp at this; omega
        have hv1 := hv.1
        clear hv
        generalize hdv : dv s 0 1 = v at *
        have HV := hidIt hdv
        clear hdv
        go_wp2_with fail
        refine (HF.out _).mono ?_
        rintro e w1 ⟨rfl, ew⟩
        subst w1
        go_wp2_with fail
        have mixed := Tryd.mixedR
        go_big_region_o
        all_goals go_wp2
        all_goals refine ⟨⟨2, by omega, by first | rfl | go_num, by first | rfl | go_num, HSt.out.set0 (by omega) hsz HFit.out _ v HV.out⟩, by simp [RowKit.intOf]; try omega⟩
      · rw [show pno 2 = 0 from rfl]
        have hsz : 2 < s.size := HSz.out 2 (by omega)
        have hsz2 : (2 : Int) < s.size := by omega
        have e0 : decide ((s.size : Int) ≤ 2) = false := by simp; omega
        have HFit := hidIt (HFi.out 2 (by omega) hsz)
        have HF := hidIt (fun w => rIsDigit_any s[2] w)
        have hq : isDg s[2] = true := HFit.out
        rw [hq] at HF
        have hb := dg_bd hq
        clear hq
        have hc : wr.cell? ⟨w.heap.size + 1, 0, none⟩ = some (.int .i64 (dv s 0 2)) := HSt.out.c0
        have hz := HSt.out.f0
        have hv := dv4 s 2 HSt.out.fit 2 (by omega) (by omega)
        have hv2 : dv s 0 2 < 100000 := by have := hv.2; simp at this; omega
        have hv1 := hv.1
        clear hv
        generalize hdv : dv s 0 2 = v at *
        have HV := hidIt hdv
        clear hdv
        go_wp2_with fail
        refine (HF.out _).mono ?_
        rintro e w1 ⟨rfl, ew⟩
        subst w1
        go_wp2_with fail
        have mixed := Tryd.mixedR
        go_big_region_o
        all_goals go_wp2
        all_goals refine ⟨⟨3, by omega, by first | rfl | go_num, by first | rfl | go_num, HSt.out.set0 (by omega) hsz HFit.out _ v HV.out⟩, by simp [RowKit.intOf]; try omega⟩
      · rw [show pno 3 = 0 from rfl]
        have hsz : 3 < s.size := HSz.out 3 (by omega)
        have hsz2 : (3 : Int) < s.size := by omega
        have e0 : decide ((s.size : Int) ≤ 3) = false := by simp; omega
        have HFit := hidIt (HFi.out 3 (by omega) hsz)
        have HF := hidIt (fun w => rIsDigit_any s[3] w)
        have hq : isDg s[3] = true := HFit.out
        rw [hq] at HF
        have hb := dg_bd hq
        clear hq
        have hc : wr.cell? ⟨w.heap.size + 1, 0, none⟩ = some (.int .i64 (dv s 0 3)) := HSt.out.c0
        have hz := HSt.out.f0
        have hv := dv4 s 3 HSt.out.fit 3 (by omega) (by omega)
        have hv2 : dv s 0 3 < 100000 := by have := hv.2; simp at this; omega
        have hv1 := hv.1
        clear hv
        generalize hdv : dv s 0 3 = v at *
        have HV := hidIt hdv
        clear hdv
        go_wp2_with fail
        refine (HF.out _).mono ?_
        rintro e w1 ⟨rfl, ew⟩
        subst w1
        go_wp2_with fail
        have mixed := Tryd.mixedR
        go_big_region_o
        all_goals go_wp2
        all_goals refine ⟨⟨4, by omega, by first | rfl | go_num, by first | rfl | go_num, HSt.out.set0 (by omega) hsz HFit.out _ v HV.out⟩, by simp [RowKit.intOf]; try omega⟩
      · rw [show pno 4 = 0 from rfl]
        have hsz : 4 < s.size := HSz.out 4 (by omega)
        have hsz2 : (4 : Int) < s.size := by omega
        have e0 : decide ((s.size : Int) ≤ 4) = false := by simp; omega
        have HFit := hidIt (HFi.out 4 (by omega) hsz)
        have HF := hidIt (fun w => rIsDigit_any s[4] w)
        have hq : (s[4] == 45) = true := HFit.out
        have hq2 : (((s[4].toNat : Nat) : Int) != 45) = false := (byte_ne s[4] 45 (by decide)).trans (by rw [show UInt8.ofNat 45 = 45 from rfl, hq]; rfl)
        clear hq
        generalize isDg s[4] = dd at *
        go_wp2_with fail
        refine (HF.out _).mono ?_
        rintro e w1 ⟨rfl, ew⟩
        subst w1
        go_wp2_with fail
        refine ⟨⟨5, by omega, by first | rfl | go_num, by first | rfl | go_num, HSt.out.skip (by omega) hsz HFit.out⟩, by simp [RowKit.intOf]; try omega⟩
      · rw [show pno 5 = 1 from rfl]
        have hsz : 5 < s.size := HSz.out 5 (by omega)
        have hsz2 : (5 : Int) < s.size := by omega
        have e0 : decide ((s.size : Int) ≤ 5) = false := by simp; omega
        have HFit := hidIt (HFi.out 5 (by omega) hsz)
        have HF := hidIt (fun w => rIsDigit_any s[5] w)
        have hq : isDg s[5] = true := HFit.out
        rw [hq] at HF
        have hb := dg_bd hq
        clear hq
        have hc : wr.cell? ⟨w.heap.size + 1, 0 + 1, none⟩ = some (.int .i64 (dv s 5 0)) := HSt.out.c1
        have hz := HSt.out.f1
        have hv := dv5 s 5 HSt.out.fit 0 (by omega) (by omega)
        have hv2 : dv s 5 0 < 100000 := by have := hv.2; simp at this; omega
        have hv1 := hv.1
        clear hv
        generalize hdv : dv s 5 0 = v at *
        have HV := hidIt hdv
        clear hdv
        go_wp2_with fail
        refine (HF.out _).mono ?_
        rintro e w1 ⟨rfl, ew⟩
        subst w1
        go_wp2_with fail
        have mixed := Tryd.mixedR
        go_big_region_o
        all_goals go_wp2
        all_goals refine ⟨⟨6, by omega, by first | rfl | go_num, by first | rfl | go_num, HSt.out.set1 (by omega) hsz HFit.out _ v HV.out⟩, by simp [RowKit.intOf]; try omega⟩
      · rw [show pno 6 = 1 from rfl]
        have hsz : 6 < s.size := HSz.out 6 (by omega)
        have hsz2 : (6 : Int) < s.size := by omega
        have e0 : decide ((s.size : Int) ≤ 6) = false := by simp; omega
        have HFit := hidIt (HFi.out 6 (by omega) hsz)
        have HF := hidIt (fun w => rIsDigit_any s[6] w)
        have hq : isDg s[6] = true := HFit.out
        rw [hq] at HF
        have hb := dg_bd hq
        clear hq
        have hc : wr.cell? ⟨w.heap.size + 1, 0 + 1, none⟩ = some (.int .i64 (dv s 5 1)) := HSt.out.c1
        have hz := HSt.out.f1
        have hv := dv5 s 6 HSt.out.fit 1 (by omega) (by omega)
        have hv2 : dv s 5 1 < 100000 := by have := hv.2; simp at this; omega
        have hv1 := hv.1
        clear hv
        generalize hdv : dv s 5 1 = v at *
        have HV := hidIt hdv
        clear hdv
        go_wp2_with fail
        refine (HF.out _).mono ?_
        rintro e w1 ⟨rfl, ew⟩
        subst w1
        go_wp2_with fail
        have mixed := Tryd.mixedR
        go_big_region_o
        all_goals go_wp2
        all_goals refine ⟨⟨7, by omega, by first | rfl | go_num, by first | rfl | go_num, HSt.out.set1 (by omega) hsz HFit.out _ v HV.out⟩, by simp [RowKit.intOf]; try omega⟩
      · rw [show pno 7 = 1 from rfl]
        have hsz : 7 < s.size := HSz.out 7 (by omega)
        have hsz2 : (7 : Int) < s.size := by omega
        have e0 : decide ((s.size : Int) ≤ 7) = false := by simp; omega
        have HFit := hidIt (HFi.out 7 (by omega) hsz)
        have HF := hidIt (fun w => rIsDigit_any s[7] w)
        have hq : (s[7] == 45) = true := HFit.out
        have hq2 : (((s[7].toNat : Nat) : Int) != 45) = false := (byte_ne s[7] 45 (by decide)).trans (by rw [show UInt8.ofNat 45 = 45 from rfl, hq]; rfl)
        clear hq
        generalize isDg s[7] = dd at *
        go_wp2_with fail
        refine (HF.out _).mono ?_
        rintro e w1 ⟨rfl, ew⟩
        subst w1
        go_wp2_with fail
        refine ⟨⟨8, by omega, by first | rfl | go_num, by first | rfl | go_num, HSt.out.skip (by omega) hsz HFit.out⟩, by simp [RowKit.intOf]; try omega⟩
      · rw [show pno 8 = 2 from rfl]
        have hsz : 8 < s.size := HSz.out 8 (by omega)
        have hsz2 : (8 : Int) < s.size := by omega
        have e0 : decide ((s.size : Int) ≤ 8) = false := by simp; omega
        have HFit := hidIt (HFi.out 8 (by omega) hsz)
        have HF := hidIt (fun w => rIsDigit_any s[8] w)
        have hq : isDg s[8] = true := HFit.out
        rw [hq] at HF
        have hb := dg_bd hq
        clear hq
        have hc : wr.cell? ⟨w.heap.size + 1, 0 + 2, none⟩ = some (.int .i64 (dv s 8 0)) := HSt.out.c2
        have hz := HSt.out.f2
        have hv := dv8 s 8 HSt.out.fit 0 (by omega) (by omega)
        have hv2 : dv s 8 0 < 100000 := by have := hv.2; simp at this; omega
        have hv1 := hv.1
        clear hv
        generalize hdv : dv s 8 0 = v at *
        have HV := hidIt hdv
        clear hdv
        go_wp2_with fail
        refine (HF.out _).mono ?_
        rintro e w1 ⟨rfl, ew⟩
        subst w1
        go_wp2_with fail
        have mixed := Tryd.mixedR
        go_big_region_o
        all_goals go_wp2
        all_goals refine ⟨⟨9, by omega, by first | rfl | go_num, by first | rfl | go_num, HSt.out.set2 (by omega) hsz HFit.out _ v HV.out⟩, by simp [RowKit.intOf]; try omega⟩
    · obtain rfl : i = i0 := by omega
      clear hlt
      have HB := hidIt HSt.out.bel
      rcases HBad.out with hb | ⟨hb, hbf⟩
      · have e0 : decide ((s.size : Int) ≤ i) = true := by simp; omega
        have hle : s.size ≤ i := by omega
        have HI : Hid ((s.size : Int) = i) := by show _ = _; omega
        have hiz : (i : Int) < 10 := by omega
        generalize pno i = pp at *
        clear hb
        go_wp2
        exact bodyPost_ret (v := .tuple #[.int .i64 0, .agg #[.int .i64 1, .int .i64 s.size]]) (by simp [results, Tryd.results17, go_sem, res0 r0, res1 r1]) rfl ⟨by rw [HI.out], (HB.out.setCell (Nat.le_refl _) _).setCell (Nat.le_refl _) _⟩
      · have HBf := hidIt hbf
        clear hbf
        have hcs : i = 0 ∨ i = 1 ∨ i = 2 ∨ i = 3 ∨ i = 4 ∨ i = 5 ∨ i = 6 ∨ i = 7 ∨ i = 8 ∨ i = 9 := by omega
        rcases hcs with rfl | rfl | rfl | rfl | rfl | rfl | rfl | rfl | rfl | rfl
        · rw [show pno 0 = 0 from rfl]
          have hsz2 : (0 : Int) < s.size := by omega
          have e0 : ¬ s = ByteArray.empty := by intro h; subst h; exact absurd hb (by decide)
          have HF := hidIt (fun w => rIsDigit_any s[0] w)
          have hq : isDg s[0] = false := HBf.out
          rw [hq] at HF
          clear hq
          go_wp2_with fail
          refine (HF.out _).mono ?_
          rintro e w1 ⟨rfl, ew⟩
          subst w1
          go_wp2
          exact bodyPost_ret (v := .tuple #[.int .i64 0, .agg #[.int .i64 1, .int .i64 0]]) (by simp [results, Tryd.results17, go_sem, res0 r0, res1 r1]) rfl ⟨rfl, (HB.out.setCell (Nat.le_refl _) _).setCell (Nat.le_refl _) _⟩
        · rw [show pno 1 = 0 from rfl]
          have hsz2 : (1 : Int) < s.size := by omega
          have e0 : decide ((s.size : Int) ≤ 1) = false := by simp; omega
          have HF := hidIt (fun w => rIsDigit_any s[1] w)
          have hq : isDg s[1] = false := HBf.out
          rw [hq] at HF
          clear hq
          go_wp2_with fail
          refine (HF.out _).mono ?_
          rintro e w1 ⟨rfl, ew⟩
          subst w1
          go_wp2
          exact bodyPost_ret (v := .tuple #[.int .i64 0, .agg #[.int .i64 1, .int .i64 1]]) (by simp [results, Tryd.results17, go_sem, res0 r0, res1 r1]) rfl ⟨rfl, (HB.out.setCell (Nat.le_refl _) _).setCell (Nat.le_refl _) _⟩
        · rw [show pno 2 = 0 from rfl]
          have hsz2 : (2 : Int) < s.size := by omega
          have e0 : decide ((s.size : Int) ≤ 2) = false := by simp; omega
          have HF := hidIt (fun w => rIsDigit_any s[2] w)
          have hq : isDg s[2] = false := HBf.out
          rw [hq] at HF
          clear hq
          go_wp2_with fail
          refine (HF.out _).mono ?_
          rintro e w1 ⟨rfl, ew⟩
          subst w1
          go_wp2
          exact bodyPost_ret (v := .tuple #[.int .i64 0, .agg #[.int .i64 1, .int .i64 2]]) (by simp [results, Tryd.results17, go_sem, res0 r0, res1 r1]) rfl ⟨rfl, (HB.out.setCell (Nat.le_refl _) _).setCell (Nat.le_refl _) _⟩
        · rw [show pno 3 = 0 from rfl]
          have hsz2 : (3 : Int) < s.size := by omega
          have e0 : decide ((s.size : Int) ≤ 3) = false := by simp; omega
          have HF := hidIt (fun w => rIsDigit_any s[3] w)
          have hq : isDg s[3] = false := HBf.out
          rw [hq] at HF
          clear hq
          go_wp2_with fail
          refine (HF.out _).mono ?_
          rintro e w1 ⟨rfl, ew⟩
          subst w1
          go_wp2
          exact bodyPost_ret (v := .tuple #[.int .i64 0, .agg #[.int .i64 1, .int .i64 3]]) (by simp [results, Tryd.results17, go_sem, res0 r0, res1 r1]) rfl ⟨rfl, (HB.out.setCell (Nat.le_refl _) _).setCell (Nat.le_refl _) _⟩
        · rw [show pno 4 = 0 from rfl]
          have hsz2 : (4 : Int) < s.size := by omega
          have e0 : decide ((s.size : Int) ≤ 4) = false := by simp; omega
          have HF := hidIt (fun w => rIsDigit_any s[4] w)
          have hq : (s[4] == 45) = false := HBf.out
          have hq2 : (((s[4].toNat : Nat) : Int) != 45) = true := (byte_ne s[4] 45 (by decide)).trans (by rw [show UInt8.ofNat 45 = 45 from rfl, hq]; rfl)
          clear hq
          generalize isDg s[4] = dd at *
          go_wp2_with fail
          refine (HF.out _).mono ?_
          rintro e w1 ⟨rfl, ew⟩
          subst w1
          go_wp2
          exact bodyPost_ret (v := .tuple #[.int .i64 0, .agg #[.int .i64 1, .int .i64 4]]) (by simp [results, Tryd.results17, go_sem, res0 r0, res1 r1]) rfl ⟨rfl, (HB.out.setCell (Nat.le_refl _) _).setCell (Nat.le_refl _) _⟩
        · rw [show pno 5 = 1 from rfl]
          have hsz2 : (5 : Int) < s.size := by omega
          have e0 : decide ((s.size : Int) ≤ 5) = false := by simp; omega
          have HF := hidIt (fun w => rIsDigit_any s[5] w)
          have hq : isDg s[5] = false := HBf.out
          rw [hq] at HF
          clear hq
          go_wp2_with fail
          refine (HF.out _).mono ?_
          rintro e w1 ⟨rfl, ew⟩
          subst w1
          go_wp2
          exact bodyPost_ret (v := .tuple #[.int .i64 0, .agg #[.int .i64 1, .int .i64 5]]) (by simp [results, Tryd.results17, go_sem, res0 r0, res1 r1]) rfl ⟨rfl, (HB.out.setCell (Nat.le_refl _) _).setCell (Nat.le_refl _) _⟩
        · rw [show pno 6 = 1 from rfl]
          have hsz2 : (6 : Int) < s.size := by omega
          have e0 : decide ((s.size : Int) ≤ 6) = false := by simp; omega
          have HF := hidIt (fun w => rIsDigit_any s[6] w)
          have hq : isDg s[6] = false := HBf.out
          rw [hq] at HF
          clear hq
          go_wp2_with fail
          refine (HF.out _).mono ?_
          rintro e w1 ⟨rfl, ew⟩
          subst w1
          go_wp2
          exact bodyPost_ret (v := .tuple #[.int .i64 0, .agg #[.int .i64 1, .int .i64 6]]) (by simp [results, Tryd.results17, go_sem, res0 r0, res1 r1]) rfl ⟨rfl, (HB.out.setCell (Nat.le_refl _) _).setCell (Nat.le_refl _) _⟩
        · rw [show pno 7 = 1 from rfl]
          have hsz2 : (7 : Int) < s.size := by omega
          have e0 : decide ((s.size : Int) ≤ 7) = false := by simp; omega
          have HF := hidIt (fun w => rIsDigit_any s[7] w)
          have hq : (s[7] == 45) = false := HBf.out
          have hq2 : (((s[7].toNat : Nat) : Int) != 45) = true := (byte_ne s[7] 45 (by decide)).trans (by rw [show UInt8.ofNat 45 = 45 from rfl, hq]; rfl)
          clear hq
          generalize isDg s[7] = dd at *
          go_wp2_with fail
          refine (HF.out _).mono ?_
          rintro e w1 ⟨rfl, ew⟩
          subst w1
          go_wp2
          exact bodyPost_ret (v := .tuple #[.int .i64 0, .agg #[.int .i64 1, .int .i64 7]]) (by simp [results, Tryd.results17, go_sem, res0 r0, res1 r1]) rfl ⟨rfl, (HB.out.setCell (Nat.le_refl _) _).setCell (Nat.le_refl _) _⟩
        · rw [show pno 8 = 2 from rfl]
          have hsz2 : (8 : Int) < s.size := by omega
          have e0 : decide ((s.size : Int) ≤ 8) = false := by simp; omega
          have HF := hidIt (fun w => rIsDigit_any s[8] w)
          have hq : isDg s[8] = false := HBf.out
          rw [hq] at HF
          clear hq
          go_wp2_with fail
          refine (HF.out _).mono ?_
          rintro e w1 ⟨rfl, ew⟩
          subst w1
          go_wp2
          exact bodyPost_ret (v := .tuple #[.int .i64 0, .agg #[.int .i64 1, .int .i64 8]]) (by simp [results, Tryd.results17, go_sem, res0 r0, res1 r1]) rfl ⟨rfl, (HB.out.setCell (Nat.le_refl _) _).setCell (Nat.le_refl _) _⟩
        · rw [show pno 9 = 2 from rfl]
          have hsz2 : (9 : Int) < s.size := by omega
          have e0 : decide ((s.size : Int) ≤ 9) = false := by simp; omega
          have HF := hidIt (fun w => rIsDigit_any s[9] w)
          have hq : isDg s[9] = false := HBf.out
          rw [hq] at HF
          clear hq
          go_wp2_with fail
          refine (HF.out _).mono ?_
          rintro e w1 ⟨rfl, ew⟩
          subst w1
          go_wp2
          exact bodyPost_ret (v := .tuple #[.int .i64 0, .agg #[.int .i64 1, .int .i64 9]]) (by simp [results, Tryd.results17, go_sem, res0 r0, res1 r1]) rfl ⟨rfl, (HB.out.setCell (Nat.le_refl _) _).setCell (Nat.le_refl _) _⟩

set_option maxHeartbeats 8000000 in
set_option maxRecDepth 10000 in
theorem rRead_long (s : ByteArray) (w : World) (hs : s.size ≤ 3000) (hl : 10 < s.size) (hfit : Fit s 10) :
    Calls Tryd.prog 17 #[.string s] w fun e w' => e = .returned (.tuple #[.int .i64 0, .agg #[.int .i64 1, .int .i64 10]]) ∧ Below w.heap.size w w' := by
  have d10 : decide ((10 : Int) < s.size) = true := by simp; omega
  have HSz : Hid (∀ i, i < 10 → i < s.size) := fun i hi => (hfit i hi).1
  have HFi : Hid (∀ i, i < 10 → ∀ h : i < s.size, fitB i s[i] = true) := fun i hi h => (hfit i hi).2
  clear hfit
  go_enter Tryd.func17, Tryd.ntmps17
  go_wp2_with fail
  go_loopw [5, 6] (fun pt t wr => ∃ i : Nat, i ≤ 10 ∧ t = .int .i64 i ∧ pt = .int .i64 (pno i) ∧ RSt s w i wr) (fun _ t _ => (10 - RowKit.intOf t).toNat)
  case atStart => exact ⟨0, by omega, rfl, rfl, RSt.start s w _ _⟩
  case round =>
    obtain ⟨i, hi, rfl, rfl, hst⟩ := hrel
    have HSt := hidIt hst
    clear hst
    have hcs : i = 0 ∨ i = 1 ∨ i = 2 ∨ i = 3 ∨ i = 4 ∨ i = 5 ∨ i = 6 ∨ i = 7 ∨ i = 8 ∨ i = 9 ∨ i = 10 := by omega
    rcases hcs with rfl | rfl | rfl | rfl | rfl | rfl | rfl | rfl | rfl | rfl | rfl
    · rw [show pno 0 = 0 from rfl]
      have hsz : 0 < s.size := HSz.out 0 (by omega)
      have hsz2 : (0 : Int) < s.size := by omega
      have e0 : ¬ s = ByteArray.empty := by intro h; subst h; exact absurd hsz (by decide)
      have e1 : decide (s = ByteArray.empty) = false := by simpa using e0
      have HFit := hidIt (HFi.out 0 (by omega) hsz)
      have HF := hidIt (fun w => rIsDigit_any s[0] w)
      have hq : isDg s[0] = true := HFit.out
      rw [hq] at HF
      have hb := dg_bd hq
      clear hq
      have hc : wr.cell? ⟨w.heap.size + 1, 0, none⟩ = some (.int .i64 (dv s 0 0)) := HSt.out.c0
      have hz := HSt.out.f0
      have hv := dv4 s 0 HSt.out.fit 0 (by omega) (by omega)
      have hv2 : dv s 0 0 < 100000 := by have := hv.2; simp at this; omega
      have hv1 := hv.1
      clear hv
      generalize hdv : dv s 0 0 = v at *
      have HV := hidIt hdv
      clear hdv
      go_wp2_with fail
      refine (HF.out _).mono ?_
      rintro e w1 ⟨rfl, ew⟩
      subst w1
      go_wp2_with fail
      have mixed := Tryd.mixedR
      go_big_region_o
      all_goals go_wp2
      all_goals refine ⟨⟨1, by omega, by first | rfl | go_num, by first | rfl | go_num, HSt.out.set0 (by omega) hsz HFit.out _ v HV.out⟩, by simp [RowKit.intOf]; try omega⟩
    · rw [show pno 1 = 0 from rfl]
      have hsz : 1 < s.size := HSz.out 1 (by omega)
      have hsz2 : (1 : Int) < s.size := by omega
      have e0 : decide ((s.size : Int) ≤ 1) = false := by simp; omega
      have HFit := hidIt (HFi.out 1 (by omega) hsz)
      have HF := hidIt (fun w => rIsDigit_any s[1] w)
      have hq : isDg s[1] = true := HFit.out
      rw [hq] at HF
      have hb := dg_bd hq
      clear hq
      have hc : wr.cell? ⟨w.heap.size + 1, 0, none⟩ = some (.int .i64 (dv s 0 1)) := HSt.out.c0
      have hz := HSt.out.f0
      have hv := dv4 s 1 HSt.out.fit 1 (by omega) (by omega)
      have hv2 : dv s 0 1 < 100000 := by have := hv.2; simp at this; omega
      have hv1 := hv.1
      clear hv
      generalize hdv : dv s 0 1 = v at *
      have HV := hidIt hdv
      clear hdv
      go_wp2_with fail
      refine (HF.out _).mono ?_
      rintro e w1 ⟨rfl, ew⟩
      subst w1
      go_wp2_with fail
      have mixed := Tryd.mixedR
      go_big_region_o
      all_goals go_wp2
      all_goals refine ⟨⟨2, by omega, by first | rfl | go_num, by first | rfl | go_num, HSt.out.set0 (by omega) hsz HFit.out _ v HV.out⟩, by simp [RowKit.intOf]; try omega⟩
    · rw [show pno 2 = 0 from rfl]
      have hsz : 2 < s.size := HSz.out 2 (by omega)
      have hsz2 : (2 : Int) < s.size := by omega
      have e0 : decide ((s.size : Int) ≤ 2) = false := by simp; omega
      have HFit := hidIt (HFi.out 2 (by omega) hsz)
      have HF := hidIt (fun w => rIsDigit_any s[2] w)
      have hq : isDg s[2] = true := HFit.out
      rw [hq] at HF
      have hb := dg_bd hq
      clear hq
      have hc : wr.cell? ⟨w.heap.size + 1, 0, none⟩ = some (.int .i64 (dv s 0 2)) := HSt.out.c0
      have hz := HSt.out.f0
      have hv := dv4 s 2 HSt.out.fit 2 (by omega) (by omega)
      have hv2 : dv s 0 2 < 100000 := by have := hv.2; simp at this; omega
      have hv1 := hv.1
      clear hv
      generalize hdv : dv s 0 2 = v at *
      have HV := hidIt hdv
      clear hdv
      go_wp2_with fail
      refine (HF.out _).mono ?_
      rintro e w1 ⟨rfl, ew⟩
      subst w1
      go_wp2_with fail
      have mixed := Tryd.mixedR
      go_big_region_o
      all_goals go_wp2
      all_goals refine ⟨⟨3, by omega, by first | rfl | go_num, by first | rfl | go_num, HSt.out.set0 (by omega) hsz HFit.out _ v HV.out⟩, by simp [RowKit.intOf]; try omega⟩
    · rw [show pno 3 = 0 from rfl]
      have hsz : 3 < s.size := HSz.out 3 (by omega)
      have hsz2 : (3 : Int) < s.size := by omega
      have e0 : decide ((s.size : Int) ≤ 3) = false := by simp; omega
      have HFit := hidIt (HFi.out 3 (by omega) hsz)
      have HF := hidIt (fun w => rIsDigit_any s[3] w)
      have hq : isDg s[3] = true := HFit.out
      rw [hq] at HF
      have hb := dg_bd hq
      clear hq
      have hc : wr.cell? ⟨w.heap.size + 1, 0, none⟩ = some (.int .i64 (dv s 0 3)) := HSt.out.c0
      have hz := HSt.out.f0
      have hv := dv4 s 3 HSt.out.fit 3 (by omega) (by omega)
      have hv2 : dv s 0 3 < 100000 := by have := hv.2; simp at this; omega
      have hv1 := hv.1
      clear hv
      generalize hdv : dv s 0 3 = v at *
      have HV := hidIt hdv
      clear hdv
      go_wp2_with fail
      refine (HF.out _).mono ?_
      rintro e w1 ⟨rfl, ew⟩
      subst w1
      go_wp2_with fail
      have mixed := Tryd.mixedR
      go_big_region_o
      all_goals go_wp2
      all_goals refine ⟨⟨4, by omega, by first | rfl | go_num, by first | rfl | go_num, HSt.out.set0 (by omega) hsz HFit.out _ v HV.out⟩, by simp [RowKit.intOf]; try omega⟩
    · rw [show pno 4 = 0 from rfl]
      have hsz : 4 < s.size := HSz.out 4 (by omega)
      have hsz2 : (4 : Int) < s.size := by omega
      have e0 : decide ((s.size : Int) ≤ 4) = false := by simp; omega
      have HFit := hidIt (HFi.out 4 (by omega) hsz)
      have HF := hidIt (fun w => rIsDigit_any s[4] w)
      have hq : (s[4] == 45) = true := HFit.out
      have hq2 : (((s[4].toNat : Nat) : Int) != 45) = false := (byte_ne s[4] 45 (by decide)).trans (by rw [show UInt8.ofNat 45 = 45 from rfl, hq]; rfl)
      clear hq
      generalize isDg s[4] = dd at *
      go_wp2_with fail
      refine (HF.out _).mono ?_
      rintro e w1 ⟨rfl, ew⟩
      subst w1
      go_wp2_with fail
      refine ⟨⟨5, by omega, by first | rfl | go_num, by first | rfl | go_num, HSt.out.skip (by omega) hsz HFit.out⟩, by simp [RowKit.intOf]; try omega⟩
    · rw [show pno 5 = 1 from rfl]
      have hsz : 5 < s.size := HSz.out 5 (by omega)
      have hsz2 : (5 : Int) < s.size := by omega
      have e0 : decide ((s.size : Int) ≤ 5) = false := by simp; omega
      have HFit := hidIt (HFi.out 5 (by omega) hsz)
      have HF := hidIt (fun w => rIsDigit_any s[5] w)
      have hq : isDg s[5] = true := HFit.out
      rw [hq] at HF
      have hb := dg_bd hq
      clear hq
      have hc : wr.cell? ⟨w.heap.size + 1, 0 + 1, none⟩ = some (.int .i64 (dv s 5 0)) := HSt.out.c1
      have hz := HSt.out.f1
      have hv := dv5 s 5 HSt.out.fit 0 (by omega) (by omega)
      have hv2 : dv s 5 0 < 100000 := by have := hv.2; simp at this; omega
      have hv1 := hv.1
      clear hv
      generalize hdv : dv s 5 0 = v at *
      have HV := hidIt hdv
      clear hdv
      go_wp2_with fail
      refine (HF.out _).mono ?_
      rintro e w1 ⟨rfl, ew⟩
      subst w1
      go_wp2_with fail
      have mixed := Tryd.mixedR
      go_big_region_o
      all_goals go_wp2
      all_goals refine ⟨⟨6, by omega, by first | rfl | go_num, by first | rfl | go_num, HSt.out.set1 (by omega) hsz HFit.out _ v HV.out⟩, by simp [RowKit.intOf]; try omega⟩
    · rw [show pno 6 = 1 from rfl]
      have hsz : 6 < s.size := HSz.out 6 (by omega)
      have hsz2 : (6 : Int) < s.size := by omega
      have e0 : decide ((s.size : Int) ≤ 6) = false := by simp; omega
      have HFit := hidIt (HFi.out 6 (by omega) hsz)
      have HF := hidIt (fun w => rIsDigit_any s[6] w)
      have hq : isDg s[6] = true := HFit.out
      rw [hq] at HF
      have hb := dg_bd hq
      clear hq
      have hc : wr.cell? ⟨w.heap.size + 1, 0 + 1, none⟩ = some (.int .i64 (dv s 5 1)) := HSt.out.c1
      have hz := HSt.out.f1
      have hv := dv5 s 6 HSt.out.fit 1 (by omega) (by omega)
      have hv2 : dv s 5 1 < 100000 := by have := hv.2; simp at this; omega
      have hv1 := hv.1
      clear hv
      generalize hdv : dv s 5 1 = v at *
      have HV := hidIt hdv
      clear hdv
      go_wp2_with fail
      refine (HF.out _).mono ?_
      rintro e w1 ⟨rfl, ew⟩
      subst w1
      go_wp2_with fail
      have mixed := Tryd.mixedR
      go_big_region_o
      all_goals go_wp2
      all_goals refine ⟨⟨7, by omega, by first | rfl | go_num, by first | rfl | go_num, HSt.out.set1 (by omega) hsz HFit.out _ v HV.out⟩, by simp [RowKit.intOf]; try omega⟩
    · rw [show pno 7 = 1 from rfl]
      have hsz : 7 < s.size := HSz.out 7 (by omega)
      have hsz2 : (7 : Int) < s.size := by omega
      have e0 : decide ((s.size : Int) ≤ 7) = false := by simp; omega
      have HFit := hidIt (HFi.out 7 (by omega) hsz)
      have HF := hidIt (fun w => rIsDigit_any s[7] w)
      have hq : (s[7] == 45) = true := HFit.out
      have hq2 : (((s[7].toNat : Nat) : Int) != 45) = false := (byte_ne s[7] 45 (by decide)).trans (by rw [show UInt8.ofNat 45 = 45 from rfl, hq]; rfl)
      clear hq
      generalize isDg s[7] = dd at *
      go_wp2_with fail
      refine (HF.out _).mono ?_
      rintro e w1 ⟨rfl, ew⟩
      subst w1
      go_wp2_with fail
      refine ⟨⟨8, by omega, by first | rfl | go_num, by first | rfl | go_num, HSt.out.skip (by omega) hsz HFit.out⟩, by simp [RowKit.intOf]; try omega⟩
    · rw [show pno 8 = 2 from rfl]
      have hsz : 8 < s.size := HSz.out 8 (by omega)
      have hsz2 : (8 : Int) < s.size := by omega
      have e0 : decide ((s.size : Int) ≤ 8) = false := by simp; omega
      have HFit := hidIt (HFi.out 8 (by omega) hsz)
      have HF := hidIt (fun w => rIsDigit_any s[8] w)
      have hq : isDg s[8] = true := HFit.out
      rw [hq] at HF
      have hb := dg_bd hq
      clear hq
      have hc : wr.cell? ⟨w.heap.size + 1, 0 + 2, none⟩ = some (.int .i64 (dv s 8 0)) := HSt.out.c2
      have hz := HSt.out.f2
      have hv := dv8 s 8 HSt.out.fit 0 (by omega) (by omega)
      have hv2 : dv s 8 0 < 100000 := by have := hv.2; simp at this; omega
      have hv1 := hv.1
      clear hv
      generalize hdv : dv s 8 0 = v at *
      have HV := hidIt hdv
      clear hdv
      go_wp2_with fail
      refine (HF.out _).mono ?_
      rintro e w1 ⟨rfl, ew⟩
      subst w1
      go_wp2_with fail
      have mixed := Tryd.mixedR
      go_big_region_o
      all_goals go_wp2
      all_goals refine ⟨⟨9, by omega, by first | rfl | go_num, by first | rfl | go_num, HSt.out.set2 (by omega) hsz HFit.out _ v HV.out⟩, by simp [RowKit.intOf]; try omega⟩
    · rw [show pno 9 = 2 from rfl]
      have hsz : 9 < s.size := HSz.out 9 (by omega)
      have hsz2 : (9 : Int) < s.size := by omega
      have e0 : decide ((s.size : Int) ≤ 9) = false := by simp; omega
      have HFit := hidIt (HFi.out 9 (by omega) hsz)
      have HF := hidIt (fun w => rIsDigit_any s[9] w)
      have hq : isDg s[9] = true := HFit.out
      rw [hq] at HF
      have hb := dg_bd hq
      clear hq
      have hc : wr.cell? ⟨w.heap.size + 1, 0 + 2, none⟩ = some (.int .i64 (dv s 8 1)) := HSt.out.c2
      have hz := HSt.out.f2
      have hv := dv8 s 9 HSt.out.fit 1 (by omega) (by omega)
      have hv2 : dv s 8 1 < 100000 := by have := hv.2; simp at this; omega
      have hv1 := hv.1
      clear hv
      generalize hdv : dv s 8 1 = v at *
      have HV := hidIt hdv
      clear hdv
      go_wp2_with fail
      refine (HF.out _).mono ?_
      rintro e w1 ⟨rfl, ew⟩
      subst w1
      go_wp2_with fail
      have mixed := Tryd.mixedR
      go_big_region_o
      all_goals go_wp2
      all_goals refine ⟨⟨10, by omega, by first | rfl | go_num, by first | rfl | go_num, HSt.out.set2 (by omega) hsz HFit.out _ v HV.out⟩, by simp [RowKit.intOf]; try omega⟩
    · have HB := hidIt HSt.out.bel
      have r0 := HSt.out.r0
      have r1 := HSt.out.r1
      have g0 := HSt.out.g0
      have g1 := HSt.out.g1
      have HR0 := hidIt r0
      have HR1 := hidIt r1
      have HG0 := hidIt g0
      have HG1 := hidIt g1
      go_wp2
      exact bodyPost_ret (v := .tuple #[.int .i64 0, .agg #[.int .i64 1, .int .i64 10]]) (by simp [results, Tryd.results17, go_sem, res0 r0, res1 r1]) rfl ⟨rfl, (HB.out.setCell (Nat.le_refl _) _).setCell (Nat.le_refl _) _⟩

set_option maxHeartbeats 8000000 in
set_option maxRecDepth 10000 in
theorem rRead_of_ok (s : ByteArray) (v : Int) (w : World) (hl : s.size = 10) (hfit : Fit s 10)
    (hO : ∀ w, Calls Tryd.prog 11 #[.int .i64 (dv s 0 4), .int .i64 (dv s 5 2), .int .i64 (dv s 8 2)] w fun e w' => e = .returned (.tuple #[.int .i64 v, .int .i64 0]) ∧ Below w.heap.size w w') :
    Calls Tryd.prog 17 #[.string s] w fun e w' => e = .returned (.tuple #[.int .i64 v, .agg #[.int .i64 0, .int .i64 (-1)]]) ∧ Below w.heap.size w w' := by
  have d10 : decide ((10 : Int) < s.size) = false := by simp; omega
  have hs : s.size ≤ 3000 := by omega
  have HSz : Hid (∀ i, i < 10 → i < s.size) := fun i hi => (hfit i hi).1
  have HFi : Hid (∀ i, i < 10 → ∀ h : i < s.size, fitB i s[i] = true) := fun i hi h => (hfit i hi).2
  have HO := hidIt hO
  clear hO hl
  clear hfit
  go_enter Tryd.func17, Tryd.ntmps17
  go_wp2_with fail
  go_loopw [5, 6] (fun pt t wr => ∃ i : Nat, i ≤ 10 ∧ t = .int .i64 i ∧ pt = .int .i64 (pno i) ∧ RSt s w i wr) (fun _ t _ => (10 - RowKit.intOf t).toNat)
  case atStart => exact ⟨0, by omega, rfl, rfl, RSt.start s w _ _⟩
  case round =>
    obtain ⟨i, hi, rfl, rfl, hst⟩ := hrel
    have HSt := hidIt hst
    clear hst
    have hcs : i = 0 ∨ i = 1 ∨ i = 2 ∨ i = 3 ∨ i = 4 ∨ i = 5 ∨ i = 6 ∨ i = 7 ∨ i = 8 ∨ i = 9 ∨ i = 10 := by omega
    rcases hcs with rfl | rfl | rfl | rfl | rfl | rfl | rfl | rfl | rfl | rfl | rfl
    · rw [show pno 0 = 0 from rfl]
      have hsz : 0 < s.size := HSz.out 0 (by omega)
      have hsz2 : (0 : Int) < s.size := by omega
      have e0 : ¬ s = ByteArray.empty := by intro h; subst h; exact absurd hsz (by decide)
      have e1 : decide (s = ByteArray.empty) = false := by simpa using e0
      have HFit := hidIt (HFi.out 0 (by omega) hsz)
      have HF := hidIt (fun w => rIsDigit_any s[0] w)
      have hq : isDg s[0] = true := HFit.out
      rw [hq] at HF
      have hb := dg_bd hq
      clear hq
      have hc : wr.cell? ⟨w.heap.size + 1, 0, none⟩ = some (.int .i64 (dv s 0 0)) := HSt.out.c0
      have hz := HSt.out.f0
      have hv := dv4 s 0 HSt.out.fit 0 (by omega) (by omega)
      have hv2 : dv s 0 0 < 100000 := by have := hv.2; simp at this; omega
      have hv1 := hv.1
      clear hv
      generalize hdv : dv s 0 0 = v at *
      have HV := hidIt hdv
      clear hdv
      go_wp2_with fail
      refine (HF.out _).mono ?_
      rintro e w1 ⟨rfl, ew⟩
      subst w1
      go_wp2_with fail
      have mixed := Tryd.mixedR
      go_big_region_o
      all_goals go_wp2
      all_goals refine ⟨⟨1, by omega, by first | rfl | go_num, by first | rfl | go_num, HSt.out.set0 (by omega) hsz HFit.out _ v HV.out⟩, by simp [RowKit.intOf]; try omega⟩
    · rw [show pno 1 = 0 from rfl]
      have hsz : 1 < s.size := HSz.out 1 (by omega)
      have hsz2 : (1 : Int) < s.size := by omega
      have e0 : decide ((s.size : Int) ≤ 1) = false := by simp; omega
      have HFit := hidIt (HFi.out 1 (by omega) hsz)
      have HF := hidIt (fun w => rIsDigit_any s[1] w)
      have hq : isDg s[1] = true := HFit.out
      rw [hq] at HF
      have hb := dg_bd hq
      clear hq
      have hc : wr.cell? ⟨w.heap.size + 1, 0, none⟩ = some (.int .i64 (dv s 0 1)) := HSt.out.c0
      have hz := HSt.out.f0
      have hv := dv4 s 1 HSt.out.fit 1 (by omega) (by omega)
      have hv2 : dv s 0 1 < 100000 := by have := hv.2; simp at this; omega
      have hv1 := hv.1
      clear hv
      generalize hdv : dv s 0 1 = v at *
      have HV := hidIt hdv
      clear hdv
      go_wp2_with fail
      refine (HF.out _).mono ?_
      rintro e w1 ⟨rfl, ew⟩
      subst w1
      go_wp2_with fail
      have mixed := Tryd.mixedR
      go_big_region_o
      all_goals go_wp2
      all_goals refine ⟨⟨2, by omega, by first | rfl | go_num, by first | rfl | go_num, HSt.out.set0 (by omega) hsz HFit.out _ v HV.out⟩, by simp [RowKit.intOf]; try omega⟩
    · rw [show pno 2 = 0 from rfl]
      have hsz : 2 < s.size := HSz.out 2 (by omega)
      have hsz2 : (2 : Int) < s.size := by omega
      have e0 : decide ((s.size : Int) ≤ 2) = false := by simp; omega
      have HFit := hidIt (HFi.out 2 (by omega) hsz)
      have HF := hidIt (fun w => rIsDigit_any s[2] w)
      have hq : isDg s[2] = true := HFit.out
      rw [hq] at HF
      have hb := dg_bd hq
      clear hq
      have hc : wr.cell? ⟨w.heap.size + 1, 0, none⟩ = some (.int .i64 (dv s 0 2)) := HSt.out.c0
      have hz := HSt.out.f0
      have hv := dv4 s 2 HSt.out.fit 2 (by omega) (by omega)
      have hv2 : dv s 0 2 < 100000 := by have := hv.2; simp at this; omega
      have hv1 := hv.1
      clear hv
      generalize hdv : dv s 0 2 = v at *
      have HV := hidIt hdv
      clear hdv
      go_wp2_with fail
      refine (HF.out _).mono ?_
      rintro e w1 ⟨rfl, ew⟩
      subst w1
      go_wp2_with fail
      have mixed := Tryd.mixedR
      go_big_region_o
      all_goals go_wp2
      all_goals refine ⟨⟨3, by omega, by first | rfl | go_num, by first | rfl | go_num, HSt.out.set0 (by omega) hsz HFit.out _ v HV.out⟩, by simp [RowKit.intOf]; try omega⟩
    · rw [show pno 3 = 0 from rfl]
      have hsz : 3 < s.size := HSz.out 3 (by omega)
      have hsz2 : (3 : Int) < s.size := by omega
      have e0 : decide ((s.size : Int) ≤ 3) = false := by simp; omega
      have HFit := hidIt (HFi.out 3 (by omega) hsz)
      have HF := hidIt (fun w => rIsDigit_any s[3] w)
      have hq : isDg s[3] = true := HFit.out
      rw [hq] at HF
      have hb := dg_bd hq
      clear hq
      have hc : wr.cell? ⟨w.heap.size + 1, 0, none⟩ = some (.int .i64 (dv s 0 3)) := HSt.out.c0
      have hz := HSt.out.f0
      have hv := dv4 s 3 HSt.out.fit 3 (by omega) (by omega)
      have hv2 : dv s 0 3 < 100000 := by have := hv.2; simp at this; omega
      have hv1 := hv.1
      clear hv
      generalize hdv : dv s 0 3 = v at *
      have HV := hidIt hdv
      clear hdv
      go_wp2_with fail
      refine (HF.out _).mono ?_
      rintro e w1 ⟨rfl, ew⟩
      subst w1
      go_wp2_with fail
      have mixed := Tryd.mixedR
      go_big_region_o
      all_goals go_wp2
      all_goals refine ⟨⟨4, by omega, by first | rfl | go_num, by first | rfl | go_num, HSt.out.set0 (by omega) hsz HFit.out _ v HV.out⟩, by simp [RowKit.intOf]; try omega⟩
    · rw [show pno 4 = 0 from rfl]
      have hsz : 4 < s.size := HSz.out 4 (by omega)
      have hsz2 : (4 : Int) < s.size := by omega
      have e0 : decide ((s.size : Int) ≤ 4) = false := by simp; omega
      have HFit := hidIt (HFi.out 4 (by omega) hsz)
      have HF := hidIt (fun w => rIsDigit_any s[4] w)
      have hq : (s[4] == 45) = true := HFit.out
      have hq2 : (((s[4].toNat : Nat) : Int) != 45) = false := (byte_ne s[4] 45 (by decide)).trans (by rw [show UInt8.ofNat 45 = 45 from rfl, hq]; rfl)
      clear hq
      generalize isDg s[4] = dd at *
      go_wp2_with fail
      refine (HF.out _).mono ?_
      rintro e w1 ⟨rfl, ew⟩
      subst w1
      go_wp2_with fail
      refine ⟨⟨5, by omega, by first | rfl | go_num, by first | rfl | go_num, HSt.out.skip (by omega) hsz HFit.out⟩, by simp [RowKit.intOf]; try omega⟩
    · rw [show pno 5 = 1 from rfl]
      have hsz : 5 < s.size := HSz.out 5 (by omega)
      have hsz2 : (5 : Int) < s.size := by omega
      have e0 : decide ((s.size : Int) ≤ 5) = false := by simp; omega
      have HFit := hidIt (HFi.out 5 (by omega) hsz)
      have HF := hidIt (fun w => rIsDigit_any s[5] w)
      have hq : isDg s[5] = true := HFit.out
      rw [hq] at HF
      have hb := dg_bd hq
      clear hq
      have hc : wr.cell? ⟨w.heap.size + 1, 0 + 1, none⟩ = some (.int .i64 (dv s 5 0)) := HSt.out.c1
      have hz := HSt.out.f1
      have hv := dv5 s 5 HSt.out.fit 0 (by omega) (by omega)
      have hv2 : dv s 5 0 < 100000 := by have := hv.2; simp at this; omega
      have hv1 := hv.1
      clear hv
      generalize hdv : dv s 5 0 = v at *
      have HV := hidIt hdv
      clear hdv
      go_wp2_with fail
      refine (HF.out _).mono ?_
      rintro e w1 ⟨rfl, ew⟩
      subst w1
      go_wp2_with fail
      have mixed := Tryd.mixedR
      go_big_region_o
      all_goals go_wp2
      all_goals refine ⟨⟨6, by omega, by first | rfl | go_num, by first | rfl | go_num, HSt.out.set1 (by omega) hsz HFit.out _ v HV.out⟩, by simp [RowKit.intOf]; try omega⟩
    · rw [show pno 6 = 1 from rfl]
      have hsz : 6 < s.size := HSz.out 6 (by omega)
      have hsz2 : (6 : Int) < s.size := by omega
      have e0 : decide ((s.size : Int) ≤ 6) = false := by simp; omega
      have HFit := hidIt (HFi.out 6 (by omega) hsz)
      have HF := hidIt (fun w => rIsDigit_any s[6] w)
      have hq : isDg s[6] = true := HFit.out
      rw [hq] at HF
      have hb := dg_bd hq
      clear hq
      have hc : wr.cell? ⟨w.heap.size + 1, 0 + 1, none⟩ = some (.int .i64 (dv s 5 1)) := HSt.out.c1
      have hz := HSt.out.f1
      have hv := dv5 s 6 HSt.out.fit 1 (by omega) (by omega)
      have hv2 : dv s 5 1 < 100000 := by have := hv.2; simp at this; omega
      have hv1 := hv.1
      clear hv
      generalize hdv : dv s 5 1 = v at *
      have HV := hidIt hdv
      clear hdv
      go_wp2_with fail
      refine (HF.out _).mono ?_
      rintro e w1 ⟨rfl, ew⟩
      subst w1
      go_wp2_with fail
      have mixed := Tryd.mixedR
      go_big_region_o
      all_goals go_wp2
      all_goals refine ⟨⟨7, by omega, by first | rfl | go_num, by first | rfl | go_num, HSt.out.set1 (by omega) hsz HFit.out _ v HV.out⟩, by simp [RowKit.intOf]; try omega⟩
    · rw [show pno 7 = 1 from rfl]
      have hsz : 7 < s.size := HSz.out 7 (by omega)
      have hsz2 : (7 : Int) < s.size := by omega
      have e0 : decide ((s.size : Int) ≤ 7) = false := by simp; omega
      have HFit := hidIt (HFi.out 7 (by omega) hsz)
      have HF := hidIt (fun w => rIsDigit_any s[7] w)
      have hq : (s[7] == 45) = true := HFit.out
      have hq2 : (((s[7].toNat : Nat) : Int) != 45) = false := (byte_ne s[7] 45 (by decide)).trans (by rw [show UInt8.ofNat 45 = 45 from rfl, hq]; rfl)
      clear hq
      generalize isDg s[7] = dd at *
      go_wp2_with fail
      refine (HF.out _).mono ?_
      rintro e w1 ⟨rfl, ew⟩
      subst w1
      go_wp2_with fail
      refine ⟨⟨8, by omega, by first | rfl | go_num, by first | rfl | go_num, HSt.out.skip (by omega) hsz HFit.out⟩, by simp [RowKit.intOf]; try omega⟩
    · rw [show pno 8 = 2 from rfl]
      have hsz : 8 < s.size := HSz.out 8 (by omega)
      have hsz2 : (8 : Int) < s.size := by omega
      have e0 : decide ((s.size : Int) ≤ 8) = false := by simp; omega
      have HFit := hidIt (HFi.out 8 (by omega) hsz)
      have HF := hidIt (fun w => rIsDigit_any s[8] w)
      have hq : isDg s[8] = true := HFit.out
      rw [hq] at HF
      have hb := dg_bd hq
      clear hq
      have hc : wr.cell? ⟨w.heap.size + 1, 0 + 2, none⟩ = some (.int .i64 (dv s 8 0)) := HSt.out.c2
      have hz := HSt.out.f2
      have hv := dv8 s 8 HSt.out.fit 0 (by omega) (by omega)
      have hv2 : dv s 8 0 < 100000 := by have := hv.2; simp at this; omega
      have hv1 := hv.1
      clear hv
      generalize hdv : dv s 8 0 = v at *
      have HV := hidIt hdv
      clear hdv
      go_wp2_with fail
      refine (HF.out _).mono ?_
      rintro e w1 ⟨rfl, ew⟩
      subst w1
      go_wp2_with fail
      have mixed := Tryd.mixedR
      go_big_region_o
      all_goals go_wp2
      all_goals refine ⟨⟨9, by omega, by first | rfl | go_num, by first | rfl | go_num, HSt.out.set2 (by omega) hsz HFit.out _ v HV.out⟩, by simp [RowKit.intOf]; try omega⟩
    · rw [show pno 9 = 2 from rfl]
      have hsz : 9 < s.size := HSz.out 9 (by omega)
      have hsz2 : (9 : Int) < s.size := by omega
      have e0 : decide ((s.size : Int) ≤ 9) = false := by simp; omega
      have HFit := hidIt (HFi.out 9 (by omega) hsz)
      have HF := hidIt (fun w => rIsDigit_any s[9] w)
      have hq : isDg s[9] = true := HFit.out
      rw [hq] at HF
      have hb := dg_bd hq
      clear hq
      have hc : wr.cell? ⟨w.heap.size + 1, 0 + 2, none⟩ = some (.int .i64 (dv s 8 1)) := HSt.out.c2
      have hz := HSt.out.f2
      have hv := dv8 s 9 HSt.out.fit 1 (by omega) (by omega)
      have hv2 : dv s 8 1 < 100000 := by have := hv.2; simp at this; omega
      have hv1 := hv.1
      clear hv
      generalize hdv : dv s 8 1 = v at *
      have HV := hidIt hdv
      clear hdv
      go_wp2_with fail
      refine (HF.out _).mono ?_
      rintro e w1 ⟨rfl, ew⟩
      subst w1
      go_wp2_with fail
      have mixed := Tryd.mixedR
      go_big_region_o
      all_goals go_wp2
      all_goals refine ⟨⟨10, by omega, by first | rfl | go_num, by first | rfl | go_num, HSt.out.set2 (by omega) hsz HFit.out _ v HV.out⟩, by simp [RowKit.intOf]; try omega⟩
    · have HB := hidIt HSt.out.bel
      have r0 := HSt.out.r0
      have r1 := HSt.out.r1
      have g0 := HSt.out.g0
      have g1 := HSt.out.g1
      have HR0 := hidIt r0
      have HR1 := hidIt r1
      have HG0 := hidIt g0
      have HG1 := hidIt g1
      have hlt : w.heap.size < wr.heap.size := by
        rcases Nat.lt_or_ge w.heap.size wr.heap.size with k | k
        · exact k
        · simp [World.cell?, Array.getElem?_eq_none k] at r0
      have hc0 : wr.cell? ⟨w.heap.size + 1, 0, none⟩ = some (.int .i64 (dv s 0 4)) := HSt.out.c0
      have hc1 : wr.cell? ⟨w.heap.size + 1, 0 + 1, none⟩ = some (.int .i64 (dv s 5 2)) := HSt.out.c1
      have hc2 : wr.cell? ⟨w.heap.size + 1, 0 + 2, none⟩ = some (.int .i64 (dv s 8 2)) := HSt.out.c2
      clear r0 r1 g0 g1
      go_wp2_with fail
      go_region_with (go_at_call 11; refine (HO.out _).mono ?_; rintro e w1 ⟨rfl, hb1⟩)
      all_goals
        have HB1 := hidIt hb1
        clear hb1
        have r0 := (HB1.out.cell (p := ⟨w.heap.size, 0, none⟩) (by simpa using hlt)).trans (by simpa using HR0.out)
        have r1 := (HB1.out.cell (p := ⟨w.heap.size, 0 + 1, none⟩) (by simpa using hlt)).trans (by simpa using HR1.out)
        have g0 := (HB1.out.frozen (p := ⟨w.heap.size, 0, none⟩) (by simpa using hlt)).trans (by simpa using HG0.out)
        have g1 := (HB1.out.frozen (p := ⟨w.heap.size, 0 + 1, none⟩) (by simpa using hlt)).trans (by simpa using HG1.out)
        have HB2 := hidIt (HB.out.drew.trans (HB1.out.mono (by simpa using HB.out.size)))
        go_wp2
        exact bodyPost_ret (v := .tuple #[.int .i64 v, .agg #[.int .i64 0, .int .i64 (-1)]]) (by simp [results, Tryd.results17, go_sem, res0 r0, res1 r1]) rfl ⟨rfl, (HB2.out.setCell (Nat.le_refl _) _).setCell (Nat.le_refl _) _⟩

set_option maxHeartbeats 8000000 in
set_option maxRecDepth 10000 in
theorem rRead_of_bad (s : ByteArray) (w : World) (hl : s.size = 10) (hfit : Fit s 10)
    (hO : ∀ w, Calls Tryd.prog 11 #[.int .i64 (dv s 0 4), .int .i64 (dv s 5 2), .int .i64 (dv s 8 2)] w fun e w' => e = .returned (.tuple #[.int .i64 0, .int .i64 4]) ∧ Below w.heap.size w w') :
    Calls Tryd.prog 17 #[.string s] w fun e w' => e = .returned (.tuple #[.int .i64 0, .agg #[.int .i64 4, .int .i64 0]]) ∧ Below w.heap.size w w' := by
  have d10 : decide ((10 : Int) < s.size) = false := by simp; omega
  have hs : s.size ≤ 3000 := by omega
  have HSz : Hid (∀ i, i < 10 → i < s.size) := fun i hi => (hfit i hi).1
  have HFi : Hid (∀ i, i < 10 → ∀ h : i < s.size, fitB i s[i] = true) := fun i hi h => (hfit i hi).2
  have HO := hidIt hO
  clear hO hl
  clear hfit
  go_enter Tryd.func17, Tryd.ntmps17
  go_wp2_with fail
  go_loopw [5, 6] (fun pt t wr => ∃ i : Nat, i ≤ 10 ∧ t = .int .i64 i ∧ pt = .int .i64 (pno i) ∧ RSt s w i wr) (fun _ t _ => (10 - RowKit.intOf t).toNat)
  case atStart => exact ⟨0, by omega, rfl, rfl, RSt.start s w _ _⟩
  case round =>
    obtain ⟨i, hi, rfl, rfl, hst⟩ := hrel
    have HSt := hidIt hst
    clear hst
    have hcs : i = 0 ∨ i = 1 ∨ i = 2 ∨ i = 3 ∨ i = 4 ∨ i = 5 ∨ i = 6 ∨ i = 7 ∨ i = 8 ∨ i = 9 ∨ i = 10 := by omega
    rcases hcs with rfl | rfl | rfl | rfl | rfl | rfl | rfl | rfl | rfl | rfl | rfl
    · rw [show pno 0 = 0 from rfl]
      have hsz : 0 < s.size := HSz.out 0 (by omega)
      have hsz2 : (0 : Int) < s.size := by omega
      have e0 : ¬ s = ByteArray.empty := by intro h; subst h; exact absurd hsz (by decide)
      have e1 : decide (s = ByteArray.empty) = false := by simpa using e0
      have HFit := hidIt (HFi.out 0 (by omega) hsz)
      have HF := hidIt (fun w => rIsDigit_any s[0] w)
      have hq : isDg s[0] = true := HFit.out
      rw [hq] at HF
      have hb := dg_bd hq
      clear hq
      have hc : wr.cell? ⟨w.heap.size + 1, 0, none⟩ = some (.int .i64 (dv s 0 0)) := HSt.out.c0
      have hz := HSt.out.f0
      have hv := dv4 s 0 HSt.out.fit 0 (by omega) (by omega)
      have hv2 : dv s 0 0 < 100000 := by have := hv.2; simp at this; omega
      have hv1 := hv.1
      clear hv
      generalize hdv : dv s 0 0 = v at *
      have HV := hidIt hdv
      clear hdv
      go_wp2_with fail
      refine (HF.out _).mono ?_
      rintro e w1 ⟨rfl, ew⟩
      subst w1
      go_wp2_with fail
      have mixed := Tryd.mixedR
      go_big_region_o
      all_goals go_wp2
      all_goals refine ⟨⟨1, by omega, by first | rfl | go_num, by first | rfl | go_num, HSt.out.set0 (by omega) hsz HFit.out _ v HV.out⟩, by simp [RowKit.intOf]; try omega⟩
    · rw [show pno 1 = 0 from rfl]
      have hsz : 1 < s.size := HSz.out 1 (by omega)
      have hsz2 : (1 : Int) < s.size := by omega
      have e0 : decide ((s.size : Int) ≤ 1) = false := by simp; omega
      have HFit := hidIt (HFi.out 1 (by omega) hsz)
      have HF := hidIt (fun w => rIsDigit_any s[1] w)
      have hq : isDg s[1] = true := HFit.out
      rw [hq] at HF
      have hb := dg_bd hq
      clear hq
      have hc : wr.cell? ⟨w.heap.size + 1, 0, none⟩ = some (.int .i64 (dv s 0 1)) := HSt.out.c0
      have hz := HSt.out.f0
      have hv := dv4 s 1 HSt.out.fit 1 (by omega) (by omega)
      have hv2 : dv s 0 1 < 100000 := by have := hv.2; simp at this; omega
      have hv1 := hv.1
      clear hv
      generalize hdv : dv s 0 1 = v at *
      have HV := hidIt hdv
      clear hdv
      go_wp2_with fail
      refine (HF.out _).mono ?_
      rintro e w1 ⟨rfl, ew⟩
      subst w1
      go_wp2_with fail
      have mixed := Tryd.mixedR
      go_big_region_o
      all_goals go_wp2
      all_goals refine ⟨⟨2, by omega, by first | rfl | go_num, by first | rfl | go_num, HSt.out.set0 (by omega) hsz HFit.out _ v HV.out⟩, by simp [RowKit.intOf]; try omega⟩
    · rw [show pno 2 = 0 from rfl]
      have hsz : 2 < s.size := HSz.out 2 (by omega)
      have hsz2 : (2 : Int) < s.size := by omega
      have e0 : decide ((s.size : Int) ≤ 2) = false := by simp; omega
      have HFit := hidIt (HFi.out 2 (by omega) hsz)
      have HF := hidIt (fun w => rIsDigit_any s[2] w)
      have hq : isDg s[2] = true := HFit.out
      rw [hq] at HF
      have hb := dg_bd hq
      clear hq
      have hc : wr.cell? ⟨w.heap.size + 1, 0, none⟩ = some (.int .i64 (dv s 0 2)) := HSt.out.c0
      have hz := HSt.out.f0
      have hv := dv4 s 2 HSt.out.fit 2 (by omega) (by omega)
      have hv2 : dv s 0 2 < 100000 := by have := hv.2; simp at this; omega
      have hv1 := hv.1
      clear hv
      generalize hdv : dv s 0 2 = v at *
      have HV := hidIt hdv
      clear hdv
      go_wp2_with fail
      refine (HF.out _).mono ?_
      rintro e w1 ⟨rfl, ew⟩
      subst w1
      go_wp2_with fail
      have mixed := Tryd.mixedR
      go_big_region_o
      all_goals go_wp2
      all_goals refine ⟨⟨3, by omega, by first | rfl | go_num, by first | rfl | go_num, HSt.out.set0 (by omega) hsz HFit.out _ v HV.out⟩, by simp [RowKit.intOf]; try omega⟩
    · rw [show pno 3 = 0 from rfl]
      have hsz : 3 < s.size := HSz.out 3 (by omega)
      have hsz2 : (3 : Int) < s.size := by omega
      have e0 : decide ((s.size : Int) ≤ 3) = false := by simp; omega
      have HFit := hidIt (HFi.out 3 (by omega) hsz)
      have HF := hidIt (fun w => rIsDigit_any s[3] w)
      have hq : isDg s[3] = true := HFit.out
      rw [hq] at HF
      have hb := dg_bd hq
      clear hq
      have hc : wr.cell? ⟨w.heap.size + 1, 0, none⟩ = some (.int .i64 (dv s 0 3)) := HSt.out.c0
      have hz := HSt.out.f0
      have hv := dv4 s 3 HSt.out.fit 3 (by omega) (by omega)
      have hv2 : dv s 0 3 < 100000 := by have := hv.2; simp at this; omega
      have hv1 := hv.1
      clear hv
      generalize hdv : dv s 0 3 = v at *
      have HV := hidIt hdv
      clear hdv
      go_wp2_with fail
      refine (HF.out _).mono ?_
      rintro e w1 ⟨rfl, ew⟩
      subst w1
      go_wp2_with fail
      have mixed := Tryd.mixedR
      go_big_region_o
      all_goals go_wp2
      all_goals refine ⟨⟨4, by omega, by first | rfl | go_num, by first | rfl | go_num, HSt.out.set0 (by omega) hsz HFit.out _ v HV.out⟩, by simp [RowKit.intOf]; try omega⟩
    · rw [show pno 4 = 0 from rfl]
      have hsz : 4 < s.size := HSz.out 4 (by omega)
      have hsz2 : (4 : Int) < s.size := by omega
      have e0 : decide ((s.size : Int) ≤ 4) = false := by simp; omega
      have HFit := hidIt (HFi.out 4 (by omega) hsz)
      have HF := hidIt (fun w => rIsDigit_any s[4] w)
      have hq : (s[4] == 45) = true := HFit.out
      have hq2 : (((s[4].toNat : Nat) : Int) != 45) = false := (byte_ne s[4] 45 (by decide)).trans (by rw [show UInt8.ofNat 45 = 45 from rfl, hq]; rfl)
      clear hq
      generalize isDg s[4] = dd at *
      go_wp2_with fail
      refine (HF.out _).mono ?_
      rintro e w1 ⟨rfl, ew⟩
      subst w1
      go_wp2_with fail
      refine ⟨⟨5, by omega, by first | rfl | go_num, by first | rfl | go_num, HSt.out.skip (by omega) hsz HFit.out⟩, by simp [RowKit.intOf]; try omega⟩
    · rw [show pno 5 = 1 from rfl]
      have hsz : 5 < s.size := HSz.out 5 (by omega)
      have hsz2 : (5 : Int) < s.size := by omega
      have e0 : decide ((s.size : Int) ≤ 5) = false := by simp; omega
      have HFit := hidIt (HFi.out 5 (by omega) hsz)
      have HF := hidIt (fun w => rIsDigit_any s[5] w)
      have hq : isDg s[5] = true := HFit.out
      rw [hq] at HF
      have hb := dg_bd hq
      clear hq
      have hc : wr.cell? ⟨w.heap.size + 1, 0 + 1, none⟩ = some (.int .i64 (dv s 5 0)) := HSt.out.c1
      have hz := HSt.out.f1
      have hv := dv5 s 5 HSt.out.fit 0 (by omega) (by omega)
      have hv2 : dv s 5 0 < 100000 := by have := hv.2; simp at this; omega
      have hv1 := hv.1
      clear hv
      generalize hdv : dv s 5 0 = v at *
      have HV := hidIt hdv
      clear hdv
      go_wp2_with fail
      refine (HF.out _).mono ?_
      rintro e w1 ⟨rfl, ew⟩
      subst w1
      go_wp2_with fail
      have mixed := Tryd.mixedR
      go_big_region_o
      all_goals go_wp2
      all_goals refine ⟨⟨6, by omega, by first | rfl | go_num, by first | rfl | go_num, HSt.out.set1 (by omega) hsz HFit.out _ v HV.out⟩, by simp [RowKit.intOf]; try omega⟩
    · rw [show pno 6 = 1 from rfl]
      have hsz : 6 < s.size := HSz.out 6 (by omega)
      have hsz2 : (6 : Int) < s.size := by omega
      have e0 : decide ((s.size : Int) ≤ 6) = false := by simp; omega
      have HFit := hidIt (HFi.out 6 (by omega) hsz)
      have HF := hidIt (fun w => rIsDigit_any s[6] w)
      have hq : isDg s[6] = true := HFit.out
      rw [hq] at HF
      have hb := dg_bd hq
      clear hq
      have hc : wr.cell? ⟨w.heap.size + 1, 0 + 1, none⟩ = some (.int .i64 (dv s 5 1)) := HSt.out.c1
      have hz := HSt.out.f1
      have hv := dv5 s 6 HSt.out.fit 1 (by omega) (by omega)
      have hv2 : dv s 5 1 < 100000 := by have := hv.2; simp at this; omega
      have hv1 := hv.1
      clear hv
      generalize hdv : dv s 5 1 = v at *
      have HV := hidIt hdv
      clear hdv
      go_wp2_with fail
      refine (HF.out _).mono ?_
      rintro e w1 ⟨rfl, ew⟩
      subst w1
      go_wp2_with fail
      have mixed := Tryd.mixedR
      go_big_region_o
      all_goals go_wp2
      all_goals refine ⟨⟨7, by omega, by first | rfl | go_num, by first | rfl | go_num, HSt.out.set1 (by omega) hsz HFit.out _ v HV.out⟩, by simp [RowKit.intOf]; try omega⟩
    · rw [show pno 7 = 1 from rfl]
      have hsz : 7 < s.size := HSz.out 7 (by omega)
      have hsz2 : (7 : Int) < s.size := by omega
      have e0 : decide ((s.size : Int) ≤ 7) = false := by simp; omega
      have HFit := hidIt (HFi.out 7 (by omega) hsz)
      have HF := hidIt (fun w => rIsDigit_any s[7] w)
      have hq : (s[7] == 45) = true := HFit.out
      have hq2 : (((s[7].toNat : Nat) : Int) != 45) = false := (byte_ne s[7] 45 (by decide)).trans (by rw [show UInt8.ofNat 45 = 45 from rfl, hq]; rfl)
      clear hq
      generalize isDg s[7] = dd at *
      go_wp2_with fail
      refine (HF.out _).mono ?_
      rintro e w1 ⟨rfl, ew⟩
      subst w1
      go_wp2_with fail
      refine ⟨⟨8, by omega, by first | rfl | go_num, by first | rfl | go_num, HSt.out.skip (by omega) hsz HFit.out⟩, by simp [RowKit.intOf]; try omega⟩
    · rw [show pno 8 = 2 from rfl]
      have hsz : 8 < s.size := HSz.out 8 (by omega)
      have hsz2 : (8 : Int) < s.size := by omega
      have e0 : decide ((s.size : Int) ≤ 8) = false := by simp; omega
      have HFit := hidIt (HFi.out 8 (by omega) hsz)
      have HF := hidIt (fun w => rIsDigit_any s[8] w)
      have hq : isDg s[8] = true := HFit.out
      rw [hq] at HF
      have hb := dg_bd hq
      clear hq
      have hc : wr.cell? ⟨w.heap.size + 1, 0 + 2, none⟩ = some (.int .i64 (dv s 8 0)) := HSt.out.c2
      have hz := HSt.out.f2
      have hv := dv8 s 8 HSt.out.fit 0 (by omega) (by omega)
      have hv2 : dv s 8 0 < 100000 := by have := hv.2; simp at this; omega
      have hv1 := hv.1
      clear hv
      generalize hdv : dv s 8 0 = v at *
      have HV := hidIt hdv
      clear hdv
      go_wp2_with fail
      refine (HF.out _).mono ?_
      rintro e w1 ⟨rfl, ew⟩
      subst w1
      go_wp2_with fail
      have mixed := Tryd.mixedR
      go_big_region_o
      all_goals go_wp2
      all_goals refine ⟨⟨9, by omega, by first | rfl | go_num, by first | rfl | go_num, HSt.out.set2 (by omega) hsz HFit.out _ v HV.out⟩, by simp [RowKit.intOf]; try omega⟩
    · rw [show pno 9 = 2 from rfl]
      have hsz : 9 < s.size := HSz.out 9 (by omega)
      have hsz2 : (9 : Int) < s.size := by omega
      have e0 : decide ((s.size : Int) ≤ 9) = false := by simp; omega
      have HFit := hidIt (HFi.out 9 (by omega) hsz)
      have HF := hidIt (fun w => rIsDigit_any s[9] w)
      have hq : isDg s[9] = true := HFit.out
      rw [hq] at HF
      have hb := dg_bd hq
      clear hq
      have hc : wr.cell? ⟨w.heap.size + 1, 0 + 2, none⟩ = some (.int .i64 (dv s 8 1)) := HSt.out.c2
      have hz := HSt.out.f2
      have hv := dv8 s 9 HSt.out.fit 1 (by omega) (by omega)
      have hv2 : dv s 8 1 < 100000 := by have := hv.2; simp at this; omega
      have hv1 := hv.1
      clear hv
      generalize hdv : dv s 8 1 = v at *
      have HV := hidIt hdv
      clear hdv
      go_wp2_with fail
      refine (HF.out _).mono ?_
      rintro e w1 ⟨rfl, ew⟩
      subst w1
      go_wp2_with fail
      have mixed := Tryd.mixedR
      go_big_region_o
      all_goals go_wp2
      all_goals refine ⟨⟨10, by omega, by first | rfl | go_num, by first | rfl | go_num, HSt.out.set2 (by omega) hsz HFit.out _ v HV.out⟩, by simp [RowKit.intOf]; try omega⟩
    · have HB := hidIt HSt.out.bel
      have r0 := HSt.out.r0
      have r1 := HSt.out.r1
      have g0 := HSt.out.g0
      have g1 := HSt.out.g1
      have HR0 := hidIt r0
      have HR1 := hidIt r1
      have HG0 := hidIt g0
      have HG1 := hidIt g1
      have hlt : w.heap.size < wr.heap.size := by
        rcases Nat.lt_or_ge w.heap.size wr.heap.size with k | k
        · exact k
        · simp [World.cell?, Array.getElem?_eq_none k] at r0
      have hc0 : wr.cell? ⟨w.heap.size + 1, 0, none⟩ = some (.int .i64 (dv s 0 4)) := HSt.out.c0
      have hc1 : wr.cell? ⟨w.heap.size + 1, 0 + 1, none⟩ = some (.int .i64 (dv s 5 2)) := HSt.out.c1
      have hc2 : wr.cell? ⟨w.heap.size + 1, 0 + 2, none⟩ = some (.int .i64 (dv s 8 2)) := HSt.out.c2
      clear r0 r1 g0 g1
      go_wp2_with fail
      go_region_with (go_at_call 11; refine (HO.out _).mono ?_; rintro e w1 ⟨rfl, hb1⟩)
      all_goals
        have HB1 := hidIt hb1
        clear hb1
        have r0 := (HB1.out.cell (p := ⟨w.heap.size, 0, none⟩) (by simpa using hlt)).trans (by simpa using HR0.out)
        have r1 := (HB1.out.cell (p := ⟨w.heap.size, 0 + 1, none⟩) (by simpa using hlt)).trans (by simpa using HR1.out)
        have g0 := (HB1.out.frozen (p := ⟨w.heap.size, 0, none⟩) (by simpa using hlt)).trans (by simpa using HG0.out)
        have g1 := (HB1.out.frozen (p := ⟨w.heap.size, 0 + 1, none⟩) (by simpa using hlt)).trans (by simpa using HG1.out)
        have HB2 := hidIt (HB.out.drew.trans (HB1.out.mono (by simpa using HB.out.size)))
        go_wp2
        exact bodyPost_ret (v := .tuple #[.int .i64 0, .agg #[.int .i64 4, .int .i64 0]]) (by simp [results, Tryd.results17, go_sem, res0 r0, res1 r1]) rfl ⟨rfl, (HB2.out.setCell (Nat.le_refl _) _).setCell (Nat.le_refl _) _⟩
end Go.Proofs.YtepljjagfoiinaaDoor

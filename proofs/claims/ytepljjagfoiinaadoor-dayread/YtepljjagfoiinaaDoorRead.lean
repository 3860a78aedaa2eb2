/-
  day.Read by contracts (written by tools/genread.py).
-/
import Derived.Test.YtepljjagfoiinaaDoorAgree
import Derived.Test.YtepljjagfoiinaaDoorBytePlain
import Derived.BigCall
import Derived.BigGuard
import Derived.WalkKit
import Derived.Shelf.RegionOpenPlain
import Derived.BigRegion
namespace Go.Proofs.YtepljjagfoiinaaDoor
open Go.RowKit Go.Extern.Stop Go.Stop Go.Extern

theorem Tryd.mixedR : Tryd.prog.follows .mixedOrders = true := by kernel_rfl
theorem isDigit_any (c : UInt8) (w : World) : Calls Tryd.prog 56 #[.int .u8 c.toNat] w fun e w' => e = .returned (.bool (isDg c)) ∧ w' = w := by
  have hd := dg_raw c
  by_cases h0 : (48 : Int) ≤ c.toNat
  · have HE : Hid (isDg c = decide ((c.toNat : Int) ≤ 57)) := by show _ = _; rw [← hd]; simp [h0]
    have h1 : decide ((48 : Int) ≤ c.toNat) = true := by simpa using h0
    clear hd
    go_enter Tryd.func56, Tryd.ntmps56
    go_wp2
    go_ret
    exact ⟨ret_bool HE.out.symm, rfl⟩
  · have HE : Hid (isDg c = false) := by show _ = _; rw [← hd]; simp [h0]
    have h1 : decide ((48 : Int) ≤ c.toNat) = false := by simpa using h0
    clear hd
    go_enter Tryd.func56, Tryd.ntmps56
    go_wp2
    go_ret
    exact ⟨ret_bool HE.out.symm, rfl⟩
theorem fits_d (c : UInt8) (w : World) : Calls Tryd.prog 41 #[.int .u8 100, .int .u8 c.toNat] w fun e w' => e = .returned (.bool (isDg c)) ∧ w' = w := by
  go_enter Tryd.func41, Tryd.ntmps41
  go_wp2_with fail
  refine (isDigit_any c _).mono ?_
  rintro e w1 ⟨rfl, ew⟩
  subst w1
  go_wp2
  go_ret
  exact ⟨rfl, rfl⟩
theorem fits_m (c : UInt8) (w : World) : Calls Tryd.prog 41 #[.int .u8 45, .int .u8 c.toNat] w fun e w' => e = .returned (.bool (c == 45)) ∧ w' = w := by
  have HE := hidIt (byte_is c 45 (by decide))
  go_enter Tryd.func41, Tryd.ntmps41
  go_wp2
  go_ret
  exact ⟨ret_bool HE.out, rfl⟩

/-- What a fault that was made anew looks like. -/
def IsFault (w w' : World) (e : Ending) (pos : Int) (a : Addr) : Prop :=
  ∃ blk : Nat, e = .returned (.tuple #[.int .i64 0, .iface 62 (.pointer (some ⟨blk, 0, none⟩))]) ∧ Below w.heap.size w w' ∧ w.heap.size ≤ blk ∧
    w'.cell? ⟨blk, 0, none⟩ = some (.int .i64 pos) ∧ w'.cell? ⟨blk, 0 + 1, none⟩ = some (.iface 145 (.pointer (some a)))
theorem fault_mk {w w3 : World} (hb : Below w.heap.size w w3) (pos : Int) (a : Addr) :
    IsFault w (w3.alloc (.cells #[.int .i64 pos, .iface 145 (.pointer (some a))] 64)).drew (.returned (.tuple #[.int .i64 0, .iface 62 (.pointer (some ⟨w3.heap.size, 0, none⟩))])) pos a :=
  ⟨w3.heap.size, rfl, (hb.alloc hb.size _).drew, hb.size, by simp, by simp⟩
theorem fault_mk2 {w w3 : World} (hb : Below w.heap.size w w3) (pos : Int) (a : Addr) :
    IsFault w (w3.alloc (.cells #[.int .i64 pos, .iface 145 (.pointer (some a))] 64)) (.returned (.tuple #[.int .i64 0, .iface 62 (.pointer (some ⟨w3.heap.size, 0, none⟩))])) pos a :=
  ⟨w3.heap.size, rfl, hb.alloc hb.size _, hb.size, by simp, by simp⟩
theorem cell_below {w w' : World} {g : Nat} {v : Value} (h : w.cell? ⟨g, 0, none⟩ = some v) (hb : Below w.heap.size w w') : w'.cell? ⟨g, 0, none⟩ = some v := by
  have hlt : g < w.heap.size := by
    rcases Nat.lt_or_ge g w.heap.size with k | k
    · exact k
    · simp [World.cell?, Array.getElem?_eq_none k] at h
  rw [hb.cell (p := ⟨g, 0, none⟩) hlt]; exact h

/-- Which part of the date a place belongs to. -/
def pno (i : Nat) : Int := if i ≤ 4 then 0 else if i ≤ 7 then 1 else 2
/-- The three numbers behind i places, in the call's own block. -/
structure St (s : ByteArray) (w : World) (i : Nat) (wr : World) : Prop where
  fit : Fit s i
  c0 : wr.cell? ⟨w.heap.size, 0, none⟩ = some (.int .i64 (dv s 0 (min i 4)))
  c1 : wr.cell? ⟨w.heap.size, 0 + 1, none⟩ = some (.int .i64 (dv s 5 (min (i - 5) 2)))
  c2 : wr.cell? ⟨w.heap.size, 0 + 2, none⟩ = some (.int .i64 (dv s 8 (i - 8)))
  f0 : wr.frozen? ⟨w.heap.size, 0, none⟩ = false
  f1 : wr.frozen? ⟨w.heap.size, 0 + 1, none⟩ = false
  f2 : wr.frozen? ⟨w.heap.size, 0 + 2, none⟩ = false
  bel : Below w.heap.size w wr
theorem St.start (s : ByteArray) (w : World) (t : TypeId) : St s w 0 (w.alloc (.cells #[.int .i64 0, .int .i64 0, .int .i64 0] t)) :=
  ⟨fun j hj => by omega, by simp [dv], by simp [dv], by simp [dv], by simp, by simp, by simp, (Below.refl _ _).alloc (Nat.le_refl _) _⟩
theorem St.skip {s : ByteArray} {w : World} {i : Nat} {wr : World} (h : St s w i wr) (hi : i = 4 ∨ i = 7) (hs : i < s.size) (hf : fitB i s[i] = true) (n : Nat) : St s w (i + 1) (wr.drewN n) := by
  refine ⟨h.fit.succ hs hf, ?_, ?_, ?_, by simpa using h.f0, by simpa using h.f1, by simpa using h.f2, bdrewN h.bel n⟩
  · rcases hi with rfl | rfl <;> simpa using h.c0
  · rcases hi with rfl | rfl <;> simpa using h.c1
  · rcases hi with rfl | rfl <;> simpa using h.c2
theorem dv_step (s : ByteArray) (a k i : Nat) (e : i = a + k) (hs : i < s.size) (v : Int) (hv : dv s a k = v) : dv s a (k + 1) = v * 10 + ((s[i].toNat : Int) - 48) := by
  subst e
  simp only [dv]
  rw [hv, dig_at s _ hs]
theorem St.set0 {s : ByteArray} {w : World} {i : Nat} {wr : World} (h : St s w i wr) (h1 : i < 4) (hs : i < s.size) (hf : fitB i s[i] = true) (n : Nat) (v : Int) (hv : dv s 0 (i) = v) :
    St s w (i + 1) ((wr.drewN n).setCell ⟨w.heap.size, 0, none⟩ (.int .i64 (v * 10 + ((s[i].toNat : Int) - 48)))) := by
  have hd := dv_step s 0 (i) i (by omega) hs v hv
  refine ⟨h.fit.succ hs hf, ?_, ?_, ?_, by simpa using h.f0, by simpa using h.f1, by simpa using h.f2, (bdrewN h.bel n).setCell (Nat.le_refl _) _⟩
  · rw [World.cell?_setCell_same _ _ _ (u := _) (by rw [World.cell?_drewN]; exact h.c0), show min (i + 1) 4 = i + 1 by omega, hd]
  · rw [show min (i + 1 - 5) 2 = min (i - 5) 2 by omega, World.cell?_setCell_other _ _ _ _ (by intro e; cases e), World.cell?_drewN]; exact h.c1
  · rw [show i + 1 - 8 = i - 8 by omega, World.cell?_setCell_other _ _ _ _ (by intro e; cases e), World.cell?_drewN]; exact h.c2
theorem St.set1 {s : ByteArray} {w : World} {i : Nat} {wr : World} (h : St s w i wr) (h1 : 5 ≤ i ∧ i < 7) (hs : i < s.size) (hf : fitB i s[i] = true) (n : Nat) (v : Int) (hv : dv s 5 (i - 5) = v) :
    St s w (i + 1) ((wr.drewN n).setCell ⟨w.heap.size, 0 + 1, none⟩ (.int .i64 (v * 10 + ((s[i].toNat : Int) - 48)))) := by
  have hd := dv_step s 5 (i - 5) i (by omega) hs v hv
  refine ⟨h.fit.succ hs hf, ?_, ?_, ?_, by simpa using h.f0, by simpa using h.f1, by simpa using h.f2, (bdrewN h.bel n).setCell (Nat.le_refl _) _⟩
  · rw [show min (i + 1) 4 = min i 4 by omega, World.cell?_setCell_other _ _ _ _ (by intro e; cases e), World.cell?_drewN]; exact h.c0
  · rw [World.cell?_setCell_same _ _ _ (u := _) (by rw [World.cell?_drewN]; exact h.c1), show min (i + 1 - 5) 2 = i - 5 + 1 by omega, hd]
  · rw [show i + 1 - 8 = i - 8 by omega, World.cell?_setCell_other _ _ _ _ (by intro e; cases e), World.cell?_drewN]; exact h.c2
theorem St.set2 {s : ByteArray} {w : World} {i : Nat} {wr : World} (h : St s w i wr) (h1 : 8 ≤ i ∧ i < 10) (hs : i < s.size) (hf : fitB i s[i] = true) (n : Nat) (v : Int) (hv : dv s 8 (i - 8) = v) :
    St s w (i + 1) ((wr.drewN n).setCell ⟨w.heap.size, 0 + 2, none⟩ (.int .i64 (v * 10 + ((s[i].toNat : Int) - 48)))) := by
  have hd := dv_step s 8 (i - 8) i (by omega) hs v hv
  refine ⟨h.fit.succ hs hf, ?_, ?_, ?_, by simpa using h.f0, by simpa using h.f1, by simpa using h.f2, (bdrewN h.bel n).setCell (Nat.le_refl _) _⟩
  · rw [show min (i + 1) 4 = min i 4 by omega, World.cell?_setCell_other _ _ _ _ (by intro e; cases e), World.cell?_drewN]; exact h.c0
  · rw [show min (i + 1 - 5) 2 = min (i - 5) 2 by omega, World.cell?_setCell_other _ _ _ _ (by intro e; cases e), World.cell?_drewN]; exact h.c1
  · rw [World.cell?_setCell_same _ _ _ (u := _) (by rw [World.cell?_drewN]; exact h.c2), show i + 1 - 8 = i - 8 + 1 by omega, hd]

set_option maxHeartbeats 8000000 in
set_option maxRecDepth 10000 in
theorem read_bad (s : ByteArray) (a : Addr) (w : World) (i0 : Nat) (hi0 : i0 < 10) (hs : s.size ≤ 3000) (ht : w.cell? ⟨1, 0, none⟩ = some (.iface 145 (.pointer (some a))))
    (hfit : Fit s i0) (hbad : i0 = s.size ∨ ∃ h : i0 < s.size, fitB i0 s[i0] = false) :
    Calls Tryd.prog 16 #[.string s] w fun e w' => IsFault w w' e i0 a := by
  have HT := hidIt ht
  have HSz : Hid (∀ i, i < i0 → i < s.size) := fun i hi => (hfit i hi).1
  have HFi : Hid (∀ i, i < i0 → ∀ h : i < s.size, fitB i s[i] = true) := fun i hi h => (hfit i hi).2
  have HBad := hidIt hbad
  clear ht hfit hbad
  go_enter Tryd.func16, Tryd.ntmps16
  go_wp2_with fail
  go_loopw [5, 9] (fun pt t wr => ∃ i : Nat, i ≤ i0 ∧ t = .int .i64 i ∧ pt = .int .i64 (pno i) ∧ St s w i wr) (fun _ t _ => (10 - RowKit.intOf t).toNat)
  case atStart => exact ⟨0, by omega, rfl, rfl, St.start s w _⟩
  case round =>
    obtain ⟨i, hi, rfl, rfl, hst⟩ := hrel
    have HSt := hidIt hst
    clear hst
    by_cases hlt : i < i0
    · have hcs : i = 0 ∨ i = 1 ∨ i = 2 ∨ i = 3 ∨ i = 4 ∨ i = 5 ∨ i = 6 ∨ i = 7 ∨ i = 8 := by omega
      rcases hcs with rfl | rfl | rfl | rfl | rfl | rfl | rfl | rfl | rfl
      · rw [show pno 0 = 0 from rfl]
        have hsz : 0 < s.size := HSz.out 0 (by omega)
        have hsz2 : (0 : Int) < s.size := by omega
        have e0 : ((0 : Int) == s.size) = false := by simp; omega
        have HFit := hidIt (HFi.out 0 (by omega) hsz)
        have hq : isDg s[0] = true := HFit.out
        have HF := hidIt (fun w => fits_d s[0] w)
        rw [hq] at HF
        have hb := dg_bd hq
        clear hq
        have hc : wr.cell? ⟨w.heap.size, 0, none⟩ = some (.int .i64 (dv s 0 0)) := HSt.out.c0
        have hz := HSt.out.f0
        have hv := dv4 s 0 HSt.out.fit 0 (by omega) (by omega)
        have hv2 : dv s 0 0 < 100000 := by have := hv.2; simp at this; omega
        have hv1 := hv.1
        clear hv
        generalize hdv : dv s 0 0 = v at *
        have HV := hidIt hdv
        clear hdv
        go_wp2_with fail
        go_quiet ((go_at_call 41; exact Calls.quiet_of_same (HF.out _)))
        go_wp2_with fail
        have mixed := Tryd.mixedR
        go_big_region_o
        all_goals go_wp2
        all_goals refine ⟨⟨1, by omega, by first | rfl | go_num, by first | rfl | go_num, HSt.out.set0 (by omega) hsz HFit.out _ v HV.out⟩, by simp [RowKit.intOf]; try omega⟩
      · rw [show pno 1 = 0 from rfl]
        have hsz : 1 < s.size := HSz.out 1 (by omega)
        have hsz2 : (1 : Int) < s.size := by omega
        have e0 : ((1 : Int) == s.size) = false := by simp; omega
        have HFit := hidIt (HFi.out 1 (by omega) hsz)
        have hq : isDg s[1] = true := HFit.out
        have HF := hidIt (fun w => fits_d s[1] w)
        rw [hq] at HF
        have hb := dg_bd hq
        clear hq
        have hc : wr.cell? ⟨w.heap.size, 0, none⟩ = some (.int .i64 (dv s 0 1)) := HSt.out.c0
        have hz := HSt.out.f0
        have hv := dv4 s 1 HSt.out.fit 1 (by omega) (by omega)
        have hv2 : dv s 0 1 < 100000 := by have := hv.2; simp at this; omega
        have hv1 := hv.1
        clear hv
        generalize hdv : dv s 0 1 = v at *
        have HV := hidIt hdv
        clear hdv
        go_wp2_with fail
        go_quiet ((go_at_call 41; exact Calls.quiet_of_same (HF.out _)))
        go_wp2_with fail
        have mixed := Tryd.mixedR
        go_big_region_o
        all_goals go_wp2
        all_goals refine ⟨⟨2, by omega, by first | rfl | go_num, by first | rfl | go_num, HSt.out.set0 (by omega) hsz HFit.out _ v HV.out⟩, by simp [RowKit.intOf]; try omega⟩
      · rw [show pno 2 = 0 from rfl]
        have hsz : 2 < s.size := HSz.out 2 (by omega)
        have hsz2 : (2 : Int) < s.size := by omega
        have e0 : ((2 : Int) == s.size) = false := by simp; omega
        have HFit := hidIt (HFi.out 2 (by omega) hsz)
        have hq : isDg s[2] = true := HFit.out
        have HF := hidIt (fun w => fits_d s[2] w)
        rw [hq] at HF
        have hb := dg_bd hq
        clear hq
        have hc : wr.cell? ⟨w.heap.size, 0, none⟩ = some (.int .i64 (dv s 0 2)) := HSt.out.c0
        have hz := HSt.out.f0
        have hv := dv4 s 2 HSt.out.fit 2 (by omega) (by omega)
        have hv2 : dv s 0 2 < 100000 := by have := hv.2; simp at this; omega
        have hv1 := hv.1
        clear hv
        generalize hdv : dv s 0 2 = v at *
        have HV := hidIt hdv
        clear hdv
        go_wp2_with fail
        go_quiet ((go_at_call 41; exact Calls.quiet_of_same (HF.out _)))
        go_wp2_with fail
        have mixed := Tryd.mixedR
        go_big_region_o
        all_goals go_wp2
        all_goals refine ⟨⟨3, by omega, by first | rfl | go_num, by first | rfl | go_num, HSt.out.set0 (by omega) hsz HFit.out _ v HV.out⟩, by simp [RowKit.intOf]; try omega⟩
      · rw [show pno 3 = 0 from rfl]
        have hsz : 3 < s.size := HSz.out 3 (by omega)
        have hsz2 : (3 : Int) < s.size := by omega
        have e0 : ((3 : Int) == s.size) = false := by simp; omega
        have HFit := hidIt (HFi.out 3 (by omega) hsz)
        have hq : isDg s[3] = true := HFit.out
        have HF := hidIt (fun w => fits_d s[3] w)
        rw [hq] at HF
        have hb := dg_bd hq
        clear hq
        have hc : wr.cell? ⟨w.heap.size, 0, none⟩ = some (.int .i64 (dv s 0 3)) := HSt.out.c0
        have hz := HSt.out.f0
        have hv := dv4 s 3 HSt.out.fit 3 (by omega) (by omega)
        have hv2 : dv s 0 3 < 100000 := by have := hv.2; simp at this; omega
        have hv1 := hv.1
        clear hv
        generalize hdv : dv s 0 3 = v at *
        have HV := hidIt hdv
        clear hdv
        go_wp2_with fail
        go_quiet ((go_at_call 41; exact Calls.quiet_of_same (HF.out _)))
        go_wp2_with fail
        have mixed := Tryd.mixedR
        go_big_region_o
        all_goals go_wp2
        all_goals refine ⟨⟨4, by omega, by first | rfl | go_num, by first | rfl | go_num, HSt.out.set0 (by omega) hsz HFit.out _ v HV.out⟩, by simp [RowKit.intOf]; try omega⟩
      · rw [show pno 4 = 0 from rfl]
        have hsz : 4 < s.size := HSz.out 4 (by omega)
        have hsz2 : (4 : Int) < s.size := by omega
        have e0 : ((4 : Int) == s.size) = false := by simp; omega
        have HFit := hidIt (HFi.out 4 (by omega) hsz)
        have hq : (s[4] == 45) = true := HFit.out
        have HF := hidIt (fun w => fits_m s[4] w)
        rw [hq] at HF
        clear hq
        go_wp2_with fail
        go_quiet ((go_at_call 41; exact Calls.quiet_of_same (HF.out _)))
        go_wp2_with fail
        refine ⟨⟨5, by omega, by first | rfl | go_num, by first | rfl | go_num, HSt.out.skip (by omega) hsz HFit.out _⟩, by simp [RowKit.intOf]; try omega⟩
      · rw [show pno 5 = 1 from rfl]
        have hsz : 5 < s.size := HSz.out 5 (by omega)
        have hsz2 : (5 : Int) < s.size := by omega
        have e0 : ((5 : Int) == s.size) = false := by simp; omega
        have HFit := hidIt (HFi.out 5 (by omega) hsz)
        have hq : isDg s[5] = true := HFit.out
        have HF := hidIt (fun w => fits_d s[5] w)
        rw [hq] at HF
        have hb := dg_bd hq
        clear hq
        have hc : wr.cell? ⟨w.heap.size, 0 + 1, none⟩ = some (.int .i64 (dv s 5 0)) := HSt.out.c1
        have hz := HSt.out.f1
        have hv := dv5 s 5 HSt.out.fit 0 (by omega) (by omega)
        have hv2 : dv s 5 0 < 100000 := by have := hv.2; simp at this; omega
        have hv1 := hv.1
        clear hv
        generalize hdv : dv s 5 0 = v at *
        have HV := hidIt hdv
        clear hdv
        go_wp2_with fail
        go_quiet ((go_at_call 41; exact Calls.quiet_of_same (HF.out _)))
        go_wp2_with fail
        have mixed := Tryd.mixedR
        go_big_region_o
        all_goals go_wp2
        all_goals refine ⟨⟨6, by omega, by first | rfl | go_num, by first | rfl | go_num, HSt.out.set1 (by omega) hsz HFit.out _ v HV.out⟩, by simp [RowKit.intOf]; try omega⟩
      · rw [show pno 6 = 1 from rfl]
        have hsz : 6 < s.size := HSz.out 6 (by omega)
        have hsz2 : (6 : Int) < s.size := by omega
        have e0 : ((6 : Int) == s.size) = false := by simp; omega
        have HFit := hidIt (HFi.out 6 (by omega) hsz)
        have hq : isDg s[6] = true := HFit.out
        have HF := hidIt (fun w => fits_d s[6] w)
        rw [hq] at HF
        have hb := dg_bd hq
        clear hq
        have hc : wr.cell? ⟨w.heap.size, 0 + 1, none⟩ = some (.int .i64 (dv s 5 1)) := HSt.out.c1
        have hz := HSt.out.f1
        have hv := dv5 s 6 HSt.out.fit 1 (by omega) (by omega)
        have hv2 : dv s 5 1 < 100000 := by have := hv.2; simp at this; omega
        have hv1 := hv.1
        clear hv
        generalize hdv : dv s 5 1 = v at *
        have HV := hidIt hdv
        clear hdv
        go_wp2_with fail
        go_quiet ((go_at_call 41; exact Calls.quiet_of_same (HF.out _)))
        go_wp2_with fail
        have mixed := Tryd.mixedR
        go_big_region_o
        all_goals go_wp2
        all_goals refine ⟨⟨7, by omega, by first | rfl | go_num, by first | rfl | go_num, HSt.out.set1 (by omega) hsz HFit.out _ v HV.out⟩, by simp [RowKit.intOf]; try omega⟩
      · rw [show pno 7 = 1 from rfl]
        have hsz : 7 < s.size := HSz.out 7 (by omega)
        have hsz2 : (7 : Int) < s.size := by omega
        have e0 : ((7 : Int) == s.size) = false := by simp; omega
        have HFit := hidIt (HFi.out 7 (by omega) hsz)
        have hq : (s[7] == 45) = true := HFit.out
        have HF := hidIt (fun w => fits_m s[7] w)
        rw [hq] at HF
        clear hq
        go_wp2_with fail
        go_quiet ((go_at_call 41; exact Calls.quiet_of_same (HF.out _)))
        go_wp2_with fail
        refine ⟨⟨8, by omega, by first | rfl | go_num, by first | rfl | go_num, HSt.out.skip (by omega) hsz HFit.out _⟩, by simp [RowKit.intOf]; try omega⟩
      · rw [show pno 8 = 2 from rfl]
        have hsz : 8 < s.size := HSz.out 8 (by omega)
        have hsz2 : (8 : Int) < s.size := by omega
        have e0 : ((8 : Int) == s.size) = false := by simp; omega
        have HFit := hidIt (HFi.out 8 (by omega) hsz)
        have hq : isDg s[8] = true := HFit.out
        have HF := hidIt (fun w => fits_d s[8] w)
        rw [hq] at HF
        have hb := dg_bd hq
        clear hq
        have hc : wr.cell? ⟨w.heap.size, 0 + 2, none⟩ = some (.int .i64 (dv s 8 0)) := HSt.out.c2
        have hz := HSt.out.f2
        have hv := dv8 s 8 HSt.out.fit 0 (by omega) (by omega)
        have hv2 : dv s 8 0 < 100000 := by have := hv.2; simp at this; omega
        have hv1 := hv.1
        clear hv
        generalize hdv : dv s 8 0 = v at *
        have HV := hidIt hdv
        clear hdv
        go_wp2_with fail
        go_quiet ((go_at_call 41; exact Calls.quiet_of_same (HF.out _)))
        go_wp2_with fail
        have mixed := Tryd.mixedR
        go_big_region_o
        all_goals go_wp2
        all_goals refine ⟨⟨9, by omega, by first | rfl | go_num, by first | rfl | go_num, HSt.out.set2 (by omega) hsz HFit.out _ v HV.out⟩, by simp [RowKit.intOf]; try omega⟩
    · obtain rfl : i = i0 := by omega
      clear hlt
      have hte := cell_below HT.out HSt.out.bel
      rcases HBad.out with hb | ⟨hb, hbf⟩
      · have e0 : ((i : Int) == s.size) = true := by simp; omega
        have hiz : (i : Int) < 10 := by omega
        have HB := hidIt HSt.out.bel
        generalize pno i = pp at *
        clear hb
        go_wp2_with fail
        go_quiet (fail)
        go_wp2_with fail
        go_region
        all_goals go_wp2
        all_goals go_ret2
        all_goals first | exact fault_mk (bdrewN HB.out _) _ _ | exact fault_mk2 (bdrewN HB.out _) _ _
      · have HBf := hidIt hbf
        clear hbf
        have hcs : i = 0 ∨ i = 1 ∨ i = 2 ∨ i = 3 ∨ i = 4 ∨ i = 5 ∨ i = 6 ∨ i = 7 ∨ i = 8 ∨ i = 9 := by omega
        rcases hcs with rfl | rfl | rfl | rfl | rfl | rfl | rfl | rfl | rfl | rfl
        · have hsz2 : (0 : Int) < s.size := by omega
          have e0 : ((0 : Int) == s.size) = false := by simp; omega
          have HB := hidIt HSt.out.bel
          have hq : isDg s[0] = false := HBf.out
          have HF := hidIt (fun w => fits_d s[0] w)
          rw [hq] at HF
          clear hq
          go_wp2_with fail
          go_quiet ((go_at_call 41; exact Calls.quiet_of_same (HF.out _)))
          go_wp2_with fail
          go_region
          all_goals go_wp2
          all_goals go_ret2
          all_goals first | exact fault_mk (bdrewN HB.out _) _ _ | exact fault_mk2 (bdrewN HB.out _) _ _
        · have hsz2 : (1 : Int) < s.size := by omega
          have e0 : ((1 : Int) == s.size) = false := by simp; omega
          have HB := hidIt HSt.out.bel
          have hq : isDg s[1] = false := HBf.out
          have HF := hidIt (fun w => fits_d s[1] w)
          rw [hq] at HF
          clear hq
          go_wp2_with fail
          go_quiet ((go_at_call 41; exact Calls.quiet_of_same (HF.out _)))
          go_wp2_with fail
          go_region
          all_goals go_wp2
          all_goals go_ret2
          all_goals first | exact fault_mk (bdrewN HB.out _) _ _ | exact fault_mk2 (bdrewN HB.out _) _ _
        · have hsz2 : (2 : Int) < s.size := by omega
          have e0 : ((2 : Int) == s.size) = false := by simp; omega
          have HB := hidIt HSt.out.bel
          have hq : isDg s[2] = false := HBf.out
          have HF := hidIt (fun w => fits_d s[2] w)
          rw [hq] at HF
          clear hq
          go_wp2_with fail
          go_quiet ((go_at_call 41; exact Calls.quiet_of_same (HF.out _)))
          go_wp2_with fail
          go_region
          all_goals go_wp2
          all_goals go_ret2
          all_goals first | exact fault_mk (bdrewN HB.out _) _ _ | exact fault_mk2 (bdrewN HB.out _) _ _
        · have hsz2 : (3 : Int) < s.size := by omega
          have e0 : ((3 : Int) == s.size) = false := by simp; omega
          have HB := hidIt HSt.out.bel
          have hq : isDg s[3] = false := HBf.out
          have HF := hidIt (fun w => fits_d s[3] w)
          rw [hq] at HF
          clear hq
          go_wp2_with fail
          go_quiet ((go_at_call 41; exact Calls.quiet_of_same (HF.out _)))
          go_wp2_with fail
          go_region
          all_goals go_wp2
          all_goals go_ret2
          all_goals first | exact fault_mk (bdrewN HB.out _) _ _ | exact fault_mk2 (bdrewN HB.out _) _ _
        · have hsz2 : (4 : Int) < s.size := by omega
          have e0 : ((4 : Int) == s.size) = false := by simp; omega
          have HB := hidIt HSt.out.bel
          have hq : (s[4] == 45) = false := HBf.out
          have HF := hidIt (fun w => fits_m s[4] w)
          rw [hq] at HF
          clear hq
          go_wp2_with fail
          go_quiet ((go_at_call 41; exact Calls.quiet_of_same (HF.out _)))
          go_wp2_with fail
          go_region
          all_goals go_wp2
          all_goals go_ret2
          all_goals first | exact fault_mk (bdrewN HB.out _) _ _ | exact fault_mk2 (bdrewN HB.out _) _ _
        · have hsz2 : (5 : Int) < s.size := by omega
          have e0 : ((5 : Int) == s.size) = false := by simp; omega
          have HB := hidIt HSt.out.bel
          have hq : isDg s[5] = false := HBf.out
          have HF := hidIt (fun w => fits_d s[5] w)
          rw [hq] at HF
          clear hq
          go_wp2_with fail
          go_quiet ((go_at_call 41; exact Calls.quiet_of_same (HF.out _)))
          go_wp2_with fail
          go_region
          all_goals go_wp2
          all_goals go_ret2
          all_goals first | exact fault_mk (bdrewN HB.out _) _ _ | exact fault_mk2 (bdrewN HB.out _) _ _
        · have hsz2 : (6 : Int) < s.size := by omega
          have e0 : ((6 : Int) == s.size) = false := by simp; omega
          have HB := hidIt HSt.out.bel
          have hq : isDg s[6] = false := HBf.out
          have HF := hidIt (fun w => fits_d s[6] w)
          rw [hq] at HF
          clear hq
          go_wp2_with fail
          go_quiet ((go_at_call 41; exact Calls.quiet_of_same (HF.out _)))
          go_wp2_with fail
          go_region
          all_goals go_wp2
          all_goals go_ret2
          all_goals first | exact fault_mk (bdrewN HB.out _) _ _ | exact fault_mk2 (bdrewN HB.out _) _ _
        · have hsz2 : (7 : Int) < s.size := by omega
          have e0 : ((7 : Int) == s.size) = false := by simp; omega
          have HB := hidIt HSt.out.bel
          have hq : (s[7] == 45) = false := HBf.out
          have HF := hidIt (fun w => fits_m s[7] w)
          rw [hq] at HF
          clear hq
          go_wp2_with fail
          go_quiet ((go_at_call 41; exact Calls.quiet_of_same (HF.out _)))
          go_wp2_with fail
          go_region
          all_goals go_wp2
          all_goals go_ret2
          all_goals first | exact fault_mk (bdrewN HB.out _) _ _ | exact fault_mk2 (bdrewN HB.out _) _ _
        · have hsz2 : (8 : Int) < s.size := by omega
          have e0 : ((8 : Int) == s.size) = false := by simp; omega
          have HB := hidIt HSt.out.bel
          have hq : isDg s[8] = false := HBf.out
          have HF := hidIt (fun w => fits_d s[8] w)
          rw [hq] at HF
          clear hq
          go_wp2_with fail
          go_quiet ((go_at_call 41; exact Calls.quiet_of_same (HF.out _)))
          go_wp2_with fail
          go_region
          all_goals go_wp2
          all_goals go_ret2
          all_goals first | exact fault_mk (bdrewN HB.out _) _ _ | exact fault_mk2 (bdrewN HB.out _) _ _
        · have hsz2 : (9 : Int) < s.size := by omega
          have e0 : ((9 : Int) == s.size) = false := by simp; omega
          have HB := hidIt HSt.out.bel
          have hq : isDg s[9] = false := HBf.out
          have HF := hidIt (fun w => fits_d s[9] w)
          rw [hq] at HF
          clear hq
          go_wp2_with fail
          go_quiet ((go_at_call 41; exact Calls.quiet_of_same (HF.out _)))
          go_wp2_with fail
          go_region
          all_goals go_wp2
          all_goals go_ret2
          all_goals first | exact fault_mk (bdrewN HB.out _) _ _ | exact fault_mk2 (bdrewN HB.out _) _ _

set_option maxHeartbeats 8000000 in
set_option maxRecDepth 10000 in
theorem read_long (s : ByteArray) (a : Addr) (w : World) (hs : s.size ≤ 3000) (hl : 10 < s.size) (ht : w.cell? ⟨1, 0, none⟩ = some (.iface 145 (.pointer (some a)))) (hfit : Fit s 10) :
    Calls Tryd.prog 16 #[.string s] w fun e w' => IsFault w w' e 10 a := by
  have d10 : decide ((10 : Int) < s.size) = true := by simp; omega
  have HSz : Hid (∀ i, i < 10 → i < s.size) := fun i hi => (hfit i hi).1
  have HFi : Hid (∀ i, i < 10 → ∀ h : i < s.size, fitB i s[i] = true) := fun i hi h => (hfit i hi).2
  have HT := hidIt ht
  clear ht
  clear hfit
  go_enter Tryd.func16, Tryd.ntmps16
  go_wp2_with fail
  go_loopw [5, 9] (fun pt t wr => ∃ i : Nat, i ≤ 10 ∧ t = .int .i64 i ∧ pt = .int .i64 (pno i) ∧ St s w i wr) (fun _ t _ => (10 - RowKit.intOf t).toNat)
  case atStart => exact ⟨0, by omega, rfl, rfl, St.start s w _⟩
  case round =>
    obtain ⟨i, hi, rfl, rfl, hst⟩ := hrel
    have HSt := hidIt hst
    clear hst
    have hcs : i = 0 ∨ i = 1 ∨ i = 2 ∨ i = 3 ∨ i = 4 ∨ i = 5 ∨ i = 6 ∨ i = 7 ∨ i = 8 ∨ i = 9 ∨ i = 10 := by omega
    rcases hcs with rfl | rfl | rfl | rfl | rfl | rfl | rfl | rfl | rfl | rfl | rfl
    · rw [show pno 0 = 0 from rfl]
      have hsz : 0 < s.size := HSz.out 0 (by omega)
      have hsz2 : (0 : Int) < s.size := by omega
      have e0 : ((0 : Int) == s.size) = false := by simp; omega
      have HFit := hidIt (HFi.out 0 (by omega) hsz)
      have hq : isDg s[0] = true := HFit.out
      have HF := hidIt (fun w => fits_d s[0] w)
      rw [hq] at HF
      have hb := dg_bd hq
      clear hq
      have hc : wr.cell? ⟨w.heap.size, 0, none⟩ = some (.int .i64 (dv s 0 0)) := HSt.out.c0
      have hz := HSt.out.f0
      have hv := dv4 s 0 HSt.out.fit 0 (by omega) (by omega)
      have hv2 : dv s 0 0 < 100000 := by have := hv.2; simp at this; omega
      have hv1 := hv.1
      clear hv
      generalize hdv : dv s 0 0 = v at *
      have HV := hidIt hdv
      clear hdv
      go_wp2_with fail
      go_quiet ((go_at_call 41; exact Calls.quiet_of_same (HF.out _)))
      go_wp2_with fail
      have mixed := Tryd.mixedR
      go_big_region_o
      all_goals go_wp2
      all_goals refine ⟨⟨1, by omega, by first | rfl | go_num, by first | rfl | go_num, HSt.out.set0 (by omega) hsz HFit.out _ v HV.out⟩, by simp [RowKit.intOf]; try omega⟩
    · rw [show pno 1 = 0 from rfl]
      have hsz : 1 < s.size := HSz.out 1 (by omega)
      have hsz2 : (1 : Int) < s.size := by omega
      have e0 : ((1 : Int) == s.size) = false := by simp; omega
      have HFit := hidIt (HFi.out 1 (by omega) hsz)
      have hq : isDg s[1] = true := HFit.out
      have HF := hidIt (fun w => fits_d s[1] w)
      rw [hq] at HF
      have hb := dg_bd hq
      clear hq
      have hc : wr.cell? ⟨w.heap.size, 0, none⟩ = some (.int .i64 (dv s 0 1)) := HSt.out.c0
      have hz := HSt.out.f0
      have hv := dv4 s 1 HSt.out.fit 1 (by omega) (by omega)
      have hv2 : dv s 0 1 < 100000 := by have := hv.2; simp at this; omega
      have hv1 := hv.1
      clear hv
      generalize hdv : dv s 0 1 = v at *
      have HV := hidIt hdv
      clear hdv
      go_wp2_with fail
      go_quiet ((go_at_call 41; exact Calls.quiet_of_same (HF.out _)))
      go_wp2_with fail
      have mixed := Tryd.mixedR
      go_big_region_o
      all_goals go_wp2
      all_goals refine ⟨⟨2, by omega, by first | rfl | go_num, by first | rfl | go_num, HSt.out.set0 (by omega) hsz HFit.out _ v HV.out⟩, by simp [RowKit.intOf]; try omega⟩
    · rw [show pno 2 = 0 from rfl]
      have hsz : 2 < s.size := HSz.out 2 (by omega)
      have hsz2 : (2 : Int) < s.size := by omega
      have e0 : ((2 : Int) == s.size) = false := by simp; omega
      have HFit := hidIt (HFi.out 2 (by omega) hsz)
      have hq : isDg s[2] = true := HFit.out
      have HF := hidIt (fun w => fits_d s[2] w)
      rw [hq] at HF
      have hb := dg_bd hq
      clear hq
      have hc : wr.cell? ⟨w.heap.size, 0, none⟩ = some (.int .i64 (dv s 0 2)) := HSt.out.c0
      have hz := HSt.out.f0
      have hv := dv4 s 2 HSt.out.fit 2 (by omega) (by omega)
      have hv2 : dv s 0 2 < 100000 := by have := hv.2; simp at this; omega
      have hv1 := hv.1
      clear hv
      generalize hdv : dv s 0 2 = v at *
      have HV := hidIt hdv
      clear hdv
      go_wp2_with fail
      go_quiet ((go_at_call 41; exact Calls.quiet_of_same (HF.out _)))
      go_wp2_with fail
      have mixed := Tryd.mixedR
      go_big_region_o
      all_goals go_wp2
      all_goals refine ⟨⟨3, by omega, by first | rfl | go_num, by first | rfl | go_num, HSt.out.set0 (by omega) hsz HFit.out _ v HV.out⟩, by simp [RowKit.intOf]; try omega⟩
    · rw [show pno 3 = 0 from rfl]
      have hsz : 3 < s.size := HSz.out 3 (by omega)
      have hsz2 : (3 : Int) < s.size := by omega
      have e0 : ((3 : Int) == s.size) = false := by simp; omega
      have HFit := hidIt (HFi.out 3 (by omega) hsz)
      have hq : isDg s[3] = true := HFit.out
      have HF := hidIt (fun w => fits_d s[3] w)
      rw [hq] at HF
      have hb := dg_bd hq
      clear hq
      have hc : wr.cell? ⟨w.heap.size, 0, none⟩ = some (.int .i64 (dv s 0 3)) := HSt.out.c0
      have hz := HSt.out.f0
      have hv := dv4 s 3 HSt.out.fit 3 (by omega) (by omega)
      have hv2 : dv s 0 3 < 100000 := by have := hv.2; simp at this; omega
      have hv1 := hv.1
      clear hv
      generalize hdv : dv s 0 3 = v at *
      have HV := hidIt hdv
      clear hdv
      go_wp2_with fail
      go_quiet ((go_at_call 41; exact Calls.quiet_of_same (HF.out _)))
      go_wp2_with fail
      have mixed := Tryd.mixedR
      go_big_region_o
      all_goals go_wp2
      all_goals refine ⟨⟨4, by omega, by first | rfl | go_num, by first | rfl | go_num, HSt.out.set0 (by omega) hsz HFit.out _ v HV.out⟩, by simp [RowKit.intOf]; try omega⟩
    · rw [show pno 4 = 0 from rfl]
      have hsz : 4 < s.size := HSz.out 4 (by omega)
      have hsz2 : (4 : Int) < s.size := by omega
      have e0 : ((4 : Int) == s.size) = false := by simp; omega
      have HFit := hidIt (HFi.out 4 (by omega) hsz)
      have hq : (s[4] == 45) = true := HFit.out
      have HF := hidIt (fun w => fits_m s[4] w)
      rw [hq] at HF
      clear hq
      go_wp2_with fail
      go_quiet ((go_at_call 41; exact Calls.quiet_of_same (HF.out _)))
      go_wp2_with fail
      refine ⟨⟨5, by omega, by first | rfl | go_num, by first | rfl | go_num, HSt.out.skip (by omega) hsz HFit.out _⟩, by simp [RowKit.intOf]; try omega⟩
    · rw [show pno 5 = 1 from rfl]
      have hsz : 5 < s.size := HSz.out 5 (by omega)
      have hsz2 : (5 : Int) < s.size := by omega
      have e0 : ((5 : Int) == s.size) = false := by simp; omega
      have HFit := hidIt (HFi.out 5 (by omega) hsz)
      have hq : isDg s[5] = true := HFit.out
      have HF := hidIt (fun w => fits_d s[5] w)
      rw [hq] at HF
      have hb := dg_bd hq
      clear hq
      have hc : wr.cell? ⟨w.heap.size, 0 + 1, none⟩ = some (.int .i64 (dv s 5 0)) := HSt.out.c1
      have hz := HSt.out.f1
      have hv := dv5 s 5 HSt.out.fit 0 (by omega) (by omega)
      have hv2 : dv s 5 0 < 100000 := by have := hv.2; simp at this; omega
      have hv1 := hv.1
      clear hv
      generalize hdv : dv s 5 0 = v at *
      have HV := hidIt hdv
      clear hdv
      go_wp2_with fail
      go_quiet ((go_at_call 41; exact Calls.quiet_of_same (HF.out _)))
      go_wp2_with fail
      have mixed := Tryd.mixedR
      go_big_region_o
      all_goals go_wp2
      all_goals refine ⟨⟨6, by omega, by first | rfl | go_num, by first | rfl | go_num, HSt.out.set1 (by omega) hsz HFit.out _ v HV.out⟩, by simp [RowKit.intOf]; try omega⟩
    · rw [show pno 6 = 1 from rfl]
      have hsz : 6 < s.size := HSz.out 6 (by omega)
      have hsz2 : (6 : Int) < s.size := by omega
      have e0 : ((6 : Int) == s.size) = false := by simp; omega
      have HFit := hidIt (HFi.out 6 (by omega) hsz)
      have hq : isDg s[6] = true := HFit.out
      have HF := hidIt (fun w => fits_d s[6] w)
      rw [hq] at HF
      have hb := dg_bd hq
      clear hq
      have hc : wr.cell? ⟨w.heap.size, 0 + 1, none⟩ = some (.int .i64 (dv s 5 1)) := HSt.out.c1
      have hz := HSt.out.f1
      have hv := dv5 s 6 HSt.out.fit 1 (by omega) (by omega)
      have hv2 : dv s 5 1 < 100000 := by have := hv.2; simp at this; omega
      have hv1 := hv.1
      clear hv
      generalize hdv : dv s 5 1 = v at *
      have HV := hidIt hdv
      clear hdv
      go_wp2_with fail
      go_quiet ((go_at_call 41; exact Calls.quiet_of_same (HF.out _)))
      go_wp2_with fail
      have mixed := Tryd.mixedR
      go_big_region_o
      all_goals go_wp2
      all_goals refine ⟨⟨7, by omega, by first | rfl | go_num, by first | rfl | go_num, HSt.out.set1 (by omega) hsz HFit.out _ v HV.out⟩, by simp [RowKit.intOf]; try omega⟩
    · rw [show pno 7 = 1 from rfl]
      have hsz : 7 < s.size := HSz.out 7 (by omega)
      have hsz2 : (7 : Int) < s.size := by omega
      have e0 : ((7 : Int) == s.size) = false := by simp; omega
      have HFit := hidIt (HFi.out 7 (by omega) hsz)
      have hq : (s[7] == 45) = true := HFit.out
      have HF := hidIt (fun w => fits_m s[7] w)
      rw [hq] at HF
      clear hq
      go_wp2_with fail
      go_quiet ((go_at_call 41; exact Calls.quiet_of_same (HF.out _)))
      go_wp2_with fail
      refine ⟨⟨8, by omega, by first | rfl | go_num, by first | rfl | go_num, HSt.out.skip (by omega) hsz HFit.out _⟩, by simp [RowKit.intOf]; try omega⟩
    · rw [show pno 8 = 2 from rfl]
      have hsz : 8 < s.size := HSz.out 8 (by omega)
      have hsz2 : (8 : Int) < s.size := by omega
      have e0 : ((8 : Int) == s.size) = false := by simp; omega
      have HFit := hidIt (HFi.out 8 (by omega) hsz)
      have hq : isDg s[8] = true := HFit.out
      have HF := hidIt (fun w => fits_d s[8] w)
      rw [hq] at HF
      have hb := dg_bd hq
      clear hq
      have hc : wr.cell? ⟨w.heap.size, 0 + 2, none⟩ = some (.int .i64 (dv s 8 0)) := HSt.out.c2
      have hz := HSt.out.f2
      have hv := dv8 s 8 HSt.out.fit 0 (by omega) (by omega)
      have hv2 : dv s 8 0 < 100000 := by have := hv.2; simp at this; omega
      have hv1 := hv.1
      clear hv
      generalize hdv : dv s 8 0 = v at *
      have HV := hidIt hdv
      clear hdv
      go_wp2_with fail
      go_quiet ((go_at_call 41; exact Calls.quiet_of_same (HF.out _)))
      go_wp2_with fail
      have mixed := Tryd.mixedR
      go_big_region_o
      all_goals go_wp2
      all_goals refine ⟨⟨9, by omega, by first | rfl | go_num, by first | rfl | go_num, HSt.out.set2 (by omega) hsz HFit.out _ v HV.out⟩, by simp [RowKit.intOf]; try omega⟩
    · rw [show pno 9 = 2 from rfl]
      have hsz : 9 < s.size := HSz.out 9 (by omega)
      have hsz2 : (9 : Int) < s.size := by omega
      have e0 : ((9 : Int) == s.size) = false := by simp; omega
      have HFit := hidIt (HFi.out 9 (by omega) hsz)
      have hq : isDg s[9] = true := HFit.out
      have HF := hidIt (fun w => fits_d s[9] w)
      rw [hq] at HF
      have hb := dg_bd hq
      clear hq
      have hc : wr.cell? ⟨w.heap.size, 0 + 2, none⟩ = some (.int .i64 (dv s 8 1)) := HSt.out.c2
      have hz := HSt.out.f2
      have hv := dv8 s 9 HSt.out.fit 1 (by omega) (by omega)
      have hv2 : dv s 8 1 < 100000 := by have := hv.2; simp at this; omega
      have hv1 := hv.1
      clear hv
      generalize hdv : dv s 8 1 = v at *
      have HV := hidIt hdv
      clear hdv
      go_wp2_with fail
      go_quiet ((go_at_call 41; exact Calls.quiet_of_same (HF.out _)))
      go_wp2_with fail
      have mixed := Tryd.mixedR
      go_big_region_o
      all_goals go_wp2
      all_goals refine ⟨⟨10, by omega, by first | rfl | go_num, by first | rfl | go_num, HSt.out.set2 (by omega) hsz HFit.out _ v HV.out⟩, by simp [RowKit.intOf]; try omega⟩
    · have hte := cell_below HT.out HSt.out.bel
      have HB := hidIt HSt.out.bel
      go_wp2_with fail
      go_region
      all_goals go_wp2
      all_goals go_ret2
      all_goals first | exact fault_mk HB.out _ _ | exact fault_mk2 (bdrewN HB.out _) _ _

set_option maxHeartbeats 8000000 in
set_option maxRecDepth 10000 in
theorem read_of_ok (s : ByteArray) (v : Int) (w : World) (hl : s.size = 10) (hfit : Fit s 10)
    (hO : ∀ w, Calls Tryd.prog 9 #[.int .i64 (dv s 0 4), .int .i64 (dv s 5 2), .int .i64 (dv s 8 2)] w fun e w' => e = .returned (.tuple #[.int .i64 v, .nilIface]) ∧ w' = w) :
    Calls Tryd.prog 16 #[.string s] w fun e w' => e = .returned (.tuple #[.int .i64 v, .nilIface]) ∧ Below w.heap.size w w' := by
  have d10 : decide ((10 : Int) < s.size) = false := by simp; omega
  have hs : s.size ≤ 3000 := by omega
  have HSz : Hid (∀ i, i < 10 → i < s.size) := fun i hi => (hfit i hi).1
  have HFi : Hid (∀ i, i < 10 → ∀ h : i < s.size, fitB i s[i] = true) := fun i hi h => (hfit i hi).2
  have HO := hidIt hO
  clear hO hl
  clear hfit
  go_enter Tryd.func16, Tryd.ntmps16
  go_wp2_with fail
  go_loopw [5, 9] (fun pt t wr => ∃ i : Nat, i ≤ 10 ∧ t = .int .i64 i ∧ pt = .int .i64 (pno i) ∧ St s w i wr) (fun _ t _ => (10 - RowKit.intOf t).toNat)
  case atStart => exact ⟨0, by omega, rfl, rfl, St.start s w _⟩
  case round =>
    obtain ⟨i, hi, rfl, rfl, hst⟩ := hrel
    have HSt := hidIt hst
    clear hst
    have hcs : i = 0 ∨ i = 1 ∨ i = 2 ∨ i = 3 ∨ i = 4 ∨ i = 5 ∨ i = 6 ∨ i = 7 ∨ i = 8 ∨ i = 9 ∨ i = 10 := by omega
    rcases hcs with rfl | rfl | rfl | rfl | rfl | rfl | rfl | rfl | rfl | rfl | rfl
    · rw [show pno 0 = 0 from rfl]
      have hsz : 0 < s.size := HSz.out 0 (by omega)
      have hsz2 : (0 : Int) < s.size := by omega
      have e0 : ((0 : Int) == s.size) = false := by simp; omega
      have HFit := hidIt (HFi.out 0 (by omega) hsz)
      have hq : isDg s[0] = true := HFit.out
      have HF := hidIt (fun w => fits_d s[0] w)
      rw [hq] at HF
      have hb := dg_bd hq
      clear hq
      have hc : wr.cell? ⟨w.heap.size, 0, none⟩ = some (.int .i64 (dv s 0 0)) := HSt.out.c0
      have hz := HSt.out.f0
      have hv := dv4 s 0 HSt.out.fit 0 (by omega) (by omega)
      have hv2 : dv s 0 0 < 100000 := by have := hv.2; simp at this; omega
      have hv1 := hv.1
      clear hv
      generalize hdv : dv s 0 0 = v at *
      have HV := hidIt hdv
      clear hdv
      go_wp2_with fail
      go_quiet ((go_at_call 41; exact Calls.quiet_of_same (HF.out _)))
      go_wp2_with fail
      have mixed := Tryd.mixedR
      go_big_region_o
      all_goals go_wp2
      all_goals refine ⟨⟨1, by omega, by first | rfl | go_num, by first | rfl | go_num, HSt.out.set0 (by omega) hsz HFit.out _ v HV.out⟩, by simp [RowKit.intOf]; try omega⟩
    · rw [show pno 1 = 0 from rfl]
      have hsz : 1 < s.size := HSz.out 1 (by omega)
      have hsz2 : (1 : Int) < s.size := by omega
      have e0 : ((1 : Int) == s.size) = false := by simp; omega
      have HFit := hidIt (HFi.out 1 (by omega) hsz)
      have hq : isDg s[1] = true := HFit.out
      have HF := hidIt (fun w => fits_d s[1] w)
      rw [hq] at HF
      have hb := dg_bd hq
      clear hq
      have hc : wr.cell? ⟨w.heap.size, 0, none⟩ = some (.int .i64 (dv s 0 1)) := HSt.out.c0
      have hz := HSt.out.f0
      have hv := dv4 s 1 HSt.out.fit 1 (by omega) (by omega)
      have hv2 : dv s 0 1 < 100000 := by have := hv.2; simp at this; omega
      have hv1 := hv.1
      clear hv
      generalize hdv : dv s 0 1 = v at *
      have HV := hidIt hdv
      clear hdv
      go_wp2_with fail
      go_quiet ((go_at_call 41; exact Calls.quiet_of_same (HF.out _)))
      go_wp2_with fail
      have mixed := Tryd.mixedR
      go_big_region_o
      all_goals go_wp2
      all_goals refine ⟨⟨2, by omega, by first | rfl | go_num, by first | rfl | go_num, HSt.out.set0 (by omega) hsz HFit.out _ v HV.out⟩, by simp [RowKit.intOf]; try omega⟩
    · rw [show pno 2 = 0 from rfl]
      have hsz : 2 < s.size := HSz.out 2 (by omega)
      have hsz2 : (2 : Int) < s.size := by omega
      have e0 : ((2 : Int) == s.size) = false := by simp; omega
      have HFit := hidIt (HFi.out 2 (by omega) hsz)
      have hq : isDg s[2] = true := HFit.out
      have HF := hidIt (fun w => fits_d s[2] w)
      rw [hq] at HF
      have hb := dg_bd hq
      clear hq
      have hc : wr.cell? ⟨w.heap.size, 0, none⟩ = some (.int .i64 (dv s 0 2)) := HSt.out.c0
      have hz := HSt.out.f0
      have hv := dv4 s 2 HSt.out.fit 2 (by omega) (by omega)
      have hv2 : dv s 0 2 < 100000 := by have := hv.2; simp at this; omega
      have hv1 := hv.1
      clear hv
      generalize hdv : dv s 0 2 = v at *
      have HV := hidIt hdv
      clear hdv
      go_wp2_with fail
      go_quiet ((go_at_call 41; exact Calls.quiet_of_same (HF.out _)))
      go_wp2_with fail
      have mixed := Tryd.mixedR
      go_big_region_o
      all_goals go_wp2
      all_goals refine ⟨⟨3, by omega, by first | rfl | go_num, by first | rfl | go_num, HSt.out.set0 (by omega) hsz HFit.out _ v HV.out⟩, by simp [RowKit.intOf]; try omega⟩
    · rw [show pno 3 = 0 from rfl]
      have hsz : 3 < s.size := HSz.out 3 (by omega)
      have hsz2 : (3 : Int) < s.size := by omega
      have e0 : ((3 : Int) == s.size) = false := by simp; omega
      have HFit := hidIt (HFi.out 3 (by omega) hsz)
      have hq : isDg s[3] = true := HFit.out
      have HF := hidIt (fun w => fits_d s[3] w)
      rw [hq] at HF
      have hb := dg_bd hq
      clear hq
      have hc : wr.cell? ⟨w.heap.size, 0, none⟩ = some (.int .i64 (dv s 0 3)) := HSt.out.c0
      have hz := HSt.out.f0
      have hv := dv4 s 3 HSt.out.fit 3 (by omega) (by omega)
      have hv2 : dv s 0 3 < 100000 := by have := hv.2; simp at this; omega
      have hv1 := hv.1
      clear hv
      generalize hdv : dv s 0 3 = v at *
      have HV := hidIt hdv
      clear hdv
      go_wp2_with fail
      go_quiet ((go_at_call 41; exact Calls.quiet_of_same (HF.out _)))
      go_wp2_with fail
      have mixed := Tryd.mixedR
      go_big_region_o
      all_goals go_wp2
      all_goals refine ⟨⟨4, by omega, by first | rfl | go_num, by first | rfl | go_num, HSt.out.set0 (by omega) hsz HFit.out _ v HV.out⟩, by simp [RowKit.intOf]; try omega⟩
    · rw [show pno 4 = 0 from rfl]
      have hsz : 4 < s.size := HSz.out 4 (by omega)
      have hsz2 : (4 : Int) < s.size := by omega
      have e0 : ((4 : Int) == s.size) = false := by simp; omega
      have HFit := hidIt (HFi.out 4 (by omega) hsz)
      have hq : (s[4] == 45) = true := HFit.out
      have HF := hidIt (fun w => fits_m s[4] w)
      rw [hq] at HF
      clear hq
      go_wp2_with fail
      go_quiet ((go_at_call 41; exact Calls.quiet_of_same (HF.out _)))
      go_wp2_with fail
      refine ⟨⟨5, by omega, by first | rfl | go_num, by first | rfl | go_num, HSt.out.skip (by omega) hsz HFit.out _⟩, by simp [RowKit.intOf]; try omega⟩
    · rw [show pno 5 = 1 from rfl]
      have hsz : 5 < s.size := HSz.out 5 (by omega)
      have hsz2 : (5 : Int) < s.size := by omega
      have e0 : ((5 : Int) == s.size) = false := by simp; omega
      have HFit := hidIt (HFi.out 5 (by omega) hsz)
      have hq : isDg s[5] = true := HFit.out
      have HF := hidIt (fun w => fits_d s[5] w)
      rw [hq] at HF
      have hb := dg_bd hq
      clear hq
      have hc : wr.cell? ⟨w.heap.size, 0 + 1, none⟩ = some (.int .i64 (dv s 5 0)) := HSt.out.c1
      have hz := HSt.out.f1
      have hv := dv5 s 5 HSt.out.fit 0 (by omega) (by omega)
      have hv2 : dv s 5 0 < 100000 := by have := hv.2; simp at this; omega
      have hv1 := hv.1
      clear hv
      generalize hdv : dv s 5 0 = v at *
      have HV := hidIt hdv
      clear hdv
      go_wp2_with fail
      go_quiet ((go_at_call 41; exact Calls.quiet_of_same (HF.out _)))
      go_wp2_with fail
      have mixed := Tryd.mixedR
      go_big_region_o
      all_goals go_wp2
      all_goals refine ⟨⟨6, by omega, by first | rfl | go_num, by first | rfl | go_num, HSt.out.set1 (by omega) hsz HFit.out _ v HV.out⟩, by simp [RowKit.intOf]; try omega⟩
    · rw [show pno 6 = 1 from rfl]
      have hsz : 6 < s.size := HSz.out 6 (by omega)
      have hsz2 : (6 : Int) < s.size := by omega
      have e0 : ((6 : Int) == s.size) = false := by simp; omega
      have HFit := hidIt (HFi.out 6 (by omega) hsz)
      have hq : isDg s[6] = true := HFit.out
      have HF := hidIt (fun w => fits_d s[6] w)
      rw [hq] at HF
      have hb := dg_bd hq
      clear hq
      have hc : wr.cell? ⟨w.heap.size, 0 + 1, none⟩ = some (.int .i64 (dv s 5 1)) := HSt.out.c1
      have hz := HSt.out.f1
      have hv := dv5 s 6 HSt.out.fit 1 (by omega) (by omega)
      have hv2 : dv s 5 1 < 100000 := by have := hv.2; simp at this; omega
      have hv1 := hv.1
      clear hv
      generalize hdv : dv s 5 1 = v at *
      have HV := hidIt hdv
      clear hdv
      go_wp2_with fail
      go_quiet ((go_at_call 41; exact Calls.quiet_of_same (HF.out _)))
      go_wp2_with fail
      have mixed := Tryd.mixedR
      go_big_region_o
      all_goals go_wp2
      all_goals refine ⟨⟨7, by omega, by first | rfl | go_num, by first | rfl | go_num, HSt.out.set1 (by omega) hsz HFit.out _ v HV.out⟩, by simp [RowKit.intOf]; try omega⟩
    · rw [show pno 7 = 1 from rfl]
      have hsz : 7 < s.size := HSz.out 7 (by omega)
      have hsz2 : (7 : Int) < s.size := by omega
      have e0 : ((7 : Int) == s.size) = false := by simp; omega
      have HFit := hidIt (HFi.out 7 (by omega) hsz)
      have hq : (s[7] == 45) = true := HFit.out
      have HF := hidIt (fun w => fits_m s[7] w)
      rw [hq] at HF
      clear hq
      go_wp2_with fail
      go_quiet ((go_at_call 41; exact Calls.quiet_of_same (HF.out _)))
      go_wp2_with fail
      refine ⟨⟨8, by omega, by first | rfl | go_num, by first | rfl | go_num, HSt.out.skip (by omega) hsz HFit.out _⟩, by simp [RowKit.intOf]; try omega⟩
    · rw [show pno 8 = 2 from rfl]
      have hsz : 8 < s.size := HSz.out 8 (by omega)
      have hsz2 : (8 : Int) < s.size := by omega
      have e0 : ((8 : Int) == s.size) = false := by simp; omega
      have HFit := hidIt (HFi.out 8 (by omega) hsz)
      have hq : isDg s[8] = true := HFit.out
      have HF := hidIt (fun w => fits_d s[8] w)
      rw [hq] at HF
      have hb := dg_bd hq
      clear hq
      have hc : wr.cell? ⟨w.heap.size, 0 + 2, none⟩ = some (.int .i64 (dv s 8 0)) := HSt.out.c2
      have hz := HSt.out.f2
      have hv := dv8 s 8 HSt.out.fit 0 (by omega) (by omega)
      have hv2 : dv s 8 0 < 100000 := by have := hv.2; simp at this; omega
      have hv1 := hv.1
      clear hv
      generalize hdv : dv s 8 0 = v at *
      have HV := hidIt hdv
      clear hdv
      go_wp2_with fail
      go_quiet ((go_at_call 41; exact Calls.quiet_of_same (HF.out _)))
      go_wp2_with fail
      have mixed := Tryd.mixedR
      go_big_region_o
      all_goals go_wp2
      all_goals refine ⟨⟨9, by omega, by first | rfl | go_num, by first | rfl | go_num, HSt.out.set2 (by omega) hsz HFit.out _ v HV.out⟩, by simp [RowKit.intOf]; try omega⟩
    · rw [show pno 9 = 2 from rfl]
      have hsz : 9 < s.size := HSz.out 9 (by omega)
      have hsz2 : (9 : Int) < s.size := by omega
      have e0 : ((9 : Int) == s.size) = false := by simp; omega
      have HFit := hidIt (HFi.out 9 (by omega) hsz)
      have hq : isDg s[9] = true := HFit.out
      have HF := hidIt (fun w => fits_d s[9] w)
      rw [hq] at HF
      have hb := dg_bd hq
      clear hq
      have hc : wr.cell? ⟨w.heap.size, 0 + 2, none⟩ = some (.int .i64 (dv s 8 1)) := HSt.out.c2
      have hz := HSt.out.f2
      have hv := dv8 s 9 HSt.out.fit 1 (by omega) (by omega)
      have hv2 : dv s 8 1 < 100000 := by have := hv.2; simp at this; omega
      have hv1 := hv.1
      clear hv
      generalize hdv : dv s 8 1 = v at *
      have HV := hidIt hdv
      clear hdv
      go_wp2_with fail
      go_quiet ((go_at_call 41; exact Calls.quiet_of_same (HF.out _)))
      go_wp2_with fail
      have mixed := Tryd.mixedR
      go_big_region_o
      all_goals go_wp2
      all_goals refine ⟨⟨10, by omega, by first | rfl | go_num, by first | rfl | go_num, HSt.out.set2 (by omega) hsz HFit.out _ v HV.out⟩, by simp [RowKit.intOf]; try omega⟩
    · have HB := hidIt HSt.out.bel
      have hc0 : wr.cell? ⟨w.heap.size, 0, none⟩ = some (.int .i64 (dv s 0 4)) := HSt.out.c0
      have hc1 : wr.cell? ⟨w.heap.size, 0 + 1, none⟩ = some (.int .i64 (dv s 5 2)) := HSt.out.c1
      have hc2 : wr.cell? ⟨w.heap.size, 0 + 2, none⟩ = some (.int .i64 (dv s 8 2)) := HSt.out.c2
      go_wp2_with fail
      refine (HO.out _).mono ?_
      rintro e w1 ⟨rfl, ew⟩
      subst w1
      go_wp2
      go_ret2
      exact ⟨rfl, HB.out⟩

set_option maxHeartbeats 8000000 in
set_option maxRecDepth 10000 in
theorem read_of_bad (s : ByteArray) (a : Addr) (w : World) (hl : s.size = 10) (hfit : Fit s 10) (hd : w.cell? ⟨0, 0, none⟩ = some (.iface 145 (.pointer (some a))))
    (hO : ∀ w, w.cell? ⟨0, 0, none⟩ = some (.iface 145 (.pointer (some a))) → Calls Tryd.prog 9 #[.int .i64 (dv s 0 4), .int .i64 (dv s 5 2), .int .i64 (dv s 8 2)] w fun e w' => e = .returned (.tuple #[.int .i64 0, .iface 145 (.pointer (some a))]) ∧ ∃ k, w' = w.drewN k) :
    Calls Tryd.prog 16 #[.string s] w fun e w' => IsFault w w' e 0 a := by
  have d10 : decide ((10 : Int) < s.size) = false := by simp; omega
  have hs : s.size ≤ 3000 := by omega
  have HSz : Hid (∀ i, i < 10 → i < s.size) := fun i hi => (hfit i hi).1
  have HFi : Hid (∀ i, i < 10 → ∀ h : i < s.size, fitB i s[i] = true) := fun i hi h => (hfit i hi).2
  have HO := hidIt hO
  have HD := hidIt hd
  clear hO hl hd
  clear hfit
  go_enter Tryd.func16, Tryd.ntmps16
  go_wp2_with fail
  go_loopw [5, 9] (fun pt t wr => ∃ i : Nat, i ≤ 10 ∧ t = .int .i64 i ∧ pt = .int .i64 (pno i) ∧ St s w i wr) (fun _ t _ => (10 - RowKit.intOf t).toNat)
  case atStart => exact ⟨0, by omega, rfl, rfl, St.start s w _⟩
  case round =>
    obtain ⟨i, hi, rfl, rfl, hst⟩ := hrel
    have HSt := hidIt hst
    clear hst
    have hcs : i = 0 ∨ i = 1 ∨ i = 2 ∨ i = 3 ∨ i = 4 ∨ i = 5 ∨ i = 6 ∨ i = 7 ∨ i = 8 ∨ i = 9 ∨ i = 10 := by omega
    rcases hcs with rfl | rfl | rfl | rfl | rfl | rfl | rfl | rfl | rfl | rfl | rfl
    · rw [show pno 0 = 0 from rfl]
      have hsz : 0 < s.size := HSz.out 0 (by omega)
      have hsz2 : (0 : Int) < s.size := by omega
      have e0 : ((0 : Int) == s.size) = false := by simp; omega
      have HFit := hidIt (HFi.out 0 (by omega) hsz)
      have hq : isDg s[0] = true := HFit.out
      have HF := hidIt (fun w => fits_d s[0] w)
      rw [hq] at HF
      have hb := dg_bd hq
      clear hq
      have hc : wr.cell? ⟨w.heap.size, 0, none⟩ = some (.int .i64 (dv s 0 0)) := HSt.out.c0
      have hz := HSt.out.f0
      have hv := dv4 s 0 HSt.out.fit 0 (by omega) (by omega)
      have hv2 : dv s 0 0 < 100000 := by have := hv.2; simp at this; omega
      have hv1 := hv.1
      clear hv
      generalize hdv : dv s 0 0 = v at *
      have HV := hidIt hdv
      clear hdv
      go_wp2_with fail
      go_quiet ((go_at_call 41; exact Calls.quiet_of_same (HF.out _)))
      go_wp2_with fail
      have mixed := Tryd.mixedR
      go_big_region_o
      all_goals go_wp2
      all_goals refine ⟨⟨1, by omega, by first | rfl | go_num, by first | rfl | go_num, HSt.out.set0 (by omega) hsz HFit.out _ v HV.out⟩, by simp [RowKit.intOf]; try omega⟩
    · rw [show pno 1 = 0 from rfl]
      have hsz : 1 < s.size := HSz.out 1 (by omega)
      have hsz2 : (1 : Int) < s.size := by omega
      have e0 : ((1 : Int) == s.size) = false := by simp; omega
      have HFit := hidIt (HFi.out 1 (by omega) hsz)
      have hq : isDg s[1] = true := HFit.out
      have HF := hidIt (fun w => fits_d s[1] w)
      rw [hq] at HF
      have hb := dg_bd hq
      clear hq
      have hc : wr.cell? ⟨w.heap.size, 0, none⟩ = some (.int .i64 (dv s 0 1)) := HSt.out.c0
      have hz := HSt.out.f0
      have hv := dv4 s 1 HSt.out.fit 1 (by omega) (by omega)
      have hv2 : dv s 0 1 < 100000 := by have := hv.2; simp at this; omega
      have hv1 := hv.1
      clear hv
      generalize hdv : dv s 0 1 = v at *
      have HV := hidIt hdv
      clear hdv
      go_wp2_with fail
      go_quiet ((go_at_call 41; exact Calls.quiet_of_same (HF.out _)))
      go_wp2_with fail
      have mixed := Tryd.mixedR
      go_big_region_o
      all_goals go_wp2
      all_goals refine ⟨⟨2, by omega, by first | rfl | go_num, by first | rfl | go_num, HSt.out.set0 (by omega) hsz HFit.out _ v HV.out⟩, by simp [RowKit.intOf]; try omega⟩
    · rw [show pno 2 = 0 from rfl]
      have hsz : 2 < s.size := HSz.out 2 (by omega)
      have hsz2 : (2 : Int) < s.size := by omega
      have e0 : ((2 : Int) == s.size) = false := by simp; omega
      have HFit := hidIt (HFi.out 2 (by omega) hsz)
      have hq : isDg s[2] = true := HFit.out
      have HF := hidIt (fun w => fits_d s[2] w)
      rw [hq] at HF
      have hb := dg_bd hq
      clear hq
      have hc : wr.cell? ⟨w.heap.size, 0, none⟩ = some (.int .i64 (dv s 0 2)) := HSt.out.c0
      have hz := HSt.out.f0
      have hv := dv4 s 2 HSt.out.fit 2 (by omega) (by omega)
      have hv2 : dv s 0 2 < 100000 := by have := hv.2; simp at this; omega
      have hv1 := hv.1
      clear hv
      generalize hdv : dv s 0 2 = v at *
      have HV := hidIt hdv
      clear hdv
      go_wp2_with fail
      go_quiet ((go_at_call 41; exact Calls.quiet_of_same (HF.out _)))
      go_wp2_with fail
      have mixed := Tryd.mixedR
      go_big_region_o
      all_goals go_wp2
      all_goals refine ⟨⟨3, by omega, by first | rfl | go_num, by first | rfl | go_num, HSt.out.set0 (by omega) hsz HFit.out _ v HV.out⟩, by simp [RowKit.intOf]; try omega⟩
    · rw [show pno 3 = 0 from rfl]
      have hsz : 3 < s.size := HSz.out 3 (by omega)
      have hsz2 : (3 : Int) < s.size := by omega
      have e0 : ((3 : Int) == s.size) = false := by simp; omega
      have HFit := hidIt (HFi.out 3 (by omega) hsz)
      have hq : isDg s[3] = true := HFit.out
      have HF := hidIt (fun w => fits_d s[3] w)
      rw [hq] at HF
      have hb := dg_bd hq
      clear hq
      have hc : wr.cell? ⟨w.heap.size, 0, none⟩ = some (.int .i64 (dv s 0 3)) := HSt.out.c0
      have hz := HSt.out.f0
      have hv := dv4 s 3 HSt.out.fit 3 (by omega) (by omega)
      have hv2 : dv s 0 3 < 100000 := by have := hv.2; simp at this; omega
      have hv1 := hv.1
      clear hv
      generalize hdv : dv s 0 3 = v at *
      have HV := hidIt hdv
      clear hdv
      go_wp2_with fail
      go_quiet ((go_at_call 41; exact Calls.quiet_of_same (HF.out _)))
      go_wp2_with fail
      have mixed := Tryd.mixedR
      go_big_region_o
      all_goals go_wp2
      all_goals refine ⟨⟨4, by omega, by first | rfl | go_num, by first | rfl | go_num, HSt.out.set0 (by omega) hsz HFit.out _ v HV.out⟩, by simp [RowKit.intOf]; try omega⟩
    · rw [show pno 4 = 0 from rfl]
      have hsz : 4 < s.size := HSz.out 4 (by omega)
      have hsz2 : (4 : Int) < s.size := by omega
      have e0 : ((4 : Int) == s.size) = false := by simp; omega
      have HFit := hidIt (HFi.out 4 (by omega) hsz)
      have hq : (s[4] == 45) = true := HFit.out
      have HF := hidIt (fun w => fits_m s[4] w)
      rw [hq] at HF
      clear hq
      go_wp2_with fail
      go_quiet ((go_at_call 41; exact Calls.quiet_of_same (HF.out _)))
      go_wp2_with fail
      refine ⟨⟨5, by omega, by first | rfl | go_num, by first | rfl | go_num, HSt.out.skip (by omega) hsz HFit.out _⟩, by simp [RowKit.intOf]; try omega⟩
    · rw [show pno 5 = 1 from rfl]
      have hsz : 5 < s.size := HSz.out 5 (by omega)
      have hsz2 : (5 : Int) < s.size := by omega
      have e0 : ((5 : Int) == s.size) = false := by simp; omega
      have HFit := hidIt (HFi.out 5 (by omega) hsz)
      have hq : isDg s[5] = true := HFit.out
      have HF := hidIt (fun w => fits_d s[5] w)
      rw [hq] at HF
      have hb := dg_bd hq
      clear hq
      have hc : wr.cell? ⟨w.heap.size, 0 + 1, none⟩ = some (.int .i64 (dv s 5 0)) := HSt.out.c1
      have hz := HSt.out.f1
      have hv := dv5 s 5 HSt.out.fit 0 (by omega) (by omega)
      have hv2 : dv s 5 0 < 100000 := by have := hv.2; simp at this; omega
      have hv1 := hv.1
      clear hv
      generalize hdv : dv s 5 0 = v at *
      have HV := hidIt hdv
      clear hdv
      go_wp2_with fail
      go_quiet ((go_at_call 41; exact Calls.quiet_of_same (HF.out _)))
      go_wp2_with fail
      have mixed := Tryd.mixedR
      go_big_region_o
      all_goals go_wp2
      all_goals refine ⟨⟨6, by omega, by first | rfl | go_num, by first | rfl | go_num, HSt.out.set1 (by omega) hsz HFit.out _ v HV.out⟩, by simp [RowKit.intOf]; try omega⟩
    · rw [show pno 6 = 1 from rfl]
      have hsz : 6 < s.size := HSz.out 6 (by omega)
      have hsz2 : (6 : Int) < s.size := by omega
      have e0 : ((6 : Int) == s.size) = false := by simp; omega
      have HFit := hidIt (HFi.out 6 (by omega) hsz)
      have hq : isDg s[6] = true := HFit.out
      have HF := hidIt (fun w => fits_d s[6] w)
      rw [hq] at HF
      have hb := dg_bd hq
      clear hq
      have hc : wr.cell? ⟨w.heap.size, 0 + 1, none⟩ = some (.int .i64 (dv s 5 1)) := HSt.out.c1
      have hz := HSt.out.f1
      have hv := dv5 s 6 HSt.out.fit 1 (by omega) (by omega)
      have hv2 : dv s 5 1 < 100000 := by have := hv.2; simp at this; omega
      have hv1 := hv.1
      clear hv
      generalize hdv : dv s 5 1 = v at *
      have HV := hidIt hdv
      clear hdv
      go_wp2_with fail
      go_quiet ((go_at_call 41; exact Calls.quiet_of_same (HF.out _)))
      go_wp2_with fail
      have mixed := Tryd.mixedR
      go_big_region_o
      all_goals go_wp2
      all_goals refine ⟨⟨7, by omega, by first | rfl | go_num, by first | rfl | go_num, HSt.out.set1 (by omega) hsz HFit.out _ v HV.out⟩, by simp [RowKit.intOf]; try omega⟩
    · rw [show pno 7 = 1 from rfl]
      have hsz : 7 < s.size := HSz.out 7 (by omega)
      have hsz2 : (7 : Int) < s.size := by omega
      have e0 : ((7 : Int) == s.size) = false := by simp; omega
      have HFit := hidIt (HFi.out 7 (by omega) hsz)
      have hq : (s[7] == 45) = true := HFit.out
      have HF := hidIt (fun w => fits_m s[7] w)
      rw [hq] at HF
      clear hq
      go_wp2_with fail
      go_quiet ((go_at_call 41; exact Calls.quiet_of_same (HF.out _)))
      go_wp2_with fail
      refine ⟨⟨8, by omega, by first | rfl | go_num, by first | rfl | go_num, HSt.out.skip (by omega) hsz HFit.out _⟩, by simp [RowKit.intOf]; try omega⟩
    · rw [show pno 8 = 2 from rfl]
      have hsz : 8 < s.size := HSz.out 8 (by omega)
      have hsz2 : (8 : Int) < s.size := by omega
      have e0 : ((8 : Int) == s.size) = false := by simp; omega
      have HFit := hidIt (HFi.out 8 (by omega) hsz)
      have hq : isDg s[8] = true := HFit.out
      have HF := hidIt (fun w => fits_d s[8] w)
      rw [hq] at HF
      have hb := dg_bd hq
      clear hq
      have hc : wr.cell? ⟨w.heap.size, 0 + 2, none⟩ = some (.int .i64 (dv s 8 0)) := HSt.out.c2
      have hz := HSt.out.f2
      have hv := dv8 s 8 HSt.out.fit 0 (by omega) (by omega)
      have hv2 : dv s 8 0 < 100000 := by have := hv.2; simp at this; omega
      have hv1 := hv.1
      clear hv
      generalize hdv : dv s 8 0 = v at *
      have HV := hidIt hdv
      clear hdv
      go_wp2_with fail
      go_quiet ((go_at_call 41; exact Calls.quiet_of_same (HF.out _)))
      go_wp2_with fail
      have mixed := Tryd.mixedR
      go_big_region_o
      all_goals go_wp2
      all_goals refine ⟨⟨9, by omega, by first | rfl | go_num, by first | rfl | go_num, HSt.out.set2 (by omega) hsz HFit.out _ v HV.out⟩, by simp [RowKit.intOf]; try omega⟩
    · rw [show pno 9 = 2 from rfl]
      have hsz : 9 < s.size := HSz.out 9 (by omega)
      have hsz2 : (9 : Int) < s.size := by omega
      have e0 : ((9 : Int) == s.size) = false := by simp; omega
      have HFit := hidIt (HFi.out 9 (by omega) hsz)
      have hq : isDg s[9] = true := HFit.out
      have HF := hidIt (fun w => fits_d s[9] w)
      rw [hq] at HF
      have hb := dg_bd hq
      clear hq
      have hc : wr.cell? ⟨w.heap.size, 0 + 2, none⟩ = some (.int .i64 (dv s 8 1)) := HSt.out.c2
      have hz := HSt.out.f2
      have hv := dv8 s 9 HSt.out.fit 1 (by omega) (by omega)
      have hv2 : dv s 8 1 < 100000 := by have := hv.2; simp at this; omega
      have hv1 := hv.1
      clear hv
      generalize hdv : dv s 8 1 = v at *
      have HV := hidIt hdv
      clear hdv
      go_wp2_with fail
      go_quiet ((go_at_call 41; exact Calls.quiet_of_same (HF.out _)))
      go_wp2_with fail
      have mixed := Tryd.mixedR
      go_big_region_o
      all_goals go_wp2
      all_goals refine ⟨⟨10, by omega, by first | rfl | go_num, by first | rfl | go_num, HSt.out.set2 (by omega) hsz HFit.out _ v HV.out⟩, by simp [RowKit.intOf]; try omega⟩
    · have hte := cell_below HD.out HSt.out.bel
      have HB := hidIt HSt.out.bel
      have hc0 : wr.cell? ⟨w.heap.size, 0, none⟩ = some (.int .i64 (dv s 0 4)) := HSt.out.c0
      have hc1 : wr.cell? ⟨w.heap.size, 0 + 1, none⟩ = some (.int .i64 (dv s 5 2)) := HSt.out.c1
      have hc2 : wr.cell? ⟨w.heap.size, 0 + 2, none⟩ = some (.int .i64 (dv s 8 2)) := HSt.out.c2
      go_wp2_with fail
      refine (HO.out _ hte).mono ?_
      rintro e w1 ⟨rfl, k, hk⟩
      have HB1 : Hid (Below w.heap.size w w1) := by show Below _ _ _; rw [hk]; exact bdrewN HB.out _
      clear hk
      go_wp2
      go_ret2
      first | exact fault_mk2 HB1.out _ _ | exact fault_mk HB1.out _ _
end Go.Proofs.YtepljjagfoiinaaDoor

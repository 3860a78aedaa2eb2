/-
  Package reason: literalsOf.
-/
import Derived.Test.YtmbclnaenjcocaaGreatDoorRsLl
namespace Go.Proofs.YtmbclnaenjcocaaGreatDoor
open Go.RowKit

def zLit : Array Value := #[.int .i64 0, .pointer none, .slice none 0 0, .slice none 0 0, .int .i64 0, .int .i64 0]
def zStd : Array Value := #[.int .i64 0, .slice none 0 0, .slice none 0 0, .int .i64 0, .int .i64 0, .int .i64 0, .int .i64 0]
theorem Tryz.infoLit : (Tryz.prog.info? 97).map (fun i => (i.zero, i.size, i.bytes)) = some (some (.agg zLit), 6, 80) := by kernel_rfl
theorem Tryz.infoStd : (Tryz.prog.info? 124).map (fun i => (i.zero, i.size, i.bytes)) = some (some (.agg zStd), 7, 88) := by kernel_rfl
theorem make_lit (n : Nat) (hn : n ≤ 100000) (w : World) : (Instr.makeSlice 92 (.int .i64 (n : Int)) (.int .i64 (n : Int))).run Tryz.prog w = .ok (.slice (some ⟨w.heap.size, 0, none⟩) n n) (w.alloc (.cells (madeCells zLit (n * 6)) 97)) := by
  obtain ⟨i, hi, e⟩ := Option.map_eq_some_iff.1 Tryz.infoLit
  simp only [Prod.mk.injEq] at e
  obtain ⟨e1, e2, e3⟩ := e
  have h := run_make (P := Tryz.prog) w 92 97 i (.agg zLit) Tryz.underlying92 hi e1 .i64 .i64 n n (by omega) (Int.le_refl _) (by rw [e3]; omega) (by omega)
  rw [e2] at h
  simp only [Int.toNat_natCast] at h
  exact h
theorem make_std (n : Nat) (hn : n ≤ 100000) (w : World) : (Instr.makeSlice 122 (.int .i64 (n : Int)) (.int .i64 (n : Int))).run Tryz.prog w = .ok (.slice (some ⟨w.heap.size, 0, none⟩) n n) (w.alloc (.cells (madeCells zStd (n * 7)) 124)) := by
  obtain ⟨i, hi, e⟩ := Option.map_eq_some_iff.1 Tryz.infoStd
  simp only [Prod.mk.injEq] at e
  obtain ⟨e1, e2, e3⟩ := e
  have h := run_make (P := Tryz.prog) w 122 124 i (.agg zStd) Tryz.underlying122 hi e1 .i64 .i64 n n (by omega) (Int.le_refl _) (by rw [e3]; omega) (by omega)
  rw [e2] at h
  simp only [Int.toNat_natCast] at h
  exact h
/-- Literals of which the first names have themselves and their opposites. -/
def litB (bL k x : Nat) : Value := if x % 6 = 0 then (if x / 6 < 2 * k then .int .i64 (litOf (x / 6)) else .int .i64 0) else if x % 6 = 1 then (if x / 6 < 2 * k then .pointer (some ⟨bL, opp (x / 6) * 6, none⟩) else .pointer none) else if x % 6 = 2 then .slice none 0 0 else if x % 6 = 3 then .slice none 0 0 else .int .i64 0
def stdB (x : Nat) : Value := if x % 7 = 1 then .slice none 0 0 else if x % 7 = 2 then .slice none 0 0 else .int .i64 0
theorem made_lit (w : World) (n : Nat) : (w.alloc (.cells (madeCells zLit n) 97)).rowIs w.heap.size 97 n (litB w.heap.size 0) :=
  ⟨_, Go.Deep.blk_alloc_new _ _, size_madeCells _ _, fun i hi => by
    have h5 : i % 6 < 6 := Nat.mod_lt _ (by omega)
    have e : (madeCells zLit n)[i]? = some (zLit[i % 6]!) := by simp [madeCells, hi, zLit]
    rw [e]
    unfold litB zLit
    match hm : i % 6, h5 with
    | 0, _ => simp
    | 1, _ => simp
    | 2, _ => simp
    | 3, _ => simp
    | 4, _ => simp
    | 5, _ => simp⟩
theorem made_std (w : World) (n : Nat) : (w.alloc (.cells (madeCells zStd n) 124)).rowIs w.heap.size 124 n stdB :=
  ⟨_, Go.Deep.blk_alloc_new _ _, size_madeCells _ _, fun i hi => by
    have h5 : i % 7 < 7 := Nat.mod_lt _ (by omega)
    have e : (madeCells zStd n)[i]? = some (zStd[i % 7]!) := by simp [madeCells, hi, zStd]
    rw [e]
    unfold stdB zStd
    match hm : i % 7, h5 with
    | 0, _ => simp
    | 1, _ => simp
    | 2, _ => simp
    | 3, _ => simp
    | 4, _ => simp
    | 5, _ => simp
    | 6, _ => simp⟩
theorem opp_even (k : Nat) : opp (2 * k) = 2 * k + 1 := by unfold opp; rw [if_pos (by omega)]
theorem opp_odd (k : Nat) : opp (2 * k + 1) = 2 * k := by unfold opp; rw [if_neg (by omega)]; omega
theorem litOf_even (k : Nat) : litOf (2 * k) = (k : Int) + 1 := by unfold litOf; rw [if_pos (by omega)]; omega
theorem litOf_odd (k : Nat) : litOf (2 * k + 1) = -(k : Int) - 1 := by unfold litOf; rw [if_neg (by omega)]; omega
theorem litB_next (bL k x : Nat) : (if x = (2 * k + 1) * 6 + 1 then Value.pointer (some ⟨bL, 2 * k * 6, none⟩) else if x = 2 * k * 6 + 1 then .pointer (some ⟨bL, (2 * k + 1) * 6, none⟩) else if x = (2 * k + 1) * 6 then .int .i64 (-(k : Int) - 1) else if x = 2 * k * 6 then .int .i64 ((k : Int) + 1) else litB bL k x) = litB bL (k + 1) x := by
  unfold litB
  by_cases h1 : x = (2 * k + 1) * 6 + 1
  · subst h1
    rw [if_pos rfl, if_neg (by omega), if_pos (by omega), if_pos (by omega), show ((2 * k + 1) * 6 + 1) / 6 = 2 * k + 1 by omega, opp_odd]
  · rw [if_neg h1]
    by_cases h2 : x = 2 * k * 6 + 1
    · subst h2
      rw [if_pos rfl, if_neg (by omega), if_pos (by omega), if_pos (by omega), show (2 * k * 6 + 1) / 6 = 2 * k by omega, opp_even]
    · rw [if_neg h2]
      by_cases h3 : x = (2 * k + 1) * 6
      · subst h3
        rw [if_pos rfl, if_pos (by omega), if_pos (by omega), show (2 * k + 1) * 6 / 6 = 2 * k + 1 by omega, litOf_odd]
      · rw [if_neg h3]
        by_cases h4 : x = 2 * k * 6
        · subst h4
          rw [if_pos rfl, if_pos (by omega), if_pos (by omega), show 2 * k * 6 / 6 = 2 * k by omega, litOf_even]
        · rw [if_neg h4]
          by_cases h5 : x % 6 = 0
          · rw [if_pos h5, if_pos h5]
            by_cases h6 : x / 6 < 2 * k
            · rw [if_pos h6, if_pos (by omega)]
            · rw [if_neg h6, if_neg (by omega)]
          · rw [if_neg h5, if_neg h5]
            by_cases h7 : x % 6 = 1
            · rw [if_pos h7, if_pos h7]
              by_cases h6 : x / 6 < 2 * k
              · rw [if_pos h6, if_pos (by omega)]
              · rw [if_neg h6, if_neg (by omega)]
            · rw [if_neg h7, if_neg h7]
theorem litB_end (bL N x : Nat) (hx : x < 2 * N * 6) (bv : Nat → Value) (B : Nat) : litB bL N x = litF bL (vsOf N (fun _ => .slice none 0 0) bv B) s00 x := by
  unfold litB litF
  have h5 : x % 6 < 6 := Nat.mod_lt _ (by omega)
  match hm : x % 6, h5 with
  | 0, _ => rw [if_pos rfl, if_pos (by omega)]; rfl
  | 1, _ => rw [if_neg (by omega), if_pos rfl, if_pos (by omega)]; rfl
  | 2, _ => rfl
  | 3, _ => rfl
  | 4, _ => rfl
  | 5, _ => rfl
theorem Bld.start {w0 w : World} {T : Thy} {bL bR N R : Nat} (B : Nat) (h1 : w.rowIs bL 97 (2 * N * 6) (litB bL N)) (h2 : w.rowIs bR 124 (R * 7) stdB) (o : bL < bR) (o1 : w0.heap.size ≤ bL) (hb : Below w0.heap.size w0 w) :
    Bld w0 bL bR N R w (fun _ => .slice none 0 0) (fL T 0 0 0 0) (kdI T 0) (usI T 0) (fun _ => .slice none 0 0) B := by
  refine ⟨h1.congr fun x hx => litB_end bL N x hx _ _, h2.congr fun x _ => ?_, fun k _ => ?_, fun j k _ _ _ g e => (by cases e), o, o1, hb⟩
  · unfold stdB stF kdI usI
    have h5 : x % 7 < 7 := Nat.mod_lt _ (by omega)
    match hm : x % 7, h5 with
    | 0, _ => rfl
    | 1, _ => rfl
    | 2, _ => rfl
    | 3, _ => rfl
    | 4, _ => rfl
    | 5, _ => rfl
    | 6, _ => rfl
  · rw [fL_zero]
    exact World.ownsRow_nil _ _ _ _
theorem pl_name (k : Nat) : pl ((k : Int) + 1) = 2 * k ∧ pl (-(k : Int) - 1) = 2 * k + 1 := by
  unfold pl
  rw [if_neg (by omega), if_pos (by omega)]
  omega
set_option maxHeartbeats 4000000 in
set_option maxRecDepth 100000 in
theorem literals_p {T : Thy} (hT : Okt T) {rv ov : Value} {B : Nat} {w : World} (hM : TM w B T rv ov) (hB : B ≤ w.heap.size) : LitsC T B rv ov w := by
  unfold LitsC
  obtain ⟨ra, rc, hrv, hrl, _⟩ := hM.r
  obtain ⟨oa, oc, hov, hol, _⟩ := hM.o
  have hn1 := hT.n0
  have hn2 := hT.n1
  have hr1 := hT.r
  have ho1 := hT.o
  have hN : ((shOf T).N : Int) = T.names := by show ((T.names.toNat : Nat) : Int) = T.names; have := hT.n0; omega
  obtain ⟨NN, hNN⟩ : ∃ NN, NN = (shOf T).N := ⟨_, rfl⟩
  rw [← hNN] at hN
  have HNQ := hidLL hNN
  obtain ⟨nm, hnm⟩ : ∃ nm, nm = T.names := ⟨_, rfl⟩
  rw [← hnm] at hn1 hn2 hN ⊢
  have HMM := hidLL hM
  subst hrv hov
  obtain ⟨R, hR⟩ : ∃ R, R = T.rules.length := ⟨_, rfl⟩
  obtain ⟨O, hO⟩ : ∃ O, O = T.over.length := ⟨_, rfl⟩
  rw [← hR, ← hO] at HMM
  rw [← hR] at hr1 hrl ⊢
  rw [← hO] at ho1 hol ⊢
  have HRR := hidLL hR
  have HOO := hidLL hO
  have HT := hidLL hT
  have HNN := hidLL hN
  clear hNN hnm hM hR hO hT
  obtain ⟨W0, hW0⟩ : ∃ W0 : World, W0 = w.alloc (.cells #[.int .i64 nm, .slice ra R rc, .slice oa O oc] 35) := ⟨_, rfl⟩
  have hz0 : W0.heap.size = w.heap.size + 1 := by rw [hW0]; simp
  have hb0 : Below w.heap.size w W0 := by rw [hW0]; exact (Below.refl _ _).alloc (Nat.le_refl _) _
  have hbt : W0.heap[w.heap.size]? = some (.cells #[.int .i64 nm, .slice ra R rc, .slice oa O oc] 35) := by
    rw [hW0]
    exact blk_new _ _
  have HBX : Hid (∀ W : World, Below W0.heap.size W0 W → W.cell? ⟨w.heap.size, 0, none⟩ = some (.int .i64 nm) ∧ W.cell? ⟨w.heap.size, 1, none⟩ = some (.slice ra R rc) ∧ W.cell? ⟨w.heap.size, 2, none⟩ = some (.slice oa O oc) ∧ TM W B T (.slice ra R rc) (.slice oa O oc) ∧ w.heap.size < W.heap.size) := fun W hW => by
    have := (hW.block w.heap.size (by omega)).trans hbt
    have hs := hW.size
    exact ⟨by simp [World.cell?, this], by simp [World.cell?, this], by simp [World.cell?, this], (HMM.out.below hb0 hB).below hW (by omega), by omega⟩
  have HW0 := hidLL hW0
  obtain ⟨bL, hbL⟩ : ∃ bL, bL = W0.heap.size := ⟨_, rfl⟩
  have hwbL : w.heap.size < bL := by omega
  have HbL := hidLL hbL
  have HZ0 := hidLL hz0
  have HB0 := hidLL hb0
  obtain ⟨c0, c1, c2, _, _⟩ := HBX.out W0 (Below.refl _ _)
  have hmk : ∀ w : World, (Instr.makeSlice 92 (.int .i64 (2 * nm)) (.int .i64 (2 * nm))).run Tryz.prog w = .ok (.slice (some ⟨w.heap.size, 0, none⟩) (2 * NN) (2 * NN)) (w.alloc (.cells (madeCells zLit (2 * NN * 6)) 97)) := fun w => by
    have := make_lit (2 * NN) (by omega) w
    rw [show ((2 * NN : Nat) : Int) = 2 * nm by omega] at this
    exact this
  have hmk2 : ∀ w : World, (Instr.makeSlice 122 (.int .i64 (R : Int)) (.int .i64 (R : Int))).run Tryz.prog w = .ok (.slice (some ⟨w.heap.size, 0, none⟩) R R) (w.alloc (.cells (madeCells zStd (R * 7)) 124)) := fun w => make_std R (by omega) w
  have HMK2 := hidLL hmk2
  rw [← hbL] at HBX
  clear hW0 hb0 hbt hmk2 hN hbL hz0
  go_enter Tryz.func38, Tryz.ntmps38
  go_upto_region 1 with fail
  rw [← HW0.out]
  go_upto_region 2 with fail
  obtain ⟨W1, hW1⟩ : ∃ W1 : World, W1 = W0.alloc (.cells (madeCells zLit (2 * NN * 6)) 97) := ⟨_, rfl⟩
  rw [← hW1, ← HbL.out]
  have hr0 := made_lit W0 (2 * NN * 6)
  rw [← hW1, ← HbL.out] at hr0
  have hb1 : Below bL W0 W1 := by rw [hW1]; exact (Below.refl _ _).alloc (by rw [HbL.out]; exact Nat.le_refl _) _
  obtain ⟨d0, d1, d2, _, _⟩ := HBX.out W1 hb1
  have HR0 := hidLL (And.intro hr0 hb1)
  clear hW1 hr0 hb1 hmk c0 c1 c2
  go_wp2_with fail
  go_loopw [24] (fun t wr => ∃ k : Nat, k ≤ NN ∧ t = .int .i64 k ∧ wr.rowIs bL 97 (2 * NN * 6) (litB bL k) ∧ Below bL W0 wr) (fun t _ => NN - (RowKit.intOf t).toNat)
  case atStart => exact ⟨0, by omega, rfl, HR0.out.1, HR0.out.2⟩
  case round =>
    obtain ⟨k, hk, rfl, hrow, hbel⟩ := hrel
    by_cases hlt : k < NN
    · have hkz : (k : Int) < nm := by have := HNN.out; omega
      have HPl := hidLL (pl_name k)
      have hp1 : (pl ((k : Int) + 1) : Int) < ((2 * NN : Nat) : Int) := by rw [(pl_name k).1]; omega
      have hp2 : (pl (-(k : Int) - 1) : Int) < ((2 * NN : Nat) : Int) := by rw [(pl_name k).2]; omega
      have y0 := hrow.cell (i := pl ((k : Int) + 1) * 6) (by rw [(pl_name k).1]; omega)
      have y1 := hrow.cell (i := pl (-(k : Int) - 1) * 6) (by rw [(pl_name k).2]; omega)
      have y2 := hrow.cell (i := pl ((k : Int) + 1) * 6 + 1) (by rw [(pl_name k).1]; omega)
      have y3 := hrow.cell (i := pl (-(k : Int) - 1) * 6 + 1) (by rw [(pl_name k).2]; omega)
      have yf := hrow.frozen
      have HQ := hidLL (And.intro hrow hbel)
      have hlo := hbel.size
      have HYN : Hid (pl ((k : Int) + 1) ≠ pl (-(k : Int) - 1)) := by show _ ≠ _; rw [(pl_name k).1, (pl_name k).2]; omega
      have hyn : ¬ pl (-(k : Int) - 1) * 6 = pl ((k : Int) + 1) * 6 := by have := HYN.out; omega
      have hyn2 : ¬ pl (-(k : Int) - 1) * 6 + 1 = pl ((k : Int) + 1) * 6 + 1 := by have := HYN.out; omega
      have hyn3 : ¬ pl (-(k : Int) - 1) * 6 + 1 = pl ((k : Int) + 1) * 6 := by omega
      have hyn4 : ¬ pl ((k : Int) + 1) * 6 + 1 = pl (-(k : Int) - 1) * 6 := by omega
      clear hrow hbel
      generalize litB bL k (pl ((k : Int) + 1) * 6) = u0 at y0
      generalize litB bL k (pl (-(k : Int) - 1) * 6) = u1 at y1
      generalize litB bL k (pl ((k : Int) + 1) * 6 + 1) = u2 at y2
      generalize litB bL k (pl (-(k : Int) - 1) * 6 + 1) = u3 at y3
      go_wp2_with fail
      go_quiet ((go_at_call 40; exact Calls.quiet_of_same (place_p _ (by omega) (by omega) (by omega) _)))
      obtain ⟨W4, hW4⟩ : ∃ W4 : World, W4 = wr.drewN nq := ⟨_, rfl⟩
      have z0 : W4.cell? ⟨bL, pl ((k : Int) + 1) * 6, none⟩ = some u0 := by rw [hW4]; exact y0
      have z1 : W4.cell? ⟨bL, pl (-(k : Int) - 1) * 6, none⟩ = some u1 := by rw [hW4]; exact y1
      have z2 : W4.cell? ⟨bL, pl ((k : Int) + 1) * 6 + 1, none⟩ = some u2 := by rw [hW4]; exact y2
      have z3 : W4.cell? ⟨bL, pl (-(k : Int) - 1) * 6 + 1, none⟩ = some u3 := by rw [hW4]; exact y3
      have zf : ∀ i, W4.frozen? ⟨bL, i, none⟩ = false := fun i => by rw [hW4]; exact yf i
      have HQ4 : Hid (W4.rowIs bL 97 (2 * NN * 6) (litB bL k) ∧ Below bL W0 W4) := by rw [hW4]; exact ⟨HQ.out.1, bdrewN HQ.out.2 _⟩
      rw [← hW4]
      clear hW4 y0 y1 y2 y3 yf HQ
      go_wp2_with fail
      go_roundw
      case rel =>
        refine ⟨k + 1, by omega, by go_num, ?_, (((HQ4.out.2.setCell (p := ⟨bL, _, none⟩) (Nat.le_refl _) _).setCell (p := ⟨bL, _, none⟩) (Nat.le_refl _) _).setCell (p := ⟨bL, _, none⟩) (Nat.le_refl _) _).setCell (p := ⟨bL, _, none⟩) (Nat.le_refl _) _⟩
        rw [HPl.out.1, HPl.out.2]
        exact ((((HQ4.out.1.set _ _).set _ _).set _ _).set _ _).congr fun x _ => litB_next bL k x
      case measure => simp [RowKit.intOf]; omega
    · obtain rfl : k = NN := by omega
      have hge : ¬ (k : Int) < nm := by have := HNN.out; omega
      obtain ⟨e0, e1, e2, _, e4⟩ := HBX.out wr hbel
      have hmk2 := HMK2.out
      have HQ := hidLL (And.intro hrow hbel)
      have hlbR := hrow.lt
      clear hrow hbel
      go_upto_region 10 with fail
      obtain ⟨bR, hbR⟩ : ∃ bR, bR = wr.heap.size := ⟨_, rfl⟩
      obtain ⟨W5, hW5⟩ : ∃ W5 : World, W5 = wr.alloc (.cells (madeCells zStd (R * 7)) 124) := ⟨_, rfl⟩
      rw [← hW5, ← hbR]
      have hb5 : Below wr.heap.size wr W5 := by rw [hW5]; exact (Below.refl _ _).alloc (Nat.le_refl _) _
      have HB5 : Hid (Bld W0 bL bR k R W5 (fun _ => .slice none 0 0) (fL T 0 0 0 0) (kdI T 0) (usI T 0) (fun _ => .slice none 0 0) B) := by
        refine Bld.start B (HQ.out.1.of_block (hb5.block _ hlbR)) ?_ (by rw [hbR]; exact hlbR) (by rw [← HbL.out]; exact Nat.le_refl _) (by rw [← HbL.out]; exact HQ.out.2.trans (hb5.mono (by omega)))
        rw [hW5, hbR]
        exact made_std wr (R * 7)
      have HBB : Hid (∀ W v l kd us bv, Bld W0 bL bR k R W v l kd us bv B → W.cell? ⟨w.heap.size, 0, none⟩ = some (.int .i64 nm) ∧ W.cell? ⟨w.heap.size, 1, none⟩ = some (.slice ra R rc) ∧ W.cell? ⟨w.heap.size, 2, none⟩ = some (.slice oa O oc) ∧ TM W B T (.slice ra R rc) (.slice oa O oc) ∧ w.heap.size < W.heap.size) := fun W v l kd us bv h => HBX.out W (by have := h.bel; rw [← HbL.out] at this; exact this)
      obtain ⟨f0, f1, f2, _, f4⟩ := HBB.out _ _ _ _ _ _ HB5.out
      clear hW5 hb5 hbR HQ e0 e1 e2 e4 hmk2 HMK2
      go_wp2_with fail
      go_loopw [65] (fun t w2 => ∃ (i : Nat) (v bv : Nat → Value), i ≤ R ∧ t = .int .i64 i ∧ Bld W0 bL bR k R w2 v (fL T i i 0 0) (kdI T i) (usI T i) bv B ∧ (∀ j, j < R → v (4 * k + j) = .slice none 0 0) ∧ ∀ j, j < i → IRd W0 B (bv j) (rlAt T j).body) (fun t _ => R - (RowKit.intOf t).toNat)
      case atStart => exact ⟨0, _, _, by omega, rfl, HB5.out, fun _ _ => rfl, fun j hj => by omega⟩
      case round =>
        obtain ⟨i, v, bv, hi, rfl, hBl, hnil, hbv⟩ := hrel
        have HBV := hidLL hbv
        clear hbv
        obtain ⟨w2, hw2⟩ : ∃ w2 : World, w2 = wr := ⟨_, rfl⟩
        subst hw2
        by_cases hlt2 : i < R
        · have hiz : (i : Int) < R := by omega
          obtain ⟨g0, g1, g2, hTM, g4⟩ := HBB.out _ _ _ _ _ _ hBl
          have hrl2 : i < T.rules.length := by rw [← HRR.out]; exact hlt2
          obtain ⟨g, o, bv, er, hgB, h1, h2, h3, hbd⟩ := hTM.r.at (rl_of hrl2)
          subst er
          have hbd2 := hbd
          obtain ⟨ba, bc, ebv, hbl, _⟩ := hbd2
          subst ebv
          have HBl := hidLL (And.intro hBl hnil)
          have hlR := hBl.lt
          have hlL := hBl.rowL.lt
          have HBD := hidLL hbd
          have hbdl : (rlAt T i).body.length ≤ 120 := body_len HT.out i
          obtain ⟨hlh, hlb⟩ := HT.out.lit i _ (rl_of hrl2)
          have hplh : pl (rlAt T i).head < 2 * k := by have := hlh.pl; have h9 : k = T.names.toNat := HNQ.out; omega
          have hhb := hlh.ok HT.out
          obtain ⟨KD, hKD⟩ : ∃ KD, KD = (rlAt T i).kind := ⟨_, rfl⟩
          obtain ⟨Q, hQ⟩ : ∃ Q, Q = (rlAt T i).head := ⟨_, rfl⟩
          obtain ⟨L, hL⟩ : ∃ L, L = (rlAt T i).body.length := ⟨_, rfl⟩
          rw [← hKD] at h1
          rw [← hQ] at h2 hlh hplh hhb
          rw [← hL] at h3 hbdl hbl HBD
          obtain ⟨q0, q1, q2, _⟩ := hhb
          have HBD0 : Hid (IRd W0 B (.slice ba L bc) (rlAt T i).body) := HBD.out.on fun q hq => (hBl.bel.block q (by have := HbL.out; omega)).symm
          have HKQ := hidLL (And.intro hKD (And.intro hQ (And.intro hL (And.intro hlh hlb))))
          clear hKD hQ hL hlh hlb
          obtain ⟨W6, hW6⟩ : ∃ W6 : World, W6 = w2.alloc (.cells #[.int .i64 KD, .int .i64 Q, .slice ba L bc] 56) := ⟨_, rfl⟩
          obtain ⟨bx, hbx⟩ : ∃ bx, bx = w2.heap.size := ⟨_, rfl⟩
          have hb6 : Below w2.heap.size w2 W6 := by rw [hW6]; exact (Below.refl _ _).alloc (Nat.le_refl _) _
          have hx6 : W6.heap[bx]? = some (.cells #[.int .i64 KD, .int .i64 Q, .slice ba L bc] 56) := by rw [hW6, hbx]; exact blk_new _ _
          have hB6 := hBl.on hb6
          have s0 := hB6.rowR.cell (i := i * 7) (by omega)
          have s1 := hB6.rowR.cell (i := i * 7 + 2) (by omega)
          have s2 := hB6.rowR.cell (i := i * 7 + 3) (by omega)
          have s3 := hB6.rowR.cell (i := i * 7 + 4) (by omega)
          have s4 := hB6.rowR.cell (i := i * 7 + 5) (by omega)
          have s5 := hB6.rowR.cell (i := i * 7 + 6) (by omega)
          have s6 := hB6.rowR.cell (i := i * 7 + 1) (by omega)
          have sf := hB6.rowR.frozen
          have x0 : W6.cell? ⟨bx, 0, none⟩ = some (.int .i64 KD) := by simp [World.cell?, hx6]
          have x1 : W6.cell? ⟨bx, 1, none⟩ = some (.int .i64 Q) := by simp [World.cell?, hx6]
          have x2 : W6.cell? ⟨bx, 2, none⟩ = some (.slice ba L bc) := by simp [World.cell?, hx6]
          have hbxR : bR < bx := by omega
          have hl6 : bx < W6.heap.size := blk_lt hx6
          have HB6 := hidLL (And.intro hB6 (And.intro hnil (And.intro hx6 hbx)))
          have HW6 := hidLL hW6
          clear hB6 hx6 hb6 hW6 hbx
          generalize stF _ _ _ (i * 7) = u0 at s0
          generalize stF _ _ _ (i * 7 + 2) = u1 at s1
          generalize stF _ _ _ (i * 7 + 3) = u2 at s2
          generalize stF _ _ _ (i * 7 + 4) = u3 at s3
          generalize stF _ _ _ (i * 7 + 5) = u4 at s4
          generalize stF _ _ _ (i * 7 + 6) = u5 at s5
          generalize stF _ _ _ (i * 7 + 1) = u6 at s6
          clear hBl hnil hTM hbd HBl
          go_upto_region 13 with fail
          rw [← HW6.out, ← HB6.out.2.2.2]
          go_upto_region 14 with fail
          obtain ⟨W7, hW7⟩ : ∃ W7 : World, W7 = (((((((W6.setCell ⟨bR, i * 7, none⟩ (.int .i64 KD)).setCell ⟨bR, i * 7 + 1, none⟩ (.slice ba L bc)).setCell ⟨bR, i * 7 + 2, none⟩ (.slice none 0 0)).setCell ⟨bR, i * 7 + 3, none⟩ (.int .i64 (L : Int))).setCell ⟨bR, i * 7 + 4, none⟩ (.int .i64 (L : Int))).setCell ⟨bR, i * 7 + 5, none⟩ (.int .i64 0)).setCell ⟨bR, i * 7 + 6, none⟩ (.int .i64 0)) := ⟨_, rfl⟩
          rw [← hW7]
          have hB7 : Bld W0 bL bR k R W7 v (fL T i i 0 0) (kdI T (i + 1)) (usI T (i + 1)) (upd bv i (.slice ba L bc)) B := by
            rw [hW7]
            refine HB6.out.1.std (HB6.out.2.1 i hlt2) (fun j => ?_) (fun j => ?_) (fun j => rfl)
            · unfold kdI
              by_cases e : j = i
              · rw [if_pos (by omega), if_pos e, e]; exact HKQ.out.1.symm
              · rw [if_neg e]
                by_cases e2 : j < i
                · rw [if_pos e2, if_pos (by omega)]
                · rw [if_neg e2, if_neg (by omega)]
            · unfold usI
              by_cases e : j = i
              · rw [if_pos (by omega), if_pos e, e, HKQ.out.2.2.1]
              · rw [if_neg e]
                by_cases e2 : j < i
                · rw [if_pos e2, if_pos (by omega)]
                · rw [if_neg e2, if_neg (by omega)]
          have hx7 : W7.heap[bx]? = some (.cells #[.int .i64 KD, .int .i64 Q, .slice ba L bc] 56) := by
            have e9 : ∀ (o : Nat) (u : Value) (w : World), (w.setCell ⟨bR, o, none⟩ u).heap[bx]? = w.heap[bx]? := fun o u w => Below.heap_setCell _ _ _ _ (by show bx ≠ bR; omega)
            rw [hW7, e9, e9, e9, e9, e9, e9, e9]
            exact HB6.out.2.2.1
          have y1 : W7.cell? ⟨bx, 1, none⟩ = some (.int .i64 Q) := by simp [World.cell?, hx7]
          have hNil := HB6.out.2.1
          have HB7 := hidLL (And.intro hB7 (And.intro hx7 hNil))
          clear hW7 x0 x1 x2 s0 s1 s2 s3 s4 s5 s6 sf hB7 hx7 hNil HB6 HW6
          have hpz : (pl Q : Int) < ((2 * k : Nat) : Int) := by omega
          go_upto_region 15 with (go_at_call 40; refine (place_p Q q0 q1 q2 _).mono ?_; rintro e w9 ⟨rfl, ew9⟩; subst w9)
          have hKlt : pl Q < 4 * k + R := by omega
          obtain ⟨sa, sc, hsv⟩ := row_any (HB7.out.1.row (pl Q) hKlt)
          have yc : W7.cell? ⟨bL, pl Q * 6 + 2, none⟩ = some (v (pl Q)) := by
            rw [HB7.out.1.rowL.cell (by omega)]
            unfold litF
            rw [show (pl Q * 6 + 2) % 6 = 2 by omega, show (pl Q * 6 + 2) / 6 = pl Q by omega]
            rfl
          have yz := HB7.out.1.rowL.frozen (pl Q * 6 + 2)
          have hlenK := fL_len HT.out (c := i) (i := i) (j := 0) (o := 0) (by omega) (by omega) (pl Q)
          obtain ⟨n, hn⟩ : ∃ n, n = (fL T i (i) 0 0 (pl Q)).length := ⟨_, rfl⟩
          rw [← hn] at hsv hlenK
          have HRow : Hid (∀ W' : World, (∀ q, q < W7.heap.size → W'.heap[q]? = W7.heap[q]?) → W'.ownsRow (bR + 1) 125 1 (.slice sa n sc) n (ptrs bR (fL T i (i) 0 0 (pl Q)))) := fun W' hW' => by
            have h9 := row_step (HB7.out.1.row (pl Q) hKlt) (fun q _ hq => hW' q hq)
            rw [hsv, ← hn] at h9
            exact h9
          rw [hsv] at yc
          have HA : Hid (Below W7.heap.size W7 (W7.drew.alloc (.cells #[.pointer (some ⟨bR, i * 7, none⟩)] 125))) := (Below.refl _ _).drew.alloc (Nat.le_refl _) _
          have HKP : Hid (∀ w8, (W7.drew.alloc (.cells #[.pointer (some ⟨bR, i * 7, none⟩)] 125)).grownBy w8 (Value.slice sa n sc).ownBlock → w8.heap[bL]? = W7.heap[bL]? ∧ w8.heap[bx]? = W7.heap[bx]?) := fun w8 h8 => by
            rw [← hsv] at h8
            exact ⟨HB7.out.1.after hKlt HA.out h8 bL HB7.out.1.rowL.lt (rowIs_not HB7.out.1.rowL (by decide)), HB7.out.1.after hKlt HA.out h8 bx (blk_lt HB7.out.2.1) (fun cur e => by rw [HB7.out.2.1] at e; injection e with e; injection e with _ e _; exact absurd e (by decide))⟩
          have HNW : Hid (∀ (j : Nat) (u : Value), [Value.pointer (some ⟨bR, i * 7, none⟩)][j]? = some u → (W7.drew.alloc (.cells #[.pointer (some ⟨bR, i * 7, none⟩)] 125)).cell? ((⟨W7.heap.size, 0, none⟩ : Addr).add j) = some u) := fun j u h => alloc_cell W7.drew [.pointer (some ⟨bR, i * 7, none⟩)] 125 j u h
          have HOC : Hid (∀ u ∈ [Value.pointer (some ⟨bR, i * 7, none⟩)], u.oneCell' = true) := fun u hu => by simp at hu; subst hu; rfl
          have HSV := hidLL (And.intro hsv hn)
          obtain ⟨i0, z, hi0, hz0', hz1, hz2, hz3⟩ := Tryz.infoPS
          have HI := hidLL (And.intro hi0 (And.intro hz0' (And.intro hz1 (And.intro hz2 hz3))))
          clear hi0 hz0' hz1 hz2 hz3 hsv hn
          have hlW : bR < W7.heap.size := HB7.out.1.lt
          have hlW2 : bL < W7.heap.size := HB7.out.1.rowL.lt
          go_cut [] (fun wx => ∃ v2 : Nat → Value, Bld W0 bL bR k R wx v2 (fL T (i + 1) i 0 0) (kdI T (i + 1)) (usI T (i + 1)) (upd bv i (.slice ba L bc)) B ∧ (∀ j, j < R → v2 (4 * k + j) = .slice none 0 0) ∧ wx.heap[bx]? = some (.cells #[.int .i64 KD, .int .i64 Q, .slice ba L bc] 56))
          case first =>
            go_region_law
              (first
                | (refine step_append_where rfl (.tmp 93) (.tmp 97) 95 rfl (bR + 1) 125 i0 z 1 8 Tryz.underlying95 HI.out.1 HI.out.2.1 HI.out.2.2.1 HI.out.2.2.2.1 HI.out.2.2.2.2 (by decide) (.slice sa n sc) n (ptrs bR (fL T i (i) 0 0 (pl Q))) (by first | (simp [Act.eval]; done) | simp [Act.eval, Act.put]) (HRow.out _ (fun q hq => Below.heap_alloc W7.drew _ q hq)) ⟨W7.heap.size, 0, none⟩ 1 1 [.pointer (some ⟨bR, i * 7, none⟩)] (by first | (simp [Act.eval]; done) | simp [Act.eval, Act.put]) rfl HNW.out HOC.out (by decide) (by unfold maxLen; omega) (by omega) (by simp; omega) ?_
                   intro v' w8 ho hg hw
                   have hkb := HKP.out w8 hg
                   have yc8 := (World.cell?_of_block (a := ⟨bL, pl Q * 6 + 2, none⟩) hkb.1).trans yc
                   have yz8 := (World.frozen?_of_block (a := ⟨bL, pl Q * 6 + 2, none⟩) hkb.1).trans yz
                   obtain ⟨a', c', hv'⟩ := row_any ho
                   subst hv'
                   have HH := hidLL (And.intro ho (And.intro hg hw))
                   clear ho hg hw hkb))
            all_goals
              go_wp2
              go_meet
              obtain ⟨ho, hg, hw⟩ := HH.out
              have hkb := HKP.out _ hg
              rw [← HSV.out.1] at hg hw
              have ho2 : w8.ownsRow (bR + 1) 125 1 (.slice a' (n + 1) c') ((fL T i (i) 0 0 (pl Q)).length + 1) (ptrs bR (fL T i (i) 0 0 (pl Q)) ++ [.pointer (some ⟨bR, i * 7, none⟩)]) := by rw [← HSV.out.2]; exact ho
              have hP := Bld.push (hg := hg) (hw := hw) (ho := ho2) HB7.out.1 hKlt (by first | exact HA.out | exact ((Below.refl _ _).alloc (Nat.le_refl _) _).drew)
              have hcA : cellAt bL bR k (pl Q) = ⟨bL, pl Q * 6 + 2, none⟩ := by unfold cellAt; rw [if_pos hplh]
              rw [hcA] at hP
              refine ⟨_, hP.same fun q _ => ?_, fun j hj => ?_, ?_⟩
              · rw [HKQ.out.2.1]
                exact (fL_head (by rw [← HKQ.out.2.1, ← HNQ.out]; exact hplh) 0 q).symm
              · unfold upd
                rw [if_neg (by omega)]
                exact HB7.out.2.2 j hj
              · rw [Below.heap_setCell _ _ _ _ (by show bx ≠ bL; have := HB7.out.1.o; omega), hkb.2]
                exact HB7.out.2.1
          case rest =>
            obtain ⟨v2, hB8, hnil8, hx8⟩ := hcut
            have r2 : wc.cell? ⟨bx, 2, none⟩ = some (.slice ba L bc) := by simp [World.cell?, hx8]
            have HB8 := hidLL (And.intro hB8 hnil8)
            clear hB8 hnil8 hx8 HB7 yc yz HRow HA HKP HNW HOC HSV HI hlenK y1
            go_wp2_with fail
            go_loopw [104] (fun t w10 => ∃ (j : Nat) (v3 : Nat → Value), j ≤ L ∧ t = .int .i64 j ∧ Bld W0 bL bR k R w10 v3 (fL T (i + 1) i j 0) (kdI T (i + 1)) (usI T (i + 1)) (upd bv i (.slice ba L bc)) B ∧ ∀ j, j < R → v3 (4 * k + j) = .slice none 0 0) (fun t _ => L - (RowKit.intOf t).toNat)
            case atStart => exact ⟨0, v2, by omega, rfl, HB8.out.1, HB8.out.2⟩
            case round =>
              obtain ⟨j, v3, hj, rfl, hB10, hnil10⟩ := hrel
              obtain ⟨w10, hw10⟩ : ∃ w10 : World, w10 = wr := ⟨_, rfl⟩
              subst hw10
              by_cases hlt3 : j < L
              · have hjz : (j : Int) < L := by omega
                obtain ⟨b, hb⟩ : ∃ b, (rlAt T i).body[j]? = some b := ⟨_, List.getElem?_eq_getElem (by have := HKQ.out.2.2.1; omega)⟩
                have hlitb := HKQ.out.2.2.2.2 b (List.mem_of_getElem? hb)
                obtain ⟨b0, b1, b2, _⟩ := hlitb.ok HT.out
                have hplb : pl b < 2 * k := by have := hlitb.pl; have h9 : k = T.names.toNat := HNQ.out; omega
                have hIR := HBD0.out.on fun q hq => (hB10.bel.block q (by have := HbL.out; omega))
                obtain ⟨g3, o3, eb, _, hcb⟩ := hIR.at hb
                subst eb
                have HEB := hidLL hb
                have HB11 := hidLL (And.intro hB10 hnil10)
                clear hIR hB10 hnil10 hb hlitb
                have hpz : (pl b : Int) < ((2 * k : Nat) : Int) := by omega
                go_upto_region 20 with (go_at_call 40; refine (place_p b b0 b1 b2 _).mono ?_; rintro e w9 ⟨rfl, ew9⟩; subst w9)
                have hKlt : 2 * k + pl b < 4 * k + R := by omega
                obtain ⟨sa, sc, hsv⟩ := row_any (HB11.out.1.row (2 * k + pl b) hKlt)
                have yc : w10.cell? ⟨bL, pl b * 6 + 3, none⟩ = some (v3 (2 * k + pl b)) := by
                  rw [HB11.out.1.rowL.cell (by omega)]
                  unfold litF
                  rw [show (pl b * 6 + 3) % 6 = 3 by omega, show (pl b * 6 + 3) / 6 = pl b by omega]
                  rfl
                have yz := HB11.out.1.rowL.frozen (pl b * 6 + 3)
                have hlenK := fL_len HT.out (c := (i + 1)) (i := i) (j := j) (o := 0) (by omega) (by omega) (2 * k + pl b)
                obtain ⟨n, hn⟩ : ∃ n, n = (fL T (i + 1) (i) j 0 (2 * k + pl b)).length := ⟨_, rfl⟩
                rw [← hn] at hsv hlenK
                have HRow : Hid (∀ W' : World, (∀ q, q < w10.heap.size → W'.heap[q]? = w10.heap[q]?) → W'.ownsRow (bR + 1) 125 1 (.slice sa n sc) n (ptrs bR (fL T (i + 1) (i) j 0 (2 * k + pl b)))) := fun W' hW' => by
                  have h9 := row_step (HB11.out.1.row (2 * k + pl b) hKlt) (fun q _ hq => hW' q hq)
                  rw [hsv, ← hn] at h9
                  exact h9
                rw [hsv] at yc
                have HA : Hid (Below w10.heap.size w10 (w10.drew.alloc (.cells #[.pointer (some ⟨bR, i * 7, none⟩)] 125))) := (Below.refl _ _).drew.alloc (Nat.le_refl _) _
                have HKP : Hid (∀ w8, (w10.drew.alloc (.cells #[.pointer (some ⟨bR, i * 7, none⟩)] 125)).grownBy w8 (Value.slice sa n sc).ownBlock → w8.heap[bL]? = w10.heap[bL]?) := fun w8 h8 => by
                  rw [← hsv] at h8
                  exact HB11.out.1.after hKlt HA.out h8 bL HB11.out.1.rowL.lt (rowIs_not HB11.out.1.rowL (by decide))
                have HNW : Hid (∀ (j : Nat) (u : Value), [Value.pointer (some ⟨bR, i * 7, none⟩)][j]? = some u → (w10.drew.alloc (.cells #[.pointer (some ⟨bR, i * 7, none⟩)] 125)).cell? ((⟨w10.heap.size, 0, none⟩ : Addr).add j) = some u) := fun j u h => alloc_cell w10.drew [.pointer (some ⟨bR, i * 7, none⟩)] 125 j u h
                have HOC : Hid (∀ u ∈ [Value.pointer (some ⟨bR, i * 7, none⟩)], u.oneCell' = true) := fun u hu => by simp at hu; subst hu; rfl
                have HSV := hidLL (And.intro hsv hn)
                obtain ⟨i0, z, hi0, hz0', hz1, hz2, hz3⟩ := Tryz.infoPS
                have HI := hidLL (And.intro hi0 (And.intro hz0' (And.intro hz1 (And.intro hz2 hz3))))
                clear hi0 hz0' hz1 hz2 hz3 hsv hn
                have hlW : bR < w10.heap.size := HB11.out.1.lt
                have hlW2 : bL < w10.heap.size := HB11.out.1.rowL.lt
                go_region_law
                  (first
                    | (refine step_append_where rfl (.tmp 116) (.tmp 120) 95 rfl (bR + 1) 125 i0 z 1 8 Tryz.underlying95 HI.out.1 HI.out.2.1 HI.out.2.2.1 HI.out.2.2.2.1 HI.out.2.2.2.2 (by decide) (.slice sa n sc) n (ptrs bR (fL T (i + 1) (i) j 0 (2 * k + pl b))) (by first | (simp [Act.eval]; done) | simp [Act.eval, Act.put]) (HRow.out _ (fun q hq => Below.heap_alloc w10.drew _ q hq)) ⟨w10.heap.size, 0, none⟩ 1 1 [.pointer (some ⟨bR, i * 7, none⟩)] (by first | (simp [Act.eval]; done) | simp [Act.eval, Act.put]) rfl HNW.out HOC.out (by decide) (by unfold maxLen; omega) (by omega) (by simp; omega) ?_
                       intro v' w8 ho hg hw
                       have hkb := HKP.out w8 hg
                       have yc8 := (World.cell?_of_block (a := ⟨bL, pl b * 6 + 3, none⟩) hkb).trans yc
                       have yz8 := (World.frozen?_of_block (a := ⟨bL, pl b * 6 + 3, none⟩) hkb).trans yz
                       obtain ⟨a', c', hv'⟩ := row_any ho
                       subst hv'
                       have HH := hidLL (And.intro ho (And.intro hg hw))
                       clear ho hg hw hkb))
                all_goals
                  go_wp2
                  go_roundw
                  case measure => simp [RowKit.intOf]; omega
                  obtain ⟨ho, hg, hw⟩ := HH.out
                  have hkb := HKP.out _ hg
                  rw [← HSV.out.1] at hg hw
                  have ho2 : w8.ownsRow (bR + 1) 125 1 (.slice a' (n + 1) c') ((fL T (i + 1) (i) j 0 (2 * k + pl b)).length + 1) (ptrs bR (fL T (i + 1) (i) j 0 (2 * k + pl b)) ++ [.pointer (some ⟨bR, i * 7, none⟩)]) := by rw [← HSV.out.2]; exact ho
                  have hP := Bld.push (hg := hg) (hw := hw) (ho := ho2) HB11.out.1 hKlt (by first | exact HA.out | exact ((Below.refl _ _).alloc (Nat.le_refl _) _).drew)
                  have hcA : cellAt bL bR k (2 * k + pl b) = ⟨bL, pl b * 6 + 3, none⟩ := by unfold cellAt; rw [if_neg (by omega), if_pos (by omega), show 2 * k + pl b - 2 * k = pl b by omega]
                  rw [hcA] at hP
                  refine ⟨j + 1, _, by omega, by go_num, hP.same fun q _ => ?_, fun j hj => ?_⟩
                  · rw [HNQ.out]
                    exact (fL_body HEB.out (by rw [← HNQ.out]; exact hplb) (i + 1) 0 q).symm
                  · unfold upd
                    rw [if_neg (by omega)]
                    exact HB11.out.2 j hj
              · have hge3 : ¬ (j : Int) < L := by omega
                have HB13 : Hid (Bld W0 bL bR k R w10 v3 (fL T (i + 1) (i + 1) 0 0) (kdI T (i + 1)) (usI T (i + 1)) (upd bv i (.slice ba L bc)) B ∧ ∀ j, j < R → v3 (4 * k + j) = .slice none 0 0) := by
                  refine ⟨hB10.same fun q _ => ?_, hnil10⟩
                  rw [← fL_next, ← HKQ.out.2.2.1, show j = L by omega]
                clear hB10 hnil10
                go_wp2
                go_roundw
                case rel =>
                  refine ⟨i + 1, v3, _, by omega, by go_num, HB13.out.1, HB13.out.2, fun j hj => ?_⟩
                  unfold upd
                  by_cases e : j = i
                  · rw [if_pos e, e]; exact HBD0.out
                  · rw [if_neg e]; exact HBV.out j (by omega)
                case measure => simp [RowKit.intOf]; omega
        · obtain rfl : i = R := by omega
          have hge2 : ¬ (i : Int) < i := by omega
          obtain ⟨g0, g1, g2, hTM, g4⟩ := HBB.out _ _ _ _ _ _ hBl
          have HB9 := hidLL hBl
          clear hBl hnil hTM
          go_wp2_with fail
          go_loopw [129] (fun t w11 => ∃ (oi : Nat) (v5 : Nat → Value), oi ≤ O ∧ t = .int .i64 oi ∧ Bld W0 bL bR k i w11 v5 (fL T i i 0 oi) (kdI T i) (usI T i) bv B) (fun t _ => O - (RowKit.intOf t).toNat)
          case atStart => exact ⟨0, v, by omega, rfl, HB9.out⟩
          case round =>
            obtain ⟨oi, v5, ho, rfl, hB13⟩ := hrel
            obtain ⟨w11, hw11⟩ : ∃ w11 : World, w11 = wr := ⟨_, rfl⟩
            subst hw11
            by_cases hlt4 : oi < O
            · have hoz : (oi : Int) < O := by omega
              obtain ⟨k0, k1, k2, hTM, k4⟩ := HBB.out _ _ _ _ _ _ hB13
              obtain ⟨x, hx⟩ : ∃ x, T.over[oi]? = some x := ⟨_, List.getElem?_eq_getElem (by have := HOO.out; omega)⟩
              obtain ⟨g, o, eo, _, c1, c2⟩ := hTM.o.at hx
              subst eo
              have hxo := HT.out.over x.1 x.2 (List.mem_of_getElem? hx)
              obtain ⟨A, hA⟩ : ∃ A : Nat, x.1 = A := ⟨x.1.toNat, by omega⟩
              obtain ⟨Bn, hBn⟩ : ∃ Bn : Nat, x.2 = Bn := ⟨x.2.toNat, by omega⟩
              have hAR : A < i := by have := HRR.out; omega
              have hBR : Bn < i := by have := HRR.out; omega
              have hAz : (A : Int) < i := by omega
              have hBz : (Bn : Int) < i := by omega
              rw [hA] at c1
              rw [hBn] at c2
              have HX := hidLL (And.intro hx (And.intro hA hBn))
              obtain ⟨gr, orr, bv1, er, _, _, rh1, _, _⟩ := hTM.r.at (rl_of (T := T) (i := A) (by rw [← HRR.out]; exact hAR))
              subst er
              obtain ⟨gr', orr', bv2, er', _, _, rh2, _, _⟩ := hTM.r.at (rl_of (T := T) (i := Bn) (by rw [← HRR.out]; exact hBR))
              injection er' with er'
              injection er' with e1' e2' _
              subst e1' e2'
              have hlA := (HT.out.lit A _ (rl_of (by rw [← HRR.out]; exact hAR))).1.ok HT.out
              have hlB := (HT.out.lit Bn _ (rl_of (by rw [← HRR.out]; exact hBR))).1.ok HT.out
              obtain ⟨Q1, hQ1⟩ : ∃ Q1, Q1 = (rlAt T A).head := ⟨_, rfl⟩
              obtain ⟨Q2, hQ2⟩ : ∃ Q2, Q2 = (rlAt T Bn).head := ⟨_, rfl⟩
              rw [← hQ1] at rh1 hlA
              rw [← hQ2] at rh2 hlB
              have HQQ := hidLL (And.intro hQ1 hQ2)
              have a1 := hlA.2.1
              have a2 := hlA.2.2.1
              have b1 := hlB.2.1
              have b2 := hlB.2.2.1
              clear hQ1 hQ2 hlA hlB hx hA hBn hxo
              obtain ⟨W12, hW12⟩ : ∃ W12 : World, W12 = w11.alloc (.cells #[.int .i64 (A : Int), .int .i64 (Bn : Int)] 71) := ⟨_, rfl⟩
              obtain ⟨by2, hby⟩ : ∃ by2, by2 = w11.heap.size := ⟨_, rfl⟩
              have hb12 : Below w11.heap.size w11 W12 := by rw [hW12]; exact (Below.refl _ _).alloc (Nat.le_refl _) _
              have hx12 : W12.heap[by2]? = some (.cells #[.int .i64 (A : Int), .int .i64 (Bn : Int)] 71) := by rw [hW12, hby]; exact blk_new _ _
              have p0 : W12.cell? ⟨by2, 0, none⟩ = some (.int .i64 (A : Int)) := by simp [World.cell?, hx12]
              have p1 : W12.cell? ⟨by2, 1, none⟩ = some (.int .i64 (Bn : Int)) := by simp [World.cell?, hx12]
              have rh1' := (hb12.cell (p := ⟨gr, _, none⟩) (cell_lt rh1)).trans rh1
              have rh2' := (hb12.cell (p := ⟨gr, _, none⟩) (cell_lt rh2)).trans rh2
              have k1' := (hb12.cell (p := ⟨w.heap.size, 1, none⟩) (cell_lt k1)).trans k1
              have HB13 := hidLL (hB13.on hb12)
              have HW12 := hidLL (And.intro hW12 hby)
              clear hW12 hby hB13 hTM hb12 hx12
              go_upto_region 26 with fail
              rw [← HW12.out.1, ← HW12.out.2]
              go_quiet (fail)
              obtain ⟨W1a, hW1a⟩ : ∃ W1a : World, W1a = W12.drewN nq := ⟨_, rfl⟩
              rw [← hW1a]
              have rh3 : W1a.cell? ⟨gr, orr + A * 3 + 1, none⟩ = some (.int .i64 Q1) := by rw [hW1a]; exact rh1'
              have rh4 : W1a.cell? ⟨gr, orr + Bn * 3 + 1, none⟩ = some (.int .i64 Q2) := by rw [hW1a]; exact rh2'
              have k3 : W1a.cell? ⟨w.heap.size, 1, none⟩ = some (.slice (some ⟨gr, orr, none⟩) i rc) := by rw [hW1a]; exact k1'
              have HB1a : Hid (Bld W0 bL bR k i W1a v5 (fL T i i 0 oi) (kdI T i) (usI T i) bv B) := by rw [hW1a]; exact HB13.out.on (bdrewN (Below.refl _ _) _)
              clear hW1a rh1' rh2' k1' HB13 p0 p1
              go_upto_region 27 with fail
              go_quiet (fail)
              obtain ⟨W13, hW13⟩ : ∃ W13 : World, W13 = W1a.drewN nq := ⟨_, rfl⟩
              rw [← hW13]
              have HB14 : Hid (Bld W0 bL bR k i W13 v5 (fL T i i 0 oi) (kdI T i) (usI T i) bv B ∧ True) := by rw [hW13]; exact ⟨HB1a.out.on (bdrewN (Below.refl _ _) _), trivial⟩
              clear hW13 rh3 rh4 k3 HB1a
              by_cases hh : Q1 = -Q2
              · have HHD : Hid ((rlAt T x.1.toNat).head = -(rlAt T x.2.toNat).head) := by
                  show _ = _
                  rw [HX.out.2.1, HX.out.2.2, Int.toNat_natCast, Int.toNat_natCast, ← HQQ.out.1, ← HQQ.out.2]
                  exact hh
                have hh2 : (Q1 == -Q2) = true := by simp [hh]
                clear HQQ
                go_upto_region 28 with fail
                have hKlt : 4 * k + Bn < 4 * k + i := by omega
                obtain ⟨sa, sc, hsv⟩ := row_any (HB14.out.1.row (4 * k + Bn) hKlt)
                have yc : W13.cell? ⟨bR, Bn * 7 + 2, none⟩ = some (v5 (4 * k + Bn)) := by
                  rw [HB14.out.1.rowR.cell (by omega)]
                  unfold stF
                  rw [show (Bn * 7 + 2) % 7 = 2 by omega, show (Bn * 7 + 2) / 7 = Bn by omega]
                  rfl
                have yz := HB14.out.1.rowR.frozen (Bn * 7 + 2)
                have hlenK := fL_len HT.out (c := i) (i := i) (j := 0) (o := oi) (by omega) (by omega) (4 * k + Bn)
                obtain ⟨n, hn⟩ : ∃ n, n = (fL T i (i) 0 oi (4 * k + Bn)).length := ⟨_, rfl⟩
                rw [← hn] at hsv hlenK
                have HRow : Hid (∀ W' : World, (∀ q, q < W13.heap.size → W'.heap[q]? = W13.heap[q]?) → W'.ownsRow (bR + 1) 125 1 (.slice sa n sc) n (ptrs bR (fL T i (i) 0 oi (4 * k + Bn)))) := fun W' hW' => by
                  have h9 := row_step (HB14.out.1.row (4 * k + Bn) hKlt) (fun q _ hq => hW' q hq)
                  rw [hsv, ← hn] at h9
                  exact h9
                rw [hsv] at yc
                have HA : Hid (Below W13.heap.size W13 (W13.drew.alloc (.cells #[.pointer (some ⟨bR, A * 7, none⟩)] 125))) := (Below.refl _ _).drew.alloc (Nat.le_refl _) _
                have HKP : Hid (∀ w8, (W13.drew.alloc (.cells #[.pointer (some ⟨bR, A * 7, none⟩)] 125)).grownBy w8 (Value.slice sa n sc).ownBlock → w8.heap[bR]? = W13.heap[bR]?) := fun w8 h8 => by
                  rw [← hsv] at h8
                  exact HB14.out.1.after hKlt HA.out h8 bR HB14.out.1.lt (rowIs_not HB14.out.1.rowR (by decide))
                have HNW : Hid (∀ (j : Nat) (u : Value), [Value.pointer (some ⟨bR, A * 7, none⟩)][j]? = some u → (W13.drew.alloc (.cells #[.pointer (some ⟨bR, A * 7, none⟩)] 125)).cell? ((⟨W13.heap.size, 0, none⟩ : Addr).add j) = some u) := fun j u h => alloc_cell W13.drew [.pointer (some ⟨bR, A * 7, none⟩)] 125 j u h
                have HOC : Hid (∀ u ∈ [Value.pointer (some ⟨bR, A * 7, none⟩)], u.oneCell' = true) := fun u hu => by simp at hu; subst hu; rfl
                have HSV := hidLL (And.intro hsv hn)
                obtain ⟨i0, z, hi0, hz0', hz1, hz2, hz3⟩ := Tryz.infoPS
                have HI := hidLL (And.intro hi0 (And.intro hz0' (And.intro hz1 (And.intro hz2 hz3))))
                clear hi0 hz0' hz1 hz2 hz3 hsv hn
                have hlW : bR < W13.heap.size := HB14.out.1.lt
                have hlW2 : bL < W13.heap.size := HB14.out.1.rowL.lt
                go_region_law
                  (first
                    | (refine step_append_where rfl (.tmp 157) (.tmp 161) 95 rfl (bR + 1) 125 i0 z 1 8 Tryz.underlying95 HI.out.1 HI.out.2.1 HI.out.2.2.1 HI.out.2.2.2.1 HI.out.2.2.2.2 (by decide) (.slice sa n sc) n (ptrs bR (fL T i (i) 0 oi (4 * k + Bn))) (by first | (simp [Act.eval]; done) | simp [Act.eval, Act.put]) (HRow.out _ (fun q hq => Below.heap_alloc W13.drew _ q hq)) ⟨W13.heap.size, 0, none⟩ 1 1 [.pointer (some ⟨bR, A * 7, none⟩)] (by first | (simp [Act.eval]; done) | simp [Act.eval, Act.put]) rfl HNW.out HOC.out (by decide) (by unfold maxLen; omega) (by omega) (by simp; omega) ?_
                       intro v' w8 ho hg hw
                       have hkb := HKP.out w8 hg
                       have yc8 := (World.cell?_of_block (a := ⟨bR, Bn * 7 + 2, none⟩) hkb).trans yc
                       have yz8 := (World.frozen?_of_block (a := ⟨bR, Bn * 7 + 2, none⟩) hkb).trans yz
                       obtain ⟨a', c', hv'⟩ := row_any ho
                       subst hv'
                       have HH := hidLL (And.intro ho (And.intro hg hw))
                       clear ho hg hw hkb))
                all_goals
                  go_wp2
                  go_roundw
                  case measure => simp [RowKit.intOf]; omega
                  obtain ⟨ho, hg, hw⟩ := HH.out
                  have hkb := HKP.out _ hg
                  rw [← HSV.out.1] at hg hw
                  have ho2 : w8.ownsRow (bR + 1) 125 1 (.slice a' (n + 1) c') ((fL T i (i) 0 oi (4 * k + Bn)).length + 1) (ptrs bR (fL T i (i) 0 oi (4 * k + Bn)) ++ [.pointer (some ⟨bR, A * 7, none⟩)]) := by rw [← HSV.out.2]; exact ho
                  have hP := Bld.push (hg := hg) (hw := hw) (ho := ho2) HB14.out.1 hKlt (by first | exact HA.out | exact ((Below.refl _ _).alloc (Nat.le_refl _) _).drew)
                  have hcA : cellAt bL bR k (4 * k + Bn) = ⟨bR, Bn * 7 + 2, none⟩ := by unfold cellAt; rw [if_neg (by omega), if_neg (by omega), show 4 * k + Bn - 4 * k = Bn by omega]
                  rw [hcA] at hP
                  refine ⟨oi + 1, _, by omega, by go_num, hP.same fun q _ => ?_⟩
                  have h9 := fL_over HX.out.1 (by rw [HX.out.2.2]; exact Int.natCast_nonneg _) HHD.out i i 0 q
                  rw [HX.out.2.1, HX.out.2.2, Int.toNat_natCast, Int.toNat_natCast] at h9
                  rw [HNQ.out]
                  exact h9.symm
              · have HHD : Hid ((rlAt T x.1.toNat).head ≠ -(rlAt T x.2.toNat).head) := by
                  show _ ≠ _
                  rw [HX.out.2.1, HX.out.2.2, Int.toNat_natCast, Int.toNat_natCast, ← HQQ.out.1, ← HQQ.out.2]
                  exact hh
                have hh2 : (Q1 == -Q2) = false := by simp [hh]
                go_wp2
                go_roundw
                case rel => exact ⟨oi + 1, v5, by omega, by go_num, HB14.out.1.same fun q _ => (fL_skip HX.out.1 HHD.out i i 0 q).symm⟩
                case measure => simp [RowKit.intOf]; omega
            · have hge4 : ¬ (oi : Int) < O := by omega
              have HFin : Hid (Net w11 bL bR w11.heap.size (shOf T) (vsOf (shOf T).N v5 bv B) (st0 T)) := by
                refine Bld.net HT.out (w0 := W0) ?_ (by omega) (fun j hj => (HBV.out j (by rw [HRR.out]; exact hj)).on fun q hq => hB13.bel.block q (by have := HbL.out; omega))
                have hoe : oi = T.over.length := by have := HOO.out; omega
                have h9 := hB13
                rw [hoe, HRR.out, HNQ.out] at h9
                exact h9
              have HBel : Hid (Below w.heap.size w w11) := HB0.out.trans (hB13.bel.mono (by have := HZ0.out; omega))
              clear hB13
              go_wp2
              go_ret
              exact ⟨bL, bR, _, by rw [← HNQ.out]; rfl, HFin.out, rfl, by omega, HBel.out⟩
end Go.Proofs.YtmbclnaenjcocaaGreatDoor

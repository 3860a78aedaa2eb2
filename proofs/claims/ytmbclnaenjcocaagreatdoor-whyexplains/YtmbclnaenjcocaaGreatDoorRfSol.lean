/-
  The document's answer for rules: all that follows (Nothing, literal, Solved).
-/
import Derived.Test.YtmbclnaenjcocaaGreatDoorRfPl
namespace Go.Proofs.YtmbclnaenjcocaaGreatDoor
open Go.RowKit
variable {w : World} {T : Thy} {rv ov : Value} {B pb po sb bM : Nat} {m : Nat → Nat → Bool}

def zM4 : Array Value := #[.bool false, .bool false, .bool false, .bool false]
theorem Tryz.infoM4 : (Tryz.prog.info? 42).map (fun i => (i.zero, i.size, i.bytes)) = some (some (.agg zM4), 4, 4) := by kernel_rfl
theorem make_m4 (n : Nat) (hn : n ≤ 100000) (w : World) : (Instr.makeSlice 43 (.int .i64 (n : Int)) (.int .i64 (n : Int))).run Tryz.prog w = .ok (.slice (some ⟨w.heap.size, 0, none⟩) n n) (w.alloc (.cells (madeCells zM4 (n * 4)) 42)) := by
  obtain ⟨i, hi, e⟩ := Option.map_eq_some_iff.1 Tryz.infoM4
  simp only [Prod.mk.injEq] at e
  obtain ⟨e1, e2, e3⟩ := e
  have h := run_make (P := Tryz.prog) w 43 42 i (.agg zM4) Tryz.underlying43 hi e1 .i64 .i64 n n (by omega) (Int.le_refl _) (by rw [e3]; omega) (by omega)
  rw [e2] at h
  simp only [Int.toNat_natCast] at h
  exact h
theorem made_m4 (w : World) (n : Nat) : (w.alloc (.cells (madeCells zM4 n) 42)).rowIs w.heap.size 42 n (fun _ => .bool false) :=
  ⟨_, Go.Deep.blk_alloc_new _ _, size_madeCells _ _, fun i hi => by
    have h5 : i % 4 < 4 := Nat.mod_lt _ (by omega)
    have e : (madeCells zM4 n)[i]? = some (zM4[i % 4]!) := by simp [madeCells, hi, zM4]
    rw [e]
    unfold zM4
    match hm : i % 4, h5 with
    | 0, _ => simp
    | 1, _ => simp
    | 2, _ => simp
    | 3, _ => simp⟩
def NthR (T : Thy) (rv ov : Value) (B pb po : Nat) (w : World) (e : Ending) (w' : World) : Prop := ∃ sb bM, e = .returned (.pointer (some ⟨sb, 0, none⟩)) ∧ SM w' T rv ov B pb po sb bM (fun _ _ => false) ∧ w.heap.size ≤ sb ∧ w.heap.size ≤ bM ∧ sb ≠ bM ∧ Below w.heap.size w w'
theorem nothing_r (h : TP w B T rv ov pb po) (hB : B ≤ w.heap.size) (hT : Okt T) : Calls Tryz.prog 23 #[.pointer (some ⟨pb, po, none⟩)] w (NthR T rv ov B pb po w) := by
  have c0 := h.c0
  have hn1 := hT.n0
  have hn2 := hT.n1
  obtain ⟨N2, hN2⟩ : ∃ N2, N2 = 2 * T.names.toNat := ⟨_, rfl⟩
  have hmk : ∀ w : World, (Instr.makeSlice 43 (.int .i64 (2 * T.names)) (.int .i64 (2 * T.names))).run Tryz.prog w = .ok (.slice (some ⟨w.heap.size, 0, none⟩) N2 N2) (w.alloc (.cells (madeCells zM4 (N2 * 4)) 42)) := fun w => by
    have := make_m4 N2 (by omega) w
    rw [show (N2 : Int) = 2 * T.names by omega] at this
    exact this
  have HE : Hid (∀ W, W = (w.alloc (.cells (madeCells zM4 (N2 * 4)) 42)).alloc (.cells #[.pointer (some ⟨pb, po, none⟩), .slice (some ⟨w.heap.size, 0, none⟩) N2 N2] 45) → NthR T rv ov B pb po w (.returned (.pointer (some ⟨w.heap.size + 1, 0, none⟩))) W) := fun W hW => by
    have hb : Below w.heap.size w W := by rw [hW]; exact ((Below.refl _ _).alloc (Nat.le_refl _) _).alloc (by simp) _
    refine ⟨w.heap.size + 1, w.heap.size, rfl, ⟨h.bel hb hB, ?_, ?_, Nat.le_trans hB hb.size⟩, by omega, Nat.le_refl _, by omega, hb⟩
    · have h9 := blk_new (w.alloc (.cells (madeCells zM4 (N2 * 4)) 42)) (.cells #[.pointer (some ⟨pb, po, none⟩), .slice (some ⟨w.heap.size, 0, none⟩) N2 N2] 45)
      rw [World.size_alloc] at h9
      rw [hW, ← hN2]
      exact h9
    · rw [← hN2, hW]
      exact (made_m4 w (N2 * 4)).alloc _
  clear h hT hN2
  generalize T.names = nm at *
  go_enter Tryz.func23, Tryz.ntmps23
  go_wp2
  go_ret
  exact HE.out _ rfl
theorem literal_r (p : Nat) (hp : p ≤ 1000000) (w : World) : Calls Tryz.prog 24 #[.int .i64 p] w fun e w' => e = .returned (.int .i64 (litOf p)) ∧ w' = w := by
  have HL : Hid (litOf p = if p % 2 = 0 then ((p / 2 + 1 : Nat) : Int) else -((p / 2 + 1 : Nat) : Int)) := rfl
  generalize litOf p = q at *
  by_cases h : p % 2 = 0
  · have HQ : Hid (q = (p : Int) / 2 + 1) := by show _ = _; rw [HL.out, if_pos h]; omega
    have hz : (p : Int) % 2 = 0 := by omega
    have hz2 : ((p : Int) % 2 == 0) = true := by rw [hz]; rfl
    clear HL
    go_enter Tryz.func24, Tryz.ntmps24
    go_wp2
    go_ret
    exact ⟨retI HQ.out.symm, rfl⟩
  · have HQ : Hid (q = -((p : Int) / 2 + 1)) := by show _ = _; rw [HL.out, if_neg h]; omega
    have hz : (p : Int) % 2 = 1 := by omega
    have hz2 : ((p : Int) % 2 == 0) = false := by rw [hz]; rfl
    clear HL
    go_enter Tryz.func24, Tryz.ntmps24
    go_wp2
    go_ret
    exact ⟨retI HQ.out.symm, rfl⟩
theorem SM.set (h : SM w T rv ov B pb po sb bM m) (hBM : B ≤ bM) (hsb : sb ≠ bM) {p k : Nat} (hk : k < 4) : SM (w.setCell ⟨bM, p * 4 + k, none⟩ (.bool true)) T rv ov B pb po sb bM (updM m p k) := by
  have hb : Below B w (w.setCell ⟨bM, p * 4 + k, none⟩ (.bool true)) := (Below.refl _ _).setCell (p := ⟨bM, _, none⟩) hBM _
  refine ⟨h.tp.bel hb (Nat.le_refl _), (Below.heap_setCell _ _ _ _ hsb).trans h.sh, (h.row.set (p * 4 + k) _).congr fun x _ => ?_, by have := h.lt; simp; exact this⟩
  unfold updM
  by_cases e : x = p * 4 + k
  · rw [if_pos e, if_pos (by omega)]
  · rw [if_neg e, if_neg (by omega)]
/-- What Solved answers. -/
def SldR (T : Thy) (rv ov : Value) (B pb po : Nat) (w : World) (e : Ending) (w' : World) : Prop := ∃ sb bM m, e = .returned (.pointer (some ⟨sb, 0, none⟩)) ∧ SM w' T rv ov B pb po sb bM m ∧ Shw T (mkB T m) ∧ Closed T (mkB T m) ∧ Below w.heap.size w w'
set_option maxHeartbeats 4000000 in
set_option maxRecDepth 100000 in
theorem solved_r (h : TP w B T rv ov pb po) (hB : B ≤ w.heap.size) (hT : Okt T) : Calls Tryz.prog 12 #[.pointer (some ⟨pb, po, none⟩)] w (SldR T rv ov B pb po w) := by
  have HN := hidLL (nothing_r h hB hT)
  have HT := hidLL hT
  have hn1 := hT.n0
  have hn2 := hT.n1
  obtain ⟨N2, hN2⟩ : ∃ N2, N2 = 2 * T.names.toNat := ⟨_, rfl⟩
  have hNz : (N2 : Int) = 2 * T.names := by omega
  have HN2 := hidLL (And.intro hN2 hNz)
  obtain ⟨nm, hnm⟩ : ∃ nm, nm = T.names := ⟨_, rfl⟩
  have HNM := hidLL hnm
  rw [← hnm] at hn1 hn2
  have hlo := h.lt
  clear h hT hN2 hNz hnm
  go_enter Tryz.func12, Tryz.ntmps12
  go_wp2_with fail
  refine HN.out.mono ?_
  rintro e w1 ⟨sb, bM, rfl, hSM, hsb, hbM, hne, hb1⟩
  have H1 := hidLL (And.intro hSM hb1)
  clear hSM hb1 HN
  go_wp2_with fail
  go_loopg [4] (zM N2 (fun _ _ => false) + 1) (fun gk t4 wr => ∃ (m : Nat → Nat → Bool) (ag : Bool), t4 = .bool ag ∧ SM wr T rv ov B pb po sb bM m ∧ Shw T (mkB T m) ∧ (ag = false → Closed T (mkB T m)) ∧ Below w.heap.size w wr ∧ zM N2 m + (if ag then 1 else 0) ≤ gk)
  case atStart => exact ⟨_, true, rfl, H1.out.1, by rw [mkB_none]; exact Shw.none T, (fun e => by cases e), H1.out.2, by simp⟩
  case round =>
    obtain ⟨m, ag, rfl, hSM, hSh, hCl, hbel, hz⟩ := hrel
    have HS := hidLL (And.intro hSM (And.intro hSh (And.intro hCl (And.intro hbel hz))))
    clear hSM hSh hCl hbel hz
    cases ag with
    | false =>
      go_wp2
      go_ret
      exact ⟨sb, bM, m, rfl, HS.out.1, HS.out.2.1, HS.out.2.2.1 (by first | rfl | trivial), HS.out.2.2.2.1⟩
    | true =>
      go_wp2_with fail
      go_loopw [4, 5] (fun t4 t5 w2 => ∃ (m2 : Nat → Nat → Bool) (ag2 : Bool) (j : Nat), j ≤ 4 ∧ t4 = .bool ag2 ∧ t5 = .int .i64 (3 - (j : Int)) ∧ SM w2 T rv ov B pb po sb bM m2 ∧ Shw T (mkB T m2) ∧ Below w.heap.size w w2 ∧ Pas T m (fun k _ => 4 ≤ k + j) m2 ag2) (fun _ t5 _ => (RowKit.intOf t5 + 1).toNat)
      case atStart => exact ⟨m, false, 0, by omega, rfl, rfl, HS.out.1, HS.out.2.1, HS.out.2.2.2.1, (Pas.start m).conv fun k p hk hp h => by omega⟩
      case round =>
        obtain ⟨m2, ag2, j, hj, rfl, rfl, hSM2, hSh2, hb2, hP2⟩ := hrel
        have HS2 := hidLL (And.intro hSM2 (And.intro hSh2 (And.intro hb2 hP2)))
        clear hSM2 hSh2 hb2 hP2
        by_cases hlt : j < 4
        · have hjz : (0 : Int) ≤ 3 - (j : Int) := by omega
          obtain ⟨k, hk⟩ : ∃ k : Nat, k = 3 - j := ⟨_, rfl⟩
          have hkj : (3 : Int) - (j : Int) = (k : Int) := by omega
          rw [hkj] at hjz ⊢
          have hk4 : k < 4 := by omega
          have HKJ := hidLL (And.intro hkj hk)
          clear hkj hk
          go_wp2_with fail
          go_loopw [4, 6] (fun t4 t6 w3 => ∃ (m3 : Nat → Nat → Bool) (ag3 : Bool) (p : Nat), p ≤ N2 ∧ t4 = .bool ag3 ∧ t6 = .int .i64 p ∧ SM w3 T rv ov B pb po sb bM m3 ∧ Shw T (mkB T m3) ∧ Below w.heap.size w w3 ∧ Pas T m (fun k' p' => 4 ≤ k' + j ∨ (k' = k ∧ p' < p)) m3 ag3) (fun _ t6 _ => N2 - (RowKit.intOf t6).toNat)
          case atStart => exact ⟨m2, ag2, 0, by omega, rfl, rfl, HS2.out.1, HS2.out.2.1, HS2.out.2.2.1, HS2.out.2.2.2.conv fun k' p' _ _ h => by omega⟩
          case round =>
            obtain ⟨m3, ag3, p, hp, rfl, rfl, hSM3, hSh3, hb3, hP3⟩ := hrel
            obtain ⟨w3, hw3⟩ : ∃ w3 : World, w3 = wr := ⟨_, rfl⟩
            subst hw3
            have x0 : w3.cell? ⟨pb, po, none⟩ = some (.int .i64 nm) := by rw [HNM.out]; exact hSM3.tp.c0
            by_cases hlt2 : p < N2
            · have hpz : (p : Int) < 2 * nm := by have := HN2.out; have := HNM.out; omega
              obtain ⟨hlit, hpl⟩ := litOf_lit HT.out (p := p) (by rw [← HN2.out.1]; exact hlt2)
              have HL := hidLL (literal_r p (by omega) w3)
              have HH : Hid (Calls Tryz.prog 25 #[.pointer (some ⟨sb, 0, none⟩), .int .i64 (litOf p), .int .i64 k] w3 (BR w3 (m3 p k))) := by
                have := has_r hSM3 HT.out hlit hk4
                rw [hpl] at this
                exact this
              have HC : Hid (∀ W, Below w3.heap.size w3 W → Calls Tryz.prog 26 #[.pointer (some ⟨sb, 0, none⟩), .int .i64 (litOf p), .int .i64 k] W (BR W (canB T m3 k (litOf p)))) := fun W hW => can_r (hSM3.bel hW) HT.out hlit hk4
              have HS3 := hidLL (And.intro hSM3 (And.intro hSh3 (And.intro hb3 (And.intro hP3 (And.intro hlit hpl)))))
              clear hSM3 hSh3 hb3 hP3 hlit hpl
              have HCB : Hid (canB T m3 k (litOf p) = canB T m3 k (litOf p)) := rfl
              obtain ⟨cb, hcb⟩ : ∃ cb, cb = canB T m3 k (litOf p) := ⟨_, rfl⟩
              rw [← hcb] at HC
              have HCV := hidLL hcb
              clear hcb HCB
              obtain ⟨q, hq⟩ : ∃ q, q = litOf p := ⟨_, rfl⟩
              rw [← hq] at HL HH HC
              have HQ := hidLL hq
              clear hq
              cases hm : m3 p k with
              | true =>
                rw [hm] at HH
                have HM := hidLL hm
                clear hm HC
                go_wp2_with fail
                refine HL.out.mono ?_
                rintro e w' ⟨rfl, ew⟩
                subst w'
                go_wp2_with fail
                refine HH.out.mono ?_
                rintro e w4 ⟨rfl, hb4⟩
                have H4 := hidLL hb4
                clear hb4
                go_wp2
                go_roundw
                case rel =>
                  obtain ⟨a1, a2, a3, a4, _, _⟩ := HS3.out
                  exact ⟨m3, ag3, p + 1, by omega, rfl, by go_num, a1.bel H4.out, a2, a3.trans (H4.out.mono a3.size), (a4.skip (.inl HM.out)).conv fun k' p' _ _ h => by omega⟩
                case measure => simp [RowKit.intOf]; omega
              | false =>
                rw [hm] at HH
                have HM := hidLL hm
                clear hm
                cases cb with
                | false =>
                  go_wp2_with fail
                  refine HL.out.mono ?_
                  rintro e w' ⟨rfl, ew⟩
                  subst w'
                  go_wp2_with fail
                  refine HH.out.mono ?_
                  rintro e w4 ⟨rfl, hb4⟩
                  have HC4 := hidLL (HC.out w4 hb4)
                  have H4 := hidLL hb4
                  clear hb4 HC
                  go_wp2_with fail
                  refine HC4.out.mono ?_
                  rintro e w5 ⟨rfl, hb5⟩
                  have H5 := hidLL (H4.out.trans (hb5.mono H4.out.size))
                  clear hb5
                  go_wp2
                  go_roundw
                  case rel =>
                    obtain ⟨a1, a2, a3, a4, _, _⟩ := HS3.out
                    exact ⟨m3, ag3, p + 1, by omega, rfl, by go_num, a1.bel H5.out, a2, a3.trans (H5.out.mono a3.size), (a4.skip (.inr HCV.out.symm)).conv fun k' p' _ _ h => by omega⟩
                  case measure => simp [RowKit.intOf]; omega
                | true =>
                  go_wp2_with fail
                  refine HL.out.mono ?_
                  rintro e w' ⟨rfl, ew⟩
                  subst w'
                  go_wp2_with fail
                  refine HH.out.mono ?_
                  rintro e w4 ⟨rfl, hb4⟩
                  have HC4 := hidLL (HC.out w4 hb4)
                  have H4 := hidLL hb4
                  clear hb4 HC
                  go_wp2_with fail
                  refine HC4.out.mono ?_
                  rintro e w5 ⟨rfl, hb5⟩
                  have hb35 := H4.out.trans (hb5.mono H4.out.size)
                  have hSM5 := HS3.out.1.bel hb35
                  have y1 : w5.cell? ⟨sb, 1, none⟩ = some (.slice (some ⟨bM, 0, none⟩) N2 N2) := by rw [HN2.out.1]; simp [World.cell?, hSM5.sh]
                  have y2 := hSM5.row.cell (i := p * 4 + k) (by rw [← HN2.out.1]; omega)
                  have y3 := hSM5.row.frozen (p * 4 + k)
                  have hlM := hSM5.row.lt
                  have hk4z : (k : Int) < 4 := by omega
                  have hp2z : (p : Int) < (N2 : Int) := by omega
                  generalize Value.bool (m3 ((p * 4 + k) / 4) ((p * 4 + k) % 4)) = u2 at y2
                  have H5 := hidLL (And.intro hSM5 hb35)
                  clear hb5 hb35 hSM5
                  go_wp2
                  go_roundw
                  case rel =>
                    obtain ⟨a1, a2, a3, a4, a5, a6⟩ := HS3.out
                    refine ⟨updM m3 p k, true, p + 1, by omega, rfl, by go_num, H5.out.1.set (by omega) hne hk4, ?_, (a3.trans (H5.out.2.mono a3.size)).setCell (p := ⟨bM, _, none⟩) hbM _, a4.set (by rw [← HN2.out.1]; exact hlt2) hk4 HM.out⟩
                    have h9 := a2.add a5 ((canB_iff HT.out a5 hk4).1 HCV.out.symm)
                    rw [← mkB_upd a5 hk4, a6] at h9
                    exact h9
                  case measure => simp [RowKit.intOf]; omega
            · have hge : ¬ (p : Int) < 2 * nm := by have := HN2.out; have := HNM.out; omega
              have HS3 := hidLL (And.intro hSM3 (And.intro hSh3 (And.intro hb3 hP3)))
              clear hSM3 hSh3 hb3 hP3
              go_wp2
              go_roundw
              case rel =>
                obtain ⟨a1, a2, a3, a4⟩ := HS3.out
                have hk9 := HKJ.out
                exact ⟨m3, ag3, j + 1, by omega, rfl, by first | (go_num; done) | (congr 1; omega), a1, a2, a3, a4.conv fun k' p' hk' hp' h => by have := HN2.out.1; omega⟩
              case measure => simp [RowKit.intOf]
        · have hge : ¬ (0 : Int) ≤ 3 - (j : Int) := by omega
          have hj4 : j = 4 := by omega
          go_wp2_with fail
          go_roundg (zM N2 m2 + (if ag2 then 1 else 0))
          case measure =>
            obtain ⟨_, _, _, a4⟩ := HS2.out
            have h9 := HS.out.2.2.2.2
            simp only [if_true] at h9
            cases ag2 with
            | false => rw [(a4.no rfl).1]; simp; omega
            | true =>
              have := a4.yes rfl
              rw [← HN2.out.1] at this
              simp
              omega
          case rel =>
            obtain ⟨a1, a2, a3, a4⟩ := HS2.out
            refine ⟨m2, ag2, rfl, a1, a2, fun e => ?_, a3, Nat.le_refl _⟩
            subst e
            exact a4.closed HT.out fun k p hk hp => by omega
end Go.Proofs.YtmbclnaenjcocaaGreatDoor

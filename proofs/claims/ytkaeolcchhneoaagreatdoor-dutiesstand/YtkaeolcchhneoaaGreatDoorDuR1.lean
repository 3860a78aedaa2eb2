/-
  Duties, the reference: the state of one, day by day (written by tools/gendur1.py).
-/
import Derived.Test.YtkaeolcchhneoaaGreatDoorDuP5
namespace Go.Proofs.YtkaeolcchhneoaaGreatDoor
open Go.RowKit

def zStr : List Value := [.string ⟨#[]⟩, .string ⟨#[]⟩, .int .i64 0, .int .i64 0, .string ⟨#[]⟩, .int .i64 0, .int .i64 0, .int .i64 0, .int .i64 0, .int .i64 0, .int .i64 0]
/-- The boxes of stateOf: the duty, the result. -/
structure RBox (w W : World) (d : Du) : Prop where
  d : W.rangeAt w.heap.size 0 (duE.f d)
  r : W.rangeAt (w.heap.size + 1) 0 zStr
  fr : ∀ k, W.frozen? ⟨w.heap.size + 1, k, none⟩ = false
  bel : Below w.heap.size w W
  lt : w.heap.size + 2 ≤ W.heap.size
theorem RBox.mk' (w : World) (d : Du) (T1 T2 : Nat) : RBox w ((w.alloc (.cells (duE.f d).toArray T1)).alloc (.cells zStr.toArray T2)) d := by
  have hs : (w.alloc (.cells (duE.f d).toArray T1)).heap.size = w.heap.size + 1 := by simp
  refine ⟨range_bel (alloc_range w _ T1) (bel1 _ _) (by rw [hs]; omega), ?_, fun k => ?_, (bel1 w _).trans ((bel1 _ _).mono (by rw [hs]; omega)), by simp⟩
  · have := alloc_range (w.alloc (.cells (duE.f d).toArray T1)) zStr T2
    rwa [hs] at this
  · have := frozen_new (w.alloc (.cells (duE.f d).toArray T1)) zStr.toArray T2 k
    rwa [hs] at this
theorem RBox.on {w W W' : World} {d : Du} (h : RBox w W d) (hb : Below W.heap.size W W') : RBox w W' d := by
  have hl := h.lt
  exact ⟨range_bel h.d hb (by omega), range_bel h.r hb (by omega), fun k => (hb.frozen (p := ⟨w.heap.size + 1, k, none⟩) (show w.heap.size + 1 < _ by omega)).trans (h.fr k), h.bel.trans (hb.mono h.bel.size), Nat.le_trans h.lt hb.size⟩
theorem bel11 {B br : Nat} {w W : World} (h : Below B w W) (hr : B ≤ br) (v0 v1 v2 v3 v4 v5 v6 v7 v8 v9 v10 : Value) : Below B w ((((((((((((W).setCell ⟨br, 0, none⟩ v0).setCell ⟨br, 1, none⟩ v1).setCell ⟨br, 2, none⟩ v2).setCell ⟨br, 3, none⟩ v3).setCell ⟨br, 4, none⟩ v4).setCell ⟨br, 5, none⟩ v5).setCell ⟨br, 6, none⟩ v6).setCell ⟨br, 7, none⟩ v7).setCell ⟨br, 8, none⟩ v8).setCell ⟨br, 9, none⟩ v9).setCell ⟨br, 10, none⟩ v10) := (((((((((((h.setCell hr _).setCell hr _).setCell hr _).setCell hr _).setCell hr _).setCell hr _).setCell hr _).setCell hr _).setCell hr _).setCell hr _).setCell hr _)
theorem any_step {d : Du} {wv : Bool} {x : Int} {ev : List Ev} {i : Nat} {e : Ev} (h : ev[i]? = some e) : anyB d wv x (ev.take (i + 1)) = (anyB d wv x (ev.take i) || atB d wv x e) := by
  unfold anyB
  rw [List.take_add_one, h, List.any_append]
  simp
set_option maxHeartbeats 8000000 in
set_option maxRecDepth 10000 in
theorem rState_p {B n c : Nat} {a : Option Addr} {ev : List Ev} {w : World} (d : Du) (on : Int) (h : RdG evE w B (.slice a n c) ev) (hB : B ≤ w.heap.size) (hon : on ≤ 1000000000) (hfrm : -1000000000 ≤ d.frm) (htil : -1000000000 ≤ d.til) :
    Calls Tryz.prog 25 #[.agg (duE.f d).toArray, .slice a n c, .int .i64 on] w fun e w' => e = .returned (.agg (stE.f (stP ev on d (-1))).toArray) ∧ Below w.heap.size w w' := by
  obtain ⟨hn, hbig⟩ := h.len
  have HR := hidIt (And.intro h hn)
  have HX := hidIt (RBox.mk' w d 62 81)
  obtain ⟨S, hS⟩ : ∃ S, S = stP ev on d (-1) := ⟨_, rfl⟩
  rw [← hS]
  have HS := hidIt hS
  obtain ⟨dn, dw, df, dt, de, dN, dU, dR⟩ := d
  simp only at hfrm htil
  clear h hn hS
  have x2 : ((w.alloc (.cells #[.string dn, .string dw, .int .i64 df, .int .i64 dt, .string de, .int .i64 dN, .int .i64 dU, .int .i64 dR] 62)).alloc (.cells #[.string ⟨#[]⟩, .string ⟨#[]⟩, .int .i64 0, .int .i64 0, .string ⟨#[]⟩, .int .i64 0, .int .i64 0, .int .i64 0, .int .i64 0, .int .i64 0, .int .i64 0] 81)).cell? ⟨w.heap.size, 2, none⟩ = some (.int .i64 df) := HX.out.d 2 _ rfl
  show Calls Tryz.prog 25 #[.agg #[.string dn, .string dw, .int .i64 df, .int .i64 dt, .string de, .int .i64 dN, .int .i64 dU, .int .i64 dR], .slice a n c, .int .i64 on] w _
  go_enter Tryz.func25, Tryz.ntmps25
  go_wp2_with fail
  go_loopw [7] (fun t wr => ∃ x : Int, t = .int .i64 x ∧ df ≤ x ∧ (x ≤ on + 1 ∨ x = df) ∧ Non ⟨dn, dw, df, dt, de, dN, dU, dR⟩ ev x ∧ RBox w wr ⟨dn, dw, df, dt, de, dN, dU, dR⟩) (fun t _ => (on + 1 - RowKit.intOf t).toNat)
  case atStart => exact ⟨df, rfl, Int.le_refl _, .inr rfl, non_from ⟨dn, dw, df, dt, de, dN, dU, dR⟩ ev, HX.out⟩
  case round =>
    obtain ⟨x, rfl, hx1, hx2, hN, hX⟩ := hrel
    have HN := hidIt hN
    have HX1 := hidIt hX
    have hlt1 := hX.lt
    clear hN hX HX x2
    by_cases hlt : x ≤ on
    · go_wp2_with fail
      go_loopw [8, 9, 10] (fun t8 t9 t10 w2 => ∃ (i : Nat) (b1 b2 : Bool), i ≤ n ∧ t8 = .bool b1 ∧ t9 = .bool b2 ∧ t10 = .int .i64 i ∧ b1 = anyB ⟨dn, dw, df, dt, de, dN, dU, dR⟩ false x (ev.take i) ∧ b2 = anyB ⟨dn, dw, df, dt, de, dN, dU, dR⟩ true x (ev.take i) ∧ RBox w w2 ⟨dn, dw, df, dt, de, dN, dU, dR⟩) (fun _ _ t10 _ => n - (RowKit.intOf t10).toNat)
      case atStart => exact ⟨0, false, false, by omega, rfl, rfl, rfl, rfl, rfl, HX1.out⟩
      case round =>
        obtain ⟨i, b1, b2, hi, rfl, rfl, rfl, hb1, hb2, hX2⟩ := hrel
        have HX2 := hidIt hX2
        have hlt2 := hX2.lt
        clear hX2
        by_cases hlti : i < n
        · have c0 : decide ((i : Int) < n) = true := by simp; omega
          obtain ⟨e, he, _⟩ := get_in (l := ev) (i := i) (by have := HR.out.2; omega)
          obtain ⟨g, o, rfl, hg, hrg⟩ := HR.out.1.at he
          obtain ⟨e0, e1, e2, e3⟩ := ev_cells (range_bel hrg (HX2.out.bel.mono hB) hg)
          have hk : evE.k = 4 := rfl
          rw [hk] at e0 e1 e2 e3
          have HA1 := hidIt (any_step (d := ⟨dn, dw, df, dt, de, dN, dU, dR⟩) (wv := false) (x := x) he)
          have HA2 := hidIt (any_step (d := ⟨dn, dw, df, dt, de, dN, dU, dR⟩) (wv := true) (x := x) he)
          have HH := hidIt (And.intro hb1 hb2)
          have hiz : (i : Int) < n := by omega
          obtain ⟨ed, en, ew, ewv⟩ := e
          simp only at e0 e1 e2 e3
          have hq : ∀ ob : Obj, RBox w (wr.alloc ob) ⟨dn, dw, df, dt, de, dN, dU, dR⟩ := fun ob => HX2.out.on (bel1 _ _)
          have q0 := fun ob => (du_cells0 (hq ob).d).1
          have q1 := fun ob => (du_cells0 (hq ob).d).2.1
          simp only at q0 q1
          have HQ := hidIt hq
          clear hrg he hg hk hq hb1 hb2
          by_cases hd : ed = x
          · by_cases hen : en = dn
            · by_cases hew : ew = dw
              · subst hd hen hew
                have HT1 : Hid (atB ⟨en, ew, df, dt, de, dN, dU, dR⟩ false ed ⟨ed, en, ew, ewv⟩ = !ewv) := by show _ = _; unfold atB; cases ewv <;> simp
                have HT2 : Hid (atB ⟨en, ew, df, dt, de, dN, dU, dR⟩ true ed ⟨ed, en, ew, ewv⟩ = ewv) := by show _ = _; unfold atB; cases ewv <;> simp
                cases b1 <;> cases b2 <;> cases ewv
                all_goals
                  go_wp2
                  refine ⟨⟨i + 1, _, _, by omega, rfl, rfl, by go_num, ?_, ?_, HQ.out _⟩, by simp [RowKit.intOf]; omega⟩
                  · rw [HA1.out, ← HH.out.1, HT1.out]; rfl
                  · rw [HA2.out, ← HH.out.2, HT2.out]; rfl
              · have hew2 := toList_ne hew
                have hew3 : (ew.toList == dw.toList) = false := by simp [hew2]
                subst hd hen
                have HT : Hid (∀ wv, atB ⟨en, dw, df, dt, de, dN, dU, dR⟩ wv ed ⟨ed, en, ew, ewv⟩ = false) := fun wv => by unfold atB; simp [hew]
                go_wp2
                refine ⟨⟨i + 1, _, _, by omega, rfl, rfl, by go_num, ?_, ?_, HQ.out _⟩, by simp [RowKit.intOf]; omega⟩
                · rw [HA1.out, ← HH.out.1, HT.out, Bool.or_false]
                · rw [HA2.out, ← HH.out.2, HT.out, Bool.or_false]
            · have hen2 := toList_ne hen
              have hen3 : (en.toList == dn.toList) = false := by simp [hen2]
              subst hd
              have HT : Hid (∀ wv, atB ⟨dn, dw, df, dt, de, dN, dU, dR⟩ wv ed ⟨ed, en, ew, ewv⟩ = false) := fun wv => by unfold atB; simp [hen]
              go_wp2
              refine ⟨⟨i + 1, _, _, by omega, rfl, rfl, by go_num, ?_, ?_, HQ.out _⟩, by simp [RowKit.intOf]; omega⟩
              · rw [HA1.out, ← HH.out.1, HT.out, Bool.or_false]
              · rw [HA2.out, ← HH.out.2, HT.out, Bool.or_false]
          · have hd2 : (ed == x) = false := by simp [hd]
            have HT : Hid (∀ wv, atB ⟨dn, dw, df, dt, de, dN, dU, dR⟩ wv x ⟨ed, en, ew, ewv⟩ = false) := fun wv => by unfold atB; simp [hd]
            go_wp2
            refine ⟨⟨i + 1, _, _, by omega, rfl, rfl, by go_num, ?_, ?_, HQ.out _⟩, by simp [RowKit.intOf]; omega⟩
            · rw [HA1.out, ← HH.out.1, HT.out, Bool.or_false]
            · rw [HA2.out, ← HH.out.2, HT.out, Bool.or_false]
        · have c0 : decide ((i : Int) < n) = false := by simp; omega
          have hT : ev.take i = ev := List.take_of_length_le (by have := HR.out.2; omega)
          rw [hT] at hb1 hb2
          have HX1 := HX2
          have r0 : wr.cell? ⟨w.heap.size + 1, 0, none⟩ = some (.string ⟨#[]⟩) := HX1.out.r 0 _ rfl
          have r1 : wr.cell? ⟨w.heap.size + 1, 1, none⟩ = some (.string ⟨#[]⟩) := HX1.out.r 1 _ rfl
          have r2 : wr.cell? ⟨w.heap.size + 1, 2, none⟩ = some (.int .i64 0) := HX1.out.r 2 _ rfl
          have r3 : wr.cell? ⟨w.heap.size + 1, 3, none⟩ = some (.int .i64 0) := HX1.out.r 3 _ rfl
          have r4 : wr.cell? ⟨w.heap.size + 1, 4, none⟩ = some (.string ⟨#[]⟩) := HX1.out.r 4 _ rfl
          have r5 : wr.cell? ⟨w.heap.size + 1, 5, none⟩ = some (.int .i64 0) := HX1.out.r 5 _ rfl
          have r6 : wr.cell? ⟨w.heap.size + 1, 6, none⟩ = some (.int .i64 0) := HX1.out.r 6 _ rfl
          have r7 : wr.cell? ⟨w.heap.size + 1, 7, none⟩ = some (.int .i64 0) := HX1.out.r 7 _ rfl
          have r8 : wr.cell? ⟨w.heap.size + 1, 8, none⟩ = some (.int .i64 0) := HX1.out.r 8 _ rfl
          have r9 : wr.cell? ⟨w.heap.size + 1, 9, none⟩ = some (.int .i64 0) := HX1.out.r 9 _ rfl
          have r10 : wr.cell? ⟨w.heap.size + 1, 10, none⟩ = some (.int .i64 0) := HX1.out.r 10 _ rfl
          have fr := HX1.out.fr
          obtain ⟨q0, q1, q2, q3, q4, q5, q6, q7⟩ := du_cells0 HX1.out.d
          simp only at q0 q1 q2 q3 q4 q5 q6 q7
          cases b2
          · cases b1
            · have HNx := hidIt (day_next hx1 HN.out hb2.symm hb1.symm)
              clear hb1 hb2
              go_wp2
              exact ⟨⟨x + 1, by go_num, by omega, .inl (by omega), HNx.out, HX2.out⟩, by simp [RowKit.intOf]; omega⟩
            · have hdd := day_done (of := -1) hx1 hlt HN.out hb2.symm hb1.symm
              by_cases hxt : x ≤ dt
              · have HE : Hid (S = ⟨⟨dn, dw, df, dt, de, dN, dU, dR⟩, 1, x, -1⟩) := HS.out.trans (hdd.trans (if_pos hxt))
                clear hdd hb1 hb2
                go_wp2
                refine bodyPost_ret (v := .agg #[.string dn, .string dw, .int .i64 df, .int .i64 dt, .string de, .int .i64 dN, .int .i64 dU, .int .i64 dR, .int .i64 1, .int .i64 x, .int .i64 (-1)]) (by simp [results, Tryz.results25, go_sem, r0, r1, r2, r3, r4, r5, r6, r7, r8, r9, r10]) rfl ⟨retSt HE.out, bel11 HX1.out.bel (Nat.le_succ _) _ _ _ _ _ _ _ _ _ _ _⟩
              · have HE : Hid (S = ⟨⟨dn, dw, df, dt, de, dN, dU, dR⟩, 2, x, -1⟩) := HS.out.trans (hdd.trans (if_neg hxt))
                clear hdd hb1 hb2
                go_wp2
                refine bodyPost_ret (v := .agg #[.string dn, .string dw, .int .i64 df, .int .i64 dt, .string de, .int .i64 dN, .int .i64 dU, .int .i64 dR, .int .i64 2, .int .i64 x, .int .i64 (-1)]) (by simp [results, Tryz.results25, go_sem, r0, r1, r2, r3, r4, r5, r6, r7, r8, r9, r10]) rfl ⟨retSt HE.out, bel11 HX1.out.bel (Nat.le_succ _) _ _ _ _ _ _ _ _ _ _ _⟩
          · have HE : Hid (S = ⟨⟨dn, dw, df, dt, de, dN, dU, dR⟩, 4, x, -1⟩) := HS.out.trans (day_off (of := -1) hx1 hlt HN.out hb2.symm)
            clear hb1 hb2
            go_wp2
            refine bodyPost_ret (v := .agg #[.string dn, .string dw, .int .i64 df, .int .i64 dt, .string de, .int .i64 dN, .int .i64 dU, .int .i64 dR, .int .i64 4, .int .i64 x, .int .i64 (-1)]) (by simp [results, Tryz.results25, go_sem, r0, r1, r2, r3, r4, r5, r6, r7, r8, r9, r10]) rfl ⟨retSt HE.out, bel11 HX1.out.bel (Nat.le_succ _) _ _ _ _ _ _ _ _ _ _ _⟩
    · have hd := day_end (of := -1) (show on < x by omega) HN.out
      have r0 : wr.cell? ⟨w.heap.size + 1, 0, none⟩ = some (.string ⟨#[]⟩) := HX1.out.r 0 _ rfl
      have r1 : wr.cell? ⟨w.heap.size + 1, 1, none⟩ = some (.string ⟨#[]⟩) := HX1.out.r 1 _ rfl
      have r2 : wr.cell? ⟨w.heap.size + 1, 2, none⟩ = some (.int .i64 0) := HX1.out.r 2 _ rfl
      have r3 : wr.cell? ⟨w.heap.size + 1, 3, none⟩ = some (.int .i64 0) := HX1.out.r 3 _ rfl
      have r4 : wr.cell? ⟨w.heap.size + 1, 4, none⟩ = some (.string ⟨#[]⟩) := HX1.out.r 4 _ rfl
      have r5 : wr.cell? ⟨w.heap.size + 1, 5, none⟩ = some (.int .i64 0) := HX1.out.r 5 _ rfl
      have r6 : wr.cell? ⟨w.heap.size + 1, 6, none⟩ = some (.int .i64 0) := HX1.out.r 6 _ rfl
      have r7 : wr.cell? ⟨w.heap.size + 1, 7, none⟩ = some (.int .i64 0) := HX1.out.r 7 _ rfl
      have r8 : wr.cell? ⟨w.heap.size + 1, 8, none⟩ = some (.int .i64 0) := HX1.out.r 8 _ rfl
      have r9 : wr.cell? ⟨w.heap.size + 1, 9, none⟩ = some (.int .i64 0) := HX1.out.r 9 _ rfl
      have r10 : wr.cell? ⟨w.heap.size + 1, 10, none⟩ = some (.int .i64 0) := HX1.out.r 10 _ rfl
      have fr := HX1.out.fr
      obtain ⟨q0, q1, q2, q3, q4, q5, q6, q7⟩ := du_cells0 HX1.out.d
      simp only at q0 q1 q2 q3 q4 q5 q6 q7
      by_cases ht : dt < on
      · have HE : Hid (S = ⟨⟨dn, dw, df, dt, de, dN, dU, dR⟩, 3, dt + 1, -1⟩) := HS.out.trans (hd.trans (if_pos ht))
        clear hd
        go_wp2
        refine bodyPost_ret (v := .agg #[.string dn, .string dw, .int .i64 df, .int .i64 dt, .string de, .int .i64 dN, .int .i64 dU, .int .i64 dR, .int .i64 3, .int .i64 (dt + 1), .int .i64 (-1)]) (by simp [results, Tryz.results25, go_sem, r0, r1, r2, r3, r4, r5, r6, r7, r8, r9, r10]) rfl ⟨retSt HE.out, bel11 HX1.out.bel (Nat.le_succ _) _ _ _ _ _ _ _ _ _ _ _⟩
      · have HE : Hid (S = ⟨⟨dn, dw, df, dt, de, dN, dU, dR⟩, 0, df, -1⟩) := HS.out.trans (hd.trans (if_neg ht))
        clear hd
        go_wp2
        refine bodyPost_ret (v := .agg #[.string dn, .string dw, .int .i64 df, .int .i64 dt, .string de, .int .i64 dN, .int .i64 dU, .int .i64 dR, .int .i64 0, .int .i64 df, .int .i64 (-1)]) (by simp [results, Tryz.results25, go_sem, r0, r1, r2, r3, r4, r5, r6, r7, r8, r9, r10]) rfl ⟨retSt HE.out, bel11 HX1.out.bel (Nat.le_succ _) _ _ _ _ _ _ _ _ _ _ _⟩
end Go.Proofs.YtkaeolcchhneoaaGreatDoor

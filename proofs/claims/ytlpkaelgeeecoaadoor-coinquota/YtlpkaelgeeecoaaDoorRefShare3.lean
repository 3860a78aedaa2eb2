/-
  The reference's Share, where it shares: below 0.
-/
import Derived.Test.YtlpkaelgeeecoaaDoorRefShare2
namespace Go.Proofs.YtlpkaelgeeecoaaDoor
open Go.RowKit Go.Sort Go.Shelf

set_option maxHeartbeats 8000000 in
set_option maxRecDepth 100000 in
theorem ref_neg (b off cap N : Nat) (T all : Int) (wv : Nat → Int) (d : Array (Fin (N + 1))) (w : World) (hw : ∀ i, i < N + 1 → w.cell? ⟨b, off + i, none⟩ = some (.int .i64 (wv i))) (hb : b < w.heap.size) (hn : N + 1 ≤ 60) (hall : (lst wv (N + 1)).sum = all) (hT : T < 0) (hs : szB T 1000000000000 = true) (ha : 0 < all) (hbad : (lst wv (N + 1)).any badW = false) (P : Picks d (-T) all wv) :
    Calls Tryd.prog 22 #[.int .i64 T, .slice (some ⟨b, off, none⟩) (N + 1) cap] w fun e w' =>
      e = .returned (.tuple #[.slice (some ⟨w.heap.size, 0, none⟩) (N + 1) (N + 1), .int .i64 0]) ∧ RowF w' w.heap.size (N + 1) (fun i => -part d (-T) all wv i) ∧ w.heap.size < w'.heap.size ∧ Below w.heap.size w w' := by
  have hT1 := szB_iff.1 hs
  have d0 : decide ((60 : Int) < (N : Int) + 1) = false := by simp; omega
  have dT : decide (T < 0) = true := by simp; omega
  have HS := hidIt (fun w => small_any T w)
  rw [hs] at HS
  obtain ⟨A, hA⟩ : ∃ A, A = -T := ⟨_, rfl⟩
  rw [← hA] at P ⊢
  have hA0 : 0 ≤ A := by omega
  have hA1 : A ≤ 1000000000000 := by omega
  have hall1 := (sum_lt hbad hn).2
  rw [hall] at hall1
  have HV := hidIt (bad_at hbad)
  have HW := hidIt hw
  have HSum := hidIt (fun i => lst_succ wv i)
  have HSb : Hid (∀ i, i ≤ N + 1 → 0 ≤ (lst wv i).sum ∧ (lst wv i).sum ≤ 60000000) := fun i hi => by
    have := sum_bd 1000000 (by decide) (lst wv i) (fun x hx => by
      obtain ⟨j, hj, rfl⟩ := lst_mem _ _ _ hx
      exact HV.out j (by omega))
    rw [lst_len] at this
    omega
  have HQb : Hid (∀ i, i < N + 1 → 0 ≤ qf A all wv i ∧ qf A all wv i ≤ A) := fun i hi => q_bd A all wv (N + 1) hA0 ha (fun i hi => (HV.out i hi).1) hall i hi
  have HQs : Hid (∀ i, i ≤ N + 1 → 0 ≤ (lst (qf A all wv) i).sum ∧ (lst (qf A all wv) i).sum ≤ 60000000000000) := fun i hi => by
    have := sum_bd 1000000000000 (by decide) (lst (qf A all wv) i) (fun x hx => by
      obtain ⟨j, hj, rfl⟩ := lst_mem _ _ _ hx
      have := HQb.out j (by omega)
      omega)
    rw [lst_len] at this
    omega
  have HWle : Hid (∀ i, i < N + 1 → wv i ≤ all) := fun i hi => by
    have := (part_le wv (N + 1) (fun i hi => (HV.out i hi).1)).2 i hi
    rw [hall] at this
    exact this
  obtain ⟨l0, l1⟩ := left_bd A all wv (N + 1) ha (by omega) hall
  have HLf : Hid (A - (lst (qf A all wv) (N + 1)).sum = lf A all wv (N + 1)) := by show _ = _; unfold lf; omega
  have hlf : (lf A all wv (N + 1) : Int) < (N : Int) + 1 := by have := HLf.out; omega
  have HP := hidIt P
  have hmk := make_ints w (N + 1) ((N : Int) + 1) (by omega) (by omega)
  have hmk2 := make_ints (w.alloc (.cells (Array.replicate (N + 1) (.int .i64 0)) 3)) (N + 1) ((N : Int) + 1) (by omega) (by omega)
  have r1 : RowF ((w.alloc (.cells (Array.replicate (N + 1) (.int .i64 0)) 3)).alloc (.cells (Array.replicate (N + 1) (.int .i64 0)) 3)) w.heap.size (N + 1) (upTo' 0 (qf A all wv)) := ((row_new w (N + 1)).alloc (by simp) _).congr (fun i _ => by simp [upTo'])
  have r2 : RowF ((w.alloc (.cells (Array.replicate (N + 1) (.int .i64 0)) 3)).alloc (.cells (Array.replicate (N + 1) (.int .i64 0)) 3)) (w.heap.size + 1) (N + 1) (upTo' 0 (rf A all wv)) := by
    have := row_new (w.alloc (.cells (Array.replicate (N + 1) (.int .i64 0)) 3)) (N + 1)
    have hs : (w.alloc (.cells (Array.replicate (N + 1) (.int .i64 0)) 3)).heap.size = w.heap.size + 1 := by simp
    rw [hs] at this
    exact this.congr (fun i _ => by simp [upTo'])
  have b1 : Below w.heap.size w ((w.alloc (.cells (Array.replicate (N + 1) (.int .i64 0)) 3)).alloc (.cells (Array.replicate (N + 1) (.int .i64 0)) 3)) := ((Below.refl _ w).alloc (Nat.le_refl _) _).alloc (by simp) _
  have R1 := hidIt r1
  have R2 := hidIt r2
  have B1 := hidIt b1
  have HAll := hidIt hall
  have hallz : (all == 0) = false := by simp; omega
  clear r1 r2 b1 hw hbad P hall l0 l1
  generalize hL : lf A all wv (N + 1) = L at *
  have HL := hidIt hL
  clear hL
  go_enter Tryd.func22, Tryd.ntmps22
  go_wp2_with fail
  go_loop [6, 7, 8] (fun s bd t => ∃ i : Nat, i ≤ N + 1 ∧ t = .int .i64 i ∧ bd = .bool false ∧ s = .int .i64 (lst wv i).sum) (fun _ _ t => N + 1 - (RowKit.intOf t).toNat)
  case atStart => exact ⟨0, by omega, rfl, rfl, rfl⟩
  case round =>
    obtain ⟨i, hi, rfl, rfl, rfl⟩ := hrel
    by_cases hlt : i < N + 1
    · have c0 : decide ((i : Int) < (N : Int) + 1) = true := by simp; omega
      have cx := HW.out i hlt
      have hiz : (i : Int) < (N : Int) + 1 := by omega
      obtain ⟨v0, v1⟩ := HV.out i hlt
      have e1 : decide (wv i < 0) = false := by simp; omega
      have e2 : decide (1000000 < wv i) = false := by simp; omega
      have HSm := hidIt (HSum.out i)
      obtain ⟨s0, s1⟩ := HSb.out i hi
      generalize (lst wv i).sum = s at *
      go_wp2
      go_round
      case rel => exact ⟨i + 1, by omega, by go_num, rfl, by rw [HSm.out]⟩
      case measure => simp [RowKit.intOf]; omega
    · have c0 : decide ((i : Int) < (N : Int) + 1) = false := by simp; omega
      obtain rfl : i = N + 1 := by omega
      rw [HAll.out]
      go_wp2_with fail
      refine (HS.out _).mono ?_
      rintro e w' ⟨rfl, ew⟩
      subst w'
      go_wp2_with fail
      rw [← hA]
      clear hA dT hT hT1 hs HS
      go_loopw [11, 15] (fun t11 t15 wr => ∃ k : Nat, t15 = .int .i64 k ∧ k ≤ N + 1 ∧ t11 = .int .i64 (A - (lst (qf A all wv) k).sum) ∧ RowF wr w.heap.size (N + 1) (upTo' k (qf A all wv)) ∧ RowF wr (w.heap.size + 1) (N + 1) (upTo' k (rf A all wv)) ∧ Below w.heap.size w wr) (fun _ t _ => N + 1 - (RowKit.intOf t).toNat)
      case atStart => exact ⟨0, rfl, by omega, by simp [lst], R1.out, R2.out, B1.out⟩
      case round =>
        obtain ⟨k, rfl, hk, rfl, x1, x2, x3⟩ := hrel
        have X1 := hidIt x1
        have X2 := hidIt x2
        have X3 := hidIt x3
        clear x1 x2 x3
        obtain ⟨q0, q1⟩ := HQs.out k hk
        by_cases hlt : k < N + 1
        · have c1 : decide ((k : Int) < (N : Int) + 1) = true := by simp; omega
          have hkz : (k : Int) < (N : Int) + 1 := by omega
          have cw := (X3.out.cell (p := ⟨b, off + k, none⟩) hb).trans (HW.out k hlt)
          obtain ⟨c1', f1⟩ := X1.out k hlt
          obtain ⟨c2', f2⟩ := X2.out k hlt
          obtain ⟨v0, v1⟩ := HV.out k hlt
          obtain ⟨u0, u1⟩ := HQb.out k hlt
          have HPo := hidIt (fun w => portion_any A (wv k) all w hA0 hA1 v0 (HWle.out k hlt) ha hall1)
          have HSm := hidIt (lst_succ (qf A all wv) k)
          have E1 : Hid (qf A all wv k = A * wv k / all) := rfl
          have E2 : Hid (rf A all wv k = A * wv k % all) := rfl
          rw [← E1.out, ← E2.out] at HPo
          generalize (lst (qf A all wv) k).sum = S at *
          go_wp2_with fail
          refine (HPo.out _).mono ?_
          rintro e w' ⟨rfl, ew⟩
          subst w'
          go_wp2_with fail
          refine ⟨⟨k + 1, by go_num, by omega, by rw [HSm.out]; exact congrArg _ (by omega), ?_, ?_, ?_⟩, by simp [RowKit.intOf]; omega⟩
          · exact ((X1.out.set k hlt (qf A all wv k)).other (a := ⟨w.heap.size + 1, k, none⟩) (by show w.heap.size + 1 ≠ w.heap.size; omega) _).congr (fun i _ => upTo_step k _ i)
          · exact ((X2.out.other (a := ⟨w.heap.size, k, none⟩) (by show w.heap.size ≠ w.heap.size + 1; omega) _).set k hlt (rf A all wv k)).congr (fun i _ => upTo_step k _ i)
          · exact (X3.out.setCell (p := ⟨w.heap.size, k, none⟩) (Nat.le_refl _) _).setCell (p := ⟨w.heap.size + 1, k, none⟩) (Nat.le_succ _) _
        · have c1 : decide ((k : Int) < (N : Int) + 1) = false := by simp; omega
          obtain rfl : k = N + 1 := by omega
          rw [HLf.out]
          have Y1 : Hid (RowF wr w.heap.size (N + 1) (fun i => qf A all wv i + hit1 d 0 i)) := X1.out.congr (fun i hi => by rw [upTo', if_pos hi]; simp [hit1, hits])
          have Y2 : Hid (RowF wr (w.heap.size + 1) (N + 1) (restAt d (rf A all wv) 0)) := X2.out.congr (fun i hi => by rw [upTo', if_pos hi]; simp [restAt, hits])
          clear q0 q1
          go_wp2_with fail
          go_loopw [11] (fun t11 wq => ∃ k : Nat, k ≤ L ∧ t11 = .int .i64 ((L : Int) - k) ∧ RowF wq w.heap.size (N + 1) (fun i => qf A all wv i + hit1 d k i) ∧ RowF wq (w.heap.size + 1) (N + 1) (restAt d (rf A all wv) k) ∧ Below w.heap.size w wq) (fun t _ => (RowKit.intOf t).toNat)
          case atStart => exact ⟨0, by omega, by simp, Y1.out, Y2.out, X3.out⟩
          case round =>
            obtain ⟨k, hk, rfl, z1, z2, z3⟩ := hrel
            have Z1 := hidIt z1
            have Z2 := hidIt z2
            have Z3 := hidIt z3
            clear z1 z2 z3 X1 X2 X3 Y1 Y2
            by_cases hkl : k < L
            · have c2 : decide ((0 : Int) < (L : Int) - k) = true := by simp; omega
              go_wp2_with fail
              obtain ⟨wo, hwo⟩ : ∃ wo : World, wo = wr := ⟨_, rfl⟩
              rw [← hwo] at Z1 Z2 Z3 ⊢
              clear hwo
              go_loopw [18, 19] (fun t18 t19 wq => ∃ x i m : Nat, t18 = .int .i64 x ∧ t19 = .int .i64 i ∧ 1 ≤ i ∧ i ≤ N + 1 ∧ x < i ∧ (∀ j, j < i → restAt d (rf A all wv) k j ≤ restAt d (rf A all wv) k x) ∧ (∀ j, j < x → restAt d (rf A all wv) k j < restAt d (rf A all wv) k x) ∧ wq = wo.drewN m) (fun _ t _ => N + 1 - (RowKit.intOf t).toNat)
              case atStart => exact ⟨0, 1, 0, rfl, rfl, by omega, by omega, by omega, (fun j hj => by obtain rfl : j = 0 := (by omega); exact Int.le_refl _), (fun j hj => by omega), rfl⟩
              case round =>
                obtain ⟨x, i, m, rfl, rfl, hi1, hi2, hxi, g1, g2, rfl⟩ := hrel
                have G1 := hidIt g1
                have G2 := hidIt g2
                clear g1 g2
                by_cases hin : i < N + 1
                · have c3 : decide ((i : Int) < (N : Int) + 1) = true := by simp; omega
                  obtain ⟨ci, _⟩ := Z2.out i hin
                  obtain ⟨cx, _⟩ := Z2.out x (by omega)
                  have hiz : (i : Int) < (N : Int) + 1 := by omega
                  have hxz : (x : Int) < (N : Int) + 1 := by omega
                  by_cases hgt : restAt d (rf A all wv) k x < restAt d (rf A all wv) k i
                  · have c4 : decide (restAt d (rf A all wv) k x < restAt d (rf A all wv) k i) = true := by simpa using hgt
                    have K1 : Hid (∀ j, j < i + 1 → restAt d (rf A all wv) k j ≤ restAt d (rf A all wv) k i) := fun j hj => by
                      rcases Nat.lt_or_ge j i with h | h
                      · have := G1.out j h; omega
                      · obtain rfl : j = i := by omega
                        exact Int.le_refl _
                    have K2 : Hid (∀ j, j < i → restAt d (rf A all wv) k j < restAt d (rf A all wv) k i) := fun j hj => by
                      have := G1.out j hj; omega
                    clear hgt
                    go_wp2_with fail
                    go_quiet (fail)
                    go_wp2
                    exact ⟨⟨i, i + 1, m + nq, rfl, by go_num, by omega, by omega, by omega, K1.out, K2.out, by simp⟩, by simp [RowKit.intOf]; omega⟩
                  · have c4 : decide (restAt d (rf A all wv) k x < restAt d (rf A all wv) k i) = false := by simpa using hgt
                    have K1 : Hid (∀ j, j < i + 1 → restAt d (rf A all wv) k j ≤ restAt d (rf A all wv) k x) := fun j hj => by
                      rcases Nat.lt_or_ge j i with h | h
                      · exact G1.out j h
                      · obtain rfl : j = i := by omega
                        omega
                    clear hgt
                    go_wp2_with fail
                    go_quiet (fail)
                    go_wp2
                    exact ⟨⟨x, i + 1, m + nq, rfl, by go_num, by omega, by omega, by omega, K1.out, G2.out, by simp⟩, by simp [RowKit.intOf]; omega⟩
                · have c3 : decide ((i : Int) < (N : Int) + 1) = false := by simp; omega
                  obtain rfl : i = N + 1 := by omega
                  obtain rfl : x = d[k]!.val := picked' HP.out ha k x (by omega) hxi G1.out G2.out
                  have HO := hidIt (out_succ HP.out.once (qf A all wv) k (by omega))
                  have HR := hidIt (rest_succ d (rf A all wv) k)
                  have ci : wo.cell? ⟨w.heap.size, d[k]!.val, none⟩ = some (.int .i64 (qf A all wv d[k]!.val + hit1 d k d[k]!.val)) := (Z1.out d[k]!.val hxi).1
                  have fi := (Z1.out d[k]!.val hxi).2
                  obtain ⟨cx, fx⟩ := Z2.out d[k]!.val hxi
                  obtain ⟨u0, u1⟩ := HQb.out d[k]!.val hxi
                  obtain ⟨t0, t1⟩ := hit1_bd d k d[k]!.val
                  clear G1 G2
                  generalize d[k]!.val = x at *
                  generalize hv : qf A all wv x + hit1 d k x = v at *
                  have hxz : (x : Int) < (N : Int) + 1 := by omega
                  have hv0 : 0 ≤ v := by omega
                  have hv1 : v ≤ 1000000000001 := by omega
                  clear hv u0 u1 t0 t1
                  go_wp2_with fail
                  refine ⟨⟨k + 1, by omega, by go_num, ?_, ?_, ?_⟩, by simp [RowKit.intOf]; omega⟩
                  · exact (((Z1.out.drewN m).set x hxi (v + 1)).other (a := ⟨w.heap.size + 1, x, none⟩) (by show w.heap.size + 1 ≠ w.heap.size; omega) _).congr (fun j _ => HO.out j)
                  · exact (((Z2.out.drewN m).other (a := ⟨w.heap.size, x, none⟩) (by show w.heap.size ≠ w.heap.size + 1; omega) _).set x hxi (-1)).congr (fun j _ => HR.out j)
                  · exact (((bdrewN Z3.out m).setCell (p := ⟨w.heap.size, x, none⟩) (Nat.le_refl _) _).setCell (p := ⟨w.heap.size + 1, x, none⟩) (Nat.le_succ _) _)
            · have c2 : decide ((0 : Int) < (L : Int) - k) = false := by simp; omega
              obtain rfl : k = L := by omega
              have HPt : Hid (∀ i, i < N + 1 → 0 ≤ qf A all wv i + hit1 d k i ∧ qf A all wv i + hit1 d k i ≤ 1000000000001) := fun i hi => by
                have h1 := HQb.out i hi
                have h2 := hit1_bd d k i
                omega
              have HF : Hid (∀ i, part d A all wv i = qf A all wv i + hit1 d k i) := fun i => by rw [part, HL.out]
              go_wp2_with fail
              go_loopw [20] (fun t20 wq => ∃ j : Nat, j ≤ N + 1 ∧ t20 = .int .i64 j ∧ RowF wq w.heap.size (N + 1) (fun i => if i < j then -(qf A all wv i + hit1 d k i) else qf A all wv i + hit1 d k i) ∧ Below w.heap.size w wq) (fun t _ => N + 1 - (RowKit.intOf t).toNat)
              case atStart => exact ⟨0, by omega, rfl, Z1.out.congr (fun i _ => by simp), Z3.out⟩
              case round =>
                obtain ⟨j, hj, rfl, y1, y2⟩ := hrel
                have Y1 := hidIt y1
                have Y2 := hidIt y2
                clear y1 y2 Z1 Z2 Z3
                by_cases hjn : j < N + 1
                · have c3 : decide ((j : Int) < (N : Int) + 1) = true := by simp; omega
                  have hjz : (j : Int) < (N : Int) + 1 := by omega
                  obtain ⟨ci', fi⟩ := Y1.out j hjn
                  have ci : wr.cell? ⟨w.heap.size, j, none⟩ = some (.int .i64 (qf A all wv j + hit1 d k j)) := by rw [ci']; simp
                  clear ci'
                  obtain ⟨u0, u1⟩ := HPt.out j hjn
                  have HSt : Hid (∀ v, v = qf A all wv j + hit1 d k j → ∀ i, (if i = j then -v else if i < j then -(qf A all wv i + hit1 d k i) else qf A all wv i + hit1 d k i) = if i < j + 1 then -(qf A all wv i + hit1 d k i) else qf A all wv i + hit1 d k i) := fun v hv i => by
                    by_cases e : i = j
                    · subst e; rw [if_pos rfl, if_pos (by omega), hv]
                    · rw [if_neg e]
                      by_cases h : i < j
                      · rw [if_pos h, if_pos (by omega)]
                      · rw [if_neg h, if_neg (by omega)]
                  generalize hv : qf A all wv j + hit1 d k j = v at ci u0 u1 HSt
                  clear hv
                  go_wp2_with fail
                  refine ⟨⟨j + 1, by omega, by go_num, (Y1.out.set j hjn (-v)).congr (fun i _ => HSt.out v rfl i), Y2.out.setCell (p := ⟨w.heap.size, j, none⟩) (Nat.le_refl _) _⟩, by simp [RowKit.intOf]; omega⟩
                · have c3 : decide ((j : Int) < (N : Int) + 1) = false := by simp; omega
                  obtain rfl : j = N + 1 := by omega
                  have hwz2 : w.heap.size < wr.heap.size := by
                    have := (Y1.out 0 (by omega)).1
                    rcases Nat.lt_or_ge w.heap.size wr.heap.size with h | h
                    · exact h
                    · have e : wr.heap[w.heap.size]? = none := by simp [h]
                      simp [World.cell?, e] at this
                  go_wp2
                  go_ret2
                  exact ⟨rfl, Y1.out.congr (fun i hi => by rw [if_pos hi, HF.out]), hwz2, Y2.out⟩
end Go.Proofs.YtlpkaelgeeecoaaDoor

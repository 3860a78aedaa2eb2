/-
  Package reason: isOrdered, walked.
-/
import Derived.Test.YtpijiglmjkdlgaaDoorOr2
namespace Go.Proofs.YtpijiglmjkdlgaaDoor
open Go.RowKit

theorem Ow.start {w0 w : World} {T : Thy} {c3 b4 b5 R : Nat} (h1 : w.rowIs b4 3 R (fun _ => .int .i64 0)) (h2 : w.heap[c3]? = some (.cells #[.slice (some ⟨b4, 0, none⟩) R R] 58 (0, 0))) (h3 : w.rowIs b5 58 R (fun _ => .slice none 0 0)) (o1 : w0.heap.size ≤ b4) (o2 : b4 < c3) (o3 : c3 < b5) (hb : Below w0.heap.size w0 w) :
    Ow w0 c3 b4 b5 R w (lfO T 0) (fun _ => .slice none 0 0) (lO T 0) :=
  ⟨h1.congr fun j _ => rfl, h2, h3, fun k _ => World.ownsRow_nil _ _ _ _, fun j k _ _ _ g e => (by cases e), o1, o2, o3, hb⟩
/-- What order.Of answers of as many things as there are rules, by the pairs. -/
def OfR (T : Thy) (w : World) (e : Ending) (w' : World) : Prop := ∃ v b, e = .returned (.tuple #[v, .bool b]) ∧ (b = true ↔ Ranked T) ∧ Below w.heap.size w w'
set_option maxHeartbeats 4000000 in
set_option maxRecDepth 100000 in
theorem of_p {T : Thy} (hT : Okt T) {rv ov : Value} {B : Nat} {w : World} (hM : TM w B T rv ov) (hB : B ≤ w.heap.size) : Calls Tryd.prog 44 #[.int .i64 (T.rules.length : Int), ov] w (OfR T w) := by
  obtain ⟨ra, rc, hrv, hrl, _⟩ := hM.r
  obtain ⟨oa, oc, hov, hol, _⟩ := hM.o
  have hr1 := hT.r
  have ho1 := hT.o
  have HMM := hidLLO hM
  subst hrv hov
  obtain ⟨R, hR⟩ : ∃ R, R = T.rules.length := ⟨_, rfl⟩
  obtain ⟨O, hO⟩ : ∃ O, O = T.over.length := ⟨_, rfl⟩
  rw [← hR, ← hO] at HMM
  rw [← hR] at hr1 hrl ⊢
  rw [← hO] at ho1 hol ⊢
  have HRR := hidLLO hR
  have HOO := hidLLO hO
  have HT := hidLLO hT
  clear hM hR hO hT
  obtain ⟨W0, hW0⟩ : ∃ W0 : World, W0 = w := ⟨_, rfl⟩
  have hz0 : W0.heap.size = w.heap.size := by rw [hW0]
  have hb0 : Below w.heap.size w W0 := by rw [hW0]; exact Below.refl _ _
  have HBX : Hid (∀ W : World, Below W0.heap.size W0 W → True ∧ True ∧ TM W B T (.slice ra R rc) (.slice oa O oc) ∧ w.heap.size ≤ W.heap.size) := fun W hW => by
    have hs := hW.size
    exact ⟨trivial, trivial, (HMM.out.below hb0 hB).below hW (by omega), by omega⟩
  have HB0 := hidLLO hb0
  have HZ0 := hidLLO hz0
  have hmk : ∀ w : World, (Instr.makeSlice 58 (.int .i64 (R : Int)) (.int .i64 (R : Int))).run Tryd.prog w = .ok (.slice (some ⟨w.heap.size, 0, none⟩) R R) (w.alloc (.cells (madeCells #[.int .i64 0] R) 3)) := fun w => make_ints R (by omega) w
  have hmk2 : ∀ w : World, (Instr.makeSlice 101 (.int .i64 (R : Int)) (.int .i64 (R : Int))).run Tryd.prog w = .ok (.slice (some ⟨w.heap.size, 0, none⟩) R R) (w.alloc (.cells (madeCells #[.slice none 0 0] R) 58)) := fun w => make_rows R (by omega) w
  obtain ⟨W1, hW1⟩ : ∃ W1 : World, W1 = (W0.alloc (.cells (madeCells #[.int .i64 0] R) 3)).alloc (.cells #[.slice (some ⟨W0.heap.size, 0, none⟩) R R] 58) := ⟨_, rfl⟩
  have hz1 : W1.heap.size = W0.heap.size + 2 := by rw [hW1]; simp
  have hb1 : Below W0.heap.size W0 W1 := by rw [hW1]; exact ((Below.refl _ _).alloc (Nat.le_refl _) _).alloc (by simp) _
  have hl1 : W1.rowIs W0.heap.size 3 R (fun _ => .int .i64 0) := by rw [hW1]; exact (World.rowIs_made W0 (.int .i64 0) R 3).alloc _
  have hc1 : W1.heap[W0.heap.size + 1]? = some (.cells #[.slice (some ⟨W0.heap.size, 0, none⟩) R R] 58) := by
    rw [hW1]
    have := blk_newO (W0.alloc (.cells (madeCells #[.int .i64 0] R) 3)) (.cells #[.slice (some ⟨W0.heap.size, 0, none⟩) R R] 58)
    rw [World.size_alloc] at this
    exact this
  obtain ⟨W2, hW2⟩ : ∃ W2 : World, W2 = W1.alloc (.cells (madeCells #[.slice none 0 0] R) 58) := ⟨_, rfl⟩
  have hb2 : Below W1.heap.size W1 W2 := by rw [hW2]; exact (Below.refl _ _).alloc (Nat.le_refl _) _
  have HOw : Hid (Ow W0 (W0.heap.size + 1) W0.heap.size W1.heap.size R W2 (lfO T 0) (fun _ => .slice none 0 0) (lO T 0)) := by
    refine Ow.start (hl1.of_block (hb2.block _ (by omega))) ((hb2.block _ (by omega)).trans hc1) (by rw [hW2]; exact World.rowIs_made W1 (.slice none 0 0) R 58) (Nat.le_refl _) (by omega) (by omega) (hb1.trans (hb2.mono (by omega)))
  have HW1 := hidLLO hW1
  have HW2 := hidLLO hW2
  obtain ⟨b4, hb4⟩ : ∃ b4, b4 = W0.heap.size := ⟨_, rfl⟩
  obtain ⟨c3, hc3⟩ : ∃ c3, c3 = W0.heap.size + 1 := ⟨_, rfl⟩
  obtain ⟨b5, hb5⟩ : ∃ b5, b5 = W1.heap.size := ⟨_, rfl⟩
  rw [← hc3, ← hb4, ← hb5] at HOw
  have HBS := hidLLO (And.intro hb4 (And.intro hc3 hb5))
  have hwb4 : w.heap.size ≤ b4 := by omega
  have HBB : Hid (∀ W : World, Below W0.heap.size W0 W → True ∧ True ∧ TM W B T (.slice ra R rc) (.slice oa O oc) ∧ w.heap.size ≤ W.heap.size) := HBX.out
  rw [← hW0]
  have HW0 := hidLLO hW0
  clear hW0 hb0 hz0 hW1 hz1 hb1 hl1 hc1 hW2 hb2 hb4 hc3 hb5 HBX
  go_enter Tryd.func44, Tryd.ntmps44
  go_upto_region 2 with fail
  rw [← HW1.out, ← HBS.out.2.1, ← HBS.out.1]
  go_upto_region 3 with fail
  rw [← HW2.out, ← HBS.out.2.2]
  clear hmk hmk2
  go_wp2_with fail
  go_loopw [22] (fun t w11 => ∃ (oi : Nat) (v5 : Nat → Value), oi ≤ O ∧ t = .int .i64 oi ∧ Ow W0 c3 b4 b5 R w11 (lfO T oi) v5 (lO T oi)) (fun t _ => O - (RowKit.intOf t).toNat)
  case atStart => exact ⟨0, _, by omega, rfl, HOw.out⟩
  case round =>
    obtain ⟨oi, v5, ho, rfl, hB13⟩ := hrel
    obtain ⟨w11, hw11⟩ : ∃ w11 : World, w11 = wr := ⟨_, rfl⟩
    subst hw11
    by_cases hlt4 : oi < O
    · have hoz : (oi : Int) < O := by omega
      obtain ⟨_, _, hTM, k4⟩ := HBB.out _ hB13.bel
      obtain ⟨x, hx⟩ : ∃ x, T.over[oi]? = some x := ⟨_, List.getElem?_eq_getElem (by have := HOO.out; omega)⟩
      obtain ⟨g, o, eo, _, p1, p2⟩ := hTM.o.at hx
      subst eo
      have hxo := HT.out.over x.1 x.2 (List.mem_of_getElem? hx)
      obtain ⟨A, hA⟩ : ∃ A : Nat, x.1 = A := ⟨x.1.toNat, by omega⟩
      obtain ⟨Bn, hBn⟩ : ∃ Bn : Nat, x.2 = Bn := ⟨x.2.toNat, by omega⟩
      have hAR : A < R := by have := HRR.out; omega
      have hBR : Bn < R := by have := HRR.out; omega
      have hAz : (A : Int) < R := by omega
      have hBz : (Bn : Int) < R := by omega
      have HX : Hid ((prs T)[oi]? = some (A, Bn)) := by
        have := prs_get hx
        rw [hA, hBn, Int.toNat_natCast, Int.toNat_natCast] at this
        exact this
      rw [hA] at p1
      rw [hBn] at p2
      clear hx hA hBn hxo hTM
      obtain ⟨W12, hW12⟩ : ∃ W12 : World, W12 = w11.alloc (.cells #[.int .i64 (A : Int), .int .i64 (Bn : Int)] 89) := ⟨_, rfl⟩
      obtain ⟨by2, hby⟩ : ∃ by2, by2 = w11.heap.size := ⟨_, rfl⟩
      have hb12 : Below w11.heap.size w11 W12 := by rw [hW12]; exact (Below.refl _ _).alloc (Nat.le_refl _) _
      have hx12 : W12.heap[by2]? = some (.cells #[.int .i64 (A : Int), .int .i64 (Bn : Int)] 89) := by rw [hW12, hby]; exact blk_newO _ _
      have q0 : W12.cell? ⟨by2, 0, none⟩ = some (.int .i64 (A : Int)) := by simp [World.cell?, hx12]
      have q1 : W12.cell? ⟨by2, 1, none⟩ = some (.int .i64 (Bn : Int)) := by simp [World.cell?, hx12]
      have hB12 := hB13.on hb12
      have q2 : W12.cell? ⟨c3, 0, none⟩ = some (.slice (some ⟨b4, 0, none⟩) R R) := by simp [World.cell?, hB12.cel]
      have q3 := hB12.left.cell hBR
      have q4 := hB12.left.frozen Bn
      have hlf := lfO_le T oi Bn
      obtain ⟨LF, hLF⟩ : ∃ LF, LF = lfO T oi Bn := ⟨_, rfl⟩
      have q3' : W12.cell? ⟨b4, Bn, none⟩ = some (.int .i64 LF) := by rw [hLF]; exact q3
      rw [← hLF, ← HOO.out] at hlf
      have hby5 : b5 < by2 := by have := hB13.lt; omega
      have ho3 := hB13.o3
      have ho2 := hB13.o2
      obtain ⟨W13, hW13⟩ : ∃ W13 : World, W13 = W12.setCell ⟨b4, Bn, none⟩ (.int .i64 (LF + 1)) := ⟨_, rfl⟩
      have hB14 : Ow W0 c3 b4 b5 R W13 (lfO T (oi + 1)) v5 (lO T oi) := by
        rw [hW13]
        exact hB12.inc Bn (LF + 1) (fun j => by rw [hLF]; exact lfO_next HX.out j)
      have hx13 : W13.heap[by2]? = some (.cells #[.int .i64 (A : Int), .int .i64 (Bn : Int)] 89) := by
        rw [hW13, Below.heap_setCell _ _ _ _ (by show by2 ≠ b4; omega)]
        exact hx12
      have r0 : W13.cell? ⟨by2, 0, none⟩ = some (.int .i64 (A : Int)) := by simp [World.cell?, hx13]
      have r1 : W13.cell? ⟨by2, 1, none⟩ = some (.int .i64 (Bn : Int)) := by simp [World.cell?, hx13]
      have HW12 := hidLLO (And.intro hW12 (And.intro hby hW13))
      have HB14 := hidLLO (And.intro hB14 hx13)
      have hl13 : by2 < W13.heap.size := blk_ltO hx13
      clear hW12 hby hW13 hB12 hB13 hB14 hx12 hx13 hb12 q3 hLF
      go_upto_region 6 with fail
      rw [← HW12.out.1, ← HW12.out.2.1]
      go_upto_region 7 with fail
      rw [← HW12.out.2.2]
      clear q0 q1 q2 q3' q4
      obtain ⟨sa, sc, hsv⟩ := row_anyO (HB14.out.1.row A hAR)
      have yc : W13.cell? ⟨b5, A, none⟩ = some (v5 A) := HB14.out.1.blw.cell hAR
      have yz := HB14.out.1.blw.frozen A
      have hlenK := lO_len T oi A
      rw [← HOO.out] at hlenK
      obtain ⟨n, hn⟩ : ∃ n, n = (lO T oi A).length := ⟨_, rfl⟩
      rw [← hn] at hsv hlenK
      have HRow : Hid (∀ W' : World, (∀ q, q < W13.heap.size → W'.heap[q]? = W13.heap[q]?) → W'.ownsRow (b5 + 1) 3 1 (.slice sa n sc) n (intsV (lO T oi A))) := fun W' hW' => by
        have h9 := row_stepO (HB14.out.1.row A hAR) (fun q _ hq => hW' q hq)
        rw [hsv, ← hn] at h9
        exact h9
      rw [hsv] at yc
      have HA : Hid (Below W13.heap.size W13 (W13.drew.alloc (.cells #[.int .i64 (Bn : Int)] 3))) := (Below.refl _ _).drew.alloc (Nat.le_refl _) _
      have HKP : Hid (∀ w8, (W13.drew.alloc (.cells #[.int .i64 (Bn : Int)] 3)).grownBy w8 (Value.slice sa n sc).ownBlock → w8.heap[b5]? = W13.heap[b5]? ∧ w8.heap[by2]? = W13.heap[by2]?) := fun w8 h8 => by
        rw [← hsv] at h8
        exact ⟨HB14.out.1.after hAR HA.out h8 b5 HB14.out.1.lt (rowIs_notO HB14.out.1.blw (by decide)), HB14.out.1.after hAR HA.out h8 by2 hl13 (fun cur e => by rw [HB14.out.2] at e; injection e with e; injection e with _ e _; exact absurd e (by decide))⟩
      have HNW : Hid (∀ (j : Nat) (u : Value), [Value.int .i64 (Bn : Int)][j]? = some u → (W13.drew.alloc (.cells #[.int .i64 (Bn : Int)] 3)).cell? ((⟨W13.heap.size, 0, none⟩ : Addr).add j) = some u) := fun j u h => alloc_cellO W13.drew [.int .i64 (Bn : Int)] 3 j u h
      have HOC : Hid (∀ u ∈ [Value.int .i64 (Bn : Int)], u.oneCell' = true) := fun u hu => by simp at hu; subst hu; rfl
      have HSV := hidLLO (And.intro hsv hn)
      obtain ⟨i0, z, hi0, hz0', hz1, hz2, hz3⟩ := Tryd.infoIn
      have HI := hidLLO (And.intro hi0 (And.intro hz0' (And.intro hz1 (And.intro hz2 hz3))))
      clear hi0 hz0' hz1 hz2 hz3 hsv hn
      have hlW : b5 < W13.heap.size := HB14.out.1.lt
      clear HW0 HB0 HZ0 HBB HW1 HW2 HOw HMM HBS HW12 k4 p1 p2 hB hrl hr1 hol HT HRR HOO hwb4
      go_region_law
        (first
          | (refine step_append_whereO rfl (.tmp 40) (.tmp 43) 58 rfl (b5 + 1) 3 i0 z 1 8 Tryd.underlying58 HI.out.1 HI.out.2.1 HI.out.2.2.1 HI.out.2.2.2.1 HI.out.2.2.2.2 (by decide) (.slice sa n sc) n (intsV (lO T oi A)) (by first | (simp [Act.eval]; done) | simp [Act.eval, Act.put]) (HRow.out _ (fun q hq => Below.heap_alloc W13.drew _ q hq)) ⟨W13.heap.size, 0, none⟩ 1 1 [.int .i64 (Bn : Int)] (by first | (simp [Act.eval]; done) | simp [Act.eval, Act.put]) rfl HNW.out HOC.out (by decide) (by unfold maxLen; omega) (by omega) (by first | (simp; done) | (simp; omega) | omega) ?_
             intro v' w8 ho hg hw
             have hkb := HKP.out w8 hg
             have yc8 := (World.cell?_of_block (a := ⟨b5, A, none⟩) hkb.1).trans yc
             have yz8 := (World.frozen?_of_block (a := ⟨b5, A, none⟩) hkb.1).trans yz
             have s0 := (World.cell?_of_block (a := ⟨by2, 0, none⟩) hkb.2).trans r0
             have s1 := (World.cell?_of_block (a := ⟨by2, 1, none⟩) hkb.2).trans r1
             obtain ⟨a', c', hv'⟩ := row_anyO ho
             subst hv'
             have HH := hidLLO (And.intro ho (And.intro hg hw))
             clear ho hg hw hkb))
      all_goals
        go_wp2
        go_roundw
        case measure => simp [RowKit.intOf]; omega
        obtain ⟨ho, hg, hw⟩ := HH.out
        rw [← HSV.out.1] at hg hw
        have ho2 : w8.ownsRow (b5 + 1) 3 1 (.slice a' (n + 1) c') ((lO T oi A).length + 1) (intsV (lO T oi A) ++ [.int .i64 (Bn : Int)]) := by rw [← HSV.out.2]; exact ho
        have hP := Ow.push (hg := hg) (hw := hw) (ho := ho2) HB14.out.1 hAR (by first | exact HA.out | exact ((Below.refl _ _).alloc (Nat.le_refl _) _).drew)
        have e9 : lO T (oi + 1) = updO (lO T oi) A (lO T oi A ++ [Bn]) := funext fun q => lO_next HX.out q
        exact ⟨oi + 1, updO v5 A (.slice a' (n + 1) c'), by omega, by go_num, by rw [e9]; exact hP⟩
    · have hge4 : ¬ (oi : Int) < O := by omega
      have hoe : oi = T.over.length := by have := HOO.out; omega
      have hOd := hB13.od (l' := blwL T) (fun k _ => by rw [hoe]; exact lO_end T k)
      obtain ⟨c7, hc7⟩ : ∃ c7, c7 = w11.heap.size := ⟨_, rfl⟩
      obtain ⟨W20, hW20⟩ : ∃ W20 : World, W20 = w11.alloc (.cells #[.slice none 0 0] 58) := ⟨_, rfl⟩
      rw [← hc7, ← hW20] at hOd
      have HOd := hidLLO hOd
      obtain ⟨k1, _, _, _⟩ := HBB.out _ hOd.bel
      have HW20 := hidLLO (And.intro hW20 hc7)
      have HLF : Hid (∀ b, b < T.rules.length → lfO T oi b = cntA T [] b) := fun b _ => by rw [hoe]; exact lfO_end T b
      generalize lfO T oi = LF0 at *
      clear hB13 hc7 hW20 hOd hoe
      go_upto_region 10 with fail
      rw [← HW20.out.1, ← HW20.out.2]
      go_wp2_with fail
      go_loopw [49] (fun t w21 => ∃ (i : Nat) (sd : List Nat), i ≤ R ∧ t = .int .i64 i ∧ Od W0 c3 b4 b5 c7 R v5 (blwL T) w21 LF0 sd ∧ Pass1 T i sd LF0) (fun t _ => R - (RowKit.intOf t).toNat)
      case atStart => exact ⟨0, [], by omega, rfl, HOd.out, ⟨fun b => by simp, List.nodup_nil⟩⟩
      case round =>
        obtain ⟨i, sd, hi, rfl, hO1, hP1⟩ := hrel
        obtain ⟨w21, hw21⟩ : ∃ w21 : World, w21 = wr := ⟨_, rfl⟩
        subst hw21
        by_cases hlt5 : i < R
        · have hiz : (i : Int) < R := by omega
          have hsl : sd.length ≤ 1000 := by have := nodup_len i sd hP1.nd (fun r hr => ((hP1.mem r).1 hr).1); omega
          have HC := hidLLO (lay_p hO1 hlt5 (by omega))
          have HP2 := hidLLO hP1.next
          clear hO1 hP1
          go_wp2_with fail
          refine HC.out.mono ?_
          rintro e w22 ⟨rfl, hO2⟩
          have HO2 := hidLLO hO2
          clear hO2
          go_wp2
          go_roundw
          case rel => exact ⟨i + 1, _, by omega, by go_num, HO2.out, HP2.out⟩
          case measure => simp [RowKit.intOf]; omega
        · have hge5 : ¬ (i : Int) < R := by omega
          have hie : i = T.rules.length := by have := HRR.out; omega
          have hAsd : Asd T sd LF0 := by rw [hie] at hP1; exact hP1.end HLF.out
          have HS0 := hidLLO (And.intro hO1 hAsd)
          clear hO1 hP1 hAsd hie
          go_wp2_with fail
          go_loopw [13] (fun t w23 => ∃ (nx : Nat) (lf : Nat → Int) (sd : List Nat), nx ≤ sd.length ∧ t = .int .i64 nx ∧ Od W0 c3 b4 b5 c7 R v5 (blwL T) w23 lf sd ∧ Asd T sd lf ∧ ∀ b, b < T.rules.length → lf b = cntA T (sd.take nx) b) (fun t _ => R + 1 - (RowKit.intOf t).toNat)
          case atStart => exact ⟨0, _, _, by omega, rfl, HS0.out.1, HS0.out.2, fun b hb => by rw [List.take_zero]; exact HLF.out b hb⟩
          case round =>
            obtain ⟨nx, lf, sd, hnx, rfl, hO3, hA3, hc3⟩ := hrel
            obtain ⟨w23, hw23⟩ : ∃ w23 : World, w23 = wr := ⟨_, rfl⟩
            subst hw23
            have hsl : sd.length ≤ R := by rw [HRR.out]; exact nodup_len _ sd hA3.nd hA3.lt
            obtain ⟨sv, a1, a2⟩ := hO3.asd
            obtain ⟨sa, sc, hsv⟩ := row_anyO a2
            subst hsv
            have y7 : w23.cell? ⟨c7, 0, none⟩ = some (.slice sa sd.length sc) := by simp [World.cell?, a1]
            by_cases hlt6 : nx < sd.length
            · have hnz : (nx : Int) < sd.length := by omega
              obtain ⟨a, ha⟩ : ∃ a, sd[nx]? = some a := ⟨_, List.getElem?_eq_getElem hlt6⟩
              have haR : a < R := by rw [HRR.out]; exact hA3.lt a (List.mem_of_getElem? ha)
              have haz : (a : Int) < R := by omega
              obtain ⟨g7, e7, hc7'⟩ : ∃ g7, sa = some ⟨g7, 0, none⟩ ∧ w23.cell? ⟨g7, nx, none⟩ = some (.int .i64 (a : Int)) := by
                rcases a2.2 with ⟨e9, h0⟩ | ⟨g, cap, cur, e9, _, _, _⟩
                · omega
                · injection e9 with e9 _ _
                  refine ⟨g, e9, ?_⟩
                  subst e9
                  have hc := World.ownsRow.cells a2 (g := g) rfl nx (.int .i64 (a : Int)) (by unfold intsV; rw [List.getElem?_map, ha]; rfl)
                  have h6 : (⟨g, 0, none⟩ : Addr).add nx = ⟨g, nx, none⟩ := by
                    unfold Addr.add
                    split
                    · rename_i h0
                      rw [h0]
                    · simp
                  rw [h6] at hc
                  exact hc
              subst e7
              have z5 := hO3.blw.cell haR
              obtain ⟨la, lc, elv, hrows⟩ := hO3.rows a haR
              rw [elv] at z5
              have HIn := hidLLO (In3.start hA3 ha hc3)
              have HO3 := hidLLO hO3
              have hLl : (blwL T a).length ≤ O := by rw [← lO_end, HOO.out]; exact lO_len T _ a
              obtain ⟨L, hL⟩ : ∃ L, L = (blwL T a).length := ⟨_, rfl⟩
              rw [← hL] at z5 hLl elv
              have HLL := hidLLO (And.intro hL elv)
              clear hO3 hA3 hc3 a1 a2 hrows ha hL elv
              go_wp2_with fail
              go_loopw [70] (fun t w24 => ∃ (m : Nat) (lf2 : Nat → Int) (sd2 : List Nat), m ≤ L ∧ t = .int .i64 m ∧ Od W0 c3 b4 b5 c7 R v5 (blwL T) w24 lf2 sd2 ∧ In3 T nx m a sd2 lf2) (fun t _ => L - (RowKit.intOf t).toNat)
              case atStart => exact ⟨0, _, _, by omega, rfl, HO3.out, HIn.out⟩
              case round =>
                obtain ⟨m, lf2, sd2, hm, rfl, hO4, hI4⟩ := hrel
                obtain ⟨w24, hw24⟩ : ∃ w24 : World, w24 = wr := ⟨_, rfl⟩
                subst hw24
                by_cases hlt7 : m < L
                · have hmz : (m : Int) < L := by omega
                  obtain ⟨r, hr⟩ : ∃ r, (blwL T a)[m]? = some r := ⟨_, List.getElem?_eq_getElem (by have := HLL.out.1; omega)⟩
                  have hrR : r < R := by rw [HRR.out]; exact blw_lt HT.out (List.mem_of_getElem? hr)
                  have hrz : (r : Int) < R := by omega
                  obtain ⟨la', lc', elv', hrows⟩ := hO4.rows a haR
                  rw [HLL.out.2] at elv'
                  obtain rfl : la = la' := by injection elv'
                  clear elv'
                  obtain ⟨g8, e8, _, _, hc8⟩ := hrows m r hr
                  subst e8
                  have x3 : w24.cell? ⟨c3, 0, none⟩ = some (.slice (some ⟨b4, 0, none⟩) R R) := by simp [World.cell?, hO4.cel]
                  have x4 := hO4.left.cell hrR
                  have x5 := hO4.left.frozen r
                  obtain ⟨LV, hLV⟩ : ∃ LV, LV = lf2 r := ⟨_, rfl⟩
                  have x4' : w24.cell? ⟨b4, r, none⟩ = some (.int .i64 LV) := by rw [hLV]; exact x4
                  obtain ⟨hI5, hge1⟩ := hI4.next HT.out hr (lf' := fun j => if j = r then lf2 r - 1 else lf2 j) (fun j => rfl)
                  have hup : LV ≤ 100000 := by
                    have h8 := hI4.cnt r (by rw [← HRR.out]; exact hrR)
                    have h9 : cntA T (sd2.take (nx + 1)) r ≤ (prs T).length := List.countP_le_length
                    have h10 : ((blwL T a).drop m).count r ≤ ((blwL T a).drop m).length := List.count_le_length
                    have h11 : (prs T).length = T.over.length := by unfold prs; simp
                    rw [List.length_drop, ← HLL.out.1] at h10
                    have := HOO.out
                    omega
                  rw [← hLV] at hge1
                  have hO5 := hO4.dec r (LV - 1) (lf' := fun j => if j = r then lf2 r - 1 else lf2 j) (fun j => by rw [hLV])
                  obtain ⟨W25, hW25⟩ : ∃ W25 : World, W25 = w24.setCell ⟨b4, r, none⟩ (.int .i64 (LV - 1)) := ⟨_, rfl⟩
                  rw [← hW25] at hO5
                  have hs2 : sd2.length ≤ R := by rw [HRR.out]; exact nodup_len _ sd2 hI4.asd.nd hI4.asd.lt
                  have HC := hidLLO (lay_p hO5 hrR (by omega))
                  have HI5 := hidLLO hI5
                  have HW25 := hidLLO hW25
                  clear hO4 hI4 hO5 hI5 hrows hr hW25 x4 hLV
                  go_upto_region 23 with fail
                  rw [← HW25.out]
                  go_wp2_with fail
                  refine HC.out.mono ?_
                  rintro e w26 ⟨rfl, hO6⟩
                  have HO6 := hidLLO hO6
                  clear hO6
                  go_wp2
                  go_roundw
                  case rel => exact ⟨m + 1, _, _, by omega, by go_num, HO6.out, HI5.out⟩
                  case measure => simp [RowKit.intOf]; omega
                · have hge7 : ¬ (m : Int) < L := by omega
                  have hme : m = (blwL T a).length := by have := HLL.out.1; omega
                  rw [hme] at hI4
                  have HE4 := hidLLO (And.intro hO4 (And.intro hI4.end ((List.getElem?_eq_some_iff.1 hI4.at_).1)))
                  clear hO4 hI4 hme
                  go_wp2
                  go_roundw
                  case rel => exact ⟨nx + 1, lf2, sd2, HE4.out.2.2, by go_num, HE4.out.1, HE4.out.2.1.1, HE4.out.2.1.2⟩
                  case measure => simp [RowKit.intOf]; omega
            · have hge6 : ¬ (nx : Int) < sd.length := by omega
              obtain ⟨k1, _, _, _⟩ := HBB.out _ hO3.bel
              have HF : Hid (sd.length = T.rules.length ↔ Ranked T) := ordered_iff HT.out hA3 (fun b hb => by rw [hc3 b hb, List.take_of_length_le (by omega)])
              have HBl : Hid (Below W0.heap.size W0 w23) := hO3.bel
              clear hO3 hA3 hc3 a1 a2
              by_cases hfin : sd.length < R
              · have hfz : (sd.length : Int) < R := by omega
                go_wp2
                go_ret2
                refine ⟨_, _, rfl, ?_, HBl.out⟩
                rw [← HF.out, ← HRR.out]
                simp
                omega
              · have hfz : ¬ (sd.length : Int) < R := by omega
                go_wp2
                go_ret2
                refine ⟨_, _, rfl, ?_, HBl.out⟩
                rw [← HF.out, ← HRR.out]
                simp
                omega
end Go.Proofs.YtpijiglmjkdlgaaDoor

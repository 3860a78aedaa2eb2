/-
  coin.shared, walked.
-/
import Derived.Test.YtlpkaelgeeecoaaDoorSharePlain
namespace Go.Proofs.YtlpkaelgeeecoaaDoor
open Go.RowKit Go.Sort Go.Shelf

set_option maxHeartbeats 4000000 in
set_option maxRecDepth 100000 in
theorem shared_walk (b off cap n : Nat) (T all : Int) (wv : Nat → Int) (w : World) (hw : ∀ i, i < n → w.cell? ⟨b, off + i, none⟩ = some (.int .i64 (wv i))) (hb : b < w.heap.size) (hn : n ≤ 60) (hn0 : 0 < n) (hall : (lst wv n).sum = all) (hT : 0 ≤ T) (hT1 : T ≤ 1000000000000) (ha : 0 < all) (ha1 : all ≤ 60000000)
    (hv : ∀ i, i < n → 0 ≤ wv i ∧ wv i ≤ 1000000) :
    Calls Tryd.prog 49 #[.int .i64 T, .slice (some ⟨b, off, none⟩) n cap, .int .i64 all] w fun e w' => ∃ (N : Nat) (d1 : Array (Fin (N + 1))), N + 1 = n ∧ d1.size = n ∧ Once d1 ∧ (∀ i, i < N + 1 → ∃ j, j < N + 1 ∧ d1[j]!.val = i) ∧ SortedIn (ltT fun i => rf T all wv i.val) 0 n d1 ∧
      e = .returned (.slice (some ⟨w.heap.size, 0, none⟩) n n) ∧ RowF w' w.heap.size n (fun i => qf T all wv i + if hits d1 (T - (lst (qf T all wv) n).sum).toNat i then 1 else 0) ∧ w.heap.size < w'.heap.size ∧ Below w.heap.size w w' := by
  have hmk := make_ints w n (n : Int) rfl (by omega)
  have hmk2 := make_ints (w.alloc (.cells (Array.replicate n (.int .i64 0)) 3)) n (n : Int) rfl (by omega)
  have r1 : RowF ((w.alloc (.cells (Array.replicate n (.int .i64 0)) 3)).alloc (.cells (Array.replicate n (.int .i64 0)) 3)) w.heap.size n (upTo' 0 (qf T all wv)) := ((row_new w n).alloc (by simp) _).congr (fun i _ => by simp [upTo'])
  have r2 : RowF ((w.alloc (.cells (Array.replicate n (.int .i64 0)) 3)).alloc (.cells (Array.replicate n (.int .i64 0)) 3)) (w.heap.size + 1) n (upTo' 0 (rf T all wv)) := by
    have := row_new (w.alloc (.cells (Array.replicate n (.int .i64 0)) 3)) n
    have hs : (w.alloc (.cells (Array.replicate n (.int .i64 0)) 3)).heap.size = w.heap.size + 1 := by simp
    rw [hs] at this
    exact this.congr (fun i _ => by simp [upTo'])
  have b1 : Below w.heap.size w ((w.alloc (.cells (Array.replicate n (.int .i64 0)) 3)).alloc (.cells (Array.replicate n (.int .i64 0)) 3)) := ((Below.refl _ w).alloc (Nat.le_refl _) _).alloc (by simp) _
  have R1 := hidIt r1
  have R2 := hidIt r2
  have B1 := hidIt b1
  have HW := hidIt hw
  have HV := hidIt hv
  clear r1 r2 b1 hw hv
  go_enter Tryd.func49, Tryd.ntmps49
  go_wp2_with fail
  go_loopw [22] (fun t wr => ∃ k : Nat, t = .int .i64 k ∧ k ≤ n ∧ RowF wr w.heap.size n (upTo' k (qf T all wv)) ∧ RowF wr (w.heap.size + 1) n (upTo' k (rf T all wv)) ∧ Below w.heap.size w wr) (fun t _ => n - (RowKit.intOf t).toNat)
  case atStart => exact ⟨0, rfl, by omega, R1.out, R2.out, B1.out⟩
  case round =>
    obtain ⟨k, rfl, hk, x1, x2, x3⟩ := hrel
    have X1 := hidIt x1
    have X2 := hidIt x2
    have X3 := hidIt x3
    clear x1 x2 x3
    by_cases hlt : k < n
    · have c0 : decide ((k : Int) < n) = true := by simp; omega
      have hkz : (k : Int) < n := by omega
      have cw := (X3.out.cell (p := ⟨b, off + k, none⟩) hb).trans (HW.out k hlt)
      obtain ⟨c1, f1⟩ := X1.out k hlt
      obtain ⟨c2, f2⟩ := X2.out k hlt
      obtain ⟨v0, v1⟩ := HV.out k hlt
      have m0 : 0 ≤ T * wv k := Int.mul_nonneg hT v0
      have m1 : T * wv k ≤ 1000000000000000000 := by
        calc T * wv k ≤ 1000000000000 * 1000000 := Int.mul_le_mul hT1 v1 v0 (by decide)
          _ = _ := by decide
      have E1 : Hid (qf T all wv k = T * wv k / all) := rfl
      have E2 : Hid (rf T all wv k = T * wv k % all) := rfl
      go_wp2_with fail
      have mixed := Tryd.mixed63
      go_big_region_o
      all_goals go_wp2
      refine ⟨⟨k + 1, by go_num, by omega, ?_, ?_, ?_⟩, by simp [RowKit.intOf]; omega⟩
      · exact (((X1.out.set k hlt (qf T all wv k)).other (a := ⟨w.heap.size + 1, k, none⟩) (by show w.heap.size + 1 ≠ w.heap.size; omega) _).drew).congr (fun i _ => upTo_step k _ i)
      · exact (((X2.out.other (a := ⟨w.heap.size, k, none⟩) (by show w.heap.size ≠ w.heap.size + 1; omega) _).set k hlt (rf T all wv k)).drew).congr (fun i _ => upTo_step k _ i)
      · exact ((X3.out.setCell (p := ⟨w.heap.size, k, none⟩) (Nat.le_refl _) _).setCell (p := ⟨w.heap.size + 1, k, none⟩) (Nat.le_succ _) _).drew
    · have c0 : decide ((k : Int) < n) = false := by simp; omega
      obtain ⟨N, hN⟩ : ∃ N, N + 1 = n := ⟨n - 1, by omega⟩
      obtain rfl : k = n := by omega
      have y1 : RowF wr w.heap.size k (qf T all wv) := X1.out.congr (fun i hi => by rw [upTo', if_pos hi])
      have y2 : RowF wr (w.heap.size + 1) k (rf T all wv) := X2.out.congr (fun i hi => by rw [upTo', if_pos hi])
      have hwz : w.heap.size + 1 < wr.heap.size := by
        have := (y2 0 hn0).1
        rcases Nat.lt_or_ge (w.heap.size + 1) wr.heap.size with h | h
        · exact h
        · have e : wr.heap[w.heap.size + 1]? = none := by simp [h]
          simp [World.cell?, e] at this
      have hsum := sum_any w.heap.size 0 k (lst (qf T all wv) k) wr y1.reads (fun x hx => by
        obtain ⟨i, hi, rfl⟩ := lst_mem _ _ _ hx
        have := q_bd T all wv k hT ha (fun i hi => (HV.out i hi).1) hall i hi
        omega) (by rw [lst_len]; exact hn)
      rw [lst_len] at hsum
      have HSum := hidIt hsum
      obtain ⟨l0, l1⟩ := left_bd T all wv k ha hn0 hall
      have hqs := sum_bd 1000000000000 (by decide) (lst (qf T all wv) k) (fun x hx => by
        obtain ⟨i, hi, rfl⟩ := lst_mem _ _ _ hx
        have := q_bd T all wv k hT ha (fun i hi => (HV.out i hi).1) hall i hi
        omega)
      rw [lst_len] at hqs
      have hgk : ∀ m, N + 1 = m → m ≤ k → Calls Tryd.prog 64 #[.slice (some ⟨w.heap.size + 1, 0, none⟩) m m] wr fun e w' => ∃ pb d1, e = .returned (.slice (some ⟨pb, 0, none⟩) m m) ∧ wr.heap.size ≤ pb ∧ pb < w'.heap.size ∧ d1.size = m ∧ Holds (ev (N := N)) w' pb 0 d1 ∧
          SortedIn (ltT fun i => rf T all wv i.val) 0 m d1 ∧ (Once d1 ∧ ∀ i, i < N + 1 → ∃ j, j < N + 1 ∧ d1[j]!.val = i) ∧ Below wr.heap.size wr w' := by
        rintro m rfl hm
        exact (greatest_walk (N := N) (fun i => rf T all wv i.val) (w.heap.size + 1) (N + 1) wr (by omega) (fun i => (y2 i.val (by omega)).1) hwz).mono fun e w' ⟨pb, d1, h1, h2, h3, h4, h5, h6, ⟨d0, z1, z2, z3⟩, h8⟩ => ⟨pb, d1, h1, h2, h3, h4, h5, h6, once_of z1 z2 z3, h8⟩
      have hg := hgk k hN (Nat.le_refl _)
      clear hgk
      have HG := hidIt hg
      have Y1 := hidIt y1
      clear hsum hg y1 y2
      generalize hS : (lst (qf T all wv) k).sum = S at *
      have HSS := hidIt hS
      clear hS
      have hS1 : S ≤ 60000000000000 := by omega
      have hS0 : 0 ≤ S := by omega
      go_wp2_with fail
      refine HSum.out.mono ?_
      rintro e w2 ⟨rfl, rfl⟩
      go_wp2_with fail
      refine HG.out.mono ?_
      rintro e w3 ⟨pb, d1, rfl, g1, g2, g3, g4, g5, g6, g7⟩
      obtain ⟨lf, hlf⟩ : ∃ lf : Nat, T - S = lf := ⟨(T - S).toNat, by omega⟩
      rw [hlf] at l0 l1
      have HLf := hidIt hlf
      have Z1 := hidIt (Y1.out.below (g7.mono (Nat.le_refl _)) (by omega))
      have GB := hidIt (X3.out.trans (g7.mono X3.out.size))
      have G4 := hidIt g4
      have G5 := hidIt g5
      have G6 := hidIt g6
      clear g4 g5 g6 g7
      have hlz : (lf : Int) ≤ k := by omega
      have HHit := hidIt (fun (j i : Nat) => hits_succ d1 j i)
      go_wp2_with fail
      go_loopw [53] (fun t wq => ∃ j : Nat, t = .int .i64 j ∧ j ≤ lf ∧ RowF wq w.heap.size k (fun i => qf T all wv i + if hits d1 j i then 1 else 0) ∧ Below w.heap.size w wq ∧ (∀ i, i < k → wq.cell? ⟨pb, i, none⟩ = some (.int .i64 (d1[i]!.val : Int)))) (fun t _ => lf - (RowKit.intOf t).toNat)
      case atStart =>
        refine ⟨0, rfl, by omega, Z1.out.congr (fun i _ => by simp [hits]), GB.out, fun i hi => ?_⟩
        have := (G4.out i (by omega)).1
        rwa [Nat.zero_add] at this
      case round =>
        obtain ⟨j, rfl, hj, v1, v2, v4⟩ := hrel
        have V1 := hidIt v1
        have V2 := hidIt v2
        have V4 := hidIt v4
        clear v1 v2 v4
        by_cases hjl : j < lf
        · have c5 : decide ((j : Int) < lf) = true := by simp; omega
          have cj := V4.out j (by omega)
          have hdi : d1[j]!.val < k := by have := d1[j]!.isLt; omega
          obtain ⟨c6, f6⟩ := V1.out d1[j]!.val hdi
          have hnot : hits d1 j d1[j]!.val = false := by
            rw [← Bool.not_eq_true, hits_iff]
            rintro ⟨i, hi, e⟩
            have := G6.out.1 i j (by omega) (by omega) e
            omega
          have c7 : wr.cell? ⟨w.heap.size, d1[j]!.val, none⟩ = some (.int .i64 (qf T all wv d1[j]!.val)) := by rw [c6]; simp [hnot]
          clear c6
          have hq := q_bd T all wv k hT ha (fun i hi => (HV.out i hi).1) hall d1[j]!.val hdi
          have HNx : Hid (∀ i, (if i = d1[j]!.val then qf T all wv d1[j]!.val + 1 else qf T all wv i + if hits d1 j i then 1 else 0) = qf T all wv i + if hits d1 (j + 1) i then 1 else 0) := fun i => by
            rw [HHit.out]
            by_cases e : i = d1[j]!.val
            · rw [if_pos e, e, hnot]; simp
            · have : (d1[j]!.val == i) = false := by simpa using fun h => e h.symm
              rw [if_neg e, this, Bool.or_false]
          have hjz : (j : Int) < lf := by omega
          generalize hx : d1[j]!.val = x at *
          have hxz : (x : Int) < k := by omega
          clear hnot hx
          go_wp2
          refine ⟨⟨j + 1, by go_num, by omega, ((V1.out.set x hdi (qf T all wv x + 1)).congr (fun i _ => HNx.out i)), V2.out.setCell (p := ⟨w.heap.size, x, none⟩) (Nat.le_refl _) _, fun i hi => ?_⟩, by simp [RowKit.intOf]; omega⟩
          · rw [World.cell?_setCell_other _ _ _ _ (by intro e; injection e with e1 _ _; omega)]
            exact V4.out i hi
        · have c5 : decide ((j : Int) < lf) = false := by simp; omega
          obtain rfl : j = lf := by omega
          have hwz2 : w.heap.size < wr.heap.size := by
            have := (V1.out 0 hn0).1
            rcases Nat.lt_or_ge w.heap.size wr.heap.size with h | h
            · exact h
            · have e : wr.heap[w.heap.size]? = none := by simp [h]
              simp [World.cell?, e] at this
          have HJ : Hid ((T - (lst (qf T all wv) k).sum).toNat = j) := by show _ = _; rw [HSS.out, HLf.out]; simp
          go_wp2
          go_ret
          refine ⟨N, d1, hN, g3, G6.out.1, G6.out.2, G5.out, rfl, ?_, hwz2, V2.out⟩
          rw [HSS.out, HLf.out]
          exact V1.out
end Go.Proofs.YtlpkaelgeeecoaaDoor

/-
  greatestFirst: the places of a list, those of greater numbers ahead, of equal ones the earlier.
-/
import Derived.Test.YtlpkaelgeeecoaaDoorStable2
namespace Go.Proofs.YtlpkaelgeeecoaaDoor
open Go.RowKit Go.Sort Go.Shelf
variable {N : Nat} (tk : Fin (N + 1) → Int)

theorem stable_all (bx tb blk off cap cap' : Nat) (d0 : Array (Fin (N + 1))) (w : World) (hH : Holds ev w blk off d0) (hS : Seen tk w bx tb blk cap') (h1 : d0.size ≤ 60) (h0 : ∀ i, i < d0.size → d0[i]!.val = i) :
    Calls Tryd.prog 92 #[.slice (some ⟨blk, off, none⟩) d0.size cap, .int .i64 d0.size, .func (.func 80) #[] #[.pointer (some ⟨bx, 0, none⟩)]] w fun e w' =>
      e = .returned (.tuple #[]) ∧ ∃ d1 q', SortedIn (ltT tk) 0 d0.size d1 ∧ PermIn 0 d0.size d0 d1 ∧ w' = (putRow ev w blk off d1).drewN q' := by
  have hw : w = (putRow ev w blk off d0).drewN 0 := (putRow_self ev w blk off d0 hH).symm
  have key : Calls Tryd.prog 92 #[.slice (some ⟨blk, off, none⟩) d0.size cap, .int .i64 d0.size, .func (.func 80) #[] #[.pointer (some ⟨bx, 0, none⟩)]] ((putRow ev w blk off d0).drewN 0) fun e w' =>
      e = .returned (.tuple #[]) ∧ ∃ d1 q', SortedIn (ltT tk) 0 d0.size d1 ∧ PermIn 0 d0.size d0 d1 ∧ w' = (putRow ev w blk off d1).drewN q' := by
    by_cases c1 : d0.size ≤ 19
    · exact stable_a tk bx tb blk off cap cap' d0 w hH hS (Nat.zero_le _) c1 h0
    · by_cases c2 : d0.size ≤ 20
      · exact stable_b tk bx tb blk off cap cap' d0 w hH hS (by omega) c2 h0
      · by_cases c3 : d0.size ≤ 39
        · exact stable_c tk bx tb blk off cap cap' d0 w hH hS (by omega) c3 h0
        · by_cases c4 : d0.size ≤ 40
          · exact stable_d tk bx tb blk off cap cap' d0 w hH hS (by omega) c4 h0
          · by_cases c5 : d0.size ≤ 59
            · exact stable_e tk bx tb blk off cap cap' d0 w hH hS (by omega) c5 h0
            · exact stable_f tk bx tb blk off cap cap' d0 w hH hS (by omega) h1 h0
  rwa [← hw] at key

theorem sort_any (bx tb blk off cap cap' : Nat) (d0 : Array (Fin (N + 1))) (w : World) (hH : Holds ev w blk off d0) (hS : Seen tk w bx tb blk cap') (h1 : d0.size ≤ 60) (h0 : ∀ i, i < d0.size → d0[i]!.val = i) :
    Calls Tryd.prog 79 #[.slice (some ⟨blk, off, none⟩) d0.size cap, .func (.func 80) #[] #[.pointer (some ⟨bx, 0, none⟩)]] w fun e w' =>
      e = .returned (.tuple #[]) ∧ ∃ d1 q', SortedIn (ltT tk) 0 d0.size d1 ∧ PermIn 0 d0.size d0 d1 ∧ w' = (putRow ev w blk off d1).drewN q' := by
  have H := hidIt (stable_all tk bx tb blk off cap cap' d0 w hH hS h1 h0)
  clear hH hS h0
  go_enter Tryd.func79, Tryd.ntmps79
  go_wp2_with fail
  refine H.out.mono ?_
  rintro e w' ⟨rfl, d1, q', h2, h3, rfl⟩
  have HE := hidIt (And.intro h2 h3)
  clear h2 h3
  go_wp2
  go_end0
  exact ⟨rfl, d1, q', HE.out.1, HE.out.2, rfl⟩

/-! A new row of noughts. -/
theorem Tryd.info3 : ∃ i, Tryd.prog.info? 3 = some i ∧ i.zero = some (.int .i64 0) ∧ i.size = 1 ∧ i.bytes = 8 := by
  have h : (Tryd.prog.info? 3).map (fun i => (i.zero, i.size, i.bytes)) = some (some (.int .i64 0), 1, 8) := by kernel_rfl
  cases e : Tryd.prog.info? 3 with
  | none => rw [e] at h; cases h
  | some i =>
    rw [e] at h
    simp only [Option.map_some, Option.some.injEq, Prod.mk.injEq] at h
    exact ⟨i, rfl, h.1, h.2.1, h.2.2⟩
theorem made_ints (n : Nat) : madeCells #[Value.int .i64 0] n = Array.replicate n (Value.int .i64 0) := by
  apply Array.ext_getElem?
  intro i
  by_cases h : i < n
  · rw [Array.getElem?_replicate, if_pos h]
    simp [madeCells, h, Nat.mod_one]
  · rw [Array.getElem?_replicate, if_neg h]
    simp [madeCells, h]
theorem make_ints (w : World) (n : Nat) (v : Int) (hv : v = n) (h : n ≤ 1000) : (Instr.makeSlice 47 (.int .i64 v) (.int .i64 v)).run Tryd.prog w = .ok (.slice (some ⟨w.heap.size, 0, none⟩) n n) (w.alloc (.cells (Array.replicate n (.int .i64 0)) 3)) := by
  subst hv
  obtain ⟨i, h1, h2, h3, h4⟩ := Tryd.info3
  have := run_makeSlice (P := Tryd.prog) w 47 3 i _ Tryd.underlying47 h1 h2 .i64 .i64 n n (by omega) (by omega) (by rw [h3]; omega) (by rw [h4]; omega) (by omega)
  rw [h3, Int.toNat_natCast, Nat.mul_one] at this
  rw [this]
  show Result.ok _ (w.alloc (.cells (madeCells #[Value.int .i64 0] n) 3)) = _
  rw [made_ints]
theorem size_row (w : World) (blk off q : Nat) (d : Array (Fin (N + 1))) : ((putRow ev w blk off d).drewN q).heap.size = w.heap.size := by
  show (putRow ev w blk off d).heap.size = _
  simp [putRow, mapBlock]
theorem below_row {w w1 : World} {B blk off q : Nat} {d : Array (Fin (N + 1))} (h : Below B w w1) (hb : B ≤ blk) : Below B w ((putRow ev w1 blk off d).drewN q) :=
  h.trans ⟨rfl, rfl, rfl, by rw [size_row]; exact Nat.le_refl _, fun k hk => by
    show (putRow ev w1 blk off d).heap[k]? = _
    simp only [putRow, mapBlock, Array.getElem?_modify]
    rw [if_neg (by omega)]⟩

set_option maxHeartbeats 2000000 in
set_option maxRecDepth 100000 in
theorem greatest_walk (tb cap : Nat) (w : World) (hN : N + 1 ≤ 60) (hn : ∀ i : Fin (N + 1), w.cell? ⟨tb, i.val, none⟩ = some (.int .i64 (tk i))) (htb : tb < w.heap.size) :
    Calls Tryd.prog 64 #[.slice (some ⟨tb, 0, none⟩) (N + 1) cap] w fun e w' => ∃ pb d1, e = .returned (.slice (some ⟨pb, 0, none⟩) (N + 1) (N + 1)) ∧ w.heap.size ≤ pb ∧ pb < w'.heap.size ∧ d1.size = N + 1 ∧ Holds ev w' pb 0 d1 ∧
      SortedIn (ltT tk) 0 (N + 1) d1 ∧ (∃ d0 : Array (Fin (N + 1)), d0.size = N + 1 ∧ (∀ i, i < N + 1 → d0[i]!.val = i) ∧ PermIn 0 (N + 1) d0 d1) ∧ Below w.heap.size w w' := by
  have HN := hidIt hn
  clear hn
  have hmk := make_ints (w.alloc (.cells #[.slice (some ⟨tb, 0, none⟩) (N + 1) cap] 47)) (N + 1) ((N : Int) + 1) (by omega) (by omega)
  obtain ⟨w1, hw1⟩ : ∃ w1, w1 = (w.alloc (.cells #[.slice (some ⟨tb, 0, none⟩) (N + 1) cap] 47)).alloc (.cells (Array.replicate (N + 1) (.int .i64 0)) 3) := ⟨_, rfl⟩
  have hsz1 : w1.heap.size = w.heap.size + 2 := by rw [hw1]; simp
  have hbox : w1.cell? ⟨w.heap.size, 0, none⟩ = some (.slice (some ⟨tb, 0, none⟩) (N + 1) cap) := by
    rw [hw1, World.cell?_alloc_old _ _ _ (by simp)]; simp
  have hH : Holds ev w1 (w.heap.size + 1) 0 (Array.replicate (N + 1) (0 : Fin (N + 1))) := fun j hj => by
    have hj' : j < N + 1 := by simpa using hj
    have e : w.heap.size + 1 = (w.alloc (.cells #[.slice (some ⟨tb, 0, none⟩) (N + 1) cap] 47)).heap.size := by simp
    rw [hw1, e]
    refine ⟨?_, World.frozen?_alloc_new _ _ _ _⟩
    rw [World.cell?_alloc_new, getElem!_pos _ j hj]
    simp [ev, hj']
  have hB1 : Below w.heap.size w w1 := by rw [hw1]; exact ((Below.refl _ w).alloc (Nat.le_refl _) _).alloc (by simp) _
  have HH := hidIt hH
  have HB1 := hidIt hB1
  have HBox := hidIt hbox
  have HW1 := hidIt hw1
  have HST : Hid (w1 = (putRow ev w1 (w.heap.size + 1) 0 (Array.replicate (N + 1) (0 : Fin (N + 1)))).drewN 0) := (putRow_self ev w1 _ 0 _ hH).symm
  clear hH hB1 hbox
  go_enter Tryd.func64, Tryd.ntmps64
  go_wp2_with fail
  rw [← hw1]
  clear hw1 hmk
  go_loopw [10] (fun t wr => ∃ (k q : Nat) (dk : Array (Fin (N + 1))), t = .int .i64 k ∧ k ≤ N + 1 ∧ dk.size = N + 1 ∧ (∀ i, i < k → dk[i]!.val = i) ∧ wr = (putRow ev w1 (w.heap.size + 1) 0 dk).drewN q) (fun t _ => N + 1 - (RowKit.intOf t).toNat)
  case atStart => exact ⟨0, 0, _, rfl, by omega, by simp, by intro i h; omega, HST.out⟩
  case round =>
    obtain ⟨k, q, dk, rfl, hk, hzk, hd, rfl⟩ := hrel
    have HD := hidIt hd
    clear hd
    by_cases hlt : k < N + 1
    · have c0 : decide ((k : Int) < (N : Int) + 1) = true := by simp; omega
      obtain ⟨ck, fk⟩ := cells_at (q := q) HH.out (by simpa using hzk) k (by simpa using hlt)
      rw [Nat.zero_add] at ck fk
      have HS : Hid (((putRow ev w1 (w.heap.size + 1) 0 dk).drewN q).setCell ⟨w.heap.size + 1, k, none⟩ (.int .i64 k) = (putRow ev w1 (w.heap.size + 1) 0 (dk.setIfInBounds k ⟨k, hlt⟩)).drewN q) := by
        have := putRow_set ev w1 (w.heap.size + 1) 0 dk k ⟨k, hlt⟩ (by omega)
        rw [Nat.zero_add] at this
        show _ = _
        rw [← this]; rfl
      have HD2 : Hid (∀ i, i < k + 1 → (dk.setIfInBounds k ⟨k, hlt⟩)[i]!.val = i) := fun i hi => by
        by_cases e : i = k
        · subst e; rw [getElem!_set_same _ _ _ (by omega)]
        · rw [getElem!_set_other _ _ _ _ e]; exact HD.out i (by omega)
      have hkz : (k : Int) < (N : Int) + 1 := by omega
      generalize hwq : (putRow ev w1 (w.heap.size + 1) 0 dk).drewN q = wq at *
      have HQ := hidIt hwq
      clear hwq
      go_wp2
      exact ⟨⟨k + 1, q, _, by go_num, by omega, by rw [Array.size_setIfInBounds]; exact hzk, HD2.out, HS.out⟩, by simp [RowKit.intOf]; omega⟩
    · have c0 : decide ((k : Int) < (N : Int) + 1) = false := by simp; omega
      obtain rfl : k = N + 1 := by omega
      have hS1 : Seen tk w1 w.heap.size tb (w.heap.size + 1) cap := ⟨HBox.out, fun i => (HB1.out.cell (p := ⟨tb, i.val, none⟩) htb).trans (HN.out i), by omega, by omega⟩
      have hcall := sort_any tk w.heap.size tb (w.heap.size + 1) 0 (N + 1) cap dk _ (row_holds (q := q) HH.out (by simpa using hzk)) (Seen.row tk (q := q) hS1 dk) (by omega) (by rw [hzk]; exact HD.out)
      rw [hzk] at hcall
      have HCl := hidIt hcall
      have hszq : ((putRow ev w1 (w.heap.size + 1) 0 dk).drewN q).heap.size = w.heap.size + 2 := by rw [← hsz1]; exact size_row _ _ _ _ _
      have HBq := hidIt (below_row (q := q) (off := 0) (d := dk) HB1.out (show w.heap.size ≤ w.heap.size + 1 by omega))
      have HHq := hidIt (row_holds (q := q) HH.out (show dk.size = _ by simpa using hzk))
      clear hcall
      generalize hwq : (putRow ev w1 (w.heap.size + 1) 0 dk).drewN q = wq at *
      clear hwq
      go_wp2_with fail
      refine HCl.out.mono ?_
      rintro e w2 ⟨rfl, d1, q1, t1, p1, rfl⟩
      have HF := hidIt (And.intro t1 p1)
      clear t1 p1
      go_wp2
      go_ret
      refine ⟨w.heap.size + 1, d1, rfl, by omega, ?_, HF.out.2.1.trans hzk, row_holds HHq.out (HF.out.2.1.trans rfl), HF.out.1, ⟨dk, hzk, HD.out, HF.out.2⟩, below_row HBq.out (by omega)⟩
      rw [size_row]; omega
end Go.Proofs.YtlpkaelgeeecoaaDoor

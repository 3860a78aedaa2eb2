/-
  What is to be asked next.
-/
import Derived.Test.YtcfeflkhmncmjaaGreatDoorHearA
import Derived.Deep.RegionHeld3
namespace Go.Proofs.YtcfeflkhmncmjaaGreatDoor
open Go.RowKit

theorem set3c {W : World} {b T : Nat} {x y z u v r : Value} (h : W.heap[b]? = some (.cells #[x, y, z] T (0, 0))) : (((W.setCell ⟨b, 0, none⟩ u).setCell ⟨b, 1, none⟩ v).setCell ⟨b, 2, none⟩ r).heap[b]? = some (.cells #[u, v, r] T (0, 0)) := by
  rw [heap_setCell_same _ _ _ _ _ _ (heap_setCell_same _ _ _ _ _ _ (heap_setCell_same _ _ _ _ _ _ h))]
  rfl
set_option maxHeartbeats 8000000 in
set_option maxRecDepth 20000 in
theorem next_p {w : World} {S S' : Nat → Prop} {g o : Nat} {cs : Array Value} {a : Addr} {who : Int} {sum : Bool} {s : SlV} {h : Nat} {x : Int} {t : Tr} {of : List Int} {y : Int} (q : QA w g o cs a who sum (SlV.v s) h x) (hN : NdAt w S a t) (hof : RdS intE w S' s.v of) (hy : of[h]? = some y) (i : Nat) (hi : i = min h (t.kids.length - 1)) (hk : 0 < t.kids.length) (hh : h ≤ 1000) :
    Calls Tryz.prog 69 #[.pointer (some ⟨g, o, none⟩)] w fun e w' => e = .returned (.agg #[.pointer (some (kaW w a i)), .int .i64 y, .bool (sum || t.kd.isOrd)]) ∧ Below w.heap.size w w' := by
  obtain ⟨b, bo, ka, kc, rfl, hn⟩ := hN.is
  rw [hn.ka]
  obtain ⟨kg, kp, rfl⟩ := hn.hk hk
  have hl := hn.hl
  have z0 := hn.h0
  have z3 := hn.h3
  obtain ⟨n, hnn⟩ : ∃ n, n = t.kids.length := ⟨_, rfl⟩
  rw [← hnn] at z3 hi hk hl
  obtain ⟨sa, sn, sc⟩ := s
  have hlen := hof.len.1
  obtain ⟨og, oo, rfl, _, hcell⟩ := RdS.at (n := sn) (c := sc) (a := sa) hof hy
  have oy : w.cell? ⟨og, oo + h, none⟩ = some (.int .i64 y) := by
    have := hcell 0 (.int .i64 y) rfl
    simpa [intE] using this
  have hhl : h < of.length := (List.getElem?_eq_some_iff.1 hy).1
  have hhn : (h : Int) < sn := by
    have : sn = of.length := hlen
    omega
  have d0 := q.cell q.c0
  have d2 := q.cell q.c2
  have d3 : w.cell? ⟨g, o + 3, none⟩ = some (.slice (some ⟨og, oo, none⟩) sn sc) := q.cell q.c3
  have d4 := q.cell q.c4
  have hgl := cell_lt d0
  have hbl := cell_lt z0
  have hol := cell_lt oy
  have n1 : ¬ g = w.heap.size := by omega
  have n2 : ¬ b = w.heap.size := by omega
  have n3 : ¬ og = w.heap.size := by omega
  have e0 := cellA d0
  have e2 := cellA d2
  have e3 := cellA d3
  have e4 := cellA d4
  have ez := cellA z0
  have ez3 := cellA z3
  have eo := cellA oy
  have HO := hidLL (isOrder_f t.kind)
  have hw1 : IntKind.i64.wrap ((n : Int) - 1) = (n : Int) - 1 := by rw [IntKind.wrap_i64]; omega
  have hkd : t.kd = kdOf t.kind := rfl
  rw [hkd]
  obtain ⟨IO, hIO⟩ : ∃ IO, IO = (kdOf t.kind).isOrd := ⟨_, rfl⟩
  rw [← hIO] at HO ⊢
  have hkadr : kadr (some ⟨kg, kp, none⟩) i = ⟨kg, kp + i * 4, none⟩ := rfl
  rw [hkadr]
  have hin : (i : Int) < n := by omega
  clear q hN hof hy hn hcell hlen hnn hIO hhl hkd
  rcases Nat.lt_or_ge (n - 1) h with hc | hc
  rotate_left
  · obtain rfl : i = h := by omega
    have m1 : ¬ (n : Int) - 1 < (i : Int) := by omega
    have m2 : (if (n : Int) - 1 < (i : Int) then (n : Int) - 1 else (i : Int)) = i := if_neg m1
    have hi0 : (0 : Int) ≤ i := by omega
    clear hi hc
    obtain ⟨W, hW⟩ : ∃ W, W = w.alloc (.cells #[.pointer none, .int .i64 0, .bool false] 88) := ⟨_, rfl⟩
    obtain ⟨rb, hrb⟩ : ∃ rb, rb = w.heap.size := ⟨_, rfl⟩
    have hbk : W.heap[rb]? = some (.cells #[.pointer none, .int .i64 0, .bool false] 88 (0, 0)) := by rw [hW, hrb]; exact Go.Deep.blk_alloc_new w _
    have r0 : W.cell? ⟨rb, 0, none⟩ = some (.pointer none) := by rw [cell_of_row _ rb 0 _ _ _ hbk]; rfl
    have r1 : W.cell? ⟨rb, 1, none⟩ = some (.int .i64 0) := by rw [cell_of_row _ rb 1 _ _ _ hbk]; rfl
    have r2 : W.cell? ⟨rb, 2, none⟩ = some (.bool false) := by rw [cell_of_row _ rb 2 _ _ _ hbk]; rfl
    have rf : ∀ j, W.frozen? ⟨rb, j, none⟩ = false := fun j => by simp [World.frozen?, hbk]
    have f0 : W.cell? ⟨g, o, none⟩ = some (.pointer (some ⟨b, bo, none⟩)) := by rw [hW]; exact e0 _
    have f2 : W.cell? ⟨g, o + 2, none⟩ = some (.bool sum) := by rw [hW]; exact e2 _
    have f3 : W.cell? ⟨g, o + 3, none⟩ = some (.slice (some ⟨og, oo, none⟩) sn sc) := by rw [hW]; exact e3 _
    have f4 : W.cell? ⟨g, o + 4, none⟩ = some (.int .i64 i) := by rw [hW]; exact e4 _
    have fz : W.cell? ⟨b, bo, none⟩ = some (.string t.kind) := by rw [hW]; exact ez _
    have fo : W.cell? ⟨og, oo + i, none⟩ = some (.int .i64 y) := by rw [hW]; exact eo _
    have n1' : ¬ g = rb := by omega
    have n2' : ¬ b = rb := by omega
    have n3' : ¬ og = rb := by omega
    have m1' : ¬ rb = g := by omega
    have m2' : ¬ rb = b := by omega
    have m3' : ¬ rb = og := by omega
    have HW := hidLL (And.intro hW (And.intro hrb hbk))
    have HBel : Hid (∀ u1 u2 u3, Below w.heap.size w ((((W.setCell ⟨rb, 0, none⟩ u1).setCell ⟨rb, 1, none⟩ u2).setCell ⟨rb, 2, none⟩ u3).drew)) := fun u1 u2 u3 => by
      have h1 : Below w.heap.size w W := by rw [hW]; exact (Below.refl _ _).alloc (Nat.le_refl _) _
      exact (((h1.setCell (by show w.heap.size ≤ rb; omega) _).setCell (by show w.heap.size ≤ rb; omega) _).setCell (by show w.heap.size ≤ rb; omega) _).drew
    clear hW hrb hbk e0 e2 e3 e4 ez eo
    cases sum
    · go_enter Tryz.func69, Tryz.ntmps69
      go_upto_region 2 with fail
      rw [← HW.out.1, ← HW.out.2.1]
      clear z0 z3 d0 d2 d3 d4 oy
      go_region_held3 (fun V => V.cell? ⟨g, o, none⟩ = some (.pointer (some ⟨b, bo, none⟩)) ∧ V.cell? ⟨g, o + 2, none⟩ = some (.bool false) ∧ V.cell? ⟨g, o + 3, none⟩ = some (.slice (some ⟨og, oo, none⟩) sn sc) ∧ V.cell? ⟨g, o + 4, none⟩ = some (.int .i64 i) ∧ V.cell? ⟨b, bo, none⟩ = some (.string t.kind) ∧ V.cell? ⟨og, oo + i, none⟩ = some (.int .i64 y)) (go_keep) ((go_simp; go_at_call 80; refine (HO.out _).mono ?_; rintro e w' ⟨rfl, rfl⟩))
      all_goals (go_wp2; refine bodyPost_ret (v := .agg #[.pointer (some ⟨kg, kp + i * 4, none⟩), .int .i64 y, .bool IO]) (results_cell_row Tryz.results69 _ _ rb 88 #[.pointer (some ⟨kg, kp + i * 4, none⟩), .int .i64 y, .bool IO] (0, 0) _ (by first | rfl | simp) (set3c HW.out.2.2) Tryz.underlying88 rfl rfl) rfl ?_; exact ⟨by simp, HBel.out _ _ _⟩)
    · go_enter Tryz.func69, Tryz.ntmps69
      go_upto_region 2 with fail
      rw [← HW.out.1, ← HW.out.2.1]
      clear z0 z3 d0 d2 d3 d4 oy
      go_region
      all_goals (go_wp2; refine bodyPost_ret (v := .agg #[.pointer (some ⟨kg, kp + i * 4, none⟩), .int .i64 y, .bool true]) (results_cell_row Tryz.results69 _ _ rb 88 #[.pointer (some ⟨kg, kp + i * 4, none⟩), .int .i64 y, .bool true] (0, 0) _ (by first | rfl | simp) (set3c HW.out.2.2) Tryz.underlying88 rfl rfl) rfl ?_; exact ⟨by simp, HBel.out _ _ _⟩)
  · have m1 : (n : Int) - 1 < (h : Int) := by omega
    have m3 : (n : Int) - 1 = i := by omega
    have m2 : (if (n : Int) - 1 < (h : Int) then (n : Int) - 1 else (h : Int)) = i := by rw [if_pos m1, m3]
    have hi0 : (0 : Int) ≤ i := by omega
    have hh0 : (0 : Int) ≤ h := by omega
    rw [m3] at hw1
    have m4 : (i : Int) < (h : Int) := by omega
    have m5 : (if (i : Int) < (h : Int) then (i : Int) else (h : Int)) = i := if_pos m4
    clear hi hc
    obtain ⟨W, hW⟩ : ∃ W, W = w.alloc (.cells #[.pointer none, .int .i64 0, .bool false] 88) := ⟨_, rfl⟩
    obtain ⟨rb, hrb⟩ : ∃ rb, rb = w.heap.size := ⟨_, rfl⟩
    have hbk : W.heap[rb]? = some (.cells #[.pointer none, .int .i64 0, .bool false] 88 (0, 0)) := by rw [hW, hrb]; exact Go.Deep.blk_alloc_new w _
    have r0 : W.cell? ⟨rb, 0, none⟩ = some (.pointer none) := by rw [cell_of_row _ rb 0 _ _ _ hbk]; rfl
    have r1 : W.cell? ⟨rb, 1, none⟩ = some (.int .i64 0) := by rw [cell_of_row _ rb 1 _ _ _ hbk]; rfl
    have r2 : W.cell? ⟨rb, 2, none⟩ = some (.bool false) := by rw [cell_of_row _ rb 2 _ _ _ hbk]; rfl
    have rf : ∀ j, W.frozen? ⟨rb, j, none⟩ = false := fun j => by simp [World.frozen?, hbk]
    have f0 : W.cell? ⟨g, o, none⟩ = some (.pointer (some ⟨b, bo, none⟩)) := by rw [hW]; exact e0 _
    have f2 : W.cell? ⟨g, o + 2, none⟩ = some (.bool sum) := by rw [hW]; exact e2 _
    have f3 : W.cell? ⟨g, o + 3, none⟩ = some (.slice (some ⟨og, oo, none⟩) sn sc) := by rw [hW]; exact e3 _
    have f4 : W.cell? ⟨g, o + 4, none⟩ = some (.int .i64 h) := by rw [hW]; exact e4 _
    have fz : W.cell? ⟨b, bo, none⟩ = some (.string t.kind) := by rw [hW]; exact ez _
    have fo : W.cell? ⟨og, oo + h, none⟩ = some (.int .i64 y) := by rw [hW]; exact eo _
    have n1' : ¬ g = rb := by omega
    have n2' : ¬ b = rb := by omega
    have n3' : ¬ og = rb := by omega
    have m1' : ¬ rb = g := by omega
    have m2' : ¬ rb = b := by omega
    have m3' : ¬ rb = og := by omega
    have HW := hidLL (And.intro hW (And.intro hrb hbk))
    have HBel : Hid (∀ u1 u2 u3, Below w.heap.size w ((((W.setCell ⟨rb, 0, none⟩ u1).setCell ⟨rb, 1, none⟩ u2).setCell ⟨rb, 2, none⟩ u3).drew)) := fun u1 u2 u3 => by
      have h1 : Below w.heap.size w W := by rw [hW]; exact (Below.refl _ _).alloc (Nat.le_refl _) _
      exact (((h1.setCell (by show w.heap.size ≤ rb; omega) _).setCell (by show w.heap.size ≤ rb; omega) _).setCell (by show w.heap.size ≤ rb; omega) _).drew
    clear hW hrb hbk e0 e2 e3 e4 ez eo
    cases sum
    · go_enter Tryz.func69, Tryz.ntmps69
      go_upto_region 2 with fail
      rw [← HW.out.1, ← HW.out.2.1]
      clear z0 z3 d0 d2 d3 d4 oy
      go_region_held3 (fun V => V.cell? ⟨g, o, none⟩ = some (.pointer (some ⟨b, bo, none⟩)) ∧ V.cell? ⟨g, o + 2, none⟩ = some (.bool false) ∧ V.cell? ⟨g, o + 3, none⟩ = some (.slice (some ⟨og, oo, none⟩) sn sc) ∧ V.cell? ⟨g, o + 4, none⟩ = some (.int .i64 h) ∧ V.cell? ⟨b, bo, none⟩ = some (.string t.kind) ∧ V.cell? ⟨og, oo + h, none⟩ = some (.int .i64 y)) (go_keep) ((go_simp; go_at_call 80; refine (HO.out _).mono ?_; rintro e w' ⟨rfl, rfl⟩))
      all_goals (go_wp2; refine bodyPost_ret (v := .agg #[.pointer (some ⟨kg, kp + i * 4, none⟩), .int .i64 y, .bool IO]) (results_cell_row Tryz.results69 _ _ rb 88 #[.pointer (some ⟨kg, kp + i * 4, none⟩), .int .i64 y, .bool IO] (0, 0) _ (by first | rfl | simp) (set3c HW.out.2.2) Tryz.underlying88 rfl rfl) rfl ?_; exact ⟨by simp, HBel.out _ _ _⟩)
    · go_enter Tryz.func69, Tryz.ntmps69
      go_upto_region 2 with fail
      rw [← HW.out.1, ← HW.out.2.1]
      clear z0 z3 d0 d2 d3 d4 oy
      go_region
      all_goals (go_wp2; refine bodyPost_ret (v := .agg #[.pointer (some ⟨kg, kp + i * 4, none⟩), .int .i64 y, .bool true]) (results_cell_row Tryz.results69 _ _ rb 88 #[.pointer (some ⟨kg, kp + i * 4, none⟩), .int .i64 y, .bool true] (0, 0) _ (by first | rfl | simp) (set3c HW.out.2.2) Tryz.underlying88 rfl rfl) rfl ?_; exact ⟨by simp, HBel.out _ _ _⟩)
end Go.Proofs.YtcfeflkhmncmjaaGreatDoor

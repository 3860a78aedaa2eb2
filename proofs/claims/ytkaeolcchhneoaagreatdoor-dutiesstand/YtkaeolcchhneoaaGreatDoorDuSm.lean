/-
  The law's own comparison of states (written by tools/gendusm.py).
-/
import Derived.Test.YtkaeolcchhneoaaGreatDoorDuL1
import Derived.Test.YtkaeolcchhneoaaGreatDoorDuG3
namespace Go.Proofs.YtkaeolcchhneoaaGreatDoor
open Go.RowKit

set_option maxHeartbeats 8000000 in
set_option maxRecDepth 10000 in
theorem sameS_p {B1 B2 n1 c1 n2 c2 : Nat} {a1 a2 : Option Addr} {A : List St} {w : World} (h1 : RdG stE w B1 (.slice a1 n1 c1) A) (h2 : RdG stE w B2 (.slice a2 n2 c2) A) (hB1 : B1 ≤ w.heap.size) (hB2 : B2 ≤ w.heap.size) :
    Calls Tryz.prog 14 #[.slice a1 n1 c1, .slice a2 n2 c2] w fun e w' => e = .returned (.bool true) ∧ Below w.heap.size w w' := by
  obtain ⟨hn1, hb1⟩ := h1.len
  obtain ⟨hn2, hb2⟩ := h2.len
  obtain rfl : n1 = n2 := by omega
  have H1 := hidIt (And.intro h1 hn1)
  have H2 := hidIt (And.intro h2 hn2)
  have HDu := hidIt (fun d w => duty_p d w)
  have hnn : ((n1 : Int) != (n1 : Int)) = false := by simp
  clear h1 h2 hn1 hn2
  go_enter Tryz.func14, Tryz.ntmps14
  go_wp2_with fail
  go_loopw [5] (fun t wr => ∃ i : Nat, i ≤ n1 ∧ t = .int .i64 i ∧ Below w.heap.size w wr) (fun t _ => n1 - (RowKit.intOf t).toNat)
  case atStart => exact ⟨0, by omega, rfl, Below.refl _ _⟩
  case round =>
    obtain ⟨i, hi, rfl, hb⟩ := hrel
    have HB := hidIt hb
    clear hb
    by_cases hlt : i < n1
    · have c0 : decide ((i : Int) < n1) = true := by simp; omega
      obtain ⟨s, hs, _⟩ := get_in (l := A) (i := i) (by have := H1.out.2; omega)
      obtain ⟨gs, os, rfl, hgs, hrs⟩ := H1.out.1.at hs
      obtain ⟨gt, ot, rfl, hgt, hrt⟩ := H2.out.1.at hs
      obtain ⟨hsd, a8, a9, a10⟩ := st_cells (range_bel hrs (HB.out.mono hB1) hgs)
      obtain ⟨a0, a1, a2, a3, a4, a5, a6, a7⟩ := du_cells hsd
      obtain ⟨htd, b8, b9, b10⟩ := st_cells (range_bel hrt (HB.out.mono hB2) hgt)
      obtain ⟨b0, b1, b2, b3, b4, b5, b6, b7⟩ := du_cells htd
      have hk : stE.k = 11 := rfl
      rw [hk] at a0 a1 a2 a3 a4 a5 a6 a7 a8 a9 a10 b0 b1 b2 b3 b4 b5 b6 b7 b8 b9 b10
      have hiz : (i : Int) < n1 := by omega
      have hEq0 := fun W => eq_duty s.d s.d W
      have HDd := hidIt (fun W => HDu.out s.d W)
      obtain ⟨⟨sn, sw, sf, st, se, sN, sU, sR⟩, sst, sdy, sof⟩ := s
      simp only at a0 a1 a2 a3 a4 a5 a6 a7 a8 a9 a10 b0 b1 b2 b3 b4 b5 b6 b7 b8 b9 b10
      have hEq : ∀ W : World, (Op.equalIn 10000 57 (.agg #[.string sn, .string sw, .int .i64 sf, .int .i64 st, .string se, .int .i64 sN, .int .i64 sU, .int .i64 sR]) (.agg #[.string sn, .string sw, .int .i64 sf, .int .i64 st, .string se, .int .i64 sN, .int .i64 sU, .int .i64 sR])).run Tryz.prog W = .ok true W := fun W => (hEq0 W).trans (by rw [decide_eq_true rfl])
      have HDe : Hid (∀ W, Calls Tryz.prog 20 #[.agg #[.string sn, .string sw, .int .i64 sf, .int .i64 st, .string se, .int .i64 sN, .int .i64 sU, .int .i64 sR]] W fun e w' => e = .returned (.agg #[.string sn, .string sw, .int .i64 sf, .int .i64 st, .string se, .int .i64 sN, .int .i64 sU, .int .i64 sR]) ∧ Below W.heap.size W w') := HDd.out
      have f8 : (sst != sst) = false := by simp
      have f9 : (sdy != sdy) = false := by simp
      have f10 : (sof != sof) = false := by simp
      clear hEq0 hrs hrt hsd htd hs hk hgs hgt HDd
      go_wp2_with fail
      go_region_held3 (fun W => W.cell? ⟨gs, os + i * 11, none⟩ = some (.string sn) ∧ W.cell? ⟨gs, os + i * 11 + 1, none⟩ = some (.string sw) ∧ W.cell? ⟨gs, os + i * 11 + 2, none⟩ = some (.int .i64 sf) ∧ W.cell? ⟨gs, os + i * 11 + 3, none⟩ = some (.int .i64 st) ∧ W.cell? ⟨gs, os + i * 11 + 4, none⟩ = some (.string se) ∧ W.cell? ⟨gs, os + i * 11 + 5, none⟩ = some (.int .i64 sN) ∧ W.cell? ⟨gs, os + i * 11 + 6, none⟩ = some (.int .i64 sU) ∧ W.cell? ⟨gs, os + i * 11 + 7, none⟩ = some (.int .i64 sR) ∧ W.cell? ⟨gs, os + i * 11 + 8, none⟩ = some (.int .i64 sst) ∧ W.cell? ⟨gs, os + i * 11 + 9, none⟩ = some (.int .i64 sdy) ∧ W.cell? ⟨gs, os + i * 11 + 10, none⟩ = some (.int .i64 sof) ∧ W.cell? ⟨gt, ot + i * 11, none⟩ = some (.string sn) ∧ W.cell? ⟨gt, ot + i * 11 + 1, none⟩ = some (.string sw) ∧ W.cell? ⟨gt, ot + i * 11 + 2, none⟩ = some (.int .i64 sf) ∧ W.cell? ⟨gt, ot + i * 11 + 3, none⟩ = some (.int .i64 st) ∧ W.cell? ⟨gt, ot + i * 11 + 4, none⟩ = some (.string se) ∧ W.cell? ⟨gt, ot + i * 11 + 5, none⟩ = some (.int .i64 sN) ∧ W.cell? ⟨gt, ot + i * 11 + 6, none⟩ = some (.int .i64 sU) ∧ W.cell? ⟨gt, ot + i * 11 + 7, none⟩ = some (.int .i64 sR) ∧ W.cell? ⟨gt, ot + i * 11 + 8, none⟩ = some (.int .i64 sst) ∧ W.cell? ⟨gt, ot + i * 11 + 9, none⟩ = some (.int .i64 sdy) ∧ W.cell? ⟨gt, ot + i * 11 + 10, none⟩ = some (.int .i64 sof)) (first | go_keep | exact ⟨za0, za1, za2, za3, za4, za5, za6, za7, za8, za9, za10, zb0, zb1, zb2, zb3, zb4, zb5, zb6, zb7, zb8, zb9, zb10⟩) ((go_simp; go_at_call 20; refine (HDe.out _).mono ?_; rintro e w2 ⟨rfl, hb2⟩; have HB2 := hidIt (HB.out.drew.trans (hb2.mono HB.out.drew.size)); have za0 := (hb2.cell (p := ⟨gs, os + i * 11, none⟩) (cell_lt a0)).trans a0; have za1 := (hb2.cell (p := ⟨gs, os + i * 11 + 1, none⟩) (cell_lt a1)).trans a1; have za2 := (hb2.cell (p := ⟨gs, os + i * 11 + 2, none⟩) (cell_lt a2)).trans a2; have za3 := (hb2.cell (p := ⟨gs, os + i * 11 + 3, none⟩) (cell_lt a3)).trans a3; have za4 := (hb2.cell (p := ⟨gs, os + i * 11 + 4, none⟩) (cell_lt a4)).trans a4; have za5 := (hb2.cell (p := ⟨gs, os + i * 11 + 5, none⟩) (cell_lt a5)).trans a5; have za6 := (hb2.cell (p := ⟨gs, os + i * 11 + 6, none⟩) (cell_lt a6)).trans a6; have za7 := (hb2.cell (p := ⟨gs, os + i * 11 + 7, none⟩) (cell_lt a7)).trans a7; have za8 := (hb2.cell (p := ⟨gs, os + i * 11 + 8, none⟩) (cell_lt a8)).trans a8; have za9 := (hb2.cell (p := ⟨gs, os + i * 11 + 9, none⟩) (cell_lt a9)).trans a9; have za10 := (hb2.cell (p := ⟨gs, os + i * 11 + 10, none⟩) (cell_lt a10)).trans a10; have zb0 := (hb2.cell (p := ⟨gt, ot + i * 11, none⟩) (cell_lt b0)).trans b0; have zb1 := (hb2.cell (p := ⟨gt, ot + i * 11 + 1, none⟩) (cell_lt b1)).trans b1; have zb2 := (hb2.cell (p := ⟨gt, ot + i * 11 + 2, none⟩) (cell_lt b2)).trans b2; have zb3 := (hb2.cell (p := ⟨gt, ot + i * 11 + 3, none⟩) (cell_lt b3)).trans b3; have zb4 := (hb2.cell (p := ⟨gt, ot + i * 11 + 4, none⟩) (cell_lt b4)).trans b4; have zb5 := (hb2.cell (p := ⟨gt, ot + i * 11 + 5, none⟩) (cell_lt b5)).trans b5; have zb6 := (hb2.cell (p := ⟨gt, ot + i * 11 + 6, none⟩) (cell_lt b6)).trans b6; have zb7 := (hb2.cell (p := ⟨gt, ot + i * 11 + 7, none⟩) (cell_lt b7)).trans b7; have zb8 := (hb2.cell (p := ⟨gt, ot + i * 11 + 8, none⟩) (cell_lt b8)).trans b8; have zb9 := (hb2.cell (p := ⟨gt, ot + i * 11 + 9, none⟩) (cell_lt b9)).trans b9; have zb10 := (hb2.cell (p := ⟨gt, ot + i * 11 + 10, none⟩) (cell_lt b10)).trans b10; clear hb2))
      all_goals
        go_wp2
        exact ⟨⟨i + 1, by omega, by go_num, by first | exact HB2.out | exact HB2.out.drew⟩, by simp [RowKit.intOf]; omega⟩
    · have c0 : decide ((i : Int) < n1) = false := by simp; omega
      go_wp2
      go_ret
      exact ⟨rfl, HB.out⟩
end Go.Proofs.YtkaeolcchhneoaaGreatDoor

/-
  The reference's MonthsOf.
-/
import Derived.Test.YtgfkaheoahkbcaaDoorSuP2
import Derived.Test.YtgfkaheoahkbcaaDoorRefDate
namespace Go.Proofs.YtgfkaheoahkbcaaDoor
open Go.RowKit Go.Extern.Stop Go.Stop Go.Extern

set_option maxHeartbeats 1000000 in
theorem small_r (n : Int) (w : World) : Calls Tryd.prog 10 #[.int .i64 n] w fun e w' => e = .returned (.bool (szB n 1000000000000)) ∧ w' = w := by
  by_cases h0 : n ≤ 1000000000000
  · have HE : Hid (szB n 1000000000000 = decide (-1000000000000 ≤ n)) := by show _ = _; simp [szB, h0]
    have hd : decide (n ≤ 1000000000000) = true := by simpa using h0
    go_enter Tryd.func10, Tryd.ntmps10
    go_wp2
    go_ret
    exact ⟨ret_bool HE.out.symm, rfl⟩
  · have HE : Hid (szB n 1000000000000 = false) := by show _ = _; simp [szB, h0]
    have hd : decide (n ≤ 1000000000000) = false := by simpa using h0
    go_enter Tryd.func10, Tryd.ntmps10
    go_wp2
    go_ret
    exact ⟨ret_bool HE.out.symm, rfl⟩
set_option maxHeartbeats 2000000 in
theorem isWay_r (n : Int) (w : World) : Calls Tryd.prog 19 #[.int .i64 n] w fun e w' => e = .returned (.bool (wyB n)) ∧ w' = w := by
  by_cases h : 0 ≤ n ∧ n ≤ 5
  · rcases lz_way h.1 h.2 with rfl | rfl | rfl | rfl | rfl | rfl
    all_goals
      go_enter Tryd.func19, Tryd.ntmps19
      go_wp2
      go_ret
      exact ⟨rfl, rfl⟩
  · have HE : Hid (wyB n = false) := by show _ = _; simp only [wyB, decide_eq_false_iff_not]; exact h
    have e0 : (n == 0) = false := by simp; omega
    have e1 : (n == 1) = false := by simp; omega
    have e2 : (n == 2) = false := by simp; omega
    have e3 : (n == 3) = false := by simp; omega
    have e4 : (n == 4) = false := by simp; omega
    have e5 : (n == 5) = false := by simp; omega
    clear h
    go_enter Tryd.func19, Tryd.ntmps19
    go_wp2
    go_ret
    exact ⟨ret_bool HE.out.symm, rfl⟩
set_option maxHeartbeats 1000000 in
theorem monthLong_r (y m : Int) (w : World) (y1 : 1 ≤ y) (y2 : y ≤ 9999) (m1 : 1 ≤ m) (m2 : m ≤ 12) : Calls Tryd.prog 22 #[.int .i64 y, .int .i64 m] w fun e w' => e = .returned (.int .i64 (mlen y m)) ∧ Below w.heap.size w w' := by
  have hb := mlen_bd y m
  have HO : Hid (∀ k : Int, 28 ≤ k → k < mlen y m → ∀ W, Calls Tryd.prog 37 #[.int .i64 y, .int .i64 m, .int .i64 (k + 1)] W fun e w' => e = .returned (.tuple #[.int .i64 (dof y m (k + 1)), .int .i64 0]) ∧ Below W.heap.size W w') := fun k h1 h2 W => rDayOf_ok y m (k + 1) W ⟨y1, y2, m1, m2, by omega, by omega⟩
  have HN : Hid (∀ k : Int, mlen y m ≤ k → ∀ W, Calls Tryd.prog 37 #[.int .i64 y, .int .i64 m, .int .i64 (k + 1)] W fun e w' => e = .returned (.tuple #[.int .i64 0, .int .i64 4]) ∧ Below W.heap.size W w') := fun k h1 W => rDayOf_bad y m (k + 1) W (fun h => by have := h.d2; omega)
  clear y1 y2 m1 m2
  generalize mlen y m = L at *
  go_enter Tryd.func22, Tryd.ntmps22
  go_wp2_with fail
  go_loopw [5] (fun t wr => ∃ k : Int, 28 ≤ k ∧ k ≤ L ∧ t = .int .i64 k ∧ Below w.heap.size w wr) (fun t _ => (31 - RowKit.intOf t).toNat)
  case atStart => exact ⟨28, by omega, hb.1, rfl, Below.refl _ _⟩
  case round =>
    obtain ⟨k, h1, h2, rfl, hbr⟩ := hrel
    have HB := hidIt hbr
    clear hbr
    by_cases h31 : k < 31
    · by_cases hlt : k < L
      · have H := hidIt (HO.out k h1 hlt)
        generalize dof y m (k + 1) = dd at *
        go_wp2_with fail
        refine (H.out _).mono ?_
        rintro e w2 ⟨rfl, hb2⟩
        have HB2 := hidIt (HB.out.trans (hb2.mono HB.out.size))
        clear hb2
        go_wp2
        go_roundw
        case rel => exact ⟨k + 1, by omega, by omega, by go_num, HB2.out⟩
        case measure => simp [RowKit.intOf]; omega
      · have H := hidIt (HN.out k (by omega))
        have HE : Hid (k = L) := by show _ = _; omega
        go_wp2_with fail
        refine (H.out _).mono ?_
        rintro e w2 ⟨rfl, hb2⟩
        have HB2 := hidIt (HB.out.trans (hb2.mono HB.out.size))
        clear hb2
        go_wp2
        go_ret
        exact ⟨ret_int HE.out, HB2.out⟩
    · have HE : Hid (k = L) := by show _ = _; omega
      go_wp2
      go_ret
      exact ⟨ret_int HE.out, HB.out⟩
/-- What is answered where something is wrong. -/
def CodR (w : World) (k : Nat) (e : Ending) (w' : World) : Prop := e = .returned (.tuple #[.slice none 0 0, .int .i64 ((k : Int) + 1)]) ∧ Below w.heap.size w w'
/-- What is answered: pays in memory of the call's own. -/
def PayRR (w : World) (ps : List Py) (e : Ending) (w' : World) : Prop := ∃ ad m cc, e = .returned (.tuple #[.slice ad m cc, .int .i64 0]) ∧ m = ps.length ∧ Below w.heap.size w w' ∧ PyRow 48 w' w.heap.size (.slice ad m cc) ps
theorem Tryd.infoRPay : ∃ i z, Tryd.prog.info? 48 = some i ∧ i.zero = some z ∧ i.size = 3 ∧ i.bytes = 24 ∧ z.cells.size = 3 := by
  have h : (Tryd.prog.info? 48).map (fun i => (i.zero, i.size, i.bytes)) = some (some (.agg #[.int .i64 0, .int .i64 0, .int .i64 0]), 3, 24) := by kernel_rfl
  obtain ⟨i, h1, h2⟩ := Option.map_eq_some_iff.1 h
  simp only [Prod.mk.injEq] at h2
  exact ⟨i, _, h1, h2.1, h2.2.1, h2.2.2, rfl⟩
/-- What is under way in the reference: the pays so far, the sum of the month's days, its first day, where one is. -/
inductive RefS (w : World) (B : Nat) (way f : Int) (l : List Int) (ps : List Py) : Value → Value → Value → Value → World → Prop
  | mk {pa : Option Addr} {pn pc : Nat} {pre suf : List Py} {j i : Nat} {s : Int} {wr : World} (hj : j ≤ i) (hi : i ≤ l.length) (mo : MoR way (f + j) (l.drop j) suf) (all : ps = pre ++ suf)
      (mid : j = i ∨ ∀ y m d, Date y m d → dof y m d = f + j → (i : Int) - j < min (mlen y m - d + 1) (l.length - j)) (hs : s = ((l.drop j).take (i - j)).sum)
      (plen : pn = pre.length) (row : PyRow 48 wr w.heap.size (.slice pa pn pc) pre) (bel : Below w.heap.size w wr) :
      RefS w B way f l ps (.slice pa pn pc) (.int .i64 s) (.int .i64 (f + j)) (.int .i64 i) wr
end Go.Proofs.YtgfkaheoahkbcaaDoor

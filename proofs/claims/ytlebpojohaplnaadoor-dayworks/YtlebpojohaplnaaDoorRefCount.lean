/-
  The reference's CountDays (written by tools/gencount.py).
-/
import Derived.Test.YtlebpojohaplnaaDoorCntDef
namespace Go.Proofs.YtlebpojohaplnaaDoor
open Go.RowKit Go.Extern.Stop Go.Stop Go.Extern


set_option maxHeartbeats 4000000 in
set_option maxRecDepth 10000 in
theorem rCount_1 (b : Nat) (off : Int → Bool) (xs : List Int) (v : Value) (x y : Int) (w : World) (h : Cal w b off xs v) (x1 : -1099511631776 ≤ x) (x2 : x ≤ 1099511631776) (y1 : -1099511631776 ≤ y) (y2 : y ≤ 1099511631776) (k0 : y < x) (k1 : y < 1) (k2 : 3652060 < x) :
    Calls Tryd.prog 13 #[.pointer (some ⟨b, 0, none⟩), .int .i64 x, .int .i64 y] w fun e w' => e = .returned (.int .i64 (cntD off xs x y)) ∧ ∃ q, w' = w.drewN q := by
  have HW := hidIt (fun q m => rWorks_any b off xs v m (w.drewN q) (h.drewN q))
  have HE : Hid (cntD off xs x y = -cnt off xs 1 3652060) := by show _ = _; unfold cntD; rw [if_pos k0, show max y 1 = 1 by omega, show min x 3652060 = 3652060 by omega]
  clear h
  go_enter Tryd.func13, Tryd.ntmps13
  go_wp2_with fail
  go_loopw [8, 9] (fun a c wr => ∃ i q : Nat, i ≤ ((3652060 - 1 : Int).toNat) ∧ c = .int .i64 (1 + i) ∧ a = .int .i64 (cn (fun j => works off xs (1 + j)) i) ∧ wr = w.drewN q) (fun _ c _ => (3652060 - RowKit.intOf c).toNat)
  case atStart => exact ⟨0, 0, by omega, by first | (congr 1; omega) | congr 1 | simp, by simp [cn], rfl⟩
  case round =>
    obtain ⟨i, q, hi, rfl, rfl, rfl⟩ := hrel
    have hnn := cn_nn (fun j => works off xs (1 + j)) i
    have hle := cn_le (fun j => works off xs (1 + j)) i
    by_cases hlt : i < ((3652060 - 1 : Int).toNat)
    · have HWi := hidIt (HW.out q (1 + i))
      have HS : Hid (cn (fun j => works off xs (1 + j)) (i + 1) = cn (fun j => works off xs (1 + j)) i + (bif works off xs (1 + i) then 1 else 0)) := rfl
      have hd : 1 + (i : Int) < 3652060 := by omega
      generalize works off xs (1 + i) = o at *
      generalize cn (fun j => works off xs (1 + j)) i = c at *
      cases o
      · go_wp2_with fail
        refine HWi.out.mono ?_
        rintro e w1 ⟨rfl, q2, ew⟩
        subst w1
        go_wp2
        refine ⟨⟨i + 1, q + q2, by omega, by first | go_num | (congr 1; omega), by rw [HS.out]; first | go_num | (congr 1; simp), by first | rfl | rw [World.drewN_drewN]⟩, by simp [RowKit.intOf]; omega⟩
      · go_wp2_with fail
        refine HWi.out.mono ?_
        rintro e w1 ⟨rfl, q2, ew⟩
        subst w1
        go_wp2
        refine ⟨⟨i + 1, q + q2, by omega, by first | go_num | (congr 1; omega), by rw [HS.out]; simp only [cond_true], by first | rfl | rw [World.drewN_drewN]⟩, by simp [RowKit.intOf]; omega⟩
    · obtain rfl : i = ((3652060 - 1 : Int).toNat) := by omega
      have hd : 3652060 ≤ 1 + ((((3652060 - 1 : Int).toNat) : Nat) : Int) := by omega
      have HX : Hid (cnt off xs 1 3652060 = cn (fun j => works off xs (1 + j)) ((3652060 - 1 : Int).toNat)) := by unfold cnt; exact rfl
      rw [HX.out] at HE
      generalize cn (fun j => works off xs (1 + j)) ((3652060 - 1 : Int).toNat) = c at *
      clear HX
      go_wp2
      go_ret
      exact ⟨ret_int (by have := HE.out; omega), q, rfl⟩

set_option maxHeartbeats 4000000 in
set_option maxRecDepth 10000 in
theorem rCount_2 (b : Nat) (off : Int → Bool) (xs : List Int) (v : Value) (x y : Int) (w : World) (h : Cal w b off xs v) (x1 : -1099511631776 ≤ x) (x2 : x ≤ 1099511631776) (y1 : -1099511631776 ≤ y) (y2 : y ≤ 1099511631776) (k0 : y < x) (k1 : y < 1) (k2 : ¬ 3652060 < x) :
    Calls Tryd.prog 13 #[.pointer (some ⟨b, 0, none⟩), .int .i64 x, .int .i64 y] w fun e w' => e = .returned (.int .i64 (cntD off xs x y)) ∧ ∃ q, w' = w.drewN q := by
  have HW := hidIt (fun q m => rWorks_any b off xs v m (w.drewN q) (h.drewN q))
  have HE : Hid (cntD off xs x y = -cnt off xs 1 x) := by show _ = _; unfold cntD; rw [if_pos k0, show max y 1 = 1 by omega, show min x 3652060 = x by omega]
  clear h
  go_enter Tryd.func13, Tryd.ntmps13
  go_wp2_with fail
  go_loopw [8, 9] (fun a c wr => ∃ i q : Nat, i ≤ ((x - 1 : Int).toNat) ∧ c = .int .i64 (1 + i) ∧ a = .int .i64 (cn (fun j => works off xs (1 + j)) i) ∧ wr = w.drewN q) (fun _ c _ => (x - RowKit.intOf c).toNat)
  case atStart => exact ⟨0, 0, by omega, by first | (congr 1; omega) | congr 1 | simp, by simp [cn], rfl⟩
  case round =>
    obtain ⟨i, q, hi, rfl, rfl, rfl⟩ := hrel
    have hnn := cn_nn (fun j => works off xs (1 + j)) i
    have hle := cn_le (fun j => works off xs (1 + j)) i
    by_cases hlt : i < ((x - 1 : Int).toNat)
    · have HWi := hidIt (HW.out q (1 + i))
      have HS : Hid (cn (fun j => works off xs (1 + j)) (i + 1) = cn (fun j => works off xs (1 + j)) i + (bif works off xs (1 + i) then 1 else 0)) := rfl
      have hd : 1 + (i : Int) < x := by omega
      generalize works off xs (1 + i) = o at *
      generalize cn (fun j => works off xs (1 + j)) i = c at *
      cases o
      · go_wp2_with fail
        refine HWi.out.mono ?_
        rintro e w1 ⟨rfl, q2, ew⟩
        subst w1
        go_wp2
        refine ⟨⟨i + 1, q + q2, by omega, by first | go_num | (congr 1; omega), by rw [HS.out]; first | go_num | (congr 1; simp), by first | rfl | rw [World.drewN_drewN]⟩, by simp [RowKit.intOf]; omega⟩
      · go_wp2_with fail
        refine HWi.out.mono ?_
        rintro e w1 ⟨rfl, q2, ew⟩
        subst w1
        go_wp2
        refine ⟨⟨i + 1, q + q2, by omega, by first | go_num | (congr 1; omega), by rw [HS.out]; simp only [cond_true], by first | rfl | rw [World.drewN_drewN]⟩, by simp [RowKit.intOf]; omega⟩
    · obtain rfl : i = ((x - 1 : Int).toNat) := by omega
      have hd : x ≤ 1 + ((((x - 1 : Int).toNat) : Nat) : Int) := by omega
      have HX : Hid (cnt off xs 1 x = cn (fun j => works off xs (1 + j)) ((x - 1 : Int).toNat)) := by unfold cnt; exact rfl
      rw [HX.out] at HE
      generalize cn (fun j => works off xs (1 + j)) ((x - 1 : Int).toNat) = c at *
      clear HX
      go_wp2
      go_ret
      exact ⟨ret_int (by have := HE.out; omega), q, rfl⟩

set_option maxHeartbeats 4000000 in
set_option maxRecDepth 10000 in
theorem rCount_3 (b : Nat) (off : Int → Bool) (xs : List Int) (v : Value) (x y : Int) (w : World) (h : Cal w b off xs v) (x1 : -1099511631776 ≤ x) (x2 : x ≤ 1099511631776) (y1 : -1099511631776 ≤ y) (y2 : y ≤ 1099511631776) (k0 : y < x) (k1 : ¬ y < 1) (k2 : 3652060 < x) :
    Calls Tryd.prog 13 #[.pointer (some ⟨b, 0, none⟩), .int .i64 x, .int .i64 y] w fun e w' => e = .returned (.int .i64 (cntD off xs x y)) ∧ ∃ q, w' = w.drewN q := by
  have HW := hidIt (fun q m => rWorks_any b off xs v m (w.drewN q) (h.drewN q))
  have HE : Hid (cntD off xs x y = -cnt off xs y 3652060) := by show _ = _; unfold cntD; rw [if_pos k0, show max y 1 = y by omega, show min x 3652060 = 3652060 by omega]
  clear h
  go_enter Tryd.func13, Tryd.ntmps13
  go_wp2_with fail
  go_loopw [8, 9] (fun a c wr => ∃ i q : Nat, i ≤ ((3652060 - y : Int).toNat) ∧ c = .int .i64 (y + i) ∧ a = .int .i64 (cn (fun j => works off xs (y + j)) i) ∧ wr = w.drewN q) (fun _ c _ => (3652060 - RowKit.intOf c).toNat)
  case atStart => exact ⟨0, 0, by omega, by first | (congr 1; omega) | congr 1 | simp, by simp [cn], rfl⟩
  case round =>
    obtain ⟨i, q, hi, rfl, rfl, rfl⟩ := hrel
    have hnn := cn_nn (fun j => works off xs (y + j)) i
    have hle := cn_le (fun j => works off xs (y + j)) i
    by_cases hlt : i < ((3652060 - y : Int).toNat)
    · have HWi := hidIt (HW.out q (y + i))
      have HS : Hid (cn (fun j => works off xs (y + j)) (i + 1) = cn (fun j => works off xs (y + j)) i + (bif works off xs (y + i) then 1 else 0)) := rfl
      have hd : y + (i : Int) < 3652060 := by omega
      generalize works off xs (y + i) = o at *
      generalize cn (fun j => works off xs (y + j)) i = c at *
      cases o
      · go_wp2_with fail
        refine HWi.out.mono ?_
        rintro e w1 ⟨rfl, q2, ew⟩
        subst w1
        go_wp2
        refine ⟨⟨i + 1, q + q2, by omega, by first | go_num | (congr 1; omega), by rw [HS.out]; first | go_num | (congr 1; simp), by first | rfl | rw [World.drewN_drewN]⟩, by simp [RowKit.intOf]; omega⟩
      · go_wp2_with fail
        refine HWi.out.mono ?_
        rintro e w1 ⟨rfl, q2, ew⟩
        subst w1
        go_wp2
        refine ⟨⟨i + 1, q + q2, by omega, by first | go_num | (congr 1; omega), by rw [HS.out]; simp only [cond_true], by first | rfl | rw [World.drewN_drewN]⟩, by simp [RowKit.intOf]; omega⟩
    · obtain rfl : i = ((3652060 - y : Int).toNat) := by omega
      have hd : 3652060 ≤ y + ((((3652060 - y : Int).toNat) : Nat) : Int) := by omega
      have HX : Hid (cnt off xs y 3652060 = cn (fun j => works off xs (y + j)) ((3652060 - y : Int).toNat)) := by unfold cnt; exact rfl
      rw [HX.out] at HE
      generalize cn (fun j => works off xs (y + j)) ((3652060 - y : Int).toNat) = c at *
      clear HX
      go_wp2
      go_ret
      exact ⟨ret_int (by have := HE.out; omega), q, rfl⟩

set_option maxHeartbeats 4000000 in
set_option maxRecDepth 10000 in
theorem rCount_4 (b : Nat) (off : Int → Bool) (xs : List Int) (v : Value) (x y : Int) (w : World) (h : Cal w b off xs v) (x1 : -1099511631776 ≤ x) (x2 : x ≤ 1099511631776) (y1 : -1099511631776 ≤ y) (y2 : y ≤ 1099511631776) (k0 : y < x) (k1 : ¬ y < 1) (k2 : ¬ 3652060 < x) :
    Calls Tryd.prog 13 #[.pointer (some ⟨b, 0, none⟩), .int .i64 x, .int .i64 y] w fun e w' => e = .returned (.int .i64 (cntD off xs x y)) ∧ ∃ q, w' = w.drewN q := by
  have HW := hidIt (fun q m => rWorks_any b off xs v m (w.drewN q) (h.drewN q))
  have HE : Hid (cntD off xs x y = -cnt off xs y x) := by show _ = _; unfold cntD; rw [if_pos k0, show max y 1 = y by omega, show min x 3652060 = x by omega]
  clear h
  go_enter Tryd.func13, Tryd.ntmps13
  go_wp2_with fail
  go_loopw [8, 9] (fun a c wr => ∃ i q : Nat, i ≤ ((x - y : Int).toNat) ∧ c = .int .i64 (y + i) ∧ a = .int .i64 (cn (fun j => works off xs (y + j)) i) ∧ wr = w.drewN q) (fun _ c _ => (x - RowKit.intOf c).toNat)
  case atStart => exact ⟨0, 0, by omega, by first | (congr 1; omega) | congr 1 | simp, by simp [cn], rfl⟩
  case round =>
    obtain ⟨i, q, hi, rfl, rfl, rfl⟩ := hrel
    have hnn := cn_nn (fun j => works off xs (y + j)) i
    have hle := cn_le (fun j => works off xs (y + j)) i
    by_cases hlt : i < ((x - y : Int).toNat)
    · have HWi := hidIt (HW.out q (y + i))
      have HS : Hid (cn (fun j => works off xs (y + j)) (i + 1) = cn (fun j => works off xs (y + j)) i + (bif works off xs (y + i) then 1 else 0)) := rfl
      have hd : y + (i : Int) < x := by omega
      generalize works off xs (y + i) = o at *
      generalize cn (fun j => works off xs (y + j)) i = c at *
      cases o
      · go_wp2_with fail
        refine HWi.out.mono ?_
        rintro e w1 ⟨rfl, q2, ew⟩
        subst w1
        go_wp2
        refine ⟨⟨i + 1, q + q2, by omega, by first | go_num | (congr 1; omega), by rw [HS.out]; first | go_num | (congr 1; simp), by first | rfl | rw [World.drewN_drewN]⟩, by simp [RowKit.intOf]; omega⟩
      · go_wp2_with fail
        refine HWi.out.mono ?_
        rintro e w1 ⟨rfl, q2, ew⟩
        subst w1
        go_wp2
        refine ⟨⟨i + 1, q + q2, by omega, by first | go_num | (congr 1; omega), by rw [HS.out]; simp only [cond_true], by first | rfl | rw [World.drewN_drewN]⟩, by simp [RowKit.intOf]; omega⟩
    · obtain rfl : i = ((x - y : Int).toNat) := by omega
      have hd : x ≤ y + ((((x - y : Int).toNat) : Nat) : Int) := by omega
      have HX : Hid (cnt off xs y x = cn (fun j => works off xs (y + j)) ((x - y : Int).toNat)) := by unfold cnt; exact rfl
      rw [HX.out] at HE
      generalize cn (fun j => works off xs (y + j)) ((x - y : Int).toNat) = c at *
      clear HX
      go_wp2
      go_ret
      exact ⟨ret_int (by have := HE.out; omega), q, rfl⟩

set_option maxHeartbeats 4000000 in
set_option maxRecDepth 10000 in
theorem rCount_5 (b : Nat) (off : Int → Bool) (xs : List Int) (v : Value) (x y : Int) (w : World) (h : Cal w b off xs v) (x1 : -1099511631776 ≤ x) (x2 : x ≤ 1099511631776) (y1 : -1099511631776 ≤ y) (y2 : y ≤ 1099511631776) (k0 : ¬ y < x) (k1 : x < 1) (k2 : 3652060 < y) :
    Calls Tryd.prog 13 #[.pointer (some ⟨b, 0, none⟩), .int .i64 x, .int .i64 y] w fun e w' => e = .returned (.int .i64 (cntD off xs x y)) ∧ ∃ q, w' = w.drewN q := by
  have HW := hidIt (fun q m => rWorks_any b off xs v m (w.drewN q) (h.drewN q))
  have HE : Hid (cntD off xs x y = cnt off xs 1 3652060) := by show _ = _; unfold cntD; rw [if_neg k0, show max x 1 = 1 by omega, show min y 3652060 = 3652060 by omega]
  clear h
  go_enter Tryd.func13, Tryd.ntmps13
  go_wp2_with fail
  go_loopw [8, 9] (fun a c wr => ∃ i q : Nat, i ≤ ((3652060 - 1 : Int).toNat) ∧ c = .int .i64 (1 + i) ∧ a = .int .i64 (cn (fun j => works off xs (1 + j)) i) ∧ wr = w.drewN q) (fun _ c _ => (3652060 - RowKit.intOf c).toNat)
  case atStart => exact ⟨0, 0, by omega, by first | (congr 1; omega) | congr 1 | simp, by simp [cn], rfl⟩
  case round =>
    obtain ⟨i, q, hi, rfl, rfl, rfl⟩ := hrel
    have hnn := cn_nn (fun j => works off xs (1 + j)) i
    have hle := cn_le (fun j => works off xs (1 + j)) i
    by_cases hlt : i < ((3652060 - 1 : Int).toNat)
    · have HWi := hidIt (HW.out q (1 + i))
      have HS : Hid (cn (fun j => works off xs (1 + j)) (i + 1) = cn (fun j => works off xs (1 + j)) i + (bif works off xs (1 + i) then 1 else 0)) := rfl
      have hd : 1 + (i : Int) < 3652060 := by omega
      generalize works off xs (1 + i) = o at *
      generalize cn (fun j => works off xs (1 + j)) i = c at *
      cases o
      · go_wp2_with fail
        refine HWi.out.mono ?_
        rintro e w1 ⟨rfl, q2, ew⟩
        subst w1
        go_wp2
        refine ⟨⟨i + 1, q + q2, by omega, by first | go_num | (congr 1; omega), by rw [HS.out]; first | go_num | (congr 1; simp), by first | rfl | rw [World.drewN_drewN]⟩, by simp [RowKit.intOf]; omega⟩
      · go_wp2_with fail
        refine HWi.out.mono ?_
        rintro e w1 ⟨rfl, q2, ew⟩
        subst w1
        go_wp2
        refine ⟨⟨i + 1, q + q2, by omega, by first | go_num | (congr 1; omega), by rw [HS.out]; simp only [cond_true], by first | rfl | rw [World.drewN_drewN]⟩, by simp [RowKit.intOf]; omega⟩
    · obtain rfl : i = ((3652060 - 1 : Int).toNat) := by omega
      have hd : 3652060 ≤ 1 + ((((3652060 - 1 : Int).toNat) : Nat) : Int) := by omega
      have HX : Hid (cnt off xs 1 3652060 = cn (fun j => works off xs (1 + j)) ((3652060 - 1 : Int).toNat)) := by unfold cnt; exact rfl
      rw [HX.out] at HE
      generalize cn (fun j => works off xs (1 + j)) ((3652060 - 1 : Int).toNat) = c at *
      clear HX
      go_wp2
      go_ret
      exact ⟨ret_int (by have := HE.out; omega), q, rfl⟩

set_option maxHeartbeats 4000000 in
set_option maxRecDepth 10000 in
theorem rCount_6 (b : Nat) (off : Int → Bool) (xs : List Int) (v : Value) (x y : Int) (w : World) (h : Cal w b off xs v) (x1 : -1099511631776 ≤ x) (x2 : x ≤ 1099511631776) (y1 : -1099511631776 ≤ y) (y2 : y ≤ 1099511631776) (k0 : ¬ y < x) (k1 : x < 1) (k2 : ¬ 3652060 < y) :
    Calls Tryd.prog 13 #[.pointer (some ⟨b, 0, none⟩), .int .i64 x, .int .i64 y] w fun e w' => e = .returned (.int .i64 (cntD off xs x y)) ∧ ∃ q, w' = w.drewN q := by
  have HW := hidIt (fun q m => rWorks_any b off xs v m (w.drewN q) (h.drewN q))
  have HE : Hid (cntD off xs x y = cnt off xs 1 y) := by show _ = _; unfold cntD; rw [if_neg k0, show max x 1 = 1 by omega, show min y 3652060 = y by omega]
  clear h
  go_enter Tryd.func13, Tryd.ntmps13
  go_wp2_with fail
  go_loopw [8, 9] (fun a c wr => ∃ i q : Nat, i ≤ ((y - 1 : Int).toNat) ∧ c = .int .i64 (1 + i) ∧ a = .int .i64 (cn (fun j => works off xs (1 + j)) i) ∧ wr = w.drewN q) (fun _ c _ => (y - RowKit.intOf c).toNat)
  case atStart => exact ⟨0, 0, by omega, by first | (congr 1; omega) | congr 1 | simp, by simp [cn], rfl⟩
  case round =>
    obtain ⟨i, q, hi, rfl, rfl, rfl⟩ := hrel
    have hnn := cn_nn (fun j => works off xs (1 + j)) i
    have hle := cn_le (fun j => works off xs (1 + j)) i
    by_cases hlt : i < ((y - 1 : Int).toNat)
    · have HWi := hidIt (HW.out q (1 + i))
      have HS : Hid (cn (fun j => works off xs (1 + j)) (i + 1) = cn (fun j => works off xs (1 + j)) i + (bif works off xs (1 + i) then 1 else 0)) := rfl
      have hd : 1 + (i : Int) < y := by omega
      generalize works off xs (1 + i) = o at *
      generalize cn (fun j => works off xs (1 + j)) i = c at *
      cases o
      · go_wp2_with fail
        refine HWi.out.mono ?_
        rintro e w1 ⟨rfl, q2, ew⟩
        subst w1
        go_wp2
        refine ⟨⟨i + 1, q + q2, by omega, by first | go_num | (congr 1; omega), by rw [HS.out]; first | go_num | (congr 1; simp), by first | rfl | rw [World.drewN_drewN]⟩, by simp [RowKit.intOf]; omega⟩
      · go_wp2_with fail
        refine HWi.out.mono ?_
        rintro e w1 ⟨rfl, q2, ew⟩
        subst w1
        go_wp2
        refine ⟨⟨i + 1, q + q2, by omega, by first | go_num | (congr 1; omega), by rw [HS.out]; simp only [cond_true], by first | rfl | rw [World.drewN_drewN]⟩, by simp [RowKit.intOf]; omega⟩
    · obtain rfl : i = ((y - 1 : Int).toNat) := by omega
      have hd : y ≤ 1 + ((((y - 1 : Int).toNat) : Nat) : Int) := by omega
      have HX : Hid (cnt off xs 1 y = cn (fun j => works off xs (1 + j)) ((y - 1 : Int).toNat)) := by unfold cnt; exact rfl
      rw [HX.out] at HE
      generalize cn (fun j => works off xs (1 + j)) ((y - 1 : Int).toNat) = c at *
      clear HX
      go_wp2
      go_ret
      exact ⟨ret_int (by have := HE.out; omega), q, rfl⟩

set_option maxHeartbeats 4000000 in
set_option maxRecDepth 10000 in
theorem rCount_7 (b : Nat) (off : Int → Bool) (xs : List Int) (v : Value) (x y : Int) (w : World) (h : Cal w b off xs v) (x1 : -1099511631776 ≤ x) (x2 : x ≤ 1099511631776) (y1 : -1099511631776 ≤ y) (y2 : y ≤ 1099511631776) (k0 : ¬ y < x) (k1 : ¬ x < 1) (k2 : 3652060 < y) :
    Calls Tryd.prog 13 #[.pointer (some ⟨b, 0, none⟩), .int .i64 x, .int .i64 y] w fun e w' => e = .returned (.int .i64 (cntD off xs x y)) ∧ ∃ q, w' = w.drewN q := by
  have HW := hidIt (fun q m => rWorks_any b off xs v m (w.drewN q) (h.drewN q))
  have HE : Hid (cntD off xs x y = cnt off xs x 3652060) := by show _ = _; unfold cntD; rw [if_neg k0, show max x 1 = x by omega, show min y 3652060 = 3652060 by omega]
  clear h
  go_enter Tryd.func13, Tryd.ntmps13
  go_wp2_with fail
  go_loopw [8, 9] (fun a c wr => ∃ i q : Nat, i ≤ ((3652060 - x : Int).toNat) ∧ c = .int .i64 (x + i) ∧ a = .int .i64 (cn (fun j => works off xs (x + j)) i) ∧ wr = w.drewN q) (fun _ c _ => (3652060 - RowKit.intOf c).toNat)
  case atStart => exact ⟨0, 0, by omega, by first | (congr 1; omega) | congr 1 | simp, by simp [cn], rfl⟩
  case round =>
    obtain ⟨i, q, hi, rfl, rfl, rfl⟩ := hrel
    have hnn := cn_nn (fun j => works off xs (x + j)) i
    have hle := cn_le (fun j => works off xs (x + j)) i
    by_cases hlt : i < ((3652060 - x : Int).toNat)
    · have HWi := hidIt (HW.out q (x + i))
      have HS : Hid (cn (fun j => works off xs (x + j)) (i + 1) = cn (fun j => works off xs (x + j)) i + (bif works off xs (x + i) then 1 else 0)) := rfl
      have hd : x + (i : Int) < 3652060 := by omega
      generalize works off xs (x + i) = o at *
      generalize cn (fun j => works off xs (x + j)) i = c at *
      cases o
      · go_wp2_with fail
        refine HWi.out.mono ?_
        rintro e w1 ⟨rfl, q2, ew⟩
        subst w1
        go_wp2
        refine ⟨⟨i + 1, q + q2, by omega, by first | go_num | (congr 1; omega), by rw [HS.out]; first | go_num | (congr 1; simp), by first | rfl | rw [World.drewN_drewN]⟩, by simp [RowKit.intOf]; omega⟩
      · go_wp2_with fail
        refine HWi.out.mono ?_
        rintro e w1 ⟨rfl, q2, ew⟩
        subst w1
        go_wp2
        refine ⟨⟨i + 1, q + q2, by omega, by first | go_num | (congr 1; omega), by rw [HS.out]; simp only [cond_true], by first | rfl | rw [World.drewN_drewN]⟩, by simp [RowKit.intOf]; omega⟩
    · obtain rfl : i = ((3652060 - x : Int).toNat) := by omega
      have hd : 3652060 ≤ x + ((((3652060 - x : Int).toNat) : Nat) : Int) := by omega
      have HX : Hid (cnt off xs x 3652060 = cn (fun j => works off xs (x + j)) ((3652060 - x : Int).toNat)) := by unfold cnt; exact rfl
      rw [HX.out] at HE
      generalize cn (fun j => works off xs (x + j)) ((3652060 - x : Int).toNat) = c at *
      clear HX
      go_wp2
      go_ret
      exact ⟨ret_int (by have := HE.out; omega), q, rfl⟩

set_option maxHeartbeats 4000000 in
set_option maxRecDepth 10000 in
theorem rCount_8 (b : Nat) (off : Int → Bool) (xs : List Int) (v : Value) (x y : Int) (w : World) (h : Cal w b off xs v) (x1 : -1099511631776 ≤ x) (x2 : x ≤ 1099511631776) (y1 : -1099511631776 ≤ y) (y2 : y ≤ 1099511631776) (k0 : ¬ y < x) (k1 : ¬ x < 1) (k2 : ¬ 3652060 < y) :
    Calls Tryd.prog 13 #[.pointer (some ⟨b, 0, none⟩), .int .i64 x, .int .i64 y] w fun e w' => e = .returned (.int .i64 (cntD off xs x y)) ∧ ∃ q, w' = w.drewN q := by
  have HW := hidIt (fun q m => rWorks_any b off xs v m (w.drewN q) (h.drewN q))
  have HE : Hid (cntD off xs x y = cnt off xs x y) := by show _ = _; unfold cntD; rw [if_neg k0, show max x 1 = x by omega, show min y 3652060 = y by omega]
  clear h
  go_enter Tryd.func13, Tryd.ntmps13
  go_wp2_with fail
  go_loopw [8, 9] (fun a c wr => ∃ i q : Nat, i ≤ ((y - x : Int).toNat) ∧ c = .int .i64 (x + i) ∧ a = .int .i64 (cn (fun j => works off xs (x + j)) i) ∧ wr = w.drewN q) (fun _ c _ => (y - RowKit.intOf c).toNat)
  case atStart => exact ⟨0, 0, by omega, by first | (congr 1; omega) | congr 1 | simp, by simp [cn], rfl⟩
  case round =>
    obtain ⟨i, q, hi, rfl, rfl, rfl⟩ := hrel
    have hnn := cn_nn (fun j => works off xs (x + j)) i
    have hle := cn_le (fun j => works off xs (x + j)) i
    by_cases hlt : i < ((y - x : Int).toNat)
    · have HWi := hidIt (HW.out q (x + i))
      have HS : Hid (cn (fun j => works off xs (x + j)) (i + 1) = cn (fun j => works off xs (x + j)) i + (bif works off xs (x + i) then 1 else 0)) := rfl
      have hd : x + (i : Int) < y := by omega
      generalize works off xs (x + i) = o at *
      generalize cn (fun j => works off xs (x + j)) i = c at *
      cases o
      · go_wp2_with fail
        refine HWi.out.mono ?_
        rintro e w1 ⟨rfl, q2, ew⟩
        subst w1
        go_wp2
        refine ⟨⟨i + 1, q + q2, by omega, by first | go_num | (congr 1; omega), by rw [HS.out]; first | go_num | (congr 1; simp), by first | rfl | rw [World.drewN_drewN]⟩, by simp [RowKit.intOf]; omega⟩
      · go_wp2_with fail
        refine HWi.out.mono ?_
        rintro e w1 ⟨rfl, q2, ew⟩
        subst w1
        go_wp2
        refine ⟨⟨i + 1, q + q2, by omega, by first | go_num | (congr 1; omega), by rw [HS.out]; simp only [cond_true], by first | rfl | rw [World.drewN_drewN]⟩, by simp [RowKit.intOf]; omega⟩
    · obtain rfl : i = ((y - x : Int).toNat) := by omega
      have hd : y ≤ x + ((((y - x : Int).toNat) : Nat) : Int) := by omega
      have HX : Hid (cnt off xs x y = cn (fun j => works off xs (x + j)) ((y - x : Int).toNat)) := by unfold cnt; exact rfl
      rw [HX.out] at HE
      generalize cn (fun j => works off xs (x + j)) ((y - x : Int).toNat) = c at *
      clear HX
      go_wp2
      go_ret
      exact ⟨ret_int (by have := HE.out; omega), q, rfl⟩

theorem rCount_any (b : Nat) (off : Int → Bool) (xs : List Int) (v : Value) (x y : Int) (w : World) (h : Cal w b off xs v) (x1 : -1099511631776 ≤ x) (x2 : x ≤ 1099511631776) (y1 : -1099511631776 ≤ y) (y2 : y ≤ 1099511631776) :
    Calls Tryd.prog 13 #[.pointer (some ⟨b, 0, none⟩), .int .i64 x, .int .i64 y] w fun e w' => e = .returned (.int .i64 (cntD off xs x y)) ∧ ∃ q, w' = w.drewN q := by
  by_cases k0 : y < x
  · by_cases k1 : y < 1 <;> by_cases k2 : 3652060 < x
    · exact rCount_1 b off xs v x y w h x1 x2 y1 y2 k0 k1 k2
    · exact rCount_2 b off xs v x y w h x1 x2 y1 y2 k0 k1 k2
    · exact rCount_3 b off xs v x y w h x1 x2 y1 y2 k0 k1 k2
    · exact rCount_4 b off xs v x y w h x1 x2 y1 y2 k0 k1 k2
  · by_cases k1 : x < 1 <;> by_cases k2 : 3652060 < y
    · exact rCount_5 b off xs v x y w h x1 x2 y1 y2 k0 k1 k2
    · exact rCount_6 b off xs v x y w h x1 x2 y1 y2 k0 k1 k2
    · exact rCount_7 b off xs v x y w h x1 x2 y1 y2 k0 k1 k2
    · exact rCount_8 b off xs v x y w h x1 x2 y1 y2 k0 k1 k2
end Go.Proofs.YtlebpojohaplnaaDoor

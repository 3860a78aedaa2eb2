/-
  The text of a day: day.Text, the reference's DayText.
-/
import Derived.Test.YtepljjagfoiinaaDoorDecimal
import Derived.Test.YtepljjagfoiinaaDoorShelf
namespace Go.Proofs.YtepljjagfoiinaaDoor
open Go.RowKit Go.Sort Go.Lib

set_option maxHeartbeats 1000000 in
theorem padded_any (n size : Int) (u : Nat) (hu : (u : Int) = size + n) (hb : u < 1000000) (w : World) (htab : TabIs Tryd.prog w "internal/strconv.uint64pow10" .u64 pow10Tab) :
    Calls Tryd.prog 43 #[.int .i64 n, .int .i64 size] w fun e w' => e = .returned (.string (tl u)) ∧ Below w.heap.size w w' := by
  have HI := hidIt (Go.Proofs.Tryd.strconv_Itoa (size + n) (by omega) (by omega) w htab)
  have e0 : (⟨(Lib.itoa (size + n)).toArray⟩ : ByteArray) = dgs u := by rw [← hu, itoa_nonneg]; rfl
  rw [e0] at HI
  have hs : 1 ≤ (dgs u).size := by rw [dgs_size]; exact (nDigits_bd 5 u (by simpa using hb)).1
  have hs2 : (dgs u).size ≤ 10 := by rw [dgs_size]; have := (nDigits_bd 5 u (by simpa using hb)).2; omega
  have HT : Hid (tl u = (dgs u).extract 1 (dgs u).size) := rfl
  have r1 : size + n ≤ 1000000 := by omega
  have r2 : 0 ≤ size + n := by omega
  clear hu e0 htab
  generalize dgs u = s at *
  go_enter Tryd.func43, Tryd.ntmps43
  go_wp2_with fail
  refine HI.out.mono ?_
  rintro e w1 ⟨rfl, k, os, hk⟩
  have HB : Hid (Below w.heap.size w w1) := by show Below _ _ _; rw [hk]; exact below_grow w k os
  clear hk
  go_wp2
  go_ret
  exact ⟨by rw [HT.out]; rfl, HB.out⟩

/-- A date's text. -/
def txt (y m d : Int) : ByteArray := tl (10000 + y).toNat ++ ⟨#[45]⟩ ++ tl (100 + m).toNat ++ ⟨#[45]⟩ ++ tl (100 + d).toNat
theorem tl_size (n : Nat) (h : n < 1000000) : (tl n).size ≤ 10 := by
  have := nDigits_bd 5 n (by simpa using h)
  have e := dgs_size n
  have : (tl n).size = (dgs n).size - 1 := by simp [tl, ByteArray.size_extract]
  omega

set_option maxHeartbeats 1000000 in
theorem text_ok (y m d : Int) (w : World) (h : Date y m d) (htab : TabIs Tryd.prog w "internal/strconv.uint64pow10" .u64 pow10Tab) :
    Calls Tryd.prog 19 #[.int .i64 (dof y m d)] w fun e w' => e = .returned (.string (txt y m d)) ∧ Below w.heap.size w w' := by
  have hi := h.isDay
  have HD := hidIt (fun w => isDay_any (dof y m d) w)
  rw [isDayB_iff.2 hi] at HD
  have HP := hidIt (fun w => parts_ok y m d w h)
  have y1 := h.y1
  have y2 := h.y2
  have m1 := h.m1
  have m2 := h.m2
  have d1 := h.d1
  have d2 : d ≤ 31 := by have := h.d2; have := mlen_bd y m; omega
  have H1 := hidIt (fun w ht => padded_any y 10000 (10000 + y).toNat (by omega) (by omega) w ht)
  have H2 := hidIt (fun w ht => padded_any m 100 (100 + m).toNat (by omega) (by omega) w ht)
  have H3 := hidIt (fun w ht => padded_any d 100 (100 + d).toNat (by omega) (by omega) w ht)
  have HX : Hid (txt y m d = tl (10000 + y).toNat ++ ⟨#[45]⟩ ++ tl (100 + m).toNat ++ ⟨#[45]⟩ ++ tl (100 + d).toNat) := rfl
  have z1 := tl_size (10000 + y).toNat (by omega)
  have z2 := tl_size (100 + m).toNat (by omega)
  have z3 := tl_size (100 + d).toNat (by omega)
  have HTab := hidIt htab
  clear h htab
  generalize tl (10000 + y).toNat = a at *
  generalize tl (100 + m).toNat = b at *
  generalize tl (100 + d).toNat = c at *
  generalize dof y m d = n at *
  go_enter Tryd.func19, Tryd.ntmps19
  go_wp2_with fail
  refine (HD.out _).mono ?_
  rintro e w1 ⟨rfl, ew⟩
  subst w1
  go_wp2_with fail
  refine (HP.out _).mono ?_
  rintro e w1 ⟨rfl, ew⟩
  subst w1
  go_wp2_with fail
  refine (H1.out _ HTab.out).mono ?_
  rintro e w1 ⟨rfl, hb1⟩
  have HB1 := hidIt hb1
  clear hb1
  go_wp2_with fail
  refine (H2.out _ (tab_below HTab.out HB1.out (Nat.le_refl _))).mono ?_
  rintro e w2 ⟨rfl, hb2⟩
  have HB2 := hidIt (HB1.out.trans (hb2.mono HB1.out.size))
  clear hb2
  go_wp2_with fail
  refine (H3.out _ (tab_below HTab.out HB2.out (Nat.le_refl _))).mono ?_
  rintro e w3 ⟨rfl, hb3⟩
  have HB3 := hidIt (HB2.out.trans (hb3.mono HB2.out.size))
  clear hb3
  go_wp2
  go_ret
  exact ⟨by rw [HX.out]; rfl, HB3.out⟩
theorem text_no (n : Int) (w : World) (h : isDayB n = false) : Calls Tryd.prog 19 #[.int .i64 n] w fun e w' => e = .returned (.string ⟨#[]⟩) ∧ Below w.heap.size w w' := by
  have HD := hidIt (fun w => isDay_any n w)
  rw [h] at HD
  clear h
  go_enter Tryd.func19, Tryd.ntmps19
  go_wp2_with (go_at_call 35; refine (HD.out _).mono ?_; rintro e w' ⟨rfl, rfl⟩)
  go_ret
  exact ⟨rfl, Below.refl _ _⟩
theorem rText_no (n : Int) (w : World) (h : isDayB n = false) : Calls Tryd.prog 20 #[.int .i64 n] w fun e w' => e = .returned (.string ⟨#[]⟩) ∧ Below w.heap.size w w' := by
  have HD := hidIt (fun w => rIsDay_any n w)
  rw [h] at HD
  clear h
  go_enter Tryd.func20, Tryd.ntmps20
  go_wp2_with (go_at_call 40; refine (HD.out _).mono ?_; rintro e w' ⟨rfl, rfl⟩)
  go_ret
  exact ⟨rfl, Below.refl _ _⟩

theorem dec_in (w : World) (n : Int) (h1 : 0 ≤ n) (h2 : n < 1000000) (w' : World) (hb : Below w.heap.size w w') : Calls Tryd.prog 44 #[.int .i64 n] w' fun e w'' => e = .returned (.string (dgs n.toNat)) ∧ Below w.heap.size w w'' := by
  have := decimal_any 5 n.toNat (by decide) (by simp; omega) w'
  rw [show ((n.toNat : Nat) : Int) = n by omega] at this
  refine this.mono ?_
  rintro e w2 ⟨rfl, hb2⟩
  exact ⟨rfl, hb.trans (hb2.mono hb.size)⟩

set_option maxHeartbeats 4000000 in
set_option maxRecDepth 10000 in
theorem rText_ok (y m d : Int) (w : World) (h : Date y m d) :
    Calls Tryd.prog 20 #[.int .i64 (dof y m d)] w fun e w' => e = .returned (.string (txt y m d)) ∧ Below w.heap.size w w' := by
  have hi := h.isDay
  have HD := hidIt (fun w => rIsDay_any (dof y m d) w)
  rw [isDayB_iff.2 hi] at HD
  have HP := hidIt (fun w => rParts_ok y m d w h)
  have y1 := h.y1
  have y2 := h.y2
  have m1 := h.m1
  have m2 := h.m2
  have d1 := h.d1
  have d2 : d ≤ 31 := by have := h.d2; have := mlen_bd y m; omega
  have HC := hidIt (dec_in w)
  have HX : Hid (txt y m d = (dgs (10000 + y).toNat).extract 1 (dgs (10000 + y).toNat).size ++ ⟨#[45]⟩ ++ (dgs (100 + m).toNat).extract 1 (dgs (100 + m).toNat).size ++ ⟨#[45]⟩ ++ (dgs (100 + d).toNat).extract 1 (dgs (100 + d).toNat).size) := rfl
  have z1 := nDigits_bd 5 (10000 + y).toNat (by simp; omega)
  have z2 := nDigits_bd 5 (100 + m).toNat (by simp; omega)
  have z3 := nDigits_bd 5 (100 + d).toNat (by simp; omega)
  rw [← dgs_size] at z1 z2 z3
  obtain ⟨z1, z4⟩ := z1
  obtain ⟨z2, z5⟩ := z2
  obtain ⟨z3, z6⟩ := z3
  have w1 : IntKind.i64.wrap (10000 + y) = 10000 + y := by rw [IntKind.wrap_i64]; omega
  have w2 : IntKind.i64.wrap (100 + m) = 100 + m := by rw [IntKind.wrap_i64]; omega
  have w3 : IntKind.i64.wrap (100 + d) = 100 + d := by rw [IntKind.wrap_i64]; omega
  clear h
  generalize dof y m d = n at *
  go_enter Tryd.func20, Tryd.ntmps20
  go_wp2_with fail
  refine (HD.out _).mono ?_
  rintro e w1 ⟨rfl, ew⟩
  subst w1
  go_wp2_with fail
  refine (HP.out _).mono ?_
  rintro e w1 ⟨rfl, hb1⟩
  go_wp2_with fail
  go_region_with (go_at_call 44; refine (HC.out _ ?_ ?_ _ ?_).mono ?_; (· omega); (· omega); (· first | assumption | exact Below.drew (by assumption) | exact bdrewN (by assumption) _); rintro e w2 ⟨rfl, hb2⟩)
  all_goals
    go_wp2
    go_ret
    exact ⟨by rw [HX.out]; rfl, by assumption⟩
end Go.Proofs.YtepljjagfoiinaaDoor

/-
  The text of a day: day.Text, the reference's DayText and Decimal.
-/
import Derived.Test.YtgihikdabfpncabDoorAgree
import Derived.Test.YtgihikdabfpncabDoorShelf
import Derived.Test.YtgihikdabfpncabDoorBytePlain
import Derived.Lib.ItoaNum
import Derived.Lib.ItoaMem
import Derived.Lib.Walk
import Derived.WalkSmall
import Derived.Deep.RegionWith
namespace Go.Proofs.YtgihikdabfpncabDoor
open Go.RowKit Go.Sort Go.Lib

theorem below_grow (w : World) (k : Nat) (os : Array Obj) : Below w.heap.size w (grow (w.drewN k) os) :=
  ⟨rfl, rfl, rfl, by first | (simp [grow]; done) | (simp [grow]; omega), fun i hi => by
    show ((w.drewN k).heap ++ os)[i]? = _
    rw [Array.getElem?_append_left (by show i < w.heap.size; omega)]
    rfl⟩

/-- A number's decimal digits. -/
def dgs (u : Nat) : ByteArray := ⟨(decDigits u).toArray⟩
theorem dgs_app (u : Nat) (h : ¬ u < 10) : dgs (u / 10) ++ dgs (u % 10) = dgs u := by
  apply ByteArray.ext
  rw [ByteArray.data_append]
  show (decDigits (u / 10)).toArray ++ (decDigits (u % 10)).toArray = (decDigits u).toArray
  rw [decDigits_one (i := u % 10) (by omega)]
  conv => rhs; rw [decDigits, dif_neg h]
  simp
theorem dgs_size (u : Nat) : (dgs u).size = nDigits u := by
  show (decDigits u).toArray.size = _
  simp [decDigits_length]
theorem nDigits_bd : ∀ (f u : Nat), u < 10 ^ (f + 1) → 1 ≤ nDigits u ∧ nDigits u ≤ f + 1
  | 0, u, h => by rw [nDigits_small (by simpa using h)]; omega
  | f + 1, u, h => by
    by_cases h10 : u < 10
    · rw [nDigits_small h10]; omega
    · have := nDigits_bd f (u / 10) (by rw [Nat.pow_succ] at h; omega)
      have e : nDigits u = nDigits (u / 10) + 1 := by
        rw [← decDigits_length, ← decDigits_length, decDigits, dif_neg h10]; simp
      omega

theorem conv_one (w : World) (c : UInt8) (v : Int) (h : v = c.toNat) : (convert 73 9 (.slice (some ⟨w.heap.size, 0, none⟩) 1 1)).run Tryd.prog (w.alloc (.cells #[.int .u8 v] 5)) = .ok (.string ⟨#[c]⟩) (w.alloc (.cells #[.int .u8 v] 5)) := by
  subst h
  exact run_convert_bytes_back (P := Tryd.prog) (w.alloc (.cells #[.int .u8 (c.toNat : Int)] 5)) 73 9 5 ⟨w.heap.size, 0, none⟩ 1 [c] Tryd.underlying73 Tryd.underlying5 Tryd.underlying9 (fun j hj => by
    have : j = 0 := by simpa using hj
    subst this
    simp [Addr.add])

set_option maxHeartbeats 1000000 in
theorem decimal_digit (u : Nat) (h10 : u < 10) (w : World) : Calls Tryd.prog 47 #[.int .i64 u] w fun e w' => e = .returned (.string (dgs u)) ∧ Below w.heap.size w w' := by
  have d0 : decide ((u : Int) < 0) = false := by simp
  have d1 : decide ((u : Int) < 10) = true := by simp; omega
  have hcv := conv_one w (UInt8.ofNat (48 + u)) (48 + u) (by simp; omega)
  have HE : Hid (dgs u = ⟨#[UInt8.ofNat (48 + u)]⟩) := by show _ = _; unfold dgs; rw [decDigits_one h10]
  generalize UInt8.ofNat (48 + u) = c at *
  go_enter Tryd.func47, Tryd.ntmps47
  go_wp2
  go_ret
  exact ⟨by rw [HE.out]; rfl, (Below.refl _ _).alloc (Nat.le_refl _) _⟩

set_option maxHeartbeats 1000000 in
theorem decimal_any : ∀ (f u : Nat), f ≤ 8 → u < 10 ^ (f + 1) → ∀ w : World, Calls Tryd.prog 47 #[.int .i64 u] w fun e w' => e = .returned (.string (dgs u)) ∧ Below w.heap.size w w'
  | 0, u, _, h, w => decimal_digit u (by simpa using h) w
  | f + 1, u, hf, h, w => by
    by_cases h10 : u < 10
    · exact decimal_digit u h10 w
    · have d0 : decide ((u : Int) < 0) = false := by simp
      have d1 : decide ((u : Int) < 10) = false := by simp; omega
      have hu10 : u / 10 < 10 ^ (f + 1) := by rw [Nat.pow_succ] at h; omega
      have H1 : Hid (∀ w, Calls Tryd.prog 47 #[.int .i64 ((u : Int) / 10)] w fun e w' => e = .returned (.string (dgs (u / 10))) ∧ Below w.heap.size w w') := fun w => by
        have := decimal_any f (u / 10) (by omega) hu10 w
        rwa [show ((u / 10 : Nat) : Int) = (u : Int) / 10 by omega] at this
      have H2 : Hid (∀ w, Calls Tryd.prog 47 #[.int .i64 ((u : Int) % 10)] w fun e w' => e = .returned (.string (dgs (u % 10))) ∧ Below w.heap.size w w') := fun w => by
        have := decimal_digit (u % 10) (by omega) w
        rwa [show ((u % 10 : Nat) : Int) = (u : Int) % 10 by omega] at this
      have HA := hidIt (dgs_app u h10)
      have s1 : (dgs (u / 10)).size ≤ 10 := by rw [dgs_size]; have := nDigits_bd f (u / 10) hu10; omega
      have s2 : (dgs (u % 10)).size ≤ 10 := by rw [dgs_size, nDigits_small (by omega)]; omega
      have hb : u < 10 ^ 10 := Nat.lt_of_lt_of_le h (Nat.pow_le_pow_right (by decide) (by omega))
      have hb2 : u < 10000000000 := by simpa using hb
      clear h hb hu10
      generalize dgs (u / 10) = a at *
      generalize dgs (u % 10) = b at *
      go_enter Tryd.func47, Tryd.ntmps47
      go_wp2_with fail
      refine (H1.out _).mono ?_
      rintro e w1 ⟨rfl, hb1⟩
      have HB1 := hidIt hb1
      clear hb1
      go_wp2_with fail
      refine (H2.out _).mono ?_
      rintro e w2 ⟨rfl, hb2⟩
      have HB2 := hidIt (HB1.out.trans (hb2.mono HB1.out.size))
      clear hb2
      go_wp2
      go_ret
      exact ⟨by rw [← HA.out]; rfl, HB2.out⟩

/-- The digits behind the first. -/
def tl (u : Nat) : ByteArray := (dgs u).extract 1 (dgs u).size
theorem tab_below {w w' : World} {B : Nat} (h : TabIs Tryd.prog w "internal/strconv.uint64pow10" .u64 pow10Tab) (hb : Below B w w') (hB : w.heap.size ≤ B) : TabIs Tryd.prog w' "internal/strconv.uint64pow10" .u64 pow10Tab := by
  have hg : Tryd.prog.globalNamed "internal/strconv.uint64pow10" = some 12 := by kernel_rfl
  refine var?_below hb hg ?_ h
  have : w.heap[12]? ≠ none := fun e => by
    have h' : w.var? Tryd.prog "internal/strconv.uint64pow10" = _ := h
    simp [World.var?, hg, e] at h'
  have h12 : 12 < w.heap.size := by
    rcases Nat.lt_or_ge 12 w.heap.size with k | k
    · exact k
    · exact absurd (Array.getElem?_eq_none k) this
  omega

set_option maxHeartbeats 1000000 in
theorem padded_any (n size : Int) (u : Nat) (hu : (u : Int) = size + n) (hb : u < 1000000) (w : World) (htab : TabIs Tryd.prog w "internal/strconv.uint64pow10" .u64 pow10Tab) :
    Calls Tryd.prog 46 #[.int .i64 n, .int .i64 size] w fun e w' => e = .returned (.string (tl u)) ∧ Below w.heap.size w w' := by
  have HI := hidIt (Go.Proofs.Tryd.strconv_Itoa (size + n) (by omega) (by omega) w htab)
  have e0 : (⟨(Lib.itoa (size + n)).toArray⟩ : ByteArray) = dgs u := by rw [← hu, itoa_nonneg]; rfl
  rw [e0] at HI
  have hs : 1 ≤ (dgs u).size := by rw [dgs_size]; exact (nDigits_bd 5 u (by simpa using hb)).1
  have hs2 : (dgs u).size ≤ 10 := by rw [dgs_size]; have := (nDigits_bd 5 u (by simpa using hb)).2; omega
  have HT : Hid (tl u = (dgs u).extract 1 (dgs u).size) := rfl
  have r1 : size + n ≤ 1000000 := by omega
  have r2 : 0 ≤ size + n := by omega
  clear hu e0 htab
  generalize dgs u = s at *
  go_enter Tryd.func46, Tryd.ntmps46
  go_wp2_with fail
  refine HI.out.mono ?_
  rintro e w1 ⟨rfl, k, os, hk⟩
  have HB : Hid (Below w.heap.size w w1) := by show Below _ _ _; rw [hk]; exact below_grow w k os
  clear hk
  go_wp2
  go_ret
  exact ⟨by rw [HT.out]; rfl, HB.out⟩

/-- A date's text. -/
def txt (y m d : Int) : ByteArray := tl (10000 + y).toNat ++ ⟨#[45]⟩ ++ tl (100 + m).toNat ++ ⟨#[45]⟩ ++ tl (100 + d).toNat
theorem tl_size (n : Nat) (h : n < 1000000) : (tl n).size ≤ 10 := by
  have := nDigits_bd 5 n (by simpa using h)
  have e := dgs_size n
  have : (tl n).size = (dgs n).size - 1 := by simp [tl, ByteArray.size_extract]
  omega

set_option maxHeartbeats 1000000 in
theorem text_ok (y m d : Int) (w : World) (h : Date y m d) (htab : TabIs Tryd.prog w "internal/strconv.uint64pow10" .u64 pow10Tab) :
    Calls Tryd.prog 23 #[.int .i64 (dof y m d)] w fun e w' => e = .returned (.string (txt y m d)) ∧ Below w.heap.size w w' := by
  have hi := h.isDay
  have HD := hidIt (fun w => isDay_any (dof y m d) w)
  rw [isDayB_iff.2 hi] at HD
  have HP := hidIt (fun w => parts_ok y m d w h)
  have y1 := h.y1
  have y2 := h.y2
  have m1 := h.m1
  have m2 := h.m2
  have d1 := h.d1
  have d2 : d ≤ 31 := by have := h.d2; have := mlen_bd y m; omega
  have H1 := hidIt (fun w ht => padded_any y 10000 (10000 + y).toNat (by omega) (by omega) w ht)
  have H2 := hidIt (fun w ht => padded_any m 100 (100 + m).toNat (by omega) (by omega) w ht)
  have H3 := hidIt (fun w ht => padded_any d 100 (100 + d).toNat (by omega) (by omega) w ht)
  have HX : Hid (txt y m d = tl (10000 + y).toNat ++ ⟨#[45]⟩ ++ tl (100 + m).toNat ++ ⟨#[45]⟩ ++ tl (100 + d).toNat) := rfl
  have z1 := tl_size (10000 + y).toNat (by omega)
  have z2 := tl_size (100 + m).toNat (by omega)
  have z3 := tl_size (100 + d).toNat (by omega)
  have HTab := hidIt htab
  clear h htab
  generalize tl (10000 + y).toNat = a at *
  generalize tl (100 + m).toNat = b at *
  generalize tl (100 + d).toNat = c at *
  generalize dof y m d = n at *
  go_enter Tryd.func23, Tryd.ntmps23
  go_wp2_with fail
  refine (HD.out _).mono ?_
  rintro e w1 ⟨rfl, ew⟩
  subst w1
  go_wp2_with fail
  refine (HP.out _).mono ?_
  rintro e w1 ⟨rfl, ew⟩
  subst w1
  go_wp2_with fail
  refine (H1.out _ HTab.out).mono ?_
  rintro e w1 ⟨rfl, hb1⟩
  have HB1 := hidIt hb1
  clear hb1
  go_wp2_with fail
  refine (H2.out _ (tab_below HTab.out HB1.out (Nat.le_refl _))).mono ?_
  rintro e w2 ⟨rfl, hb2⟩
  have HB2 := hidIt (HB1.out.trans (hb2.mono HB1.out.size))
  clear hb2
  go_wp2_with fail
  refine (H3.out _ (tab_below HTab.out HB2.out (Nat.le_refl _))).mono ?_
  rintro e w3 ⟨rfl, hb3⟩
  have HB3 := hidIt (HB2.out.trans (hb3.mono HB2.out.size))
  clear hb3
  go_wp2
  go_ret
  exact ⟨by rw [HX.out]; rfl, HB3.out⟩
theorem text_no (n : Int) (w : World) (h : isDayB n = false) : Calls Tryd.prog 23 #[.int .i64 n] w fun e w' => e = .returned (.string ⟨#[]⟩) ∧ Below w.heap.size w w' := by
  have HD := hidIt (fun w => isDay_any n w)
  rw [h] at HD
  clear h
  go_enter Tryd.func23, Tryd.ntmps23
  go_wp2_with (go_at_call 39; refine (HD.out _).mono ?_; rintro e w' ⟨rfl, rfl⟩)
  go_ret
  exact ⟨rfl, Below.refl _ _⟩
theorem rText_no (n : Int) (w : World) (h : isDayB n = false) : Calls Tryd.prog 24 #[.int .i64 n] w fun e w' => e = .returned (.string ⟨#[]⟩) ∧ Below w.heap.size w w' := by
  have HD := hidIt (fun w => rIsDay_any n w)
  rw [h] at HD
  clear h
  go_enter Tryd.func24, Tryd.ntmps24
  go_wp2_with (go_at_call 43; refine (HD.out _).mono ?_; rintro e w' ⟨rfl, rfl⟩)
  go_ret
  exact ⟨rfl, Below.refl _ _⟩

theorem dec_in (w : World) (n : Int) (h1 : 0 ≤ n) (h2 : n < 1000000) (w' : World) (hb : Below w.heap.size w w') : Calls Tryd.prog 47 #[.int .i64 n] w' fun e w'' => e = .returned (.string (dgs n.toNat)) ∧ Below w.heap.size w w'' := by
  have := decimal_any 5 n.toNat (by decide) (by simp; omega) w'
  rw [show ((n.toNat : Nat) : Int) = n by omega] at this
  refine this.mono ?_
  rintro e w2 ⟨rfl, hb2⟩
  exact ⟨rfl, hb.trans (hb2.mono hb.size)⟩

set_option maxHeartbeats 4000000 in
set_option maxRecDepth 10000 in
theorem rText_ok (y m d : Int) (w : World) (h : Date y m d) :
    Calls Tryd.prog 24 #[.int .i64 (dof y m d)] w fun e w' => e = .returned (.string (txt y m d)) ∧ Below w.heap.size w w' := by
  have hi := h.isDay
  have HD := hidIt (fun w => rIsDay_any (dof y m d) w)
  rw [isDayB_iff.2 hi] at HD
  have HP := hidIt (fun w => rParts_ok y m d w h)
  have y1 := h.y1
  have y2 := h.y2
  have m1 := h.m1
  have m2 := h.m2
  have d1 := h.d1
  have d2 : d ≤ 31 := by have := h.d2; have := mlen_bd y m; omega
  have HC := hidIt (dec_in w)
  have HX : Hid (txt y m d = (dgs (10000 + y).toNat).extract 1 (dgs (10000 + y).toNat).size ++ ⟨#[45]⟩ ++ (dgs (100 + m).toNat).extract 1 (dgs (100 + m).toNat).size ++ ⟨#[45]⟩ ++ (dgs (100 + d).toNat).extract 1 (dgs (100 + d).toNat).size) := rfl
  have z1 := nDigits_bd 5 (10000 + y).toNat (by simp; omega)
  have z2 := nDigits_bd 5 (100 + m).toNat (by simp; omega)
  have z3 := nDigits_bd 5 (100 + d).toNat (by simp; omega)
  rw [← dgs_size] at z1 z2 z3
  obtain ⟨z1, z4⟩ := z1
  obtain ⟨z2, z5⟩ := z2
  obtain ⟨z3, z6⟩ := z3
  have w1 : IntKind.i64.wrap (10000 + y) = 10000 + y := by rw [IntKind.wrap_i64]; omega
  have w2 : IntKind.i64.wrap (100 + m) = 100 + m := by rw [IntKind.wrap_i64]; omega
  have w3 : IntKind.i64.wrap (100 + d) = 100 + d := by rw [IntKind.wrap_i64]; omega
  clear h
  generalize dof y m d = n at *
  go_enter Tryd.func24, Tryd.ntmps24
  go_wp2_with fail
  refine (HD.out _).mono ?_
  rintro e w1 ⟨rfl, ew⟩
  subst w1
  go_wp2_with fail
  refine (HP.out _).mono ?_
  rintro e w1 ⟨rfl, hb1⟩
  go_wp2_with fail
  go_region_with (go_at_call 47; refine (HC.out _ ?_ ?_ _ ?_).mono ?_; (· omega); (· omega); (· first | assumption | exact Below.drew (by assumption) | exact bdrewN (by assumption) _); rintro e w2 ⟨rfl, hb2⟩)
  all_goals
    go_wp2
    go_ret
    exact ⟨by rw [HX.out]; rfl, by assumption⟩
end Go.Proofs.YtgihikdabfpncabDoor

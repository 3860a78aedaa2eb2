/-
  The reference's calendar: Works, allOff, walk, Roll, Add, CountDays.
-/
import Derived.Test.YtlebpojohaplnaaDoorCal
namespace Go.Proofs.YtlebpojohaplnaaDoor
open Go.RowKit Go.Extern.Stop Go.Stop Go.Extern

theorem contains_take (xs : List Int) (n : Int) (h : ∀ (j : Nat) (x : Int), xs[j]? = some x → x ≠ n) : xs.contains n = false := by
  rw [← Bool.not_eq_true, List.contains_iff_mem]
  intro hm
  obtain ⟨j, hj⟩ := List.getElem?_of_mem hm
  exact h j n hj rfl

set_option maxHeartbeats 1000000 in
theorem rWorks_any (b : Nat) (off : Int → Bool) (xs : List Int) (v : Value) (n : Int) (w : World) (h : Cal w b off xs v) :
    Calls Tryd.prog 11 #[.pointer (some ⟨b, 0, none⟩), .int .i64 n] w fun e w' => e = .returned (.bool (works off xs n)) ∧ ∃ q, w' = w.drewN q := by
  have HD := hidIt (fun w => rIsDay_any n w)
  cases hd : isDayB n
  · have HE : Hid (works off xs n = false) := by show _ = _; rw [works, hd]; rfl
    rw [hd] at HD
    clear hd h
    go_enter Tryd.func11, Tryd.ntmps11
    go_wp2_with (go_at_call 23; refine (HD.out _).mono ?_; rintro e w' ⟨rfl, rfl⟩)
    go_ret
    exact ⟨ret_bool HE.out.symm, 0, rfl⟩
  · obtain ⟨k, hk, hk7⟩ := wk_nat n
    have HW := hidIt (fun w => rWeek_any n w)
    rw [hd, if_pos rfl, hk] at HW
    have hc := h.day k hk7
    have hs := h.sl
    have HR := hidIt h.row
    have hlen := h.few
    have HE : Hid (works off xs n = (!off k && !xs.contains n)) := by show _ = _; rw [works, hd, hk]; rfl
    rw [hd] at HD
    have hkz : (k : Int) < 7 := by omega
    clear hd h hk
    generalize off k = o at *
    cases o
    · rcases HR.out with ⟨hv, hx⟩ | ⟨g, cap, hv, hg, hcap, hx⟩
      · subst hv hx
        go_enter Tryd.func11, Tryd.ntmps11
        go_wp2_with (go_at_call 23; refine (HD.out _).mono ?_; rintro e w' ⟨rfl, rfl⟩)
        go_quiet ((go_at_call 26; exact Calls.quiet_of_same (HW.out _)))
        go_wp2_with fail
        go_loop [6] (fun t => t = .int .i64 0) (fun _ => 0)
        case atStart => rfl
        case round =>
          subst hrel
          go_wp2
          go_ret
          exact ⟨ret_bool HE.out.symm, _, rfl⟩
      · subst hv
        have HX := hidIt hx
        clear hx
        generalize hL : xs.length = m at *
        have HL := hidIt hL
        clear hL
        go_enter Tryd.func11, Tryd.ntmps11
        go_wp2_with (go_at_call 23; refine (HD.out _).mono ?_; rintro e w' ⟨rfl, rfl⟩)
        go_quiet ((go_at_call 26; exact Calls.quiet_of_same (HW.out _)))
        go_wp2_with fail
        go_loop [6] (fun t => ∃ i : Nat, i ≤ m ∧ t = .int .i64 i ∧ ∀ (j : Nat) (x : Int), j < i → xs[j]? = some x → x ≠ n) (fun t => m - (RowKit.intOf t).toNat)
        case atStart => exact ⟨0, by omega, rfl, by intro j x h; omega⟩
        case round =>
          obtain ⟨i, hi, rfl, hall⟩ := hrel
          have HA := hidIt hall
          clear hall
          by_cases hlt : i < m
          · have hiz : (i : Int) < m := by omega
            have hL := HL.out
            obtain ⟨x, hx⟩ : ∃ x, xs[i]? = some x := ⟨_, List.getElem?_eq_getElem (by omega)⟩
            have cx := HX.out i x hx
            have HXi := hidIt hx
            clear hx hL
            cases hq : (x == n)
            · have HN : Hid (∀ (j : Nat) (y : Int), j < i + 1 → xs[j]? = some y → y ≠ n) := fun j y hj hy => by
                rcases Nat.lt_or_ge j i with h | h
                · exact HA.out j y h hy
                · obtain rfl : j = i := by omega
                  rw [HXi.out] at hy
                  obtain rfl := Option.some.inj hy
                  simpa using hq
              go_wp2
              go_round
              case rel => exact ⟨i + 1, by omega, by go_num, HN.out⟩
              case measure => simp [RowKit.intOf]; omega
            · have HT : Hid (xs.contains n = true) := by
                show _ = _
                rw [List.contains_iff_mem]
                have : x = n := by simpa using hq
                rw [← this]
                exact List.mem_of_getElem? HXi.out
              rw [HT.out] at HE
              go_wp2
              go_ret
              exact ⟨ret_bool HE.out.symm, _, rfl⟩
          · have hle : m ≤ i := by omega
            have d0 : decide ((i : Int) < m) = false := by simp; omega
            have HT : Hid (xs.contains n = false) := contains_take xs n (fun j x hj => HA.out j x (by
              have h1 := (List.getElem?_eq_some_iff.1 hj).1
              have := HL.out
              omega) hj)
            rw [HT.out] at HE
            go_wp2
            go_ret
            exact ⟨ret_bool HE.out.symm, _, rfl⟩
    · go_enter Tryd.func11, Tryd.ntmps11
      go_wp2_with (go_at_call 23; refine (HD.out _).mono ?_; rintro e w' ⟨rfl, rfl⟩)
      go_quiet ((go_at_call 26; exact Calls.quiet_of_same (HW.out _)))
      go_wp2
      go_ret
      exact ⟨ret_bool HE.out.symm, _, rfl⟩

theorem allOff_yes (b : Nat) (off : Int → Bool) (w : World) (h : ∀ i : Nat, i < 7 → w.cell? ⟨b, i, none⟩ = some (.bool (off i))) (ha : ∀ i : Nat, i < 7 → off i = true) :
    Calls Tryd.prog 37 #[.pointer (some ⟨b, 0, none⟩)] w fun e w' => e = .returned (.bool true) ∧ w' = w := by
  have HC : Hid (∀ i : Nat, i < 7 → w.cell? ⟨b, i, none⟩ = some (.bool true)) := fun i hi => by rw [h i hi, ha i hi]
  clear h ha
  go_enter Tryd.func37, Tryd.ntmps37
  go_wp2_with fail
  go_loop [3] (fun t => ∃ i : Nat, i ≤ 7 ∧ t = .int .i64 i) (fun t => 7 - (RowKit.intOf t).toNat)
  case atStart => exact ⟨0, by omega, rfl⟩
  case round =>
    obtain ⟨i, hi, rfl⟩ := hrel
    by_cases hlt : i < 7
    · have hiz : (i : Int) < 7 := by omega
      have hc := HC.out i hlt
      go_wp2
      go_round
      case rel => exact ⟨i + 1, by omega, by go_num⟩
      case measure => simp [RowKit.intOf]; omega
    · have hle : 7 ≤ i := by omega
      go_wp2
      go_ret
      exact ⟨rfl, rfl⟩
theorem allOff_no (b : Nat) (off : Int → Bool) (w : World) (h : ∀ i : Nat, i < 7 → w.cell? ⟨b, i, none⟩ = some (.bool (off i))) (k : Nat) (hk : k < 7) (ha : off k = false) :
    Calls Tryd.prog 37 #[.pointer (some ⟨b, 0, none⟩)] w fun e w' => e = .returned (.bool false) ∧ w' = w := by
  have HC := hidIt h
  have HA := hidIt ha
  clear h ha
  go_enter Tryd.func37, Tryd.ntmps37
  go_wp2_with fail
  go_loop [3] (fun t => ∃ i : Nat, i ≤ k ∧ t = .int .i64 i) (fun t => 7 - (RowKit.intOf t).toNat)
  case atStart => exact ⟨0, by omega, rfl⟩
  case round =>
    obtain ⟨i, hi, rfl⟩ := hrel
    have hiz : (i : Int) < 7 := by omega
    have hc := HC.out i (by omega)
    cases ho : off i
    · rw [ho] at hc
      clear ho
      go_wp2
      go_ret
      exact ⟨rfl, rfl⟩
    · rw [ho] at hc
      have hne : i ≠ k := fun e => by subst e; rw [HA.out] at ho; cases ho
      clear ho
      go_wp2
      go_round
      case rel => exact ⟨i + 1, by omega, by go_num⟩
      case measure => simp [RowKit.intOf]; omega
/-- Is no day of the week a working day? -/
theorem off_or (off : Int → Bool) : (∀ i : Nat, i < 7 → off i = true) ∨ ∃ k : Nat, k < 7 ∧ off k = false := by
  by_cases h : ∃ k : Nat, k < 7 ∧ off k = false
  · exact .inr h
  · refine .inl fun i hi => ?_
    cases e : off i
    · exact absurd ⟨i, hi, e⟩ h
    · rfl
theorem works_off {off : Int → Bool} (h : ∀ i : Nat, i < 7 → off i = true) (xs : List Int) (n : Int) : works off xs n = false := by
  obtain ⟨k, hk, hk7⟩ := wk_nat n
  rw [works, hk, h k hk7]; simp

/-- The days behind a day. -/
def gU (off : Int → Bool) (xs : List Int) (d : Int) (i : Nat) : Bool := works off xs (d + (i + 1))

set_option maxHeartbeats 2000000 in
theorem walkU_hit (b : Nat) (off : Int → Bool) (xs : List Int) (v : Value) (d n : Int) (s : Nat) (w : World) (h : Cal w b off xs v) (d1 : 1 ≤ d) (d2 : d ≤ 3652059) (n2 : n ≤ 1000000) (hh : Hit (gU off xs d) (3652059 - d).toNat n s) :
    Calls Tryd.prog 24 #[.pointer (some ⟨b, 0, none⟩), .int .i64 d, .int .i64 1, .int .i64 n] w fun e w' => e = .returned (.tuple #[.int .i64 (d + (s + 1)), .int .i64 0]) ∧ ∃ q, w' = w.drewN q := by
  have hno : ∃ k : Nat, k < 7 ∧ off k = false := by
    rcases off_or off with ha | ha
    · exfalso
      have h1 := hh.eq.2
      rw [gU, works_off ha] at h1
      cases h1
    · exact ha
  obtain ⟨k, hk, hko⟩ := hno
  have HO := hidIt (fun q => allOff_no b off (w.drewN q) (h.drewN q).day k hk hko)
  have HO0 := hidIt (allOff_no b off w h.day k hk hko)
  have HW := hidIt (fun q m => rWorks_any b off xs v m (w.drewN q) (h.drewN q))
  have hs := hh.1
  have HH := hidIt hh
  have HE := hidIt hh.eq.1
  have n0 : 0 < n := by have := hh.2.1; have := cn_nn (gU off xs d) s; omega
  clear hh h hk hko
  go_enter Tryd.func24, Tryd.ntmps24
  go_wp2_with fail
  refine HO0.out.mono ?_
  rintro e w1 ⟨rfl, ew⟩
  subst w1
  go_wp2_with fail
  go_loopw [1, 3] (fun a c wr => ∃ i q : Nat, i ≤ s + 1 ∧ a = .int .i64 (d + i) ∧ c = .int .i64 (n - cn (gU off xs d) i) ∧ wr = w.drewN q) (fun a _ _ => (3652060 - RowKit.intOf a).toNat)
  case atStart => exact ⟨0, 0, by omega, by congr 1; omega, by simp [cn], rfl⟩
  case round =>
    obtain ⟨i, q, hi, rfl, rfl, rfl⟩ := hrel
    have hnn := cn_nn (gU off xs d) i
    by_cases hlt : i ≤ s
    · have hm := cn_mono (gU off xs d) i s hlt
      have hm2 := HH.out.2.1
      have hst := cn_step (gU off xs d) i
      have hday : isDayB (d + i + 1) = true := isDayB_iff.2 (by omega)
      have HD := hidIt (fun w => rIsDay_any (d + i + 1) w)
      rw [hday] at HD
      have HWi := hidIt (HW.out q (d + i + 1))
      have HG : Hid (gU off xs d i = works off xs (d + i + 1)) := by show _ = _; rw [gU]; congr 1; omega
      have HS : Hid (cn (gU off xs d) (i + 1) = cn (gU off xs d) i + (bif works off xs (d + i + 1) then 1 else 0)) := by show _ = _; rw [cn, HG.out]
      have hpos : 0 < n - cn (gU off xs d) i := by omega
      clear hday hm hm2 hst
      generalize works off xs (d + i + 1) = o at *
      generalize cn (gU off xs d) i = c at *
      cases o
      · go_wp2_with fail
        refine (HD.out _).mono ?_
        rintro e w1 ⟨rfl, ew⟩
        subst w1
        go_wp2_with fail
        refine HWi.out.mono ?_
        rintro e w1 ⟨rfl, q2, ew⟩
        subst w1
        go_wp2
        refine ⟨⟨i + 1, q + q2, by omega, by first | go_num | (congr 1; omega), by rw [HS.out]; first | go_num | (congr 1; simp), by first | rfl | rw [World.drewN_drewN]⟩, by simp [RowKit.intOf]; omega⟩
      · go_wp2_with fail
        refine (HD.out _).mono ?_
        rintro e w1 ⟨rfl, ew⟩
        subst w1
        go_wp2_with fail
        refine HWi.out.mono ?_
        rintro e w1 ⟨rfl, q2, ew⟩
        subst w1
        go_wp2
        refine ⟨⟨i + 1, q + q2, by omega, by first | go_num | (congr 1; omega), by rw [HS.out]; simp only [cond_true]; first | go_num | (congr 1; omega), by first | rfl | rw [World.drewN_drewN]⟩, by simp [RowKit.intOf]; omega⟩
    · obtain rfl : i = s + 1 := by omega
      have hz : n - cn (gU off xs d) (s + 1) = 0 := by rw [HE.out]; omega
      rw [hz]
      clear hlt hnn hz
      have HX : Hid (d + ((s + 1 : Nat) : Int) = d + (s + 1)) := by show _ = _; omega
      rw [HX.out]
      go_wp2
      go_ret2
      exact ⟨rfl, q, rfl⟩

set_option maxHeartbeats 2000000 in
theorem walkU_miss (b : Nat) (off : Int → Bool) (xs : List Int) (v : Value) (d n : Int) (w : World) (h : Cal w b off xs v) (d1 : 1 ≤ d) (d2 : d ≤ 3652059) (n2 : n ≤ 1000000) (hh : cn (gU off xs d) (3652059 - d).toNat < n) :
    Calls Tryd.prog 24 #[.pointer (some ⟨b, 0, none⟩), .int .i64 d, .int .i64 1, .int .i64 n] w fun e w' => e = .returned (.tuple #[.int .i64 0, .int .i64 4]) ∧ ∃ q, w' = w.drewN q := by
  rcases off_or off with ha | ⟨k, hk, hko⟩
  · have HO0 := hidIt (allOff_yes b off w h.day ha)
    clear h hh ha
    go_enter Tryd.func24, Tryd.ntmps24
    go_wp2_with fail
    refine HO0.out.mono ?_
    rintro e w1 ⟨rfl, ew⟩
    subst w1
    go_wp2
    go_ret2
    exact ⟨rfl, 0, rfl⟩
  have HO0 := hidIt (allOff_no b off w h.day k hk hko)
  have HW := hidIt (fun q m => rWorks_any b off xs v m (w.drewN q) (h.drewN q))
  have HH := hidIt hh
  have n0 : 0 < n := by have := cn_nn (gU off xs d) (3652059 - d).toNat; omega
  clear hh h hk hko
  go_enter Tryd.func24, Tryd.ntmps24
  go_wp2_with fail
  refine HO0.out.mono ?_
  rintro e w1 ⟨rfl, ew⟩
  subst w1
  go_wp2_with fail
  go_loopw [1, 3] (fun a c wr => ∃ i q : Nat, i ≤ (3652059 - d).toNat ∧ a = .int .i64 (d + i) ∧ c = .int .i64 (n - cn (gU off xs d) i) ∧ wr = w.drewN q) (fun a _ _ => (3652060 - RowKit.intOf a).toNat)
  case atStart => exact ⟨0, 0, by omega, by congr 1; omega, by simp [cn], rfl⟩
  case round =>
    obtain ⟨i, q, hi, rfl, rfl, rfl⟩ := hrel
    have hnn := cn_nn (gU off xs d) i
    have hm := cn_mono (gU off xs d) i _ hi
    have hm2 := HH.out
    have hpos : 0 < n - cn (gU off xs d) i := by omega
    clear hm hm2
    have HD := hidIt (fun w => rIsDay_any (d + i + 1) w)
    by_cases hlt : i < (3652059 - d).toNat
    · have hst := cn_step (gU off xs d) i
      have hday : isDayB (d + i + 1) = true := isDayB_iff.2 (by omega)
      rw [hday] at HD
      have HWi := hidIt (HW.out q (d + i + 1))
      have HG : Hid (gU off xs d i = works off xs (d + i + 1)) := by show _ = _; rw [gU]; congr 1; omega
      have HS : Hid (cn (gU off xs d) (i + 1) = cn (gU off xs d) i + (bif works off xs (d + i + 1) then 1 else 0)) := by show _ = _; rw [cn, HG.out]
      clear hday hst
      generalize works off xs (d + i + 1) = o at *
      generalize cn (gU off xs d) i = c at *
      cases o
      · go_wp2_with fail
        refine (HD.out _).mono ?_
        rintro e w1 ⟨rfl, ew⟩
        subst w1
        go_wp2_with fail
        refine HWi.out.mono ?_
        rintro e w1 ⟨rfl, q2, ew⟩
        subst w1
        go_wp2
        refine ⟨⟨i + 1, q + q2, by omega, by first | go_num | (congr 1; omega), by rw [HS.out]; first | go_num | (congr 1; simp), by first | rfl | rw [World.drewN_drewN]⟩, by simp [RowKit.intOf]; omega⟩
      · go_wp2_with fail
        refine (HD.out _).mono ?_
        rintro e w1 ⟨rfl, ew⟩
        subst w1
        go_wp2_with fail
        refine HWi.out.mono ?_
        rintro e w1 ⟨rfl, q2, ew⟩
        subst w1
        go_wp2
        refine ⟨⟨i + 1, q + q2, by omega, by first | go_num | (congr 1; omega), by rw [HS.out]; simp only [cond_true]; first | go_num | (congr 1; omega), by first | rfl | rw [World.drewN_drewN]⟩, by simp [RowKit.intOf]; omega⟩
    · have hday : isDayB (d + i + 1) = false := isDayB_f.2 (by omega)
      rw [hday] at HD
      clear hday
      generalize cn (gU off xs d) i = c at *
      go_wp2_with fail
      refine (HD.out _).mono ?_
      rintro e w1 ⟨rfl, ew⟩
      subst w1
      go_wp2
      go_ret2
      exact ⟨rfl, q, rfl⟩

/-- The days ahead of a day. -/
def gD (off : Int → Bool) (xs : List Int) (d : Int) (i : Nat) : Bool := works off xs (d - (i + 1))

set_option maxHeartbeats 2000000 in
theorem walkD_hit (b : Nat) (off : Int → Bool) (xs : List Int) (v : Value) (d n : Int) (s : Nat) (w : World) (h : Cal w b off xs v) (d1 : 1 ≤ d) (d2 : d ≤ 3652059) (n2 : n ≤ 1000000) (hh : Hit (gD off xs d) (d - 1).toNat n s) :
    Calls Tryd.prog 24 #[.pointer (some ⟨b, 0, none⟩), .int .i64 d, .int .i64 (-1), .int .i64 n] w fun e w' => e = .returned (.tuple #[.int .i64 (d - (s + 1)), .int .i64 0]) ∧ ∃ q, w' = w.drewN q := by
  have hno : ∃ k : Nat, k < 7 ∧ off k = false := by
    rcases off_or off with ha | ha
    · exfalso
      have h1 := hh.eq.2
      rw [gD, works_off ha] at h1
      cases h1
    · exact ha
  obtain ⟨k, hk, hko⟩ := hno
  have HO := hidIt (fun q => allOff_no b off (w.drewN q) (h.drewN q).day k hk hko)
  have HO0 := hidIt (allOff_no b off w h.day k hk hko)
  have HW := hidIt (fun q m => rWorks_any b off xs v m (w.drewN q) (h.drewN q))
  have hs := hh.1
  have HH := hidIt hh
  have HE := hidIt hh.eq.1
  have n0 : 0 < n := by have := hh.2.1; have := cn_nn (gD off xs d) s; omega
  clear hh h hk hko
  go_enter Tryd.func24, Tryd.ntmps24
  go_wp2_with fail
  refine HO0.out.mono ?_
  rintro e w1 ⟨rfl, ew⟩
  subst w1
  go_wp2_with fail
  go_loopw [1, 3] (fun a c wr => ∃ i q : Nat, i ≤ s + 1 ∧ a = .int .i64 (d - i) ∧ c = .int .i64 (n - cn (gD off xs d) i) ∧ wr = w.drewN q) (fun a _ _ => (1 + RowKit.intOf a).toNat)
  case atStart => exact ⟨0, 0, by omega, by congr 1; omega, by simp [cn], rfl⟩
  case round =>
    obtain ⟨i, q, hi, rfl, rfl, rfl⟩ := hrel
    have hnn := cn_nn (gD off xs d) i
    by_cases hlt : i ≤ s
    · have hm := cn_mono (gD off xs d) i s hlt
      have hm2 := HH.out.2.1
      have hst := cn_step (gD off xs d) i
      have hday : isDayB (d - i - 1) = true := isDayB_iff.2 (by omega)
      have HD := hidIt (fun w => rIsDay_any (d - i - 1) w)
      rw [hday] at HD
      have HWi := hidIt (HW.out q (d - i - 1))
      have HG : Hid (gD off xs d i = works off xs (d - i - 1)) := by show _ = _; rw [gD]; congr 1; omega
      have HS : Hid (cn (gD off xs d) (i + 1) = cn (gD off xs d) i + (bif works off xs (d - i - 1) then 1 else 0)) := by show _ = _; rw [cn, HG.out]
      have hpos : 0 < n - cn (gD off xs d) i := by omega
      clear hday hm hm2 hst
      generalize works off xs (d - i - 1) = o at *
      generalize cn (gD off xs d) i = c at *
      cases o
      · go_wp2_with fail
        refine (HD.out _).mono ?_
        rintro e w1 ⟨rfl, ew⟩
        subst w1
        go_wp2_with fail
        refine HWi.out.mono ?_
        rintro e w1 ⟨rfl, q2, ew⟩
        subst w1
        go_wp2
        refine ⟨⟨i + 1, q + q2, by omega, by first | go_num | (congr 1; omega), by rw [HS.out]; first | go_num | (congr 1; simp), by first | rfl | rw [World.drewN_drewN]⟩, by simp [RowKit.intOf]; omega⟩
      · go_wp2_with fail
        refine (HD.out _).mono ?_
        rintro e w1 ⟨rfl, ew⟩
        subst w1
        go_wp2_with fail
        refine HWi.out.mono ?_
        rintro e w1 ⟨rfl, q2, ew⟩
        subst w1
        go_wp2
        refine ⟨⟨i + 1, q + q2, by omega, by first | go_num | (congr 1; omega), by rw [HS.out]; simp only [cond_true]; first | go_num | (congr 1; omega), by first | rfl | rw [World.drewN_drewN]⟩, by simp [RowKit.intOf]; omega⟩
    · obtain rfl : i = s + 1 := by omega
      have hz : n - cn (gD off xs d) (s + 1) = 0 := by rw [HE.out]; omega
      rw [hz]
      clear hlt hnn hz
      have HX : Hid (d - ((s + 1 : Nat) : Int) = d - (s + 1)) := by show _ = _; omega
      rw [HX.out]
      go_wp2
      go_ret2
      exact ⟨rfl, q, rfl⟩

set_option maxHeartbeats 2000000 in
theorem walkD_miss (b : Nat) (off : Int → Bool) (xs : List Int) (v : Value) (d n : Int) (w : World) (h : Cal w b off xs v) (d1 : 1 ≤ d) (d2 : d ≤ 3652059) (n2 : n ≤ 1000000) (hh : cn (gD off xs d) (d - 1).toNat < n) :
    Calls Tryd.prog 24 #[.pointer (some ⟨b, 0, none⟩), .int .i64 d, .int .i64 (-1), .int .i64 n] w fun e w' => e = .returned (.tuple #[.int .i64 0, .int .i64 4]) ∧ ∃ q, w' = w.drewN q := by
  rcases off_or off with ha | ⟨k, hk, hko⟩
  · have HO0 := hidIt (allOff_yes b off w h.day ha)
    clear h hh ha
    go_enter Tryd.func24, Tryd.ntmps24
    go_wp2_with fail
    refine HO0.out.mono ?_
    rintro e w1 ⟨rfl, ew⟩
    subst w1
    go_wp2
    go_ret2
    exact ⟨rfl, 0, rfl⟩
  have HO0 := hidIt (allOff_no b off w h.day k hk hko)
  have HW := hidIt (fun q m => rWorks_any b off xs v m (w.drewN q) (h.drewN q))
  have HH := hidIt hh
  have n0 : 0 < n := by have := cn_nn (gD off xs d) (d - 1).toNat; omega
  clear hh h hk hko
  go_enter Tryd.func24, Tryd.ntmps24
  go_wp2_with fail
  refine HO0.out.mono ?_
  rintro e w1 ⟨rfl, ew⟩
  subst w1
  go_wp2_with fail
  go_loopw [1, 3] (fun a c wr => ∃ i q : Nat, i ≤ (d - 1).toNat ∧ a = .int .i64 (d - i) ∧ c = .int .i64 (n - cn (gD off xs d) i) ∧ wr = w.drewN q) (fun a _ _ => (1 + RowKit.intOf a).toNat)
  case atStart => exact ⟨0, 0, by omega, by congr 1; omega, by simp [cn], rfl⟩
  case round =>
    obtain ⟨i, q, hi, rfl, rfl, rfl⟩ := hrel
    have hnn := cn_nn (gD off xs d) i
    have hm := cn_mono (gD off xs d) i _ hi
    have hm2 := HH.out
    have hpos : 0 < n - cn (gD off xs d) i := by omega
    clear hm hm2
    have HD := hidIt (fun w => rIsDay_any (d - i - 1) w)
    by_cases hlt : i < (d - 1).toNat
    · have hst := cn_step (gD off xs d) i
      have hday : isDayB (d - i - 1) = true := isDayB_iff.2 (by omega)
      rw [hday] at HD
      have HWi := hidIt (HW.out q (d - i - 1))
      have HG : Hid (gD off xs d i = works off xs (d - i - 1)) := by show _ = _; rw [gD]; congr 1; omega
      have HS : Hid (cn (gD off xs d) (i + 1) = cn (gD off xs d) i + (bif works off xs (d - i - 1) then 1 else 0)) := by show _ = _; rw [cn, HG.out]
      clear hday hst
      generalize works off xs (d - i - 1) = o at *
      generalize cn (gD off xs d) i = c at *
      cases o
      · go_wp2_with fail
        refine (HD.out _).mono ?_
        rintro e w1 ⟨rfl, ew⟩
        subst w1
        go_wp2_with fail
        refine HWi.out.mono ?_
        rintro e w1 ⟨rfl, q2, ew⟩
        subst w1
        go_wp2
        refine ⟨⟨i + 1, q + q2, by omega, by first | go_num | (congr 1; omega), by rw [HS.out]; first | go_num | (congr 1; simp), by first | rfl | rw [World.drewN_drewN]⟩, by simp [RowKit.intOf]; omega⟩
      · go_wp2_with fail
        refine (HD.out _).mono ?_
        rintro e w1 ⟨rfl, ew⟩
        subst w1
        go_wp2_with fail
        refine HWi.out.mono ?_
        rintro e w1 ⟨rfl, q2, ew⟩
        subst w1
        go_wp2
        refine ⟨⟨i + 1, q + q2, by omega, by first | go_num | (congr 1; omega), by rw [HS.out]; simp only [cond_true]; first | go_num | (congr 1; omega), by first | rfl | rw [World.drewN_drewN]⟩, by simp [RowKit.intOf]; omega⟩
    · have hday : isDayB (d - i - 1) = false := isDayB_f.2 (by omega)
      rw [hday] at HD
      clear hday
      generalize cn (gD off xs d) i = c at *
      go_wp2_with fail
      refine (HD.out _).mono ?_
      rintro e w1 ⟨rfl, ew⟩
      subst w1
      go_wp2
      go_ret2
      exact ⟨rfl, q, rfl⟩
end Go.Proofs.YtlebpojohaplnaaDoor

/-
  The reference's ReadCoin by contracts: one digit behind the point, or none.
-/
import Derived.Test.YtagkplcomhomcaaDoorRef0
namespace Go.Proofs.YtagkplcomhomcaaDoor
open Go.RowKit Go.Extern.Stop Go.Stop Go.Extern

set_option maxHeartbeats 8000000 in
set_option maxRecDepth 100000 in
theorem ref_o4 (s b : ByteArray) (neg : Bool) (ahead : Nat) (O : Off s b neg ahead) (w : World)
    (hdig : ∃ h : ahead < s.size, isDg s[ahead] = true) (hbad : (sc b ahead (ahead + runLen isW (bl b))).bad = false) (hx : At s (ahead + runLen isW (bl b)) isDot true) (hy : At s (ahead + runLen isW (bl b) + 1) isDg false) :
    Calls Tryd.prog 13 #[.string s] w fun e w' => e = .returned (.tuple #[.int .i64 0, .agg #[.int .i64 1, .int .i64 ((ahead + runLen isW (bl b) + 1 : Nat) : Int)]]) ∧ Below w.heap.size w w' := by
  have HSZ := hidIt O.size
  have hsm := O.small
  have hel : ahead + runLen isW (bl b) ≤ s.size := by
    have h1 : runLen isW (bl b) ≤ (bl b).length := runLen_le _ _
    rw [size_bl] at h1
    have := O.size
    omega
  have hep : 1 ≤ runLen isW (bl b) := by
    obtain ⟨h1, h2⟩ := hdig
    have h3 := off_byte O ahead (Nat.le_refl _) h1
    rw [Nat.sub_self] at h3
    unfold runLen
    cases h4 : bl b with
    | nil => rw [h4] at h3; cases h3
    | cons c r =>
      rw [h4] at h3
      have : c = s[ahead] := by simpa using h3
      rw [List.takeWhile_cons_of_pos (by rw [this]; simp [isW, h2])]
      simp
  have HO := hidIt O
  have HWat := hidIt (fun p h1 h2 => w_at O p h1 h2)
  have HS0 := hidIt (sc_start b ahead)
  have HDG := hidIt hdig
  have hs0 : 0 < s.size := by obtain ⟨h1, _⟩ := hdig; omega
  have HEND := hidIt (fun h => end_at O h)
  have HBAD : Hid ((decide (0 ≤ (sc b ahead (ahead + runLen isW (bl b))).comma) && ((sc b ahead (ahead + runLen isW (bl b))).wrong || (sc b ahead (ahead + runLen isW (bl b))).group != 3)) = false) := hbad
  clear hbad
  have HX := hidIt hx
  have HY := hidIt hy
  clear hx hy
  clear hdig
  generalize runLen isW (bl b) = e at *
  cases neg
  · obtain rfl : ahead = 0 := O.lead
    have n45 : (((s[0].toNat : Nat) : Int) == 45) = false := by
      have h1 := O.nosign rfl hs0
      have h2 : s[0].toNat ≠ 45 := fun h => h1 (UInt8.toNat_inj.1 h)
      simp; omega
    clear O
    have hp0 : (0 : Int) < s.size := by omega
    go_enter Tryd.func13, Tryd.ntmps13
    go_wp2_with fail
    go_loop [4, 7, 8, 9, 10] (fun at_ c g r n => ∃ p : Nat, 0 ≤ p ∧ p ≤ 0 + e ∧ at_ = .int .i64 p ∧ c = .int .i64 (sc b 0 p).comma ∧ g = .int .i64 (sc b 0 p).group ∧ r = .bool (sc b 0 p).wrong ∧ n = .int .i64 (sc b 0 p).n) (fun at_ _ _ _ _ => s.size - (intOf at_).toNat)
    case atStart => exact ⟨0, Nat.le_refl _, by omega, rfl, by rw [HS0.out]; rfl, by rw [HS0.out]; rfl, by rw [HS0.out]; rfl, by rw [HS0.out]; rfl⟩
    case round =>
      obtain ⟨p, hp1, hp2, rfl, rfl, rfl, rfl, rfl⟩ := hrel
      have hbd := sc_bd b 0 p hp1
      by_cases hpe : p < 0 + e
      · obtain ⟨hps, hW⟩ := HWat.out p hp1 hpe
        have hst : sc b 0 (p + 1) = sstep ⟨(sc b 0 p).comma, (sc b 0 p).group, (sc b 0 p).wrong, (sc b 0 p).n⟩ p s[p] := sc_step HO.out p hp1 hps
        generalize (sc b 0 p).comma = c0 at *
        generalize (sc b 0 p).group = g0 at *
        generalize (sc b 0 p).wrong = r0 at *
        generalize (sc b 0 p).n = n0 at *
        obtain ⟨k1, k2, k3, k4, k5, k6⟩ := hbd
        by_cases hd : isDg s[p] = true
        · have hn := dg_ne hd
          have e44 : (((s[p].toNat : Nat) : Int) != 44) = true := by
            have : s[p].toNat ≠ 44 := fun h => hn (UInt8.toNat_inj.1 h)
            simp; omega
          obtain ⟨j1, j2⟩ := dg_bd hd
          have HST : Hid (sc b 0 (p + 1) = ⟨c0, g0 + 1, r0, rstep n0 s[p]⟩) := hst.trans (sstep_dig hd _ _ _ _ _)
          clear hst hn hW
          by_cases hq : p = 0
          · have hq2 : ((p : Int) == 0) = true := by simp; omega
            clear hq
            by_cases h50 : n0 < 1125899906842624
            all_goals
              go_wp2_with (go_at_call 31; refine (refDig_any _ _).mono ?_; rintro ee w' ⟨rfl, rfl⟩)
              go_round
              case rel => exact ⟨p + 1, by omega, by omega, by go_num, by rw [HST.out], by rw [HST.out], by rw [HST.out], by rw [HST.out]; first | rw [rstep_lo h50] | rw [rstep_hi (by omega)]⟩
              case measure => simp [intOf]; omega
          · have hq2 : ((p : Int) == 0) = false := by simp; omega
            clear hq
            by_cases h50 : n0 < 1125899906842624
            all_goals
              go_wp2_with (go_at_call 31; refine (refDig_any _ _).mono ?_; rintro ee w' ⟨rfl, rfl⟩)
              go_round
              case rel => exact ⟨p + 1, by omega, by omega, by go_num, by rw [HST.out], by rw [HST.out], by rw [HST.out], by rw [HST.out]; first | rw [rstep_lo h50] | rw [rstep_hi (by omega)]⟩
              case measure => simp [intOf]; omega
        · have h44 := w_not hW hd
          have e44 : (((s[p].toNat : Nat) : Int) != 44) = false := by simp [h44]
          have hdf : isDg s[p] = false := by simpa using hd
          have hq : p ≠ 0 := fun h => by
            subst h
            obtain ⟨h1, h2⟩ := HDG.out
            exact hd h2
          have hq2 : ((p : Int) == 0) = false := by simp; omega
          by_cases hc : c0 < 0
          · have HST : Hid (sc b 0 (p + 1) = ⟨p, 0, decide (3 < g0), n0⟩) := hst.trans (sstep_first hdf hc _ _ _ _)
            clear hst h44 hd hW hq
            go_wp2_with (go_at_call 31; refine (refDig_any _ _).mono ?_; rintro ee w' ⟨rfl, rfl⟩)
            go_round
            case rel => exact ⟨p + 1, by omega, by omega, by go_num, by rw [HST.out], by rw [HST.out], by rw [HST.out], by rw [HST.out]⟩
            case measure => simp [intOf]; omega
          · have HST : Hid (sc b 0 (p + 1) = ⟨c0, 0, r0 || g0 != 3, n0⟩) := hst.trans (sstep_later hdf hc _ _ _ _)
            clear hst h44 hd hW hq
            cases h3 : (g0 != 3)
            all_goals
              go_wp2_with (go_at_call 31; refine (refDig_any _ _).mono ?_; rintro ee w' ⟨rfl, rfl⟩)
              go_round
              case rel => exact ⟨p + 1, by omega, by omega, by go_num, by rw [HST.out], by rw [HST.out], by rw [HST.out]; simp [h3], by rw [HST.out]⟩
              case measure => simp [intOf]; omega
      · have hEq : 0 + e = p := by omega
        rw [hEq] at HEND
        rw [hEq] at HBAD
        rw [hEq] at HX HY
        generalize hc0 : (sc b 0 p).comma = c0 at *
        generalize hg0 : (sc b 0 p).group = g0 at *
        generalize hr0 : (sc b 0 p).wrong = r0 at *
        generalize hn0 : (sc b 0 p).n = n0 at *
        have HC0 : Hid ((sc b 0 (0 + e)).comma = c0) := by rw [hEq]; exact hc0
        have HN0 : Hid ((sc b 0 (0 + e)).n = n0) := by rw [hEq]; exact hn0
        have HPE := hidIt hEq
        have hpl : 0 + 1 ≤ p := by omega
        have hpu : p ≤ s.size := by omega
        clear hc0 hg0 hr0 hn0 hp1 hp2 hpe hEq
        obtain ⟨k1, k2, k3, k4, k5, k6⟩ := hbd
        have hnb : decide (0 ≤ c0) = false ∨ (decide (0 ≤ c0) = true ∧ r0 = false ∧ (g0 != 3) = false) := by
          have h := HBAD.out
          cases hd0 : decide (0 ≤ c0)
          · exact .inl rfl
          · rw [hd0, Bool.true_and] at h
            rw [Bool.or_eq_false_iff] at h
            exact .inr ⟨rfl, h⟩
        have hq2 : ((p : Int) == 0) = false := by simp; omega
        obtain ⟨hP, hx⟩ := HX.out
        have x46 := dot_yes hx
        obtain ⟨z1, z2⟩ := w_none (dot_w hx)
        clear hx
        obtain ⟨hP1, y1⟩ := HY.out
        rcases hnb with d0 | ⟨d0, rfl, h3⟩
        all_goals
          go_wp2_with (first | (go_at_call 31; refine (refDig_any _ _).mono ?_; rintro ee w' ⟨rfl, rfl⟩) | (go_at_call 17; refine (small_any _ _).mono ?_; rintro ee w' ⟨rfl, rfl⟩))
          refine wp_loop_rounds 1 ?_
          rw [rounds_succ]
          go_wp2_with (first | (go_at_call 31; refine (refDig_any _ _).mono ?_; rintro ee w' ⟨rfl, rfl⟩) | (go_at_call 17; refine (small_any _ _).mono ?_; rintro ee w' ⟨rfl, rfl⟩))
          exact bodyPost_ret (v := .tuple #[.int .i64 0, .agg #[.int .i64 1, .int .i64 ((p + 1 : Nat) : Int)]]) (by simp [results, Tryd.results13, go_sem]) rfl ⟨ret3 rfl (by have h := HPE.out; omega), (Below.refl _ _).alloc (Nat.le_refl _) _⟩

  · obtain rfl : ahead = 1 := O.lead
    have n45 : (((s[0].toNat : Nat) : Int) == 45) = true := by
      obtain ⟨_, h1⟩ := O.sign rfl
      simp [h1]
    clear O
    have hp0 : (0 : Int) < s.size := by omega
    go_enter Tryd.func13, Tryd.ntmps13
    go_wp2_with fail
    go_loop [4, 7, 8, 9, 10] (fun at_ c g r n => ∃ p : Nat, 1 ≤ p ∧ p ≤ 1 + e ∧ at_ = .int .i64 p ∧ c = .int .i64 (sc b 1 p).comma ∧ g = .int .i64 (sc b 1 p).group ∧ r = .bool (sc b 1 p).wrong ∧ n = .int .i64 (sc b 1 p).n) (fun at_ _ _ _ _ => s.size - (intOf at_).toNat)
    case atStart => exact ⟨1, Nat.le_refl _, by omega, rfl, by rw [HS0.out]; rfl, by rw [HS0.out]; rfl, by rw [HS0.out]; rfl, by rw [HS0.out]; rfl⟩
    case round =>
      obtain ⟨p, hp1, hp2, rfl, rfl, rfl, rfl, rfl⟩ := hrel
      have hbd := sc_bd b 1 p hp1
      by_cases hpe : p < 1 + e
      · obtain ⟨hps, hW⟩ := HWat.out p hp1 hpe
        have hst : sc b 1 (p + 1) = sstep ⟨(sc b 1 p).comma, (sc b 1 p).group, (sc b 1 p).wrong, (sc b 1 p).n⟩ p s[p] := sc_step HO.out p hp1 hps
        generalize (sc b 1 p).comma = c0 at *
        generalize (sc b 1 p).group = g0 at *
        generalize (sc b 1 p).wrong = r0 at *
        generalize (sc b 1 p).n = n0 at *
        obtain ⟨k1, k2, k3, k4, k5, k6⟩ := hbd
        by_cases hd : isDg s[p] = true
        · have hn := dg_ne hd
          have e44 : (((s[p].toNat : Nat) : Int) != 44) = true := by
            have : s[p].toNat ≠ 44 := fun h => hn (UInt8.toNat_inj.1 h)
            simp; omega
          obtain ⟨j1, j2⟩ := dg_bd hd
          have HST : Hid (sc b 1 (p + 1) = ⟨c0, g0 + 1, r0, rstep n0 s[p]⟩) := hst.trans (sstep_dig hd _ _ _ _ _)
          clear hst hn hW
          by_cases hq : p = 1
          · have hq2 : ((p : Int) == 1) = true := by simp; omega
            clear hq
            by_cases h50 : n0 < 1125899906842624
            all_goals
              go_wp2_with (go_at_call 31; refine (refDig_any _ _).mono ?_; rintro ee w' ⟨rfl, rfl⟩)
              go_round
              case rel => exact ⟨p + 1, by omega, by omega, by go_num, by rw [HST.out], by rw [HST.out], by rw [HST.out], by rw [HST.out]; first | rw [rstep_lo h50] | rw [rstep_hi (by omega)]⟩
              case measure => simp [intOf]; omega
          · have hq2 : ((p : Int) == 1) = false := by simp; omega
            clear hq
            by_cases h50 : n0 < 1125899906842624
            all_goals
              go_wp2_with (go_at_call 31; refine (refDig_any _ _).mono ?_; rintro ee w' ⟨rfl, rfl⟩)
              go_round
              case rel => exact ⟨p + 1, by omega, by omega, by go_num, by rw [HST.out], by rw [HST.out], by rw [HST.out], by rw [HST.out]; first | rw [rstep_lo h50] | rw [rstep_hi (by omega)]⟩
              case measure => simp [intOf]; omega
        · have h44 := w_not hW hd
          have e44 : (((s[p].toNat : Nat) : Int) != 44) = false := by simp [h44]
          have hdf : isDg s[p] = false := by simpa using hd
          have hq : p ≠ 1 := fun h => by
            subst h
            obtain ⟨h1, h2⟩ := HDG.out
            exact hd h2
          have hq2 : ((p : Int) == 1) = false := by simp; omega
          by_cases hc : c0 < 0
          · have HST : Hid (sc b 1 (p + 1) = ⟨p, 0, decide (3 < g0), n0⟩) := hst.trans (sstep_first hdf hc _ _ _ _)
            clear hst h44 hd hW hq
            go_wp2_with (go_at_call 31; refine (refDig_any _ _).mono ?_; rintro ee w' ⟨rfl, rfl⟩)
            go_round
            case rel => exact ⟨p + 1, by omega, by omega, by go_num, by rw [HST.out], by rw [HST.out], by rw [HST.out], by rw [HST.out]⟩
            case measure => simp [intOf]; omega
          · have HST : Hid (sc b 1 (p + 1) = ⟨c0, 0, r0 || g0 != 3, n0⟩) := hst.trans (sstep_later hdf hc _ _ _ _)
            clear hst h44 hd hW hq
            cases h3 : (g0 != 3)
            all_goals
              go_wp2_with (go_at_call 31; refine (refDig_any _ _).mono ?_; rintro ee w' ⟨rfl, rfl⟩)
              go_round
              case rel => exact ⟨p + 1, by omega, by omega, by go_num, by rw [HST.out], by rw [HST.out], by rw [HST.out]; simp [h3], by rw [HST.out]⟩
              case measure => simp [intOf]; omega
      · have hEq : 1 + e = p := by omega
        rw [hEq] at HEND
        rw [hEq] at HBAD
        rw [hEq] at HX HY
        generalize hc0 : (sc b 1 p).comma = c0 at *
        generalize hg0 : (sc b 1 p).group = g0 at *
        generalize hr0 : (sc b 1 p).wrong = r0 at *
        generalize hn0 : (sc b 1 p).n = n0 at *
        have HC0 : Hid ((sc b 1 (1 + e)).comma = c0) := by rw [hEq]; exact hc0
        have HN0 : Hid ((sc b 1 (1 + e)).n = n0) := by rw [hEq]; exact hn0
        have HPE := hidIt hEq
        have hpl : 1 + 1 ≤ p := by omega
        have hpu : p ≤ s.size := by omega
        clear hc0 hg0 hr0 hn0 hp1 hp2 hpe hEq
        obtain ⟨k1, k2, k3, k4, k5, k6⟩ := hbd
        have hnb : decide (0 ≤ c0) = false ∨ (decide (0 ≤ c0) = true ∧ r0 = false ∧ (g0 != 3) = false) := by
          have h := HBAD.out
          cases hd0 : decide (0 ≤ c0)
          · exact .inl rfl
          · rw [hd0, Bool.true_and] at h
            rw [Bool.or_eq_false_iff] at h
            exact .inr ⟨rfl, h⟩
        have hq2 : ((p : Int) == 1) = false := by simp; omega
        obtain ⟨hP, hx⟩ := HX.out
        have x46 := dot_yes hx
        obtain ⟨z1, z2⟩ := w_none (dot_w hx)
        clear hx
        obtain ⟨hP1, y1⟩ := HY.out
        rcases hnb with d0 | ⟨d0, rfl, h3⟩
        all_goals
          go_wp2_with (first | (go_at_call 31; refine (refDig_any _ _).mono ?_; rintro ee w' ⟨rfl, rfl⟩) | (go_at_call 17; refine (small_any _ _).mono ?_; rintro ee w' ⟨rfl, rfl⟩))
          refine wp_loop_rounds 1 ?_
          rw [rounds_succ]
          go_wp2_with (first | (go_at_call 31; refine (refDig_any _ _).mono ?_; rintro ee w' ⟨rfl, rfl⟩) | (go_at_call 17; refine (small_any _ _).mono ?_; rintro ee w' ⟨rfl, rfl⟩))
          exact bodyPost_ret (v := .tuple #[.int .i64 0, .agg #[.int .i64 1, .int .i64 ((p + 1 : Nat) : Int)]]) (by simp [results, Tryd.results13, go_sem]) rfl ⟨ret3 rfl (by have h := HPE.out; omega), (Below.refl _ _).alloc (Nat.le_refl _) _⟩


set_option maxHeartbeats 8000000 in
set_option maxRecDepth 100000 in
theorem ref_o5 (s b : ByteArray) (neg : Bool) (ahead : Nat) (O : Off s b neg ahead) (w : World)
    (hdig : ∃ h : ahead < s.size, isDg s[ahead] = true) (hbad : (sc b ahead (ahead + runLen isW (bl b))).bad = false) (hx : At s (ahead + runLen isW (bl b)) isDot true) (hy : At s (ahead + runLen isW (bl b) + 1) isDg true) (hz : s.size ≤ ahead + runLen isW (bl b) + 2) :
    Calls Tryd.prog 13 #[.string s] w fun e w' => e = .returned (.tuple #[.int .i64 0, .agg #[.int .i64 1, .int .i64 s.size]]) ∧ Below w.heap.size w w' := by
  have HSZ := hidIt O.size
  have hsm := O.small
  have hel : ahead + runLen isW (bl b) ≤ s.size := by
    have h1 : runLen isW (bl b) ≤ (bl b).length := runLen_le _ _
    rw [size_bl] at h1
    have := O.size
    omega
  have hep : 1 ≤ runLen isW (bl b) := by
    obtain ⟨h1, h2⟩ := hdig
    have h3 := off_byte O ahead (Nat.le_refl _) h1
    rw [Nat.sub_self] at h3
    unfold runLen
    cases h4 : bl b with
    | nil => rw [h4] at h3; cases h3
    | cons c r =>
      rw [h4] at h3
      have : c = s[ahead] := by simpa using h3
      rw [List.takeWhile_cons_of_pos (by rw [this]; simp [isW, h2])]
      simp
  have HO := hidIt O
  have HWat := hidIt (fun p h1 h2 => w_at O p h1 h2)
  have HS0 := hidIt (sc_start b ahead)
  have HDG := hidIt hdig
  have hs0 : 0 < s.size := by obtain ⟨h1, _⟩ := hdig; omega
  have HEND := hidIt (fun h => end_at O h)
  have HBAD : Hid ((decide (0 ≤ (sc b ahead (ahead + runLen isW (bl b))).comma) && ((sc b ahead (ahead + runLen isW (bl b))).wrong || (sc b ahead (ahead + runLen isW (bl b))).group != 3)) = false) := hbad
  clear hbad
  have HX := hidIt hx
  have HY := hidIt hy
  have HZ := hidIt hz
  clear hx hy hz
  clear hdig
  generalize runLen isW (bl b) = e at *
  cases neg
  · obtain rfl : ahead = 0 := O.lead
    have n45 : (((s[0].toNat : Nat) : Int) == 45) = false := by
      have h1 := O.nosign rfl hs0
      have h2 : s[0].toNat ≠ 45 := fun h => h1 (UInt8.toNat_inj.1 h)
      simp; omega
    clear O
    have hp0 : (0 : Int) < s.size := by omega
    go_enter Tryd.func13, Tryd.ntmps13
    go_wp2_with fail
    go_loop [4, 7, 8, 9, 10] (fun at_ c g r n => ∃ p : Nat, 0 ≤ p ∧ p ≤ 0 + e ∧ at_ = .int .i64 p ∧ c = .int .i64 (sc b 0 p).comma ∧ g = .int .i64 (sc b 0 p).group ∧ r = .bool (sc b 0 p).wrong ∧ n = .int .i64 (sc b 0 p).n) (fun at_ _ _ _ _ => s.size - (intOf at_).toNat)
    case atStart => exact ⟨0, Nat.le_refl _, by omega, rfl, by rw [HS0.out]; rfl, by rw [HS0.out]; rfl, by rw [HS0.out]; rfl, by rw [HS0.out]; rfl⟩
    case round =>
      obtain ⟨p, hp1, hp2, rfl, rfl, rfl, rfl, rfl⟩ := hrel
      have hbd := sc_bd b 0 p hp1
      by_cases hpe : p < 0 + e
      · obtain ⟨hps, hW⟩ := HWat.out p hp1 hpe
        have hst : sc b 0 (p + 1) = sstep ⟨(sc b 0 p).comma, (sc b 0 p).group, (sc b 0 p).wrong, (sc b 0 p).n⟩ p s[p] := sc_step HO.out p hp1 hps
        generalize (sc b 0 p).comma = c0 at *
        generalize (sc b 0 p).group = g0 at *
        generalize (sc b 0 p).wrong = r0 at *
        generalize (sc b 0 p).n = n0 at *
        obtain ⟨k1, k2, k3, k4, k5, k6⟩ := hbd
        by_cases hd : isDg s[p] = true
        · have hn := dg_ne hd
          have e44 : (((s[p].toNat : Nat) : Int) != 44) = true := by
            have : s[p].toNat ≠ 44 := fun h => hn (UInt8.toNat_inj.1 h)
            simp; omega
          obtain ⟨j1, j2⟩ := dg_bd hd
          have HST : Hid (sc b 0 (p + 1) = ⟨c0, g0 + 1, r0, rstep n0 s[p]⟩) := hst.trans (sstep_dig hd _ _ _ _ _)
          clear hst hn hW
          by_cases hq : p = 0
          · have hq2 : ((p : Int) == 0) = true := by simp; omega
            clear hq
            by_cases h50 : n0 < 1125899906842624
            all_goals
              go_wp2_with (go_at_call 31; refine (refDig_any _ _).mono ?_; rintro ee w' ⟨rfl, rfl⟩)
              go_round
              case rel => exact ⟨p + 1, by omega, by omega, by go_num, by rw [HST.out], by rw [HST.out], by rw [HST.out], by rw [HST.out]; first | rw [rstep_lo h50] | rw [rstep_hi (by omega)]⟩
              case measure => simp [intOf]; omega
          · have hq2 : ((p : Int) == 0) = false := by simp; omega
            clear hq
            by_cases h50 : n0 < 1125899906842624
            all_goals
              go_wp2_with (go_at_call 31; refine (refDig_any _ _).mono ?_; rintro ee w' ⟨rfl, rfl⟩)
              go_round
              case rel => exact ⟨p + 1, by omega, by omega, by go_num, by rw [HST.out], by rw [HST.out], by rw [HST.out], by rw [HST.out]; first | rw [rstep_lo h50] | rw [rstep_hi (by omega)]⟩
              case measure => simp [intOf]; omega
        · have h44 := w_not hW hd
          have e44 : (((s[p].toNat : Nat) : Int) != 44) = false := by simp [h44]
          have hdf : isDg s[p] = false := by simpa using hd
          have hq : p ≠ 0 := fun h => by
            subst h
            obtain ⟨h1, h2⟩ := HDG.out
            exact hd h2
          have hq2 : ((p : Int) == 0) = false := by simp; omega
          by_cases hc : c0 < 0
          · have HST : Hid (sc b 0 (p + 1) = ⟨p, 0, decide (3 < g0), n0⟩) := hst.trans (sstep_first hdf hc _ _ _ _)
            clear hst h44 hd hW hq
            go_wp2_with (go_at_call 31; refine (refDig_any _ _).mono ?_; rintro ee w' ⟨rfl, rfl⟩)
            go_round
            case rel => exact ⟨p + 1, by omega, by omega, by go_num, by rw [HST.out], by rw [HST.out], by rw [HST.out], by rw [HST.out]⟩
            case measure => simp [intOf]; omega
          · have HST : Hid (sc b 0 (p + 1) = ⟨c0, 0, r0 || g0 != 3, n0⟩) := hst.trans (sstep_later hdf hc _ _ _ _)
            clear hst h44 hd hW hq
            cases h3 : (g0 != 3)
            all_goals
              go_wp2_with (go_at_call 31; refine (refDig_any _ _).mono ?_; rintro ee w' ⟨rfl, rfl⟩)
              go_round
              case rel => exact ⟨p + 1, by omega, by omega, by go_num, by rw [HST.out], by rw [HST.out], by rw [HST.out]; simp [h3], by rw [HST.out]⟩
              case measure => simp [intOf]; omega
      · have hEq : 0 + e = p := by omega
        rw [hEq] at HEND
        rw [hEq] at HBAD
        rw [hEq] at HX HY HZ
        generalize hc0 : (sc b 0 p).comma = c0 at *
        generalize hg0 : (sc b 0 p).group = g0 at *
        generalize hr0 : (sc b 0 p).wrong = r0 at *
        generalize hn0 : (sc b 0 p).n = n0 at *
        have HC0 : Hid ((sc b 0 (0 + e)).comma = c0) := by rw [hEq]; exact hc0
        have HN0 : Hid ((sc b 0 (0 + e)).n = n0) := by rw [hEq]; exact hn0
        have HPE := hidIt hEq
        have hpl : 0 + 1 ≤ p := by omega
        have hpu : p ≤ s.size := by omega
        clear hc0 hg0 hr0 hn0 hp1 hp2 hpe hEq
        obtain ⟨k1, k2, k3, k4, k5, k6⟩ := hbd
        have hnb : decide (0 ≤ c0) = false ∨ (decide (0 ≤ c0) = true ∧ r0 = false ∧ (g0 != 3) = false) := by
          have h := HBAD.out
          cases hd0 : decide (0 ≤ c0)
          · exact .inl rfl
          · rw [hd0, Bool.true_and] at h
            rw [Bool.or_eq_false_iff] at h
            exact .inr ⟨rfl, h⟩
        have hq2 : ((p : Int) == 0) = false := by simp; omega
        obtain ⟨hP, hx⟩ := HX.out
        have x46 := dot_yes hx
        obtain ⟨z1, z2⟩ := w_none (dot_w hx)
        clear hx
        obtain ⟨hP1, y1⟩ := HY.out
        obtain ⟨j1, j2⟩ := dg_bd y1
        have hz := HZ.out
        rcases hnb with d0 | ⟨d0, rfl, h3⟩
        all_goals
          go_wp2_with (first | (go_at_call 31; refine (refDig_any _ _).mono ?_; rintro ee w' ⟨rfl, rfl⟩) | (go_at_call 17; refine (small_any _ _).mono ?_; rintro ee w' ⟨rfl, rfl⟩))
          refine wp_loop_rounds 2 ?_
          rw [rounds_succ]
          go_wp2_with (first | (go_at_call 31; refine (refDig_any _ _).mono ?_; rintro ee w' ⟨rfl, rfl⟩) | (go_at_call 17; refine (small_any _ _).mono ?_; rintro ee w' ⟨rfl, rfl⟩))
          rw [rounds_succ]
          go_wp2_with (first | (go_at_call 31; refine (refDig_any _ _).mono ?_; rintro ee w' ⟨rfl, rfl⟩) | (go_at_call 17; refine (small_any _ _).mono ?_; rintro ee w' ⟨rfl, rfl⟩))
          exact bodyPost_ret (v := .tuple #[.int .i64 0, .agg #[.int .i64 1, .int .i64 s.size]]) (by simp [results, Tryd.results13, go_sem]) rfl ⟨ret3 rfl rfl, (Below.refl _ _).alloc (Nat.le_refl _) _⟩

  · obtain rfl : ahead = 1 := O.lead
    have n45 : (((s[0].toNat : Nat) : Int) == 45) = true := by
      obtain ⟨_, h1⟩ := O.sign rfl
      simp [h1]
    clear O
    have hp0 : (0 : Int) < s.size := by omega
    go_enter Tryd.func13, Tryd.ntmps13
    go_wp2_with fail
    go_loop [4, 7, 8, 9, 10] (fun at_ c g r n => ∃ p : Nat, 1 ≤ p ∧ p ≤ 1 + e ∧ at_ = .int .i64 p ∧ c = .int .i64 (sc b 1 p).comma ∧ g = .int .i64 (sc b 1 p).group ∧ r = .bool (sc b 1 p).wrong ∧ n = .int .i64 (sc b 1 p).n) (fun at_ _ _ _ _ => s.size - (intOf at_).toNat)
    case atStart => exact ⟨1, Nat.le_refl _, by omega, rfl, by rw [HS0.out]; rfl, by rw [HS0.out]; rfl, by rw [HS0.out]; rfl, by rw [HS0.out]; rfl⟩
    case round =>
      obtain ⟨p, hp1, hp2, rfl, rfl, rfl, rfl, rfl⟩ := hrel
      have hbd := sc_bd b 1 p hp1
      by_cases hpe : p < 1 + e
      · obtain ⟨hps, hW⟩ := HWat.out p hp1 hpe
        have hst : sc b 1 (p + 1) = sstep ⟨(sc b 1 p).comma, (sc b 1 p).group, (sc b 1 p).wrong, (sc b 1 p).n⟩ p s[p] := sc_step HO.out p hp1 hps
        generalize (sc b 1 p).comma = c0 at *
        generalize (sc b 1 p).group = g0 at *
        generalize (sc b 1 p).wrong = r0 at *
        generalize (sc b 1 p).n = n0 at *
        obtain ⟨k1, k2, k3, k4, k5, k6⟩ := hbd
        by_cases hd : isDg s[p] = true
        · have hn := dg_ne hd
          have e44 : (((s[p].toNat : Nat) : Int) != 44) = true := by
            have : s[p].toNat ≠ 44 := fun h => hn (UInt8.toNat_inj.1 h)
            simp; omega
          obtain ⟨j1, j2⟩ := dg_bd hd
          have HST : Hid (sc b 1 (p + 1) = ⟨c0, g0 + 1, r0, rstep n0 s[p]⟩) := hst.trans (sstep_dig hd _ _ _ _ _)
          clear hst hn hW
          by_cases hq : p = 1
          · have hq2 : ((p : Int) == 1) = true := by simp; omega
            clear hq
            by_cases h50 : n0 < 1125899906842624
            all_goals
              go_wp2_with (go_at_call 31; refine (refDig_any _ _).mono ?_; rintro ee w' ⟨rfl, rfl⟩)
              go_round
              case rel => exact ⟨p + 1, by omega, by omega, by go_num, by rw [HST.out], by rw [HST.out], by rw [HST.out], by rw [HST.out]; first | rw [rstep_lo h50] | rw [rstep_hi (by omega)]⟩
              case measure => simp [intOf]; omega
          · have hq2 : ((p : Int) == 1) = false := by simp; omega
            clear hq
            by_cases h50 : n0 < 1125899906842624
            all_goals
              go_wp2_with (go_at_call 31; refine (refDig_any _ _).mono ?_; rintro ee w' ⟨rfl, rfl⟩)
              go_round
              case rel => exact ⟨p + 1, by omega, by omega, by go_num, by rw [HST.out], by rw [HST.out], by rw [HST.out], by rw [HST.out]; first | rw [rstep_lo h50] | rw [rstep_hi (by omega)]⟩
              case measure => simp [intOf]; omega
        · have h44 := w_not hW hd
          have e44 : (((s[p].toNat : Nat) : Int) != 44) = false := by simp [h44]
          have hdf : isDg s[p] = false := by simpa using hd
          have hq : p ≠ 1 := fun h => by
            subst h
            obtain ⟨h1, h2⟩ := HDG.out
            exact hd h2
          have hq2 : ((p : Int) == 1) = false := by simp; omega
          by_cases hc : c0 < 0
          · have HST : Hid (sc b 1 (p + 1) = ⟨p, 0, decide (3 < g0), n0⟩) := hst.trans (sstep_first hdf hc _ _ _ _)
            clear hst h44 hd hW hq
            go_wp2_with (go_at_call 31; refine (refDig_any _ _).mono ?_; rintro ee w' ⟨rfl, rfl⟩)
            go_round
            case rel => exact ⟨p + 1, by omega, by omega, by go_num, by rw [HST.out], by rw [HST.out], by rw [HST.out], by rw [HST.out]⟩
            case measure => simp [intOf]; omega
          · have HST : Hid (sc b 1 (p + 1) = ⟨c0, 0, r0 || g0 != 3, n0⟩) := hst.trans (sstep_later hdf hc _ _ _ _)
            clear hst h44 hd hW hq
            cases h3 : (g0 != 3)
            all_goals
              go_wp2_with (go_at_call 31; refine (refDig_any _ _).mono ?_; rintro ee w' ⟨rfl, rfl⟩)
              go_round
              case rel => exact ⟨p + 1, by omega, by omega, by go_num, by rw [HST.out], by rw [HST.out], by rw [HST.out]; simp [h3], by rw [HST.out]⟩
              case measure => simp [intOf]; omega
      · have hEq : 1 + e = p := by omega
        rw [hEq] at HEND
        rw [hEq] at HBAD
        rw [hEq] at HX HY HZ
        generalize hc0 : (sc b 1 p).comma = c0 at *
        generalize hg0 : (sc b 1 p).group = g0 at *
        generalize hr0 : (sc b 1 p).wrong = r0 at *
        generalize hn0 : (sc b 1 p).n = n0 at *
        have HC0 : Hid ((sc b 1 (1 + e)).comma = c0) := by rw [hEq]; exact hc0
        have HN0 : Hid ((sc b 1 (1 + e)).n = n0) := by rw [hEq]; exact hn0
        have HPE := hidIt hEq
        have hpl : 1 + 1 ≤ p := by omega
        have hpu : p ≤ s.size := by omega
        clear hc0 hg0 hr0 hn0 hp1 hp2 hpe hEq
        obtain ⟨k1, k2, k3, k4, k5, k6⟩ := hbd
        have hnb : decide (0 ≤ c0) = false ∨ (decide (0 ≤ c0) = true ∧ r0 = false ∧ (g0 != 3) = false) := by
          have h := HBAD.out
          cases hd0 : decide (0 ≤ c0)
          · exact .inl rfl
          · rw [hd0, Bool.true_and] at h
            rw [Bool.or_eq_false_iff] at h
            exact .inr ⟨rfl, h⟩
        have hq2 : ((p : Int) == 1) = false := by simp; omega
        obtain ⟨hP, hx⟩ := HX.out
        have x46 := dot_yes hx
        obtain ⟨z1, z2⟩ := w_none (dot_w hx)
        clear hx
        obtain ⟨hP1, y1⟩ := HY.out
        obtain ⟨j1, j2⟩ := dg_bd y1
        have hz := HZ.out
        rcases hnb with d0 | ⟨d0, rfl, h3⟩
        all_goals
          go_wp2_with (first | (go_at_call 31; refine (refDig_any _ _).mono ?_; rintro ee w' ⟨rfl, rfl⟩) | (go_at_call 17; refine (small_any _ _).mono ?_; rintro ee w' ⟨rfl, rfl⟩))
          refine wp_loop_rounds 2 ?_
          rw [rounds_succ]
          go_wp2_with (first | (go_at_call 31; refine (refDig_any _ _).mono ?_; rintro ee w' ⟨rfl, rfl⟩) | (go_at_call 17; refine (small_any _ _).mono ?_; rintro ee w' ⟨rfl, rfl⟩))
          rw [rounds_succ]
          go_wp2_with (first | (go_at_call 31; refine (refDig_any _ _).mono ?_; rintro ee w' ⟨rfl, rfl⟩) | (go_at_call 17; refine (small_any _ _).mono ?_; rintro ee w' ⟨rfl, rfl⟩))
          exact bodyPost_ret (v := .tuple #[.int .i64 0, .agg #[.int .i64 1, .int .i64 s.size]]) (by simp [results, Tryd.results13, go_sem]) rfl ⟨ret3 rfl rfl, (Below.refl _ _).alloc (Nat.le_refl _) _⟩


end Go.Proofs.YtagkplcomhomcaaDoor

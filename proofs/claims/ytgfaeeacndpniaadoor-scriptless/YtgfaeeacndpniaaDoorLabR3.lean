/-
  The reference's LessLabel by contracts.
-/
import Derived.Test.YtgfaeeacndpniaaDoorLabR2
import Derived.Test.YtgfaeeacndpniaaDoorLabR1
import Derived.Test.YtgfaeeacndpniaaDoorLabP5
namespace Go.Proofs.YtgfaeeacndpniaaDoor
open Go.RowKit Go.Extern.Stop Go.Stop Go.Extern

/-- A label's cells, as the reference keeps it. -/
structure M3 (W : World) (b : Nat) (n : Int) (s c : ByteArray) : Prop where
  c0 : W.cell? ⟨b, 0, none⟩ = some (.int .i64 n)
  c1 : W.cell? ⟨b, 0 + 1, none⟩ = some (.string s)
  c2 : W.cell? ⟨b, 0 + 2, none⟩ = some (.string c)
  lt : b < W.heap.size
theorem M3.on {W W' : World} {b : Nat} {n : Int} {s c : ByteArray} (h : M3 W b n s c) (hb : Below W.heap.size W W') : M3 W' b n s c :=
  ⟨(hb.cell (p := ⟨b, 0, none⟩) h.lt).trans h.c0, (hb.cell (p := ⟨b, 0 + 1, none⟩) h.lt).trans h.c1, (hb.cell (p := ⟨b, 0 + 2, none⟩) h.lt).trans h.c2, Nat.lt_of_lt_of_le h.lt hb.size⟩
theorem M3.mk' (W : World) (n : Int) (s c : ByteArray) (t : TypeId) : M3 (W.alloc (.cells #[.int .i64 n, .string s, .string c] t)) W.heap.size n s c :=
  ⟨by simp, by simp, by simp, by simp⟩
theorem nz_nil : Nz (bl (⟨#[]⟩ : ByteArray)) := fun c h => by simp [bl] at h
theorem vd_pos {s : ByteArray} {k : Nat} (h : Lab s k false) : 0 < vd ((bl s).take k) := by
  have := vd_len (a := []) (b := (bl s).take k) (by rw [List.length_take, size_bl]; have := h.k1; have := h.ks; simp; omega) (fun c hc => by simp at hc) h.first
  simpa [vd] using this

theorem shorter_all (a b : ByteArray) (ha : Nz (bl a)) (hb : Nz (bl b)) :
    ∃ c, IsCmp c (bl a) (bl b) ∧ ∀ w, Calls Tryd.prog 15 #[.string a, .string b] w fun e w' => e = .returned (.int .i64 c) ∧ w' = w := by
  rcases Nat.lt_trichotomy a.size b.size with k | k | k
  · refine ⟨-1, cmp_short ha hb _ (fun _ => rfl) (fun h => by first | rfl | (rw [size_bl, size_bl] at h; omega)) (fun h => by first | rfl | (rw [size_bl, size_bl] at h; omega)), fun w => ?_⟩
    have k' : (a.size : Int) < b.size := by omega
    have k2 : ((a.size : Int) != b.size) = true := by simp; omega
    clear ha hb
    go_enter Tryd.func15, Tryd.ntmps15
    go_wp2
    go_ret
    exact ⟨rfl, rfl⟩
  · obtain ⟨i1, i2⟩ := bl_cmp (bl a) (bl b) (by rw [size_bl, size_bl]; exact k)
    have k2 : ((a.size : Int) != b.size) = false := by rw [k]; simp
    have ea : a.toList = bl a := Lib.toList_data a
    have eb : b.toList = bl b := Lib.toList_data b
    rcases Int.lt_trichotomy (Lib.compareBytes (bl a) (bl b)) 0 with c | c | c
    · refine ⟨-1, cmp_short ha hb _ (fun h => by first | rfl | (rw [size_bl, size_bl] at h; omega)) (fun h => by first | rfl | (rw [size_bl, size_bl] at h; omega)) (fun _ => ⟨by omega, by omega⟩), fun w => ?_⟩
      have e1 : Op.bytesLess a.toList b.toList = true := by rw [ea, eb]; exact i1.trans (decide_eq_true c)
      clear ha hb i1 i2 c ea eb
      go_enter Tryd.func15, Tryd.ntmps15
      go_wp2
      go_ret
      exact ⟨rfl, rfl⟩
    · refine ⟨0, cmp_short ha hb _ (fun h => by first | rfl | (rw [size_bl, size_bl] at h; omega)) (fun h => by first | rfl | (rw [size_bl, size_bl] at h; omega)) (fun _ => ⟨by omega, by omega⟩), fun w => ?_⟩
      have e2 : (a.toList == b.toList) = true := by rw [ea, eb]; exact i2.trans (decide_eq_true c)
      have e3 : a.toList = b.toList := by simpa using e2
      have e1 : Op.bytesLess b.toList b.toList = false := by
        have : Op.bytesLess a.toList b.toList = false := by rw [ea, eb]; exact i1.trans (decide_eq_false (by omega))
        rw [e3] at this
        exact this
      clear e2
      clear ha hb i1 i2 c ea eb
      go_enter Tryd.func15, Tryd.ntmps15
      go_wp2
      go_ret
      exact ⟨rfl, rfl⟩
    · refine ⟨1, cmp_short ha hb _ (fun h => by first | rfl | (rw [size_bl, size_bl] at h; omega)) (fun h => by first | rfl | (rw [size_bl, size_bl] at h; omega)) (fun _ => ⟨by omega, by omega⟩), fun w => ?_⟩
      have e1 : Op.bytesLess a.toList b.toList = false := by rw [ea, eb]; exact i1.trans (decide_eq_false (by omega))
      have e2 : (a.toList == b.toList) = false := by rw [ea, eb]; exact i2.trans (decide_eq_false (by omega))
      clear ha hb i1 i2 c ea eb
      go_enter Tryd.func15, Tryd.ntmps15
      go_wp2
      go_ret
      exact ⟨rfl, rfl⟩
  · refine ⟨1, cmp_short ha hb _ (fun h => by first | rfl | (rw [size_bl, size_bl] at h; omega)) (fun _ => rfl) (fun h => by first | rfl | (rw [size_bl, size_bl] at h; omega)), fun w => ?_⟩
    have k' : decide ((a.size : Int) < b.size) = false := by simp; omega
    have k2 : ((a.size : Int) != b.size) = true := by simp; omega
    clear ha hb
    go_enter Tryd.func15, Tryd.ntmps15
    go_wp2
    go_ret
    exact ⟨rfl, rfl⟩


set_option maxHeartbeats 8000000 in
set_option maxRecDepth 10000 in
theorem lessLabel_any (a b : ByteArray) (ha : a.size ≤ 3000) (hb : b.size ≤ 3000) (w : World) :
    Calls Tryd.prog 6 #[.string a, .string b] w fun e w' => e = .returned (.bool (lessB a b)) ∧ Below w.heap.size w w' := by
  have HA := hidL (labelOf_any a (by omega) w)
  have HB := hidL (fun W => labelOf_any b (by omega) W)
  go_enter Tryd.func6, Tryd.ntmps6
  go_wp2_with fail
  refine HA.out.mono ?_
  rintro e W1 ⟨hb1, hA⟩
  have H1 := hidL hb1
  clear hb1
  rcases hA with ⟨k, l, hL, rfl⟩ | ⟨hN, n0, v1, v2, rfl⟩
  · have HL := hidL hL
    obtain ⟨n, hn⟩ : ∃ n, n = nOf a k l := ⟨_, rfl⟩
    obtain ⟨lo, hlo⟩ : ∃ lo, lo = loOf a k l := ⟨_, rfl⟩
    obtain ⟨hi, hhi⟩ : ∃ hi, hi = a.extract k a.size := ⟨_, rfl⟩
    rw [← hn, ← hlo, ← hhi]
    have Hn := hidL hn
    have Hlo := hidL hlo
    have Hhi := hidL hhi
    clear hL hn hlo hhi
    have H2 := hidL (H1.out.trans ((belA W1 (.cells #[.int .i64 n, .string lo, .string hi] 24)).mono H1.out.size))
    have HX := hidL (M3.mk' W1 n lo hi 24)
    go_wp2_with fail
    refine (HB.out _).mono ?_
    rintro e W2 ⟨hb2, hB⟩
    have HX2 := hidL (HX.out.on hb2)
    have H3 := hidL (H2.out.trans (hb2.mono H2.out.size))
    clear hb2
    rcases hB with ⟨k', l', hL', rfl⟩ | ⟨hN, n0, v1, v2, rfl⟩
    · have HL' := hidL hL'
      obtain ⟨n', hn'⟩ : ∃ n, n = nOf b k' l' := ⟨_, rfl⟩
      obtain ⟨lo', hlo'⟩ : ∃ lo, lo = loOf b k' l' := ⟨_, rfl⟩
      obtain ⟨hi', hhi'⟩ : ∃ hi, hi = b.extract k' b.size := ⟨_, rfl⟩
      rw [← hn', ← hlo', ← hhi']
      have Hn' := hidL hn'
      have Hlo' := hidL hlo'
      have Hhi' := hidL hhi'
      clear hL' hn' hlo' hhi'
      have HX3 := hidL (HX2.out.on (belA W2 (.cells #[.int .i64 n', .string lo', .string hi'] 24)))
      have H4 := hidL (H3.out.trans ((belA W2 (.cells #[.int .i64 n', .string lo', .string hi'] 24)).mono H3.out.size))
      have x0 := HX3.out.c0
      have x1 := HX3.out.c1
      have x2 := HX3.out.c2
      obtain ⟨c2, hc2, HS2⟩ : ∃ c2, IsCmp c2 ((bl a).drop k) ((bl b).drop k') ∧ Hid (∀ W, Calls Tryd.prog 15 #[.string hi, .string hi'] W fun e w' => e = .returned (.int .i64 c2) ∧ w' = W) := by
        have h1 : Nz (bl hi) := by rw [Hhi.out, bl_caps]; exact HL.out.nz2
        have h2 : Nz (bl hi') := by rw [Hhi'.out, bl_caps]; exact HL'.out.nz2
        obtain ⟨c, hc⟩ := shorter_all hi hi' h1 h2
        refine ⟨c, ?_, hc.2⟩
        have := hc.1
        rw [Hhi.out, Hhi'.out, bl_caps, bl_caps] at this
        exact this
      obtain ⟨c1, HC1, HS1⟩ : ∃ c1, Hid (IsCmp c1 (bl lo) (bl lo')) ∧ Hid (∀ W, Calls Tryd.prog 15 #[.string lo, .string lo'] W fun e w' => e = .returned (.int .i64 c1) ∧ w' = W) := by
        have h1 : Nz (bl lo) := by
          rw [Hlo.out]
          cases l
          · exact nz_nil
          · show Nz (bl (a.extract 0 k)); rw [bl_stem]; exact HL.out.nz1
        have h2 : Nz (bl lo') := by
          rw [Hlo'.out]
          cases l'
          · exact nz_nil
          · show Nz (bl (b.extract 0 k')); rw [bl_stem]; exact HL'.out.nz1
        obtain ⟨c, hc⟩ := shorter_all lo lo' h1 h2
        exact ⟨c, hc.1, hc.2⟩
      have HC2 := hidL hc2
      clear hc2
      cases l <;> cases l'
      · have hp := vd_pos HL.out
        have hp' := vd_pos HL'.out
        have en : n = (vd ((bl a).take k) : Nat) := Hn.out
        have en' : n' = (vd ((bl b).take k') : Nat) := Hn'.out
        have n1 : 0 < n := by omega
        have n1' : 0 < n' := by omega
        have z1 : (n' == 0) = false := by simp; omega
        have z2 : (n == 0) = false := by simp; omega
        obtain ⟨d1, d2⟩ := key_dec HL.out HL'.out
        by_cases hne : n = n'
        · have hq : (n != n') = false := by simp [hne]
          have hcm := d2 (by omega)
          have Hc1 : Hid (c1 = 0) := by
            show _ = _
            have := HC1.out
            rw [Hlo.out, Hlo'.out] at this
            exact this.2.2 rfl
          have HE : Hid (decide (c2 < 0) = lessB a b) := (key_same HL.out HL'.out 0 c2 c2 hcm HC2.out (.inr ⟨rfl, rfl⟩)).symm
          rw [Hc1.out] at HS1
          clear hcm hne d1 d2 en en' hp hp'
          go_wp2_with fail
          refine (HS1.out _).mono ?_
          rintro e W3 ⟨rfl, ew⟩
          subst W3
          go_wp2_with fail
          refine (HS2.out _).mono ?_
          rintro e W3 ⟨rfl, ew⟩
          subst W3
          go_wp2
          go_ret
          exact ⟨ret_b HE.out, H4.out⟩
        · have hq : (n != n') = true := by simp [hne]
          have HE : Hid (decide (n < n') = lessB a b) := by
            show _ = _
            rw [d1 (by omega), decide_eq_decide]
            omega
          clear hne d1 d2 en en' hp hp'
          go_wp2
          go_ret
          exact ⟨ret_b HE.out, H4.out⟩
      · have hp := vd_pos HL.out
        have en : n = (vd ((bl a).take k) : Nat) := Hn.out
        have en' : n' = 0 := Hn'.out
        have n1 : 0 < n := by omega
        subst en'
        have HE := hidL (key_diff HL.out HL'.out (by decide))
        clear en hp
        go_wp2
        go_ret
        exact ⟨ret_b HE.out.symm, H4.out⟩
      · have hp := vd_pos HL'.out
        have en : n = 0 := Hn.out
        have en' : n' = (vd ((bl b).take k') : Nat) := Hn'.out
        have n1 : 0 < n' := by omega
        subst en
        have HE := hidL (key_diff HL.out HL'.out (by decide))
        clear en' hp
        go_wp2
        go_ret
        exact ⟨ret_b HE.out.symm, H4.out⟩
      · have en : n = 0 := Hn.out
        have en' : n' = 0 := Hn'.out
        subst en
        subst en'
        have HC1' : Hid (IsCmp c1 ((bl a).take k) ((bl b).take k')) := by
          show IsCmp _ _ _
          have := HC1.out
          rw [Hlo.out, Hlo'.out] at this
          have e1 : bl (loOf a k true) = (bl a).take k := bl_stem a k
          have e2 : bl (loOf b k' true) = (bl b).take k' := bl_stem b k'
          rw [e1, e2] at this
          exact this
        by_cases hc : c1 = 0
        · subst hc
          have HE : Hid (decide (c2 < 0) = lessB a b) := (key_same HL.out HL'.out 0 c2 c2 HC1'.out HC2.out (.inr ⟨rfl, rfl⟩)).symm
          go_wp2_with fail
          refine (HS1.out _).mono ?_
          rintro e W3 ⟨rfl, ew⟩
          subst W3
          go_wp2_with fail
          refine (HS2.out _).mono ?_
          rintro e W3 ⟨rfl, ew⟩
          subst W3
          go_wp2
          go_ret
          exact ⟨ret_b HE.out, H4.out⟩
        · have HE : Hid (decide (c1 < 0) = lessB a b) := (key_same HL.out HL'.out c1 c2 c1 HC1'.out HC2.out (.inl ⟨hc, rfl⟩)).symm
          have hq : (c1 == 0) = false := by simpa using hc
          clear hc
          go_wp2_with fail
          refine (HS1.out _).mono ?_
          rintro e W3 ⟨rfl, ew⟩
          subst W3
          go_wp2
          go_ret
          exact ⟨ret_b HE.out, H4.out⟩
    · have HE := hidL (lessB_no2 (a := a) hN)
      clear hN
      have H4 := hidL (H3.out.trans ((belA W2 (.cells #[.int .i64 n0, .string v1, .string v2] 24)).mono H3.out.size))
      go_wp2
      go_ret
      exact ⟨ret_b HE.out.symm, H4.out⟩
  · have HE := hidL (lessB_no1 (b := b) hN)
    clear hN
    have H2 := hidL (H1.out.trans ((belA W1 (.cells #[.int .i64 n0, .string v1, .string v2] 24)).mono H1.out.size))
    go_wp2_with fail
    refine (HB.out _).mono ?_
    rintro e W2 ⟨hb2, hB⟩
    have H3 := hidL (H2.out.trans (hb2.mono H2.out.size))
    clear hb2
    rcases hB with ⟨k', l', hL', rfl⟩ | ⟨hN, n1, u1, u2, rfl⟩
    · have H4 := hidL (H3.out.trans ((belA W2 (.cells #[.int .i64 (nOf b k' l'), .string (loOf b k' l'), .string (b.extract k' b.size)] 24)).mono H3.out.size))
      go_wp2
      go_ret
      exact ⟨ret_b HE.out.symm, H4.out⟩
    · have H4 := hidL (H3.out.trans ((belA W2 (.cells #[.int .i64 n1, .string u1, .string u2] 24)).mono H3.out.size))
      go_wp2
      go_ret
      exact ⟨ret_b HE.out.symm, H4.out⟩
end Go.Proofs.YtgfaeeacndpniaaDoor

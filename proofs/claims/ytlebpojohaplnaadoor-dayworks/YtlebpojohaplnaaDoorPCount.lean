/-
  Calendar.Count.
-/
import Derived.Test.YtlebpojohaplnaaDoorRoll
import Derived.Test.YtlebpojohaplnaaDoorCntDef
namespace Go.Proofs.YtlebpojohaplnaaDoor
open Go.RowKit Go.Sort Go.Lib

set_option maxHeartbeats 2000000 in
theorem count_le (b : Nat) (off : Int → Bool) (xs : List Int) (v : Value) (x y : Int) (w : World) (h : Cal w b off xs v) (k0 : ¬ y < x) :
    Calls Tryd.prog 12 #[.pointer (some ⟨b, 0, none⟩), .int .i64 x, .int .i64 y] w fun e w' => e = .returned (.int .i64 (cntD off xs x y)) ∧ Below w.heap.size w w' := by
  have HE : Hid (cntD off xs x y = cnt off xs (max x 1) (min y 3652060)) := by show _ = _; unfold cntD; rw [if_neg k0]
  by_cases kz : min y 3652060 ≤ max x 1
  · have HZ : Hid (cnt off xs (max x 1) (min y 3652060) = 0) := by show _ = _; unfold cnt; rw [show (min y 3652060 - max x 1).toNat = 0 by omega]; rfl
    clear h
    go_enter Tryd.func12, Tryd.ntmps12
    go_wp2
    go_ret
    exact ⟨ret_int (by rw [HE.out, HZ.out]), Below.refl _ _⟩
  · have HP := hidIt (plan_any b off xs v w h)
    have HL := hidIt (fun v' w' (hv : IsPlan w' v' off xs) => count_any v' off xs (max x 1) (min y 3652060) w' hv (by omega) (by omega) (by omega))
    have HX : Hid (cn (fun i => works off xs (max x 1 + i)) (min y 3652060 - max x 1).toNat = cnt off xs (max x 1) (min y 3652060)) := rfl
    rw [HX.out, ← HE.out] at HL
    clear h HX
    generalize cntD off xs x y = c at *
    clear HE
    go_enter Tryd.func12, Tryd.ntmps12
    go_wp2_with fail
    refine HP.out.mono ?_
    rintro e w1 ⟨⟨v', rfl, hv⟩, hb1⟩
    have HB1 := hidIt hb1
    have HV := hidIt hv
    clear hb1 hv
    go_wp2_with fail
    refine (HL.out _ _ HV.out).mono ?_
    rintro e w2 ⟨rfl, hb2⟩
    have HB2 := hidIt (HB1.out.trans (hb2.below.mono HB1.out.size))
    clear hb2
    go_wp2
    go_ret
    exact ⟨rfl, HB2.out⟩
theorem cntD_bd (off : Int → Bool) (xs : List Int) (x y : Int) (h : ¬ y < x) : 0 ≤ cntD off xs x y ∧ cntD off xs x y ≤ 3652060 := by
  unfold cntD cnt
  rw [if_neg h]
  have h1 := cn_nn (fun i => works off xs (max x 1 + i)) (min y 3652060 - max x 1).toNat
  have h2 := cn_le (fun i => works off xs (max x 1 + i)) (min y 3652060 - max x 1).toNat
  omega
set_option maxHeartbeats 1000000 in
theorem pCount_any (b : Nat) (off : Int → Bool) (xs : List Int) (v : Value) (x y : Int) (w : World) (h : Cal w b off xs v) :
    Calls Tryd.prog 12 #[.pointer (some ⟨b, 0, none⟩), .int .i64 x, .int .i64 y] w fun e w' => e = .returned (.int .i64 (cntD off xs x y)) ∧ Below w.heap.size w w' := by
  by_cases k0 : y < x
  · have HC := hidIt (count_le b off xs v y x w h (by omega))
    have HE : Hid (cntD off xs x y = -(cntD off xs y x)) := by show _ = _; unfold cntD; rw [if_pos k0, if_neg (by omega)]
    obtain ⟨b1, b2⟩ := cntD_bd off xs y x (by omega)
    clear h
    generalize cntD off xs y x = c at *
    go_enter Tryd.func12, Tryd.ntmps12
    go_wp2_with fail
    refine HC.out.mono ?_
    rintro e w1 ⟨rfl, hb1⟩
    have HB1 := hidIt hb1
    clear hb1
    go_wp2
    go_ret
    exact ⟨ret_int HE.out.symm, HB1.out⟩
  · exact count_le b off xs v x y w h k0

/-! Both tell the same. -/
theorem up_shift (off : Int → Bool) (xs : List Int) (d : Int) : ∀ i, upG off xs d (i + 1) = gU off xs d i := fun i => by unfold upG gU; congr 1
theorem dn_shift (off : Int → Bool) (xs : List Int) (d : Int) : ∀ i, dnG off xs d (i + 1) = gD off xs d i := fun i => by unfold dnG gD; congr 1
theorem up_zero (off : Int → Bool) (xs : List Int) (d : Int) : upG off xs d 0 = works off xs d := by unfold upG; congr 1; omega
theorem dn_zero (off : Int → Bool) (xs : List Int) (d : Int) : dnG off xs d 0 = works off xs d := by unfold dnG; congr 1; omega
theorem hit_zero {g : Nat → Bool} {K : Nat} (h : g 0 = true) (hK : 0 < K) : Hit g K 1 0 := ⟨hK, by simp [cn], by simp [cn, h]⟩

theorem agree_roll (off : Int → Bool) (xs : List Int) (v v' : Value) (b b' : Nat) (d how : Int) (p : Nat → Addr) :
    (∃ x, (∀ w, Cal w b off xs v → Calls Tryd.prog 8 #[.pointer (some ⟨b, 0, none⟩), .int .i64 d, .int .i64 how] w fun e w' => e = .returned (.tuple #[.int .i64 x, .nilIface]) ∧ Below w.heap.size w w') ∧
      (∀ w, Cal w b' off xs v' → Calls Tryd.prog 9 #[.pointer (some ⟨b', 0, none⟩), .int .i64 d, .int .i64 how] w fun e w' => e = .returned (.tuple #[.int .i64 x, .int .i64 0]) ∧ ∃ q, w' = w.drewN q)) ∨
    (∃ k : Nat, k < 11 ∧ (∀ w, Laid w p → Cal w b off xs v → Calls Tryd.prog 8 #[.pointer (some ⟨b, 0, none⟩), .int .i64 d, .int .i64 how] w fun e w' => e = .returned (.tuple #[.int .i64 0, .iface 129 (.pointer (some (p k)))]) ∧ Below w.heap.size w w') ∧
      (∀ w, Cal w b' off xs v' → Calls Tryd.prog 9 #[.pointer (some ⟨b', 0, none⟩), .int .i64 d, .int .i64 how] w fun e w' => e = .returned (.tuple #[.int .i64 0, .int .i64 (k + 1)]) ∧ ∃ q, w' = w.drewN q)) := by
  by_cases hk : how = 0 ∨ how = 1 ∨ how = 2
  · have hr : rollB how = true := by rcases hk with rfl | rfl | rfl <;> rfl
    cases hd : isDayB d
    · exact .inr ⟨3, by omega, fun w L _ => roll_noday b d how (p 3) w (L.cell 3 (by omega)) hr hd, fun w _ => rRoll_noday b' d how w hk hd⟩
    obtain ⟨d1, d2⟩ := isDayB_iff.1 hd
    rcases hk with rfl | rfl | rfl
    · exact .inl ⟨d, fun w _ => roll_stay b d w hd, fun w h => rRoll_here b' off xs v' d 0 w h (.inl rfl) hd⟩
    · cases hw : works off xs d
      · rcases hit_or (gU off xs d) 1 (by omega) (3652059 - d).toNat with hm | ⟨s, hh⟩
        · refine .inr ⟨3, by omega, fun w L h => roll_up_miss b off xs v d (p 3) w (L.cell 3 (by omega)) h hd ?_, fun w h => rRoll_up b' off xs v' d 0 4 w h hd hw (fun w' h' => walkU_miss b' off xs v' d 1 w' h' d1 d2 (by omega) hm)⟩
          rw [show (3652060 - d).toNat = (3652059 - d).toNat + 1 by omega, cn_shift (up_shift off xs d) ((up_zero off xs d).trans hw)]
          exact hm
        · refine .inl ⟨d + (s + 1), fun w h => ?_, fun w h => rRoll_up b' off xs v' d (d + (s + 1)) 0 w h hd hw (fun w' h' => walkU_hit b' off xs v' d 1 s w' h' d1 d2 (by omega) hh)⟩
          have hh' := hh.shift (up_shift off xs d) ((up_zero off xs d).trans hw)
          rw [show (3652059 - d).toNat + 1 = (3652060 - d).toNat by omega] at hh'
          exact roll_up_hit b off xs v d (s + 1) w h hd hh'
      · refine .inl ⟨d, fun w h => ?_, fun w h => rRoll_here b' off xs v' d 1 w h (.inr ⟨.inl rfl, hw⟩) hd⟩
        have h0 := roll_up_hit b off xs v d 0 w h hd (hit_zero ((up_zero off xs d).trans hw) (by omega))
        rw [show d + ((0 : Nat) : Int) = d by omega] at h0
        exact h0
    · cases hw : works off xs d
      · rcases hit_or (gD off xs d) 1 (by omega) (d - 1).toNat with hm | ⟨s, hh⟩
        · refine .inr ⟨3, by omega, fun w L h => roll_dn_miss b off xs v d (p 3) w (L.cell 3 (by omega)) h hd ?_, fun w h => rRoll_dn b' off xs v' d 0 4 w h hd hw (fun w' h' => walkD_miss b' off xs v' d 1 w' h' d1 d2 (by omega) hm)⟩
          rw [show d.toNat = (d - 1).toNat + 1 by omega, cn_shift (dn_shift off xs d) ((dn_zero off xs d).trans hw)]
          exact hm
        · refine .inl ⟨d - (s + 1), fun w h => ?_, fun w h => rRoll_dn b' off xs v' d (d - (s + 1)) 0 w h hd hw (fun w' h' => walkD_hit b' off xs v' d 1 s w' h' d1 d2 (by omega) hh)⟩
          have hh' := hh.shift (dn_shift off xs d) ((dn_zero off xs d).trans hw)
          rw [show (d - 1).toNat + 1 = d.toNat by omega] at hh'
          exact roll_dn_hit b off xs v d (s + 1) w h hd hh'
      · refine .inl ⟨d, fun w h => ?_, fun w h => rRoll_here b' off xs v' d 2 w h (.inr ⟨.inr rfl, hw⟩) hd⟩
        have h0 := roll_dn_hit b off xs v d 0 w h hd (hit_zero ((dn_zero off xs d).trans hw) (by omega))
        rw [show d - ((0 : Nat) : Int) = d by omega] at h0
        exact h0
  · have hr : rollB how = false := by
      unfold rollB
      rw [Bool.and_eq_false_iff]
      simp only [decide_eq_false_iff_not]
      omega
    exact .inr ⟨8, by omega, fun w L _ => roll_kind b d how (p 8) w (L.cell 8 (by omega)) hr, fun w _ => rRoll_kind b' d how w (fun h => hk (.inl h)) (fun h => hk (.inr (.inl h))) (fun h => hk (.inr (.inr h)))⟩
theorem agree_roll_g (off : Int → Bool) (xs : List Int) (v v' : Value) (b b' : Nat) (d how : Int) (p : Nat → Addr) :
    (∃ x, (∀ w, Cal w b off xs v → Calls Tryd.prog 21 #[.int .i64 d, .int .i64 how, .func (.func 22) #[.pointer (some ⟨b, 0, none⟩)] #[]] w fun e w' => e = .returned (.tuple #[.int .i64 x, .nilIface]) ∧ Below w.heap.size w w') ∧
      (∀ w, Cal w b' off xs v' → Calls Tryd.prog 9 #[.pointer (some ⟨b', 0, none⟩), .int .i64 d, .int .i64 how] w fun e w' => e = .returned (.tuple #[.int .i64 x, .int .i64 0]) ∧ ∃ q, w' = w.drewN q)) ∨
    (∃ k : Nat, k < 11 ∧ (∀ w, Laid w p → Cal w b off xs v → Calls Tryd.prog 21 #[.int .i64 d, .int .i64 how, .func (.func 22) #[.pointer (some ⟨b, 0, none⟩)] #[]] w fun e w' => e = .returned (.tuple #[.int .i64 0, .iface 129 (.pointer (some (p k)))]) ∧ Below w.heap.size w w') ∧
      (∀ w, Cal w b' off xs v' → Calls Tryd.prog 9 #[.pointer (some ⟨b', 0, none⟩), .int .i64 d, .int .i64 how] w fun e w' => e = .returned (.tuple #[.int .i64 0, .int .i64 (k + 1)]) ∧ ∃ q, w' = w.drewN q)) := by
  by_cases hk : how = 0 ∨ how = 1 ∨ how = 2
  · have hr : rollB how = true := by rcases hk with rfl | rfl | rfl <;> rfl
    cases hd : isDayB d
    · exact .inr ⟨3, by omega, fun w L _ => g_roll_noday b d how (p 3) w (L.cell 3 (by omega)) hr hd, fun w _ => rRoll_noday b' d how w hk hd⟩
    obtain ⟨d1, d2⟩ := isDayB_iff.1 hd
    rcases hk with rfl | rfl | rfl
    · exact .inl ⟨d, fun w _ => g_roll_stay b d w hd, fun w h => rRoll_here b' off xs v' d 0 w h (.inl rfl) hd⟩
    · cases hw : works off xs d
      · rcases hit_or (gU off xs d) 1 (by omega) (3652059 - d).toNat with hm | ⟨s, hh⟩
        · refine .inr ⟨3, by omega, fun w L h => g_roll_up_miss b off xs d (p 3) w (L.cell 3 (by omega)) (plan_any b off xs v w h) hd ?_, fun w h => rRoll_up b' off xs v' d 0 4 w h hd hw (fun w' h' => walkU_miss b' off xs v' d 1 w' h' d1 d2 (by omega) hm)⟩
          rw [show (3652060 - d).toNat = (3652059 - d).toNat + 1 by omega, cn_shift (up_shift off xs d) ((up_zero off xs d).trans hw)]
          exact hm
        · refine .inl ⟨d + (s + 1), fun w h => ?_, fun w h => rRoll_up b' off xs v' d (d + (s + 1)) 0 w h hd hw (fun w' h' => walkU_hit b' off xs v' d 1 s w' h' d1 d2 (by omega) hh)⟩
          have hh' := hh.shift (up_shift off xs d) ((up_zero off xs d).trans hw)
          rw [show (3652059 - d).toNat + 1 = (3652060 - d).toNat by omega] at hh'
          exact g_roll_up_hit b off xs d (s + 1) w (plan_any b off xs v w h) hd hh'
      · refine .inl ⟨d, fun w h => ?_, fun w h => rRoll_here b' off xs v' d 1 w h (.inr ⟨.inl rfl, hw⟩) hd⟩
        have h0 := g_roll_up_hit b off xs d 0 w (plan_any b off xs v w h) hd (hit_zero ((up_zero off xs d).trans hw) (by omega))
        rw [show d + ((0 : Nat) : Int) = d by omega] at h0
        exact h0
    · cases hw : works off xs d
      · rcases hit_or (gD off xs d) 1 (by omega) (d - 1).toNat with hm | ⟨s, hh⟩
        · refine .inr ⟨3, by omega, fun w L h => g_roll_dn_miss b off xs d (p 3) w (L.cell 3 (by omega)) (plan_any b off xs v w h) hd ?_, fun w h => rRoll_dn b' off xs v' d 0 4 w h hd hw (fun w' h' => walkD_miss b' off xs v' d 1 w' h' d1 d2 (by omega) hm)⟩
          rw [show d.toNat = (d - 1).toNat + 1 by omega, cn_shift (dn_shift off xs d) ((dn_zero off xs d).trans hw)]
          exact hm
        · refine .inl ⟨d - (s + 1), fun w h => ?_, fun w h => rRoll_dn b' off xs v' d (d - (s + 1)) 0 w h hd hw (fun w' h' => walkD_hit b' off xs v' d 1 s w' h' d1 d2 (by omega) hh)⟩
          have hh' := hh.shift (dn_shift off xs d) ((dn_zero off xs d).trans hw)
          rw [show (d - 1).toNat + 1 = d.toNat by omega] at hh'
          exact g_roll_dn_hit b off xs d (s + 1) w (plan_any b off xs v w h) hd hh'
      · refine .inl ⟨d, fun w h => ?_, fun w h => rRoll_here b' off xs v' d 2 w h (.inr ⟨.inr rfl, hw⟩) hd⟩
        have h0 := g_roll_dn_hit b off xs d 0 w (plan_any b off xs v w h) hd (hit_zero ((dn_zero off xs d).trans hw) (by omega))
        rw [show d - ((0 : Nat) : Int) = d by omega] at h0
        exact h0
  · have hr : rollB how = false := by
      unfold rollB
      rw [Bool.and_eq_false_iff]
      simp only [decide_eq_false_iff_not]
      omega
    exact .inr ⟨8, by omega, fun w L _ => g_roll_kind b d how (p 8) w (L.cell 8 (by omega)) hr, fun w _ => rRoll_kind b' d how w (fun h => hk (.inl h)) (fun h => hk (.inr (.inl h))) (fun h => hk (.inr (.inr h)))⟩
end Go.Proofs.YtlebpojohaplnaaDoor

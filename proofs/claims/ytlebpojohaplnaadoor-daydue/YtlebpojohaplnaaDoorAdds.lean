/-
  Calendar.Add: both tell the same; there and back again.
-/
import Derived.Test.YtlebpojohaplnaaDoorPCount
namespace Go.Proofs.YtlebpojohaplnaaDoor
open Go.RowKit Go.Sort Go.Lib

theorem rAdd_bound (b : Nat) (d n : Int) (w : World) (h : n < -100000 ∨ 100000 < n) :
    Calls Tryd.prog 15 #[.pointer (some ⟨b, 0, none⟩), .int .i64 d, .int .i64 n] w fun e w' => e = .returned (.tuple #[.int .i64 0, .int .i64 2]) ∧ ∃ q, w' = w.drewN q := by
  by_cases h0 : 100000 < n
  · clear h
    go_enter Tryd.func15, Tryd.ntmps15
    go_wp2
    go_ret2
    exact ⟨rfl, 0, rfl⟩
  · have h1 : n < -100000 := by omega
    clear h
    go_enter Tryd.func15, Tryd.ntmps15
    go_wp2
    go_ret2
    exact ⟨rfl, 0, rfl⟩
theorem rAdd_noday (b : Nat) (d n : Int) (w : World) (n1 : -100000 ≤ n) (n2 : n ≤ 100000) (hd : isDayB d = false) :
    Calls Tryd.prog 15 #[.pointer (some ⟨b, 0, none⟩), .int .i64 d, .int .i64 n] w fun e w' => e = .returned (.tuple #[.int .i64 0, .int .i64 4]) ∧ ∃ q, w' = w.drewN q := by
  have HD := hidIt (fun w => rIsDay_any d w)
  rw [hd] at HD
  clear hd
  go_enter Tryd.func15, Tryd.ntmps15
  go_wp2_with (go_at_call 23; refine (HD.out _).mono ?_; rintro e w' ⟨rfl, rfl⟩)
  go_ret2
  exact ⟨rfl, 0, rfl⟩
theorem rAdd_zero (b : Nat) (d : Int) (w : World) (hd : isDayB d = true) :
    Calls Tryd.prog 15 #[.pointer (some ⟨b, 0, none⟩), .int .i64 d, .int .i64 0] w fun e w' => e = .returned (.tuple #[.int .i64 d, .int .i64 0]) ∧ ∃ q, w' = w.drewN q := by
  have HD := hidIt (fun w => rIsDay_any d w)
  rw [hd] at HD
  clear hd
  go_enter Tryd.func15, Tryd.ntmps15
  go_wp2_with (go_at_call 23; refine (HD.out _).mono ?_; rintro e w' ⟨rfl, rfl⟩)
  go_ret2
  exact ⟨rfl, 0, rfl⟩

theorem up_next (off : Int → Bool) (xs : List Int) (d : Int) : upG off xs (d + 1) = gU off xs d := by
  funext i; unfold upG gU; congr 1; omega
theorem dn_next (off : Int → Bool) (xs : List Int) (d : Int) : dnG off xs (d - 1) = gD off xs d := by
  funext i; unfold dnG gD; congr 1; omega

/-- What is so of a day that was found some working days on. -/
def AddFact (off : Int → Bool) (xs : List Int) (d n x : Int) : Prop := 1 ≤ n → isDayB d = true ∧ ∃ s : Nat, x = d + 1 + s ∧ Hit (upG off xs (d + 1)) (3652060 - (d + 1)).toNat n s
theorem agree_add (off : Int → Bool) (xs : List Int) (v v' : Value) (b b' : Nat) (d n : Int) (p : Nat → Addr) :
    (∃ x, (∀ w, Cal w b off xs v → Calls Tryd.prog 14 #[.pointer (some ⟨b, 0, none⟩), .int .i64 d, .int .i64 n] w fun e w' => e = .returned (.tuple #[.int .i64 x, .nilIface]) ∧ Below w.heap.size w w') ∧
      (∀ w, Cal w b' off xs v' → Calls Tryd.prog 15 #[.pointer (some ⟨b', 0, none⟩), .int .i64 d, .int .i64 n] w fun e w' => e = .returned (.tuple #[.int .i64 x, .int .i64 0]) ∧ ∃ q, w' = w.drewN q) ∧ isDayB x = true ∧ AddFact off xs d n x) ∨
    (∃ k : Nat, k < 11 ∧ (∀ w, Laid w p → Cal w b off xs v → Calls Tryd.prog 14 #[.pointer (some ⟨b, 0, none⟩), .int .i64 d, .int .i64 n] w fun e w' => e = .returned (.tuple #[.int .i64 0, .iface 129 (.pointer (some (p k)))]) ∧ Below w.heap.size w w') ∧
      (∀ w, Cal w b' off xs v' → Calls Tryd.prog 15 #[.pointer (some ⟨b', 0, none⟩), .int .i64 d, .int .i64 n] w fun e w' => e = .returned (.tuple #[.int .i64 0, .int .i64 (k + 1)]) ∧ ∃ q, w' = w.drewN q) ∧ ((-100000 ≤ n ∧ n ≤ 100000) → k = 3)) := by
  by_cases hb : n < -100000 ∨ 100000 < n
  · exact .inr ⟨1, by omega, fun w L _ => add_bound b d n (p 1) w (L.cell 1 (by omega)) hb, fun w _ => rAdd_bound b' d n w hb, fun h => by omega⟩
  cases hd : isDayB d
  · exact .inr ⟨3, by omega, fun w L _ => add_noday b d n (p 3) w (L.cell 3 (by omega)) (by omega) (by omega) hd, fun w _ => rAdd_noday b' d n w (by omega) (by omega) hd, fun _ => rfl⟩
  obtain ⟨d1, d2⟩ := isDayB_iff.1 hd
  rcases Int.lt_trichotomy n 0 with hn | rfl | hn
  · obtain ⟨m, rfl⟩ : ∃ m, n = -m := ⟨-n, by omega⟩
    rcases hit_or (gD off xs d) m (by omega) (d - 1).toNat with hm | ⟨s, hh⟩
    · exact .inr ⟨3, by omega, fun w L h => add_dn_miss b off xs v d m (p 3) w (L.cell 3 (by omega)) h hd (by omega) (by omega) (by rw [dn_next]; exact hm), fun w h => rAdd_dn b' off xs v' d m 0 4 w h hd (by omega) (by omega) (fun w' h' => walkD_miss b' off xs v' d m w' h' d1 d2 (by omega) hm), fun _ => rfl⟩
    · have hs := hh.1
      refine .inl ⟨d - (s + 1), fun w h => ?_, fun w h => rAdd_dn b' off xs v' d m (d - (s + 1)) 0 w h hd (by omega) (by omega) (fun w' h' => walkD_hit b' off xs v' d m s w' h' d1 d2 (by omega) hh), isDayB_iff.2 ⟨by omega, by omega⟩, fun h => by omega⟩
      have h0 := add_dn_hit b off xs v d m s w h hd (by omega) (by omega) (by rw [dn_next]; exact hh)
      rw [show d - 1 - (s : Int) = d - (s + 1) by omega] at h0
      exact h0
  · exact .inl ⟨d, fun w _ => add_zero' b d w hd, fun w _ => rAdd_zero b' d w hd, hd, fun h => by omega⟩
  · have ek : (3652060 - (d + 1)).toNat = (3652059 - d).toNat := by omega
    rcases hit_or (gU off xs d) n (by omega) (3652059 - d).toNat with hm | ⟨s, hh⟩
    · exact .inr ⟨3, by omega, fun w L h => add_up_miss b off xs v d n (p 3) w (L.cell 3 (by omega)) h hd (by omega) (by omega) (by rw [up_next, ek]; exact hm), fun w h => rAdd_up b' off xs v' d n 0 4 w h hd (by omega) (by omega) (fun w' h' => walkU_miss b' off xs v' d n w' h' d1 d2 (by omega) hm), fun _ => rfl⟩
    · have hs := hh.1
      have hh' : Hit (upG off xs (d + 1)) (3652060 - (d + 1)).toNat n s := by rw [up_next, ek]; exact hh
      refine .inl ⟨d + (s + 1), fun w h => ?_, fun w h => rAdd_up b' off xs v' d n (d + (s + 1)) 0 w h hd (by omega) (by omega) (fun w' h' => walkU_hit b' off xs v' d n s w' h' d1 d2 (by omega) hh), isDayB_iff.2 ⟨by omega, by omega⟩, fun _ => ⟨hd, s, by omega, hh'⟩⟩
      have h0 := add_up_hit b off xs v d n s w h hd (by omega) (by omega) hh'
      rw [show d + 1 + (s : Int) = d + (s + 1) by omega] at h0
      exact h0

theorem agree_add_g (off : Int → Bool) (xs : List Int) (v v' : Value) (b b' : Nat) (d n : Int) (p : Nat → Addr) :
    (∃ x, (∀ w, Cal w b off xs v → Calls Tryd.prog 28 #[.int .i64 d, .int .i64 n, .func (.func 22) #[.pointer (some ⟨b, 0, none⟩)] #[]] w fun e w' => e = .returned (.tuple #[.int .i64 x, .nilIface]) ∧ Below w.heap.size w w') ∧
      (∀ w, Cal w b' off xs v' → Calls Tryd.prog 15 #[.pointer (some ⟨b', 0, none⟩), .int .i64 d, .int .i64 n] w fun e w' => e = .returned (.tuple #[.int .i64 x, .int .i64 0]) ∧ ∃ q, w' = w.drewN q) ∧ isDayB x = true ∧ AddFact off xs d n x) ∨
    (∃ k : Nat, k < 11 ∧ (∀ w, Laid w p → Cal w b off xs v → Calls Tryd.prog 28 #[.int .i64 d, .int .i64 n, .func (.func 22) #[.pointer (some ⟨b, 0, none⟩)] #[]] w fun e w' => e = .returned (.tuple #[.int .i64 0, .iface 129 (.pointer (some (p k)))]) ∧ Below w.heap.size w w') ∧
      (∀ w, Cal w b' off xs v' → Calls Tryd.prog 15 #[.pointer (some ⟨b', 0, none⟩), .int .i64 d, .int .i64 n] w fun e w' => e = .returned (.tuple #[.int .i64 0, .int .i64 (k + 1)]) ∧ ∃ q, w' = w.drewN q) ∧ ((-100000 ≤ n ∧ n ≤ 100000) → k = 3)) := by
  by_cases hb : n < -100000 ∨ 100000 < n
  · exact .inr ⟨1, by omega, fun w L _ => g_add_bound b d n (p 1) w (L.cell 1 (by omega)) hb, fun w _ => rAdd_bound b' d n w hb, fun h => by omega⟩
  cases hd : isDayB d
  · exact .inr ⟨3, by omega, fun w L _ => g_add_noday b d n (p 3) w (L.cell 3 (by omega)) (by omega) (by omega) hd, fun w _ => rAdd_noday b' d n w (by omega) (by omega) hd, fun _ => rfl⟩
  obtain ⟨d1, d2⟩ := isDayB_iff.1 hd
  rcases Int.lt_trichotomy n 0 with hn | rfl | hn
  · obtain ⟨m, rfl⟩ : ∃ m, n = -m := ⟨-n, by omega⟩
    rcases hit_or (gD off xs d) m (by omega) (d - 1).toNat with hm | ⟨s, hh⟩
    · exact .inr ⟨3, by omega, fun w L h => g_add_dn_miss b off xs d m (p 3) w (L.cell 3 (by omega)) (plan_any b off xs v w h) hd (by omega) (by omega) (by rw [dn_next]; exact hm), fun w h => rAdd_dn b' off xs v' d m 0 4 w h hd (by omega) (by omega) (fun w' h' => walkD_miss b' off xs v' d m w' h' d1 d2 (by omega) hm), fun _ => rfl⟩
    · have hs := hh.1
      refine .inl ⟨d - (s + 1), fun w h => ?_, fun w h => rAdd_dn b' off xs v' d m (d - (s + 1)) 0 w h hd (by omega) (by omega) (fun w' h' => walkD_hit b' off xs v' d m s w' h' d1 d2 (by omega) hh), isDayB_iff.2 ⟨by omega, by omega⟩, fun h => by omega⟩
      have h0 := g_add_dn_hit b off xs d m s w (plan_any b off xs v w h) hd (by omega) (by omega) (by rw [dn_next]; exact hh)
      rw [show d - 1 - (s : Int) = d - (s + 1) by omega] at h0
      exact h0
  · exact .inl ⟨d, fun w _ => g_add_zero' b d w hd, fun w _ => rAdd_zero b' d w hd, hd, fun h => by omega⟩
  · have ek : (3652060 - (d + 1)).toNat = (3652059 - d).toNat := by omega
    rcases hit_or (gU off xs d) n (by omega) (3652059 - d).toNat with hm | ⟨s, hh⟩
    · exact .inr ⟨3, by omega, fun w L h => g_add_up_miss b off xs d n (p 3) w (L.cell 3 (by omega)) (plan_any b off xs v w h) hd (by omega) (by omega) (by rw [up_next, ek]; exact hm), fun w h => rAdd_up b' off xs v' d n 0 4 w h hd (by omega) (by omega) (fun w' h' => walkU_miss b' off xs v' d n w' h' d1 d2 (by omega) hm), fun _ => rfl⟩
    · have hs := hh.1
      have hh' : Hit (upG off xs (d + 1)) (3652060 - (d + 1)).toNat n s := by rw [up_next, ek]; exact hh
      refine .inl ⟨d + (s + 1), fun w h => ?_, fun w h => rAdd_up b' off xs v' d n (d + (s + 1)) 0 w h hd (by omega) (by omega) (fun w' h' => walkU_hit b' off xs v' d n s w' h' d1 d2 (by omega) hh), isDayB_iff.2 ⟨by omega, by omega⟩, fun _ => ⟨hd, s, by omega, hh'⟩⟩
      have h0 := g_add_up_hit b off xs d n s w (plan_any b off xs v w h) hd (by omega) (by omega) hh'
      rw [show d + 1 + (s : Int) = d + (s + 1) by omega] at h0
      exact h0

/-! So many lie between; so many back is the day, if that is a working one. -/
theorem add_count {off : Int → Bool} {xs : List Int} {d n x : Int} (h : AddFact off xs d n x) (hn : 1 ≤ n) : cntD off xs (d + 1) (x + 1) = n := by
  obtain ⟨hd, s, rfl, hh⟩ := h hn
  obtain ⟨d1, d2⟩ := isDayB_iff.1 hd
  have hs := hh.1
  unfold cntD cnt
  rw [if_neg (by omega), show max (d + 1) 1 = d + 1 by omega, show min (d + 1 + (s : Int) + 1) 3652060 = d + 1 + s + 1 by omega, show (d + 1 + (s : Int) + 1 - (d + 1)).toNat = s + 1 by omega]
  exact hh.eq.1
theorem add_back {off : Int → Bool} {xs : List Int} {d n x : Int} (h : AddFact off xs d n x) (hn : 1 ≤ n) (hw : works off xs d = true) : ∃ s : Nat, d = x - 1 - s ∧ Hit (dnG off xs (x - 1)) (x - 1).toNat n s := by
  obtain ⟨hd, s, rfl, hh⟩ := h hn
  obtain ⟨d1, d2⟩ := isDayB_iff.1 hd
  obtain ⟨e1, e2⟩ := hh.eq
  have hs : cn (upG off xs (d + 1)) s = n - 1 := by
    have : cn (upG off xs (d + 1)) (s + 1) = cn (upG off xs (d + 1)) s + (bif upG off xs (d + 1) s then 1 else 0) := rfl
    rw [e2, e1] at this
    simp only [cond_true] at this
    omega
  have hr := cn_rev (fun y => works off xs y) (d + s) s
  have eu : (fun i : Nat => works off xs (d + s - s + i + 1)) = upG off xs (d + 1) := by
    funext i; unfold upG; congr 1; omega
  have ed : (fun i : Nat => works off xs (d + s - i)) = dnG off xs (d + 1 + s - 1) := by
    funext i; unfold dnG; congr 1; omega
  rw [eu, ed, hs] at hr
  refine ⟨s, by omega, by omega, by omega, ?_⟩
  have h1 : cn (dnG off xs (d + 1 + s - 1)) (s + 1) = cn (dnG off xs (d + 1 + s - 1)) s + (bif dnG off xs (d + 1 + s - 1) s then 1 else 0) := rfl
  have h2 : dnG off xs (d + 1 + s - 1) s = true := by
    unfold dnG; rw [show d + 1 + (s : Int) - 1 - s = d by omega]; exact hw
  rw [h2, ← hr] at h1
  simp only [cond_true] at h1
  omega
theorem hit_5_3 : Hit (upG (fun _ => false) [] (5 + 1)) (3652060 - (5 + 1 : Int)).toNat 3 2 := by
  have e : ∀ i : Nat, i < 3 → upG (fun _ => false) [] (5 + 1) i = true := fun i hi => by
    have : i = 0 ∨ i = 1 ∨ i = 2 := by omega
    rcases this with rfl | rfl | rfl <;> decide
  refine ⟨by decide, ?_, ?_⟩
  · simp only [cn]; rw [e 0 (by omega), e 1 (by omega)]; decide
  · simp only [cn]; rw [e 0 (by omega), e 1 (by omega), e 2 (by omega)]; decide
end Go.Proofs.YtlebpojohaplnaaDoor

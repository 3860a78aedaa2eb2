/-
  Working days counted: holidaysAhead, count.
-/
import Derived.Test.YtpijiglmjkdlgaaDoorPlanNil
import Derived.Deep.RegionWith
namespace Go.Proofs.YtpijiglmjkdlgaaDoor
open Go.RowKit Go.Sort Go.Lib

/-- A plan of a calendar, as a value. -/
def IsPlan (w : World) (v : Value) (off : Int → Bool) (xs : List Int) : Prop := ∃ (a : Nat → Bool) (sv : Value), (∀ i : Nat, off i = a i) ∧ v = planV a (weekOf off) sv ∧ Row w sv (ready (hol off xs)) ∧ xs.length ≤ 100
theorem IsPlan.below {w w' : World} {v : Value} {off : Int → Bool} {xs : List Int} (h : IsPlan w v off xs) (hb : Below w.heap.size w w') : IsPlan w' v off xs := by
  obtain ⟨a, sv, h0, h1, h2, h3⟩ := h
  exact ⟨a, sv, h0, h1, h2.below hb, h3⟩

theorem plan_any (b : Nat) (off : Int → Bool) (xs : List Int) (v : Value) (w : World) (h : Cal w b off xs v) :
    Calls Tryd.prog 32 #[.pointer (some ⟨b, 0, none⟩)] w fun e w' => (∃ v', e = .returned v' ∧ IsPlan w' v' off xs) ∧ Below w.heap.size w w' := by
  cases hall : (List.range 7).all (fun i => off i)
  · rcases h.row with ⟨rfl, rfl⟩ | ⟨g, cap, rfl, hg, _, hx⟩
    · refine (plan_nil b off (fun i => off i) (fun i => rfl) w h hall).mono ?_
      rintro e w' ⟨⟨sv, rfl, hr⟩, hb⟩
      exact ⟨⟨_, rfl, _, sv, fun _ => rfl, rfl, hr, h.few⟩, hb⟩
    · refine (plan_some b off (fun i => off i) (fun i => rfl) xs g cap w h hg hx hall).mono ?_
      rintro e w' ⟨⟨sv, rfl, hr⟩, hb⟩
      exact ⟨⟨_, rfl, _, sv, fun _ => rfl, rfl, hr, h.few⟩, hb⟩
  · have ha : ∀ i : Nat, i < 7 → off i = true := fun i hi => List.all_eq_true.1 hall i (List.mem_range.2 hi)
    refine (plan_off b off (fun i => off i) (fun i => rfl) xs v w h hall).mono ?_
    rintro e w' ⟨rfl, hb⟩
    have h0 : weekOf off = 0 := cn_zero _ 7 (fun i hi => by show (!off i) = false; rw [ha i hi]; rfl)
    have h1 : hol off xs = [] := by
      unfold hol
      rw [List.filter_eq_nil_iff]
      intro n _
      obtain ⟨k, hk, hk7⟩ := wk_nat n
      rw [hk, ha k hk7]
      simp
    refine ⟨⟨_, rfl, fun i => off i, .slice none 0 0, fun _ => rfl, by rw [h0], .inl ⟨rfl, ?_⟩, h.few⟩, hb⟩
    rw [h1]
    simp [ready, Lib.compact, Lib.compactUpTo]

/-- Only draws, and blocks laid behind. -/
def Grn (w w' : World) : Prop := ∃ (q : Nat) (os : Array Obj), w' = grow (w.drewN q) os
theorem Grn.refl (w : World) : Grn w w := ⟨0, #[], by rw [grow_empty]; rfl⟩
theorem Grn.alloc {w w' : World} (h : Grn w w') (o : Obj) : Grn w (w'.alloc o) := by
  obtain ⟨q, os, rfl⟩ := h
  exact ⟨q, os ++ #[o], by rw [alloc_eq_grow, grow_grow]⟩
theorem Grn.drewN {w w' : World} (h : Grn w w') (n : Nat) : Grn w (w'.drewN n) := by
  obtain ⟨q, os, rfl⟩ := h
  exact ⟨q + n, os, by show grow ((w.drewN q).drewN n) os = _; rw [World.drewN_drewN]⟩
theorem Grn.drew {w w' : World} (h : Grn w w') : Grn w w'.drew := h.drewN 1
theorem Grn.trans {a b c : World} (h : Grn a b) (k : Grn b c) : Grn a c := by
  obtain ⟨q, os, rfl⟩ := h
  obtain ⟨r, ps, rfl⟩ := k
  exact ⟨q + r, os ++ ps, by show grow (grow ((a.drewN q).drewN r) os) ps = _; rw [grow_grow, World.drewN_drewN]⟩
theorem Grn.below {w w' : World} (h : Grn w w') : Below w.heap.size w w' := by
  obtain ⟨q, os, rfl⟩ := h
  exact (bdrewN (Below.refl _ _) q).trans (below_grow0 (w.drewN q) os)

theorem ready_len (xs : List Int) (off : Int → Bool) (h : xs.length ≤ 100) : (ready (hol off xs)).length ≤ 100 := by
  unfold ready
  have h1 := Lib.compact_length_le ((hol off xs).mergeSort fun x y => decide (x ≤ y))
  have h2 : ((hol off xs).mergeSort fun x y => decide (x ≤ y)).length = (hol off xs).length := List.length_mergeSort ..
  have h3 : (hol off xs).length ≤ xs.length := List.length_filter_le ..
  omega
theorem lt_bd (H : List Int) (x : Int) : 0 ≤ lt H x ∧ lt H x ≤ H.length := by
  unfold lt
  have := List.countP_le_length (p := fun y : Int => decide (y < x)) (l := H)
  omega

set_option maxHeartbeats 1000000 in
theorem ahead_any (v : Value) (off : Int → Bool) (xs : List Int) (x : Int) (w : World) (h : IsPlan w v off xs) :
    Calls Tryd.prog 96 #[v, .int .i64 x] w fun e w' => e = .returned (.int .i64 (lt (ready (hol off xs)) x)) ∧ Grn w w' := by
  obtain ⟨a, sv, _, rfl, hr, hl⟩ := h
  have HB : Hid (∀ o : Obj, ∃ vb, Calls Tryd.prog 97 #[sv, .int .i64 x] (w.alloc o) fun e w' => e = .returned (.tuple #[.int .i64 (lt (ready (hol off xs)) x), .bool vb]) ∧ ∃ q, w' = (w.alloc o).drewN q) := by
    intro o
    have hr' := hr.below ((Below.refl _ w).alloc (Nat.le_refl _) o)
    have hlen := ready_len xs off hl
    rcases hr' with ⟨rfl, he⟩ | ⟨g, cap, rfl, hg, hc, hx⟩
    · refine ⟨false, (Go.Proofs.Tryd.slices_BinarySearch_int_empty none 0 x _).mono ?_⟩
      rintro e w' ⟨rfl, rfl⟩
      refine ⟨by rw [he]; rfl, 0, rfl⟩
    · refine ⟨(ready (hol off xs)).contains x, (Go.Proofs.Tryd.slices_BinarySearch_int g 0 (ready (hol off xs)).length cap (ready (hol off xs)) x _ (Nat.le_refl _) (by omega) (fun j hj => by rw [Nat.zero_add]; exact hx j _ (getD_of hj)) (by rw [List.take_length]; exact ready_le _)).mono ?_⟩
      rintro e w' ⟨rfl, q, rfl⟩
      rw [List.take_length]
      exact ⟨rfl, q, rfl⟩
  have HR : Hid (∃ c : Option Addr × Nat × Nat, sv = Value.slice c.1 c.2.1 c.2.2) := by
    rcases hr with ⟨h, _⟩ | ⟨g, cap, h, _⟩
    · exact ⟨(none, 0, 0), h⟩
    · exact ⟨(some _, _, _), h⟩
  obtain ⟨⟨sa, sn, sc⟩, hsv⟩ := HR.out
  simp only at hsv
  subst hsv
  clear hr HR
  generalize lt (ready (hol off xs)) x = l at *
  unfold planV
  obtain ⟨vb, hb⟩ := HB.out (.cells #[.bool (a 0), .bool (a 1), .bool (a 2), .bool (a 3), .bool (a 4), .bool (a 5), .bool (a 6), .int .i64 (weekOf off), .slice sa sn sc] 75)
  have HC := hidIt hb
  clear hb HB
  go_enter Tryd.func96, Tryd.ntmps96
  go_wp2_with fail
  refine HC.out.mono ?_
  rintro e w1 ⟨rfl, q, ew⟩
  subst w1
  go_wp2
  go_ret
  exact ⟨rfl, ((Grn.refl w).alloc _).drewN q⟩

theorem plan_cell (w : World) (a : Nat → Bool) (k : Int) (sv : Value) (t : TypeId) (i : Nat) (hi : i < 7) : (w.alloc (.cells #[.bool (a 0), .bool (a 1), .bool (a 2), .bool (a 3), .bool (a 4), .bool (a 5), .bool (a 6), .int .i64 k, sv] t)).cell? ⟨w.heap.size, i, none⟩ = some (.bool (a i)) := by
  have h : i = 0 ∨ i = 1 ∨ i = 2 ∨ i = 3 ∨ i = 4 ∨ i = 5 ∨ i = 6 := by omega
  rcases h with rfl | rfl | rfl | rfl | rfl | rfl | rfl <;> simp
theorem prod_bd (q W : Int) (h1 : 0 ≤ q) (h2 : q ≤ 521723) (h3 : 0 ≤ W) (h4 : W ≤ 7) : 0 ≤ q * W ∧ q * W ≤ 3652061 := by
  refine ⟨Int.mul_nonneg h1 h3, ?_⟩
  have : q * W ≤ q * 7 := Int.mul_le_mul_of_nonneg_left h4 h1
  omega

set_option maxHeartbeats 4000000 in
set_option maxRecDepth 10000 in
theorem count_any (v : Value) (off : Int → Bool) (xs : List Int) (f t : Int) (w : World) (h : IsPlan w v off xs) (h1 : 1 ≤ f) (h2 : f ≤ t) (h3 : t ≤ 3652060) :
    Calls Tryd.prog 89 #[v, .int .i64 f, .int .i64 t] w fun e w' => e = .returned (.int .i64 (cn (fun i => works off xs (f + i)) (t - f).toNat)) ∧ Grn w w' := by
  have HAll := hidIt (fun x w' (hb : Grn w w') => ahead_any v off xs x w' (h.below hb.below))
  obtain ⟨a, sv, ha, hv, hr, hl⟩ := h
  have HA := hidIt ha
  clear ha
  have HR : Hid (∃ c : Option Addr × Nat × Nat, sv = Value.slice c.1 c.2.1 c.2.2) := by
    rcases hr with ⟨h, _⟩ | ⟨g, cap, h, _⟩
    · exact ⟨(none, 0, 0), h⟩
    · exact ⟨(some _, _, _), h⟩
  obtain ⟨⟨sa, sn, sc⟩, hsv⟩ := HR.out
  simp only at hsv
  subst hsv
  have hlen := ready_len xs off hl
  have l1 := lt_bd (ready (hol off xs)) t
  have l2 := lt_bd (ready (hol off xs)) f
  have HSum := hidIt (count_is off xs f (t - f).toNat h1 (by omega))
  obtain ⟨W0, W7⟩ := weekOf_bd off
  obtain ⟨p1, p2⟩ := prod_bd ((t - f) / 7) (weekOf off) (by omega) (by omega) W0 W7
  have HCell := hidIt (fun i hi => plan_cell w a (weekOf off) (.slice sa sn sc) 75 i hi)
  have HG := hidIt ((Grn.refl w).alloc (.cells #[.bool (a 0), .bool (a 1), .bool (a 2), .bool (a 3), .bool (a 4), .bool (a 5), .bool (a 6), .int .i64 (weekOf off), .slice sa sn sc] 75))
  have e1 : (((t - f).toNat / 7 : Nat) : Int) = (t - f) / 7 := by omega
  have e2 : (((t - f).toNat / 7 * 7 : Nat) : Int) = (t - f) / 7 * 7 := by omega
  have e3 : f + ((t - f).toNat : Int) = t := by omega
  rw [e1, e2, e3] at HSum
  clear e1 e2 e3 hr HR
  have HV := hidIt hv
  subst hv
  have HL := HAll
  clear HAll HV
  generalize lt (ready (hol off xs)) = L at *
  unfold planV at *
  go_enter Tryd.func89, Tryd.ntmps89
  go_wp2_with fail
  obtain ⟨W, hW⟩ : ∃ W : World, W = w.alloc (.cells #[.bool (a 0), .bool (a 1), .bool (a 2), .bool (a 3), .bool (a 4), .bool (a 5), .bool (a 6), .int .i64 (weekOf off), .slice sa sn sc] 75) := ⟨_, rfl⟩
  have HCW : Hid (∀ k : Nat, k < 7 → W.cell? ⟨w.heap.size, k, none⟩ = some (.bool (a k))) := by intro k hk; rw [hW]; exact HCell.out k hk
  have e7 : W.cell? ⟨w.heap.size, 7, none⟩ = some (.int .i64 (weekOf off)) := by rw [hW]; simp
  have e8 : W.cell? ⟨w.heap.size, 8, none⟩ = some (.slice sa sn sc) := by rw [hW]; simp
  have HGW : Hid (Grn w W) := by show Grn w W; rw [hW]; exact HG.out
  rw [← hW]
  clear hW HG HCell
  go_loop [8, 9] (fun n d => ∃ j : Nat, j ≤ (t - f).toNat % 7 ∧ d = .int .i64 (f + (t - f) / 7 * 7 + j) ∧ n = .int .i64 ((t - f) / 7 * weekOf off + cn (fun i => !off (wk (f + (t - f) / 7 * 7 + i))) j)) (fun _ d => (t - RowKit.intOf d).toNat)
  case atStart => exact ⟨0, by omega, by congr 1; omega, by congr 1; simp [cn]⟩
  case round =>
    obtain ⟨j, hj, rfl, rfl⟩ := hrel
    have cn0 := cn_nn (fun i => !off (wk (f + (t - f) / 7 * 7 + i))) j
    have cn1 := cn_le (fun i => !off (wk (f + (t - f) / 7 * 7 + i))) j
    by_cases hjr : j < (t - f).toNat % 7
    · obtain ⟨k, hk, hk7⟩ := wk_nat (f + (t - f) / 7 * 7 + j)
      have HW := hidIt (fun w => week_ok (f + (t - f) / 7 * 7 + j) w (by omega) (by omega))
      rw [hk] at HW
      have hck := HCW.out k hk7
      have HS : Hid (cn (fun i => !off (wk (f + (t - f) / 7 * 7 + i))) (j + 1) = cn (fun i => !off (wk (f + (t - f) / 7 * 7 + i))) j + (bif !a k then 1 else 0)) := by show _ = _; rw [cn, hk, HA.out]
      have hlt : f + (t - f) / 7 * 7 + j < t := by omega
      have hkz : (k : Int) < 7 := by omega
      clear hk
      generalize cn (fun i => !off (wk (f + (t - f) / 7 * 7 + i))) j = c at *
      generalize (t - f) / 7 * weekOf off = pr at *
      cases ho : a k
      · rw [ho] at HS
        rw [ho] at hck
        clear ho
        go_wp2_with fail
        refine (HW.out _).mono ?_
        rintro e w1 ⟨rfl, ew⟩
        subst w1
        go_wp2
        go_round
        case rel => exact ⟨j + 1, by omega, by first | go_num | (congr 1; omega), by rw [HS.out]; simp only [Bool.not_false, cond_true]; first | go_num | (congr 1; omega)⟩
        case measure => simp [RowKit.intOf]; omega
      · rw [ho] at HS
        rw [ho] at hck
        clear ho
        go_wp2_with fail
        refine (HW.out _).mono ?_
        rintro e w1 ⟨rfl, ew⟩
        subst w1
        go_wp2
        go_round
        case rel => exact ⟨j + 1, by omega, by first | go_num | (congr 1; omega), by rw [HS.out]; simp⟩
        case measure => simp [RowKit.intOf]; omega
    · obtain rfl : j = (t - f).toNat % 7 := by omega
      have hge : t ≤ f + (t - f) / 7 * 7 + (((t - f).toNat % 7 : Nat) : Int) := by omega
      have e0 := HCW.out 0 (by omega)
      have e1 := HCW.out 1 (by omega)
      have e2 := HCW.out 2 (by omega)
      have e3 := HCW.out 3 (by omega)
      have e4 := HCW.out 4 (by omega)
      have e5 := HCW.out 5 (by omega)
      have e6 := HCW.out 6 (by omega)
      generalize cn (fun i => !off (wk (f + (t - f) / 7 * 7 + i))) ((t - f).toNat % 7) = c at *
      generalize (t - f) / 7 * weekOf off = pr at *
      have hgw := Grn.refl W
      have HC9 : Hid (∀ w', Grn W w' → w'.cell? ⟨w.heap.size, 0, none⟩ = some (.bool (a 0)) ∧ w'.cell? ⟨w.heap.size, 1, none⟩ = some (.bool (a 1)) ∧ w'.cell? ⟨w.heap.size, 2, none⟩ = some (.bool (a 2)) ∧ w'.cell? ⟨w.heap.size, 3, none⟩ = some (.bool (a 3)) ∧ w'.cell? ⟨w.heap.size, 4, none⟩ = some (.bool (a 4)) ∧ w'.cell? ⟨w.heap.size, 5, none⟩ = some (.bool (a 5)) ∧ w'.cell? ⟨w.heap.size, 6, none⟩ = some (.bool (a 6)) ∧ w'.cell? ⟨w.heap.size, 7, none⟩ = some (.int .i64 (weekOf off)) ∧ w'.cell? ⟨w.heap.size, 8, none⟩ = some (.slice sa sn sc)) := by
        intro w' hg
        have hb := hg.below
        have hlt : w.heap.size < W.heap.size := by
          rcases Nat.lt_or_ge w.heap.size W.heap.size with k | k
          · exact k
          · simp [World.cell?, Array.getElem?_eq_none k] at e7
        exact ⟨(hb.cell hlt).trans e0, (hb.cell hlt).trans e1, (hb.cell hlt).trans e2, (hb.cell hlt).trans e3, (hb.cell hlt).trans e4, (hb.cell hlt).trans e5, (hb.cell hlt).trans e6, (hb.cell hlt).trans e7, (hb.cell hlt).trans e8⟩
      have HM : Hid (∀ x w', Grn W w' → Calls Tryd.prog 96 #[.agg #[.bool (a 0), .bool (a 1), .bool (a 2), .bool (a 3), .bool (a 4), .bool (a 5), .bool (a 6), .int .i64 (weekOf off), .slice sa sn sc], .int .i64 x] w' fun e w'' => e = .returned (.int .i64 (L x)) ∧ Grn W w'') := fun x w' hg => by
        refine (HL.out x w' (HGW.out.trans hg)).mono ?_
        rintro e w2 ⟨rfl, hg2⟩
        exact ⟨rfl, hg.trans hg2⟩
      have y1 : IntKind.i64.wrap (pr + c - L t) = pr + c - L t := by rw [IntKind.wrap_i64]; omega
      have y2 : IntKind.i64.wrap (pr + c - L t + L f) = pr + c - L t + L f := by rw [IntKind.wrap_i64]; omega
      clear HL
      go_wp2_with fail
      go_region_with (go_at_call 96; refine (HM.out _ _ ?_).mono ?_; (· first | assumption | exact Grn.drew (by assumption) | exact Grn.drewN (by assumption) _); rintro e w2 ⟨rfl, hg2⟩; obtain ⟨q0, q1, q2, q3, q4, q5, q6, q7, q8⟩ := HC9.out _ hg2)
      all_goals
        go_wp2
        go_ret
        exact ⟨ret_int HSum.out.symm, HGW.out.trans (by assumption)⟩
end Go.Proofs.YtpijiglmjkdlgaaDoor

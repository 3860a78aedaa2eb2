/-
  plan.later, plan.earlier by contracts (written by tools/gensearch2.py).
-/
import Derived.Test.YtpijiglmjkdlgaaDoorSearch
namespace Go.Proofs.YtpijiglmjkdlgaaDoor
open Go.RowKit Go.Sort Go.Lib

theorem ret2 {a b : Int} (x : Value) (h : a = b) : Ending.returned (.tuple #[.int .i64 a, x]) = .returned (.tuple #[.int .i64 b, x]) := by rw [h]
theorem en_up : ∀ args w, (callFunc 88 args).run Tryd.prog w = .ok (.enter 88 args) w := Go.Proofs.enters_of Tryd.func88 (by kernel_rfl) rfl
theorem en_dn : ∀ args w, (callFunc 90 args).run Tryd.prog w = .ok (.enter 90 args) w := Go.Proofs.enters_of Tryd.func90 (by kernel_rfl) rfl

theorem search_up (off : Int → Bool) (xs : List Int) (f n : Int) (bp bf bn : Nat) (a : Nat → Bool) (sa : Option Addr) (sn sc : Nat) (W : World) (hp : IsPlan W (planV a (weekOf off) (.slice sa sn sc)) off xs) (hbx : Boxed W bp bf bn a (weekOf off) (.slice sa sn sc) f n) (h1 : 1 ≤ f) (h2 : f ≤ 3652060) (s : Nat) (hs : (List.range (3652060 - f).toNat).countP (fun i => !decide (n ≤ cn (upG off xs f) (i + 1))) = s) :
    Calls Tryd.prog 87 #[.int .i64 (3652060 - f), .func (.func 88) #[] #[.pointer (some ⟨bp, 0, none⟩), .pointer (some ⟨bf, 0, none⟩), .pointer (some ⟨bn, 0, none⟩)]] W fun e w' => e = .returned (.int .i64 s) ∧ Grn W w' := by
  have h := Any.sort_Search Go.Proofs.Tryd.laysO16 88 #[.pointer (some ⟨bp, 0, none⟩), .pointer (some ⟨bf, 0, none⟩), .pointer (some ⟨bn, 0, none⟩)] (3652060 - f).toNat (fun i => decide (n ≤ cn (upG off xs f) (i + 1))) W en_up (by omega)
    (fun m os i hi => by
      have hg : Grn W (grow (W.drewN m) os) := ⟨m, os, rfl⟩
      refine (clos_up off xs f n bp bf bn a sa sn sc i _ (hp.below hg.below) (hbx.grn hg) (by omega) (by omega)).mono ?_
      rintro e w2 ⟨rfl, q, os', rfl⟩
      exact ⟨rfl, q, os', rfl⟩)
    (fun i j hij hj hi => by
      have := cn_mono (upG off xs f) (i + 1) (j + 1) (by omega)
      simp only [decide_eq_true_eq] at hi ⊢
      omega)
  rw [hs, show (((3652060 - f).toNat : Nat) : Int) = (3652060 - f) by omega] at h
  refine h.mono ?_
  rintro e w2 ⟨rfl, q, os, rfl⟩
  exact ⟨rfl, q, os, rfl⟩

set_option maxHeartbeats 2000000 in
theorem later_hit (v : Value) (off : Int → Bool) (xs : List Int) (f n : Int) (s : Nat) (w : World) (h : IsPlan w v off xs) (h1 : 1 ≤ f) (h2 : f ≤ 3652060) (hh : Hit (upG off xs f) (3652060 - f).toNat n s) :
    Calls Tryd.prog 76 #[v, .int .i64 f, .int .i64 n] w fun e w' => e = .returned (.tuple #[.int .i64 (f + s), .nilIface]) ∧ Below w.heap.size w w' := by
  obtain ⟨a, sv, ha, hv, hr, hl⟩ := h
  obtain ⟨⟨sa, sn, sc⟩, hsv⟩ := agg_slice hr
  simp only at hsv
  subst hsv
  have hg := (((Grn.refl w).alloc (.cells #[.bool (a 0), .bool (a 1), .bool (a 2), .bool (a 3), .bool (a 4), .bool (a 5), .bool (a 6), .int .i64 (weekOf off), .slice sa sn sc] 75)).alloc (.cells #[.int .i64 f] 3)).alloc (.cells #[.int .i64 n] 3)
  have HB := hidIt (boxed_mk w a (weekOf off) (.slice sa sn sc) f n 75 3 3)
  have hs := hh.1
  have HS := hidIt (search_up off xs f n w.heap.size (w.heap.size + 1) (w.heap.size + 2) a sa sn sc _ (IsPlan.below ⟨a, _, ha, rfl, hr, hl⟩ hg.below) HB.out (by omega) (by omega) s (search_hit hh))
  have HG := hidIt hg
  clear hg hr hh ha
  subst hv
  unfold planV
  have hne : ((s : Int) == (3652060 - f)) = false := by simp; omega
  go_enter Tryd.func76, Tryd.ntmps76
  go_wp2_with fail
  refine HS.out.mono ?_
  rintro e w1 ⟨rfl, hg1⟩
  have HG1 := hidIt (HG.out.trans hg1)
  obtain ⟨_, _, _, _, _, _, _, _, _, q9, q10⟩ := HB.out w1 hg1
  clear hg1
  go_wp2
  go_ret2
  exact ⟨rfl, HG1.out.below⟩

set_option maxHeartbeats 2000000 in
theorem later_miss (v : Value) (off : Int → Bool) (xs : List Int) (f n : Int) (ad : Addr) (w : World) (hc : w.cell? ⟨0, 0, none⟩ = some (.iface 134 (.pointer (some ad)))) (h : IsPlan w v off xs) (h1 : 1 ≤ f) (h2 : f ≤ 3652060) (hh : cn (upG off xs f) (3652060 - f).toNat < n) :
    Calls Tryd.prog 76 #[v, .int .i64 f, .int .i64 n] w fun e w' => e = .returned (.tuple #[.int .i64 0, .iface 134 (.pointer (some ad))]) ∧ Below w.heap.size w w' := by
  obtain ⟨a, sv, ha, hv, hr, hl⟩ := h
  obtain ⟨⟨sa, sn, sc⟩, hsv⟩ := agg_slice hr
  simp only at hsv
  subst hsv
  have hg := (((Grn.refl w).alloc (.cells #[.bool (a 0), .bool (a 1), .bool (a 2), .bool (a 3), .bool (a 4), .bool (a 5), .bool (a 6), .int .i64 (weekOf off), .slice sa sn sc] 75)).alloc (.cells #[.int .i64 f] 3)).alloc (.cells #[.int .i64 n] 3)
  have HB := hidIt (boxed_mk w a (weekOf off) (.slice sa sn sc) f n 75 3 3)
  have HS := hidIt (search_up off xs f n w.heap.size (w.heap.size + 1) (w.heap.size + 2) a sa sn sc _ (IsPlan.below ⟨a, _, ha, rfl, hr, hl⟩ hg.below) HB.out (by omega) (by omega) _ (search_miss hh))
  rw [show (((3652060 - f).toNat : Nat) : Int) = (3652060 - f) by omega] at HS
  have HG := hidIt hg
  have HC := hidIt hc
  have hlt : 0 < w.heap.size := by
    rcases Nat.lt_or_ge 0 w.heap.size with k | k
    · exact k
    · simp [World.cell?, Array.getElem?_eq_none k] at hc
  clear hg hr hh ha hc
  subst hv
  unfold planV
  go_enter Tryd.func76, Tryd.ntmps76
  go_wp2_with fail
  refine HS.out.mono ?_
  rintro e w1 ⟨rfl, hg1⟩
  have HG1 := hidIt (HG.out.trans hg1)
  have hce := (HG1.out.below.cell (p := ⟨0, 0, none⟩) hlt).trans HC.out
  obtain ⟨_, _, _, _, _, _, _, _, _, q9, q10⟩ := HB.out w1 hg1
  clear hg1
  go_wp2
  go_quiet (fail)
  go_wp2
  go_ret2
  exact ⟨rfl, bdrewN HG1.out.below _⟩

theorem search_dn (off : Int → Bool) (xs : List Int) (f n : Int) (bp bf bn : Nat) (a : Nat → Bool) (sa : Option Addr) (sn sc : Nat) (W : World) (hp : IsPlan W (planV a (weekOf off) (.slice sa sn sc)) off xs) (hbx : Boxed W bp bf bn a (weekOf off) (.slice sa sn sc) f n) (h1 : 0 ≤ f) (h2 : f ≤ 3652059) (s : Nat) (hs : (List.range f.toNat).countP (fun i => !decide (n ≤ cn (dnG off xs f) (i + 1))) = s) :
    Calls Tryd.prog 87 #[.int .i64 f, .func (.func 90) #[] #[.pointer (some ⟨bp, 0, none⟩), .pointer (some ⟨bf, 0, none⟩), .pointer (some ⟨bn, 0, none⟩)]] W fun e w' => e = .returned (.int .i64 s) ∧ Grn W w' := by
  have h := Any.sort_Search Go.Proofs.Tryd.laysO16 90 #[.pointer (some ⟨bp, 0, none⟩), .pointer (some ⟨bf, 0, none⟩), .pointer (some ⟨bn, 0, none⟩)] f.toNat (fun i => decide (n ≤ cn (dnG off xs f) (i + 1))) W en_dn (by omega)
    (fun m os i hi => by
      have hg : Grn W (grow (W.drewN m) os) := ⟨m, os, rfl⟩
      refine (clos_dn off xs f n bp bf bn a sa sn sc i _ (hp.below hg.below) (hbx.grn hg) (by omega) (by omega)).mono ?_
      rintro e w2 ⟨rfl, q, os', rfl⟩
      exact ⟨rfl, q, os', rfl⟩)
    (fun i j hij hj hi => by
      have := cn_mono (dnG off xs f) (i + 1) (j + 1) (by omega)
      simp only [decide_eq_true_eq] at hi ⊢
      omega)
  rw [hs, show ((f.toNat : Nat) : Int) = f by omega] at h
  refine h.mono ?_
  rintro e w2 ⟨rfl, q, os, rfl⟩
  exact ⟨rfl, q, os, rfl⟩

set_option maxHeartbeats 2000000 in
theorem earlier_hit (v : Value) (off : Int → Bool) (xs : List Int) (f n : Int) (s : Nat) (w : World) (h : IsPlan w v off xs) (h1 : 0 ≤ f) (h2 : f ≤ 3652059) (hh : Hit (dnG off xs f) f.toNat n s) :
    Calls Tryd.prog 77 #[v, .int .i64 f, .int .i64 n] w fun e w' => e = .returned (.tuple #[.int .i64 (f - s), .nilIface]) ∧ Below w.heap.size w w' := by
  obtain ⟨a, sv, ha, hv, hr, hl⟩ := h
  obtain ⟨⟨sa, sn, sc⟩, hsv⟩ := agg_slice hr
  simp only at hsv
  subst hsv
  have hg := (((Grn.refl w).alloc (.cells #[.bool (a 0), .bool (a 1), .bool (a 2), .bool (a 3), .bool (a 4), .bool (a 5), .bool (a 6), .int .i64 (weekOf off), .slice sa sn sc] 75)).alloc (.cells #[.int .i64 f] 3)).alloc (.cells #[.int .i64 n] 3)
  have HB := hidIt (boxed_mk w a (weekOf off) (.slice sa sn sc) f n 75 3 3)
  have hs := hh.1
  have HS := hidIt (search_dn off xs f n w.heap.size (w.heap.size + 1) (w.heap.size + 2) a sa sn sc _ (IsPlan.below ⟨a, _, ha, rfl, hr, hl⟩ hg.below) HB.out (by omega) (by omega) s (search_hit hh))
  have HG := hidIt hg
  clear hg hr hh ha
  subst hv
  unfold planV
  have hne : ((s : Int) == f) = false := by simp; omega
  go_enter Tryd.func77, Tryd.ntmps77
  go_wp2_with fail
  refine HS.out.mono ?_
  rintro e w1 ⟨rfl, hg1⟩
  have HG1 := hidIt (HG.out.trans hg1)
  obtain ⟨_, _, _, _, _, _, _, _, _, q9, q10⟩ := HB.out w1 hg1
  clear hg1
  go_wp2
  go_ret2
  exact ⟨rfl, HG1.out.below⟩

set_option maxHeartbeats 2000000 in
theorem earlier_miss (v : Value) (off : Int → Bool) (xs : List Int) (f n : Int) (ad : Addr) (w : World) (hc : w.cell? ⟨0, 0, none⟩ = some (.iface 134 (.pointer (some ad)))) (h : IsPlan w v off xs) (h1 : 0 ≤ f) (h2 : f ≤ 3652059) (hh : cn (dnG off xs f) f.toNat < n) :
    Calls Tryd.prog 77 #[v, .int .i64 f, .int .i64 n] w fun e w' => e = .returned (.tuple #[.int .i64 0, .iface 134 (.pointer (some ad))]) ∧ Below w.heap.size w w' := by
  obtain ⟨a, sv, ha, hv, hr, hl⟩ := h
  obtain ⟨⟨sa, sn, sc⟩, hsv⟩ := agg_slice hr
  simp only at hsv
  subst hsv
  have hg := (((Grn.refl w).alloc (.cells #[.bool (a 0), .bool (a 1), .bool (a 2), .bool (a 3), .bool (a 4), .bool (a 5), .bool (a 6), .int .i64 (weekOf off), .slice sa sn sc] 75)).alloc (.cells #[.int .i64 f] 3)).alloc (.cells #[.int .i64 n] 3)
  have HB := hidIt (boxed_mk w a (weekOf off) (.slice sa sn sc) f n 75 3 3)
  have HS := hidIt (search_dn off xs f n w.heap.size (w.heap.size + 1) (w.heap.size + 2) a sa sn sc _ (IsPlan.below ⟨a, _, ha, rfl, hr, hl⟩ hg.below) HB.out (by omega) (by omega) _ (search_miss hh))
  rw [show ((f.toNat : Nat) : Int) = f by omega] at HS
  have HG := hidIt hg
  have HC := hidIt hc
  have hlt : 0 < w.heap.size := by
    rcases Nat.lt_or_ge 0 w.heap.size with k | k
    · exact k
    · simp [World.cell?, Array.getElem?_eq_none k] at hc
  clear hg hr hh ha hc
  subst hv
  unfold planV
  go_enter Tryd.func77, Tryd.ntmps77
  go_wp2_with fail
  refine HS.out.mono ?_
  rintro e w1 ⟨rfl, hg1⟩
  have HG1 := hidIt (HG.out.trans hg1)
  have hce := (HG1.out.below.cell (p := ⟨0, 0, none⟩) hlt).trans HC.out
  obtain ⟨_, _, _, _, _, _, _, _, _, q9, q10⟩ := HB.out w1 hg1
  clear hg1
  go_wp2
  go_quiet (fail)
  go_wp2
  go_ret2
  exact ⟨rfl, bdrewN HG1.out.below _⟩
end Go.Proofs.YtpijiglmjkdlgaaDoor

/-
  A calendar without holidays made ready: day.plan (written by tools/genplan2.py).
-/
import Derived.Test.YtpijiglmjkdlgaaDoorPlanSome
namespace Go.Proofs.YtpijiglmjkdlgaaDoor
open Go.RowKit Go.Sort Go.Lib

set_option maxHeartbeats 8000000 in
set_option maxRecDepth 10000 in
theorem plan_nil (b : Nat) (off : Int → Bool) (a : Nat → Bool) (ha : ∀ i : Nat, off i = a i) (w : World) (h : Cal w b off [] (.slice none 0 0)) (hall : (List.range 7).all a = false) :
    Calls Tryd.prog 32 #[.pointer (some ⟨b, 0, none⟩)] w fun e w' => (∃ sv, e = .returned (planV a (cn (nb a) 7) sv) ∧ Row w' sv (ready [])) ∧ Below w.heap.size w w' := by
  have hlt := h.lt
  have c0 := (h.day 0 (by omega)).trans (congrArg some (congrArg Value.bool (ha 0)))
  have c1 := (h.day 1 (by omega)).trans (congrArg some (congrArg Value.bool (ha 1)))
  have c2 := (h.day 2 (by omega)).trans (congrArg some (congrArg Value.bool (ha 2)))
  have c3 := (h.day 3 (by omega)).trans (congrArg some (congrArg Value.bool (ha 3)))
  have c4 := (h.day 4 (by omega)).trans (congrArg some (congrArg Value.bool (ha 4)))
  have c5 := (h.day 5 (by omega)).trans (congrArg some (congrArg Value.bool (ha 5)))
  have c6 := (h.day 6 (by omega)).trans (congrArg some (congrArg Value.bool (ha 6)))
  have heq := eq7 a
  rw [hall] at heq
  have HSl := hidIt h.sl
  clear h ha hall
  go_enter Tryd.func32, Tryd.ntmps32
  go_wp2_with fail
  go_loopw [23] (fun t wr => ∃ i : Nat, i ≤ 7 ∧ t = .int .i64 i ∧ PS w wr a (cn (nb a) i) (.slice none 0 0)) (fun t _ => (7 - RowKit.intOf t).toNat)
  case atStart => exact ⟨0, by omega, rfl, PS.start w a _⟩
  case round =>
    obtain ⟨i, hi, rfl, hps⟩ := hrel
    have HPS := hidIt hps
    have hw7 := hps.wk
    have hf7 := hps.f7
    clear hps
    by_cases hi7 : i < 7
    · have HS := hidIt (nb_step a i)
      have hidx := idx7 a i hi7
      have hn := cn_nn (nb a) i
      have hm := cn_le (nb a) i
      have hiz : (i : Int) < 7 := by omega
      generalize hc : cn (nb a) i = c at *
      clear hc
      cases ho : a i
      · rw [ho] at HS hidx
        clear ho
        go_wp2
        refine ⟨⟨i + 1, by omega, by go_num, ?_⟩, by simp [RowKit.intOf]; omega⟩
        rw [HS.out]
        exact HPS.out.setWk (c + 1)
      · rw [ho] at HS hidx
        clear ho
        go_wp2
        refine ⟨⟨i + 1, by omega, by go_num, ?_⟩, by simp [RowKit.intOf]; omega⟩
        rw [HS.out]
        simpa using HPS.out
    · obtain rfl : i = 7 := by omega
      clear hw7 hf7 hi7
      have hsl := HPS.out.sl
      have hcv := (HPS.out.bel.cell (p := ⟨b, 7, none⟩) hlt).trans HSl.out
      have HP2 := HPS
      have HO2 : Hid (wr.ownsRow (w.heap.size + 2) 3 1 (.slice none 0 0) ([] : List Int).length (([] : List Int).map (Value.int .i64))) := World.ownsRow_nil _ _ _ _
      go_wp2_with fail
      go_loopw [38] (fun t wr' => t = .int .i64 0 ∧ wr' = wr) (fun _ _ => 0)
      case atStart => exact ⟨rfl, rfl⟩
      case round =>
        obtain ⟨rfl, rfl⟩ := hrel
        clear hcv
        go_wp2_with fail
        refine (sort_row w wr a (cn (nb a) 7) (.slice none 0 0) [] HP2.out HO2.out (by simp)).mono ?_
        rintro e w1 ⟨rfl, hp3, hs3⟩
        have HP3 := hidIt hp3
        have HS3 := hidIt hs3
        have hsl3 := hp3.sl
        clear hp3 hs3
        go_wp2_with fail
        refine (compact_row w w1 a (cn (nb a) 7) (.slice none 0 0) [] HP3.out HS3.out (by simp)).mono ?_
        rintro e w2 ⟨sv', rfl, hp4, hr4⟩
        have HP5 := hidIt (hp4.setSl sv')
        have HR5 := hidIt (hr4.set ⟨w.heap.size + 1, 8, none⟩ (by simp) sv')
        have hsl4 := hp4.sl
        have hf84 := hp4.f8
        clear hp4 hr4 hsl3
        obtain ⟨cv, hcv'⟩ : ∃ c : Option Addr × Nat × Nat, sv' = Value.slice c.1 c.2.1 c.2.2 := by
          rcases HR5.out with ⟨h, _⟩ | ⟨g5, cap5, h, _⟩
          · exact ⟨(none, 0, 0), h⟩
          · exact ⟨(some _, _, _), h⟩
        obtain ⟨sa, sn, sc⟩ := cv
        simp only at hcv'
        subst hcv'
        go_upto_region 20 with fail
        obtain ⟨W, hW⟩ : ∃ W : World, W = w2.setCell ⟨w.heap.size + 1, 8, none⟩ (.slice sa sn sc) := ⟨_, rfl⟩
        rw [← hW] at HP5 HR5 ⊢
        clear hW hsl4 hf84
        have e0 := HP5.out.day 0 (by omega)
        have e1 := HP5.out.day 1 (by omega)
        have e2 := HP5.out.day 2 (by omega)
        have e3 := HP5.out.day 3 (by omega)
        have e4 := HP5.out.day 4 (by omega)
        have e5 := HP5.out.day 5 (by omega)
        have e6 := HP5.out.day 6 (by omega)
        have e7 := HP5.out.wk
        have e8 := HP5.out.sl
        obtain ⟨⟨u0, r0⟩, g0⟩ := HP5.out.res 0 (by omega)
        obtain ⟨⟨u1, r1⟩, g1⟩ := HP5.out.res 1 (by omega)
        obtain ⟨⟨u2, r2⟩, g2⟩ := HP5.out.res 2 (by omega)
        obtain ⟨⟨u3, r3⟩, g3⟩ := HP5.out.res 3 (by omega)
        obtain ⟨⟨u4, r4⟩, g4⟩ := HP5.out.res 4 (by omega)
        obtain ⟨⟨u5, r5⟩, g5⟩ := HP5.out.res 5 (by omega)
        obtain ⟨⟨u6, r6⟩, g6⟩ := HP5.out.res 6 (by omega)
        obtain ⟨⟨u7, r7⟩, g7⟩ := HP5.out.res 7 (by omega)
        obtain ⟨⟨u8, r8⟩, g8⟩ := HP5.out.res 8 (by omega)
        clear c0 c1 c2 c3 c4 c5 c6 heq HSl
        go_wp2
        change bodyPost Tryd.prog Tryd.f32 _ Exit.ret _ (setN W w.heap.size (planX a (cn (nb a) 7) (.slice sa sn sc)) 9)
        have HK := setN_cell W w.heap.size (planX a (cn (nb a) 7) (.slice sa sn sc)) 9 (fun i hi => (HP5.out.res i hi).1)
        have HRow := hidIt (RowAt.row (setN_row HR5.out w.heap.size (by omega) (planX a (cn (nb a) 7) (.slice sa sn sc)) 9))
        have HBel := hidIt (setN_below HP5.out.bel w.heap.size (Nat.le_refl _) (planX a (cn (nb a) 7) (.slice sa sn sc)) 9)
        have k0 := HK 0 (by omega)
        have k1 := HK 1 (by omega)
        have k2 := HK 2 (by omega)
        have k3 := HK 3 (by omega)
        have k4 := HK 4 (by omega)
        have k5 := HK 5 (by omega)
        have k6 := HK 6 (by omega)
        have k7 := HK 7 (by omega)
        have k8 := HK 8 (by omega)
        clear HK
        generalize setN W w.heap.size (planX a (cn (nb a) 7) (.slice sa sn sc)) 9 = W9 at *
        simp only [planX] at k0 k1 k2 k3 k4 k5 k6 k7 k8
        clear r0 r1 r2 r3 r4 r5 r6 r7 r8 g0 g1 g2 g3 g4 g5 g6 g7 g8 e0 e1 e2 e3 e4 e5 e6 e7 e8
        exact bodyPost_ret (v := planV a (cn (nb a) 7) (.slice sa sn sc)) (by simp [results, Tryd.results32, go_sem, planV, k0, k1, k2, k3, k4, k5, k6, k7, k8]) rfl ⟨⟨_, rfl, HRow.out⟩, HBel.out⟩
end Go.Proofs.YtpijiglmjkdlgaaDoor

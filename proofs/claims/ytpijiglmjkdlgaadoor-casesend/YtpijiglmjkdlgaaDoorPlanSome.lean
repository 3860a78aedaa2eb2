/-
  A calendar made ready: day.plan, its two loops (written by tools/genplan2.py).
-/
import Derived.Test.YtpijiglmjkdlgaaDoorPlanSz
namespace Go.Proofs.YtpijiglmjkdlgaaDoor
open Go.RowKit Go.Sort Go.Lib

/-- n cells written behind one another. -/
def setN (W : World) (r : Nat) (x : Nat → Value) : Nat → World
  | 0 => W
  | n + 1 => (setN W r x n).setCell ⟨r, n, none⟩ (x n)
theorem setN_cell (W : World) (r : Nat) (x : Nat → Value) : ∀ n : Nat, (∀ i, i < n → ∃ u, W.cell? ⟨r, i, none⟩ = some u) → ∀ i, i < n → (setN W r x n).cell? ⟨r, i, none⟩ = some (x i)
  | 0, _, i, hi => by omega
  | n + 1, h, i, hi => by
    have old : ∀ m : Nat, ∀ j, m ≤ j → (setN W r x m).cell? ⟨r, j, none⟩ = W.cell? ⟨r, j, none⟩ := by
      intro m
      induction m with
      | zero => intro j _; rfl
      | succ m ih =>
        intro j hj
        rw [setN, World.cell?_setCell_other _ _ _ _ (by intro e; injection e; omega)]
        exact ih j (by omega)
    rw [setN]
    rcases Nat.lt_or_ge i n with k | k
    · rw [World.cell?_setCell_other _ _ _ _ (by intro e; injection e; omega)]
      exact setN_cell W r x n (fun j hj => h j (by omega)) i k
    · obtain rfl : i = n := by omega
      obtain ⟨u, hu⟩ := h i (by omega)
      exact World.cell?_setCell_same _ _ _ (u := u) (by rw [old i i (Nat.le_refl _)]; exact hu)
theorem setN_row {B : Nat} {W : World} {v : Value} {ys : List Int} (h : RowAt B W v ys) (r : Nat) (hr : r < B) (x : Nat → Value) : ∀ n : Nat, RowAt B (setN W r x n) v ys
  | 0 => h
  | n + 1 => (setN_row h r hr x n).set _ hr _
theorem setN_below {B : Nat} {w W : World} (h : Below B w W) (r : Nat) (hr : B ≤ r) (x : Nat → Value) : ∀ n : Nat, Below B w (setN W r x n)
  | 0 => h
  | n + 1 => (setN_below h r hr x n).setCell hr _
def planX (a : Nat → Bool) (k : Int) (sv : Value) : Nat → Value
  | 0 => .bool (a 0)
  | 1 => .bool (a 1)
  | 2 => .bool (a 2)
  | 3 => .bool (a 3)
  | 4 => .bool (a 4)
  | 5 => .bool (a 5)
  | 6 => .bool (a 6)
  | 7 => .int .i64 k
  | _ => sv


theorem Tryd.infoInt : ∃ i z, Tryd.prog.info? 3 = some i ∧ i.zero = some z ∧ i.size = 1 ∧ i.bytes = 8 ∧ z.cells.size = 1 := by
  have h : (Tryd.prog.info? 3).map (fun i => (i.zero, i.size, i.bytes)) = some (some (.int .i64 0), 1, 8) := by kernel_rfl
  obtain ⟨i, h1, h2⟩ := Option.map_eq_some_iff.1 h
  simp only [Prod.mk.injEq] at h2
  exact ⟨i, _, h1, h2.1, h2.2.1, h2.2.2, rfl⟩
/-- The holidays that count, of the first i. -/
def taken (off : Int → Bool) (xs : List Int) (i : Nat) : List Int := hol off (xs.take i)
theorem taken_step (off : Int → Bool) (xs : List Int) (i : Nat) (x : Int) (h : xs[i]? = some x) : taken off xs (i + 1) = taken off xs i ++ (bif isDayB x && !off (wk x) then [x] else []) := by
  obtain ⟨hi, e⟩ := List.getElem?_eq_some_iff.1 h
  unfold taken hol
  rw [List.take_succ_eq_append_getElem hi, List.filter_append, e]
  cases hb : (isDayB x && !off (wk x)) <;> simp [hb]
theorem taken_all (off : Int → Bool) (xs : List Int) (i : Nat) (h : xs.length ≤ i) : taken off xs i = hol off xs := by
  unfold taken
  rw [List.take_of_length_le h]
theorem taken_len (off : Int → Bool) (xs : List Int) (i : Nat) : (taken off xs i).length ≤ xs.length := by
  unfold taken hol
  refine Nat.le_trans (List.length_filter_le ..) ?_
  rw [List.length_take]; omega

/-- Behind i holidays. -/
inductive Lp (w : World) (a : Nat → Bool) (off : Int → Bool) (xs : List Int) (m : Nat) (t : Value) (wr : World) : Prop
  | mk (i : Nat) (sv : Value) (h1 : i ≤ m) (h2 : t = .int .i64 i) (h3 : PS w wr a (cn (nb a) 7) sv) (h4 : wr.ownsRow (w.heap.size + 2) 3 1 sv (taken off xs i).length ((taken off xs i).map (Value.int .i64)))

set_option maxHeartbeats 8000000 in
set_option maxRecDepth 10000 in
theorem plan_some (b : Nat) (off : Int → Bool) (a : Nat → Bool) (ha : ∀ i : Nat, off i = a i) (xs : List Int) (g cap : Nat) (w : World) (h : Cal w b off xs (.slice (some ⟨g, 0, none⟩) xs.length cap)) (hg : g < w.heap.size) (hx : ∀ (j : Nat) (x : Int), xs[j]? = some x → w.cell? ⟨g, j, none⟩ = some (.int .i64 x)) (hall : (List.range 7).all a = false) :
    Calls Tryd.prog 32 #[.pointer (some ⟨b, 0, none⟩)] w fun e w' => (∃ sv, e = .returned (planV a (cn (nb a) 7) sv) ∧ Row w' sv (ready (hol off xs))) ∧ Below w.heap.size w w' := by
  have hlt := h.lt
  have c0 := (h.day 0 (by omega)).trans (congrArg some (congrArg Value.bool (ha 0)))
  have c1 := (h.day 1 (by omega)).trans (congrArg some (congrArg Value.bool (ha 1)))
  have c2 := (h.day 2 (by omega)).trans (congrArg some (congrArg Value.bool (ha 2)))
  have c3 := (h.day 3 (by omega)).trans (congrArg some (congrArg Value.bool (ha 3)))
  have c4 := (h.day 4 (by omega)).trans (congrArg some (congrArg Value.bool (ha 4)))
  have c5 := (h.day 5 (by omega)).trans (congrArg some (congrArg Value.bool (ha 5)))
  have c6 := (h.day 6 (by omega)).trans (congrArg some (congrArg Value.bool (ha 6)))
  have heq := eq7 a
  rw [hall] at heq
  have HSl := hidIt h.sl
  have HX := hidIt hx
  have HA := hidIt ha
  have hfew := h.few
  obtain ⟨i0, z, hi0, hz0, hz1, hz2, hz3⟩ := Tryd.infoInt
  have HI := hidIt (And.intro hi0 (And.intro hz0 (And.intro hz1 (And.intro hz2 hz3))))
  clear hi0 hz0 hz1 hz2 hz3
  have HLen : Hid ((hol off xs).length ≤ 100) := Nat.le_trans (List.length_filter_le ..) hfew
  clear h ha hall hx
  generalize hL : xs.length = m at *
  have HL := hidIt hL
  clear hL
  go_enter Tryd.func32, Tryd.ntmps32
  go_wp2_with fail
  go_loopw [23] (fun t wr => ∃ i : Nat, i ≤ 7 ∧ t = .int .i64 i ∧ PS w wr a (cn (nb a) i) (.slice none 0 0)) (fun t _ => (7 - RowKit.intOf t).toNat)
  case atStart => exact ⟨0, by omega, rfl, PS.start w a _⟩
  case round =>
    obtain ⟨i, hi, rfl, hps⟩ := hrel
    have HPS := hidIt hps
    have hw7 := hps.wk
    have hf7 := hps.f7
    clear hps
    by_cases hi7 : i < 7
    · have HS := hidIt (nb_step a i)
      have hidx := idx7 a i hi7
      have hn := cn_nn (nb a) i
      have hm := cn_le (nb a) i
      have hiz : (i : Int) < 7 := by omega
      generalize hc : cn (nb a) i = c at *
      clear hc
      cases ho : a i
      · rw [ho] at HS hidx
        clear ho
        go_wp2
        refine ⟨⟨i + 1, by omega, by go_num, ?_⟩, by simp [RowKit.intOf]; omega⟩
        rw [HS.out]
        exact HPS.out.setWk (c + 1)
      · rw [ho] at HS hidx
        clear ho
        go_wp2
        refine ⟨⟨i + 1, by omega, by go_num, ?_⟩, by simp [RowKit.intOf]; omega⟩
        rw [HS.out]
        simpa using HPS.out
    · obtain rfl : i = 7 := by omega
      clear hw7 hf7 hi7
      have hcv := (HPS.out.bel.cell (p := ⟨b, 7, none⟩) hlt).trans HSl.out
      go_wp2_with fail
      go_loopw [38] (fun t wr' => Lp w a off xs m t wr') (fun t _ => (m - RowKit.intOf t).toNat)
      case atStart => exact ⟨0, _, by omega, rfl, HPS.out, World.ownsRow_nil _ _ _ _⟩
      case round =>
        obtain ⟨i, sv, hi, rfl, hp, ho⟩ := hrel
        have HP := hidIt hp
        have HO := hidIt ho
        clear hp ho
        by_cases him : i < m
        · have hiz : (i : Int) < m := by omega
          have hL := HL.out
          obtain ⟨x, hx⟩ : ∃ x, xs[i]? = some x := ⟨_, List.getElem?_eq_getElem (by omega)⟩
          have cx := (HP.out.bel.cell (p := ⟨g, i, none⟩) hg).trans (HX.out i x hx)
          have HT := hidIt (taken_step off xs i x hx)
          have htl : (taken off xs i).length ≤ m := by rw [← HL.out]; exact taken_len off xs i
          have HD := hidIt (fun w => isDay_any x w)
          clear hx hL
          cases hd : isDayB x
          · rw [hd] at HD HT
            clear hd
            go_wp2_with fail
            refine (HD.out _).mono ?_
            rintro e w1 ⟨rfl, ew⟩
            subst w1
            go_wp2
            go_roundw
            case rel =>
              refine ⟨_, _, _, _, _, _, _, _, _, _, _, _, _, _, _, _, _, _, _, _, _, _, (?_ : Lp w a off xs m _ _), rfl⟩
              refine ⟨i + 1, sv, by omega, by go_num, HP.out, ?_⟩
              rw [HT.out]
              simpa using HO.out
            case measure => simp [RowKit.intOf]; omega
          · obtain ⟨d1, d2⟩ := isDayB_iff.1 hd
            obtain ⟨k, hk, hk7⟩ := wk_nat x
            have HW := hidIt (fun w => week_ok x w d1 d2)
            have hak := HP.out.day k hk7
            have hko := HA.out k
            rw [hd, hk] at HT
            rw [hk] at HW
            rw [hd] at HD
            rw [hko] at HT
            have hkz : (k : Int) < 7 := by omega
            clear hd hk hko
            cases hoff : a k
            · rw [hoff] at HT hak
              clear hoff
              have hsl := HP.out.sl
              have hf8 := HP.out.f8
              have hsz := HP.out.sz
              generalize hnn : (taken off xs i).length = n at *
              have HNn := hidIt hnn
              clear hnn
              have HN : Hid (∀ (j : Nat) (u : Value), [Value.int .i64 x][j]? = some u → (wr.alloc (.cells #[.int .i64 x] 3)).cell? ((⟨wr.heap.size, 0, none⟩ : Addr).add j) = some u) := by
                intro j u hj
                match j, hj with
                | 0, hj => simp at hj; subst hj; simp [Addr.add]
              have H1 : Hid (∀ u ∈ [Value.int .i64 x], u.oneCell' = true) := by intro u hu; simp at hu; subst hu; rfl
              go_wp2_with fail
              refine (HD.out _).mono ?_
              rintro e w1 ⟨rfl, ew⟩
              subst w1
              go_wp2_with fail
              refine (HW.out _).mono ?_
              rintro e w1 ⟨rfl, ew⟩
              subst w1
              go_wp2_with (at_builtin; go_loud (refine wpList_append_own _ rfl (.tmp 53) (.tmp 55) 58 rfl (w.heap.size + 2) 3 i0 z 1 8 Tryd.underlying58 HI.out.1 HI.out.2.1 HI.out.2.2.1 HI.out.2.2.2.1 HI.out.2.2.2.2 (by decide) sv n ((taken off xs i).map (Value.int .i64)) (by simp [Act.eval]) (HO.out.alloc _) ⟨wr.heap.size, 0, none⟩ 1 1 [.int .i64 x] (by simp [Act.eval]) rfl HN.out H1.out (by unfold maxLen; omega) (by omega) (by simp; omega) ?_))
              intro v' w' hown hgrow _
              obtain ⟨g', cap', hv'⟩ := Joins.ownsRow_form hown (by omega)
              subst hv'
              have hb' : Below (w.heap.size + 2) wr w' := ((Below.refl (w.heap.size + 2) wr).alloc hsz _).grown hgrow (by simp; omega) (fun k hk => (HO.out.lt k hk).1)
              have HP' := hidIt (HP.out.keep hb')
              have HO' := hidIt hown
              have hsl' := HP'.out.sl
              have hf8' := HP'.out.f8
              clear hown hgrow hb' hsl hf8
              go_wp2
              go_roundw
              case rel =>
                refine ⟨_, _, _, _, _, _, _, _, _, _, _, _, _, _, _, _, _, _, _, _, _, _, (?_ : Lp w a off xs m _ _), rfl⟩
                refine ⟨i + 1, _, by omega, by go_num, HP'.out.setSl _, ?_⟩
                have h := ownsRow_setCell_below HO'.out (a := ⟨w.heap.size + 1, 8, none⟩) (by simp) (.slice (some ⟨g', 0, none⟩) (n + 1) cap')
                rw [HT.out]
                have HNl := HNn.out
                simpa [HNl] using h
              case measure => simp [RowKit.intOf]; omega
            · rw [hoff] at HT hak
              clear hoff
              go_wp2_with fail
              refine (HD.out _).mono ?_
              rintro e w1 ⟨rfl, ew⟩
              subst w1
              go_wp2_with fail
              refine (HW.out _).mono ?_
              rintro e w1 ⟨rfl, ew⟩
              subst w1
              go_wp2
              go_roundw
              case rel =>
                refine ⟨_, _, _, _, _, _, _, _, _, _, _, _, _, _, _, _, _, _, _, _, _, _, (?_ : Lp w a off xs m _ _), rfl⟩
                refine ⟨i + 1, sv, by omega, by go_num, HP.out, ?_⟩
                rw [HT.out]
                simpa using HO.out
              case measure => simp [RowKit.intOf]; omega
        · obtain rfl : i = m := by omega
          have HO2 : Hid (wr.ownsRow (w.heap.size + 2) 3 1 sv (hol off xs).length ((hol off xs).map (Value.int .i64))) := by
            have h := HO.out
            rw [taken_all off xs i (by have := HL.out; omega)] at h
            exact h
          have HP2 := HP
          have hsl := HP.out.sl
          clear hcv him
          go_wp2_with fail
          refine (sort_row w wr a (cn (nb a) 7) sv (hol off xs) HP2.out HO2.out HLen.out).mono ?_
          rintro e w1 ⟨rfl, hp3, hs3⟩
          have HP3 := hidIt hp3
          have HS3 := hidIt hs3
          have hsl3 := hp3.sl
          clear hp3 hs3
          go_wp2_with fail
          refine (compact_row w w1 a (cn (nb a) 7) sv (hol off xs) HP3.out HS3.out HLen.out).mono ?_
          rintro e w2 ⟨sv', rfl, hp4, hr4⟩
          have HP5 := hidIt (hp4.setSl sv')
          have HR5 := hidIt (hr4.set ⟨w.heap.size + 1, 8, none⟩ (by simp) sv')
          have hsl4 := hp4.sl
          have hf84 := hp4.f8
          clear hp4 hr4 hsl3
          obtain ⟨cv, hcv'⟩ : ∃ c : Option Addr × Nat × Nat, sv' = Value.slice c.1 c.2.1 c.2.2 := by
            rcases HR5.out with ⟨h, _⟩ | ⟨g5, cap5, h, _⟩
            · exact ⟨(none, 0, 0), h⟩
            · exact ⟨(some _, _, _), h⟩
          obtain ⟨sa, sn, sc⟩ := cv
          simp only at hcv'
          subst hcv'
          go_upto_region 20 with fail
          obtain ⟨W, hW⟩ : ∃ W : World, W = w2.setCell ⟨w.heap.size + 1, 8, none⟩ (.slice sa sn sc) := ⟨_, rfl⟩
          rw [← hW] at HP5 HR5 ⊢
          clear hW hsl4 hf84
          have e0 := HP5.out.day 0 (by omega)
          have e1 := HP5.out.day 1 (by omega)
          have e2 := HP5.out.day 2 (by omega)
          have e3 := HP5.out.day 3 (by omega)
          have e4 := HP5.out.day 4 (by omega)
          have e5 := HP5.out.day 5 (by omega)
          have e6 := HP5.out.day 6 (by omega)
          have e7 := HP5.out.wk
          have e8 := HP5.out.sl
          obtain ⟨⟨u0, r0⟩, g0⟩ := HP5.out.res 0 (by omega)
          obtain ⟨⟨u1, r1⟩, g1⟩ := HP5.out.res 1 (by omega)
          obtain ⟨⟨u2, r2⟩, g2⟩ := HP5.out.res 2 (by omega)
          obtain ⟨⟨u3, r3⟩, g3⟩ := HP5.out.res 3 (by omega)
          obtain ⟨⟨u4, r4⟩, g4⟩ := HP5.out.res 4 (by omega)
          obtain ⟨⟨u5, r5⟩, g5⟩ := HP5.out.res 5 (by omega)
          obtain ⟨⟨u6, r6⟩, g6⟩ := HP5.out.res 6 (by omega)
          obtain ⟨⟨u7, r7⟩, g7⟩ := HP5.out.res 7 (by omega)
          obtain ⟨⟨u8, r8⟩, g8⟩ := HP5.out.res 8 (by omega)
          clear c0 c1 c2 c3 c4 c5 c6 heq HSl
          go_wp2
          change bodyPost Tryd.prog Tryd.f32 _ Exit.ret _ (setN W w.heap.size (planX a (cn (nb a) 7) (.slice sa sn sc)) 9)
          have HK := setN_cell W w.heap.size (planX a (cn (nb a) 7) (.slice sa sn sc)) 9 (fun i hi => (HP5.out.res i hi).1)
          have HRow := hidIt (RowAt.row (setN_row HR5.out w.heap.size (by omega) (planX a (cn (nb a) 7) (.slice sa sn sc)) 9))
          have HBel := hidIt (setN_below HP5.out.bel w.heap.size (Nat.le_refl _) (planX a (cn (nb a) 7) (.slice sa sn sc)) 9)
          have k0 := HK 0 (by omega)
          have k1 := HK 1 (by omega)
          have k2 := HK 2 (by omega)
          have k3 := HK 3 (by omega)
          have k4 := HK 4 (by omega)
          have k5 := HK 5 (by omega)
          have k6 := HK 6 (by omega)
          have k7 := HK 7 (by omega)
          have k8 := HK 8 (by omega)
          clear HK
          generalize setN W w.heap.size (planX a (cn (nb a) 7) (.slice sa sn sc)) 9 = W9 at *
          simp only [planX] at k0 k1 k2 k3 k4 k5 k6 k7 k8
          clear r0 r1 r2 r3 r4 r5 r6 r7 r8 g0 g1 g2 g3 g4 g5 g6 g7 g8 e0 e1 e2 e3 e4 e5 e6 e7 e8
          exact bodyPost_ret (v := planV a (cn (nb a) 7) (.slice sa sn sc)) (by simp [results, Tryd.results32, go_sem, planV, k0, k1, k2, k3, k4, k5, k6, k7, k8]) rfl ⟨⟨_, rfl, HRow.out⟩, HBel.out⟩

end Go.Proofs.YtpijiglmjkdlgaaDoor

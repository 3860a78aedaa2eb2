/-
  The reference's MonthsOf, walked.
-/
import Derived.Test.YtgfkaheoahkbcaaDoorSuR
namespace Go.Proofs.YtgfkaheoahkbcaaDoor
open Go.RowKit Go.Extern.Stop Go.Stop Go.Extern

set_option maxHeartbeats 2000000 in
theorem monthsOf_err {B n c k : Nat} {a : Option Addr} {l : List Int} {w : World} {f way : Int} (h : IRd w B (.slice a n c) l) (hn : n = l.length) (hk : errM l f way = some k) :
    Calls Tryd.prog 7 #[.slice a n c, .int .i64 f, .int .i64 way] w (CodR w k) := by
  have hbig : n ≤ 17592186044416 := by obtain ⟨_, _, _, hl, _⟩ := h; omega
  have H1 := hidIt (fun W => isWay_r way W)
  unfold errM at hk
  cases hw : wyB way
  · rw [if_pos hw] at hk
    obtain rfl : 8 = k := Option.some.inj hk
    rw [hw] at H1
    clear hk hw h hn
    go_enter Tryd.func7, Tryd.ntmps7
    go_wp2_with (go_at_call 19; refine (H1.out _).mono ?_; rintro e w' ⟨rfl, rfl⟩)
    go_ret2
    exact ⟨rfl, Below.refl _ _⟩
  · rw [if_neg (by rw [hw]; decide)] at hk
    rw [hw] at H1
    by_cases h4 : 4000 < l.length
    · rw [if_pos h4] at hk
      obtain rfl : 1 = k := Option.some.inj hk
      have h4z : (4000 : Int) < (n : Int) := by omega
      clear hk hw h hn h4
      go_enter Tryd.func7, Tryd.ntmps7
      go_wp2_with (go_at_call 19; refine (H1.out _).mono ?_; rintro e w' ⟨rfl, rfl⟩)
      go_ret2
      exact ⟨rfl, Below.refl _ _⟩
    · rw [if_neg h4] at hk
      have h4z : ¬ (4000 : Int) < (n : Int) := by omega
      have h4n : n ≤ 4000 := by omega
      rw [← hn] at hk
      by_cases hd : n = 0 ∨ 1 ≤ f ∧ f + n - 1 ≤ 3652059
      · rw [if_neg (fun q => q hd)] at hk
        cases hb : badA l
        · rw [if_neg (by rw [hb]; decide)] at hk
          cases hk
        · rw [if_pos hb] at hk
          obtain rfl : 2 = k := Option.some.inj hk
          have hn0 : 0 < n := by
            rcases Nat.eq_zero_or_pos n with e | e
            · rw [List.eq_nil_of_length_eq_zero (hn.symm.trans e)] at hb
              cases hb
            · exact e
          have hf : 1 ≤ f ∧ f + n - 1 ≤ 3652059 := by omega
          have HD1 := hidIt (fun W => rIsDay_any f W)
          rw [isDayB_iff.2 (by omega)] at HD1
          have HD2 := hidIt (fun W => rIsDay_any (f + n - 1) W)
          rw [isDayB_iff.2 (by omega)] at HD2
          have HR := hidIt h
          have HL := hidIt hn
          have HBad := hidIt hb
          have n0z : (0 : Int) < (n : Int) := by omega
          obtain ⟨f1, f2⟩ := hf
          clear hk hw h hn h4 hd hb
          go_enter Tryd.func7, Tryd.ntmps7
          go_wp2_with fail
          refine (H1.out _).mono ?_
          rintro e w' ⟨rfl, rfl⟩
          go_wp2_with fail
          refine (HD1.out _).mono ?_
          rintro e w' ⟨rfl, rfl⟩
          go_wp2_with fail
          refine (HD2.out _).mono ?_
          rintro e w' ⟨rfl, rfl⟩
          go_wp2_with fail
          go_loop [12] (fun t => ∃ i : Nat, i ≤ n ∧ t = .int .i64 i ∧ ∀ j x, j < i → l[j]? = some x → szB x 1000000000000 = true) (fun t => n - (RowKit.intOf t).toNat)
          case atStart => exact ⟨0, by omega, rfl, by intro j x h; omega⟩
          case round =>
            obtain ⟨i, hi, rfl, hall⟩ := hrel
            have HA := hidIt hall
            clear hall
            by_cases hlt : i < n
            · have c0 : decide ((i : Int) < n) = true := by simp; omega
              have hL := HL.out
              obtain ⟨x, hx⟩ : ∃ x, l[i]? = some x := ⟨_, List.getElem?_eq_getElem (by omega)⟩
              obtain ⟨g, o, rfl, hg, cx⟩ := HR.out.at hx
              have HX := hidIt hx
              have hiz : (i : Int) < n := by omega
              have HC := hidIt (fun w => small_r x w)
              clear hx hL
              cases hb : szB x 1000000000000
              · rw [hb] at HC
                clear hb
                go_wp2_with fail
                refine (HC.out _).mono ?_
                rintro e w' ⟨rfl, rfl⟩
                go_wp2
                go_ret2
                exact ⟨rfl, Below.refl _ _⟩
              · rw [hb] at HC
                go_wp2_with fail
                refine (HC.out _).mono ?_
                rintro e w' ⟨rfl, rfl⟩
                have HN : Hid (∀ j y, j < i + 1 → l[j]? = some y → szB y 1000000000000 = true) := fun j y hj hy => by
                  rcases Nat.lt_or_ge j i with h | h
                  · exact HA.out j y h hy
                  · obtain rfl : j = i := by omega
                    rw [HX.out] at hy
                    obtain rfl := Option.some.inj hy
                    exact hb
                clear hb
                go_wp2
                go_round
                case rel => exact ⟨i + 1, by omega, by go_num, HN.out⟩
                case measure => simp [RowKit.intOf]; omega
            · exfalso
              have hb := HBad.out
              unfold badA at hb
              rw [List.any_eq_true] at hb
              obtain ⟨x, hx, hb⟩ := hb
              obtain ⟨j, hj⟩ := List.getElem?_of_mem hx
              have h1 := (List.getElem?_eq_some_iff.1 hj).1
              rw [HA.out j x (by have := HL.out; omega) hj] at hb
              cases hb
      · rw [if_pos hd] at hk
        obtain rfl : 3 = k := Option.some.inj hk
        have n0z : (0 : Int) < (n : Int) := by omega
        have HD1 := hidIt (fun W => rIsDay_any f W)
        have HD2 := hidIt (fun x W => rIsDay_any x W)
        cases hf : isDayB f
        · rw [hf] at HD1
          clear hk hw h hn h4 hd hf
          go_enter Tryd.func7, Tryd.ntmps7
          go_wp2_with fail
          refine (H1.out _).mono ?_
          rintro e w' ⟨rfl, rfl⟩
          go_wp2_with fail
          refine (HD1.out _).mono ?_
          rintro e w' ⟨rfl, rfl⟩
          go_wp2_with fail
          all_goals
            refine (HD2.out _ _).mono ?_
            rintro e w' ⟨rfl, rfl⟩
            go_wp2
            go_ret2
            exact ⟨rfl, Below.refl _ _⟩
        · have hf2 := isDayB_iff.1 hf
          have HD3 := hidIt (fun W => rIsDay_any (f + n - 1) W)
          rw [isDayB_f.2 (by omega)] at HD3
          rw [hf] at HD1
          obtain ⟨f1, f2⟩ := hf2
          clear hk hw h hn h4 hd hf
          go_enter Tryd.func7, Tryd.ntmps7
          go_wp2_with fail
          refine (H1.out _).mono ?_
          rintro e w' ⟨rfl, rfl⟩
          go_wp2_with fail
          refine (HD1.out _).mono ?_
          rintro e w' ⟨rfl, rfl⟩
          go_wp2_with fail
          refine (HD3.out _).mono ?_
          rintro e w' ⟨rfl, rfl⟩
          go_wp2
          go_ret2
          exact ⟨rfl, Below.refl _ _⟩
theorem monthsOf_none {c : Nat} {a : Option Addr} {w : World} {f way : Int} (hw : wyB way = true) : Calls Tryd.prog 7 #[.slice a 0 c, .int .i64 f, .int .i64 way] w (PayRR w []) := by
  have H1 := hidIt (fun W => isWay_r way W)
  rw [hw] at H1
  have HD2 := hidIt (fun x W => rIsDay_any x W)
  clear hw
  go_enter Tryd.func7, Tryd.ntmps7
  go_wp2_with fail
  refine (H1.out _).mono ?_
  rintro e w' ⟨rfl, rfl⟩
  go_wp2_with fail
  refine (HD2.out _ _).mono ?_
  rintro e w' ⟨rfl, rfl⟩
  go_wp2_with fail
  all_goals
    refine (HD2.out _ _).mono ?_
    rintro e w' ⟨rfl, rfl⟩
    go_wp2_with fail
    go_loop [12] (fun t => t = .int .i64 0) (fun _ => 0)
    case atStart => rfl
    case round =>
      subst hrel
      go_wp2_with fail
      go_loop [14, 17] (fun u t => u = .slice none 0 0 ∧ t = .int .i64 0) (fun _ _ => 0)
      case atStart => exact ⟨rfl, rfl⟩
      case round =>
        obtain ⟨rfl, rfl⟩ := hrel
        go_wp2
        go_ret2
        exact ⟨_, _, _, rfl, rfl, Below.refl _ _, PyRow.nil _ _⟩
set_option maxHeartbeats 4000000 in
theorem monthsOf_some {B n c : Nat} {a : Option Addr} {l : List Int} {w : World} {f way : Int} {ps : List Py} (h : IRd w B (.slice a n c) l) (hn : n = l.length) (hB : B ≤ w.heap.size) (hn0 : 0 < n) (hk : errM l f way = none) (hm : MoR way f l ps) :
    Calls Tryd.prog 7 #[.slice a n c, .int .i64 f, .int .i64 way] w (PayRR w ps) := by
  obtain ⟨hw, h4, hd, hb⟩ := errM_none hk
  have hsm := badA_f hb
  have H1 := hidIt (fun W => isWay_r way W)
  rw [hw] at H1
  have h4z : ¬ (4000 : Int) < (n : Int) := by omega
  have h4n : n ≤ 4000 := by omega
  have hf : 1 ≤ f ∧ f + n - 1 ≤ 3652059 := by omega
  have HD1 := hidIt (fun W => rIsDay_any f W)
  rw [isDayB_iff.2 (by omega)] at HD1
  have HD2 := hidIt (fun W => rIsDay_any (f + n - 1) W)
  rw [isDayB_iff.2 (by omega)] at HD2
  have HR := hidIt h
  have HL := hidIt hn
  have HSm := hidIt hsm
  have HPl : Hid (ps.length ≤ 4000) := by have := hm.len; show _ ≤ _; omega
  have HW := hidIt (wyB_iff.1 hw)
  have HB := hidIt hB
  have HRoom := hidIt (fun n P hP h1 h2 W => round_r n P way W hP h1 h2 (wyB_iff.1 hw).1 (wyB_iff.1 hw).2)
  have HS : Hid (RefS w B way f l ps (.slice none 0 0) (.int .i64 0) (.int .i64 f) (.int .i64 0) w) := by
    have := RefS.mk (w := w) (B := B) (way := way) (f := f) (l := l) (ps := ps) (pre := []) (suf := ps) (j := 0) (i := 0) (s := 0) (Nat.le_refl _) (Nat.zero_le _) (by simpa using hm) rfl (.inl rfl) (by simp) rfl (PyRow.nil w w.heap.size) (Below.refl _ _)
    show RefS _ _ _ _ _ _ _ _ _ _ _
    simpa using this
  have n0z : (0 : Int) < (n : Int) := by omega
  obtain ⟨f1, f2⟩ := hf
  clear hk hw h hn h4 hd hb hsm hm hB
  go_enter Tryd.func7, Tryd.ntmps7
  go_wp2_with fail
  refine (H1.out _).mono ?_
  rintro e w' ⟨rfl, rfl⟩
  go_wp2_with fail
  refine (HD1.out _).mono ?_
  rintro e w' ⟨rfl, rfl⟩
  go_wp2_with fail
  refine (HD2.out _).mono ?_
  rintro e w' ⟨rfl, rfl⟩
  clear H1 HD1 HD2
  go_wp2_with fail
  go_loop [12] (fun t => ∃ i : Nat, i ≤ n ∧ t = .int .i64 i) (fun t => n - (RowKit.intOf t).toNat)
  case atStart => exact ⟨0, by omega, rfl⟩
  case round =>
    obtain ⟨i, hi, rfl⟩ := hrel
    by_cases hlt : i < n
    · have c0 : decide ((i : Int) < n) = true := by simp; omega
      have hL := HL.out
      obtain ⟨x, hx⟩ : ∃ x, l[i]? = some x := ⟨_, List.getElem?_eq_getElem (by omega)⟩
      obtain ⟨g, o, rfl, hg, cx⟩ := HR.out.at hx
      have hiz : (i : Int) < n := by omega
      have HC := hidIt (fun w => small_r x w)
      rw [szB_iff.2 (HSm.out x (List.mem_of_getElem? hx))] at HC
      clear hx hL
      go_wp2_with fail
      refine (HC.out _).mono ?_
      rintro e w' ⟨rfl, rfl⟩
      go_wp2
      go_round
      case rel => exact ⟨i + 1, by omega, by go_num⟩
      case measure => simp [RowKit.intOf]; omega
    · have c0 : decide ((i : Int) < n) = false := by simp; omega
      go_wp2_with fail
      clear c0 hlt hi
      go_loopw [14, 15, 16, 17] (fun x y z t wr => RefS w' B way f l ps x y z t wr) (fun _ _ _ t _ => n - (RowKit.intOf t).toNat)
      case atStart => exact HS.out
      case round =>
        clear HS
        rcases hrel with @⟨pa, pn, pc, pre, suf, j, i, s, wr, hj, hi, mo, all, mid, hs, plen, row, bel⟩
        have hL := HL.out
        have HAll := hidIt all
        have HPn := hidIt plen
        have HRow := hidIt row
        have HBel := hidIt bel
        by_cases hlt : i < n
        · obtain ⟨x, hx⟩ : ∃ x, l[i]? = some x := ⟨_, List.getElem?_eq_getElem (by omega)⟩
          have hdr : l.drop j ≠ [] := by
            intro e
            have := congrArg List.length e
            rw [List.length_drop] at this
            simp at this
            omega
          obtain ⟨y, m, d, k, qs, hD, hfd, hc, hk1, hk2, rfl, mo2⟩ := mo.inv hdr
          rw [List.length_drop] at hc hk2
          have hik : i - j < k := by
            rcases mid with e | e
            · omega
            · have := e y m d hD hfd
              omega
          have hLa := hD.later (k := (i : Int) - j) (by omega) (by omega)
          have HP := hidIt (fun W => rParts_ok y m (d + ((i : Int) - j)) W hLa.1)
          rw [hLa.2, hfd, show f + (j : Int) + ((i : Int) - j) = f + i by omega] at HP
          have HM := hidIt (fun W => monthLong_r y m W hD.y1 hD.y2 hD.m1 hD.m2)
          have hLb := mlen_bd y m
          have hc4 := mlen_cases y m
          have HSn : Hid (((l.drop j).take (i - j + 1)).sum = s + x) := by
            show _ = _
            rw [sum_snoc (l.drop j) (i - j) x (by rw [List.getElem?_drop, show j + (i - j) = i by omega]; exact hx), hs]
          have hsb : -4000000000000000 ≤ s ∧ s ≤ 4000000000000000 := by
            have := sum_abs 1000000000000 (by decide) ((l.drop j).take (i - j)) (fun x hx => HSm.out x (List.mem_of_mem_drop (List.mem_of_mem_take hx)))
            have hl : ((l.drop j).take (i - j)).length ≤ 4000 := by rw [List.length_take]; omega
            rw [← hs] at this
            omega
          have hxb := HSm.out x (List.mem_of_getElem? hx)
          have HRd := hidIt (HRoom.out (s + x) (mlen y m) hc4 (by omega) (by omega))
          have hpl : pre.length + 1 ≤ 4000 := by
            have := HPl.out
            rw [HAll.out, List.length_append, List.length_cons] at this
            omega
          have hsz : w'.heap.size ≤ wr.heap.size := bel.size
          have hcell : ∃ g o, a = some ⟨g, o, none⟩ ∧ wr.cell? ⟨g, o + i, none⟩ = some (.int .i64 x) := by
            obtain ⟨g, o, e, hg, cx⟩ := HR.out.at hx
            refine ⟨g, o, e, (World.cell?_of_block (a := ⟨g, o + i, none⟩) (bel.block g ?_)).trans cx⟩
            have := HB.out
            show g < _
            omega
          obtain ⟨g, o, rfl, cx⟩ := hcell
          have c0 : decide ((i : Int) < n) = true := by simp; omega
          have hiz : (i : Int) < n := by omega
          have HMid : Hid (i - j + 1 < k → ∀ y' m' d', Date y' m' d' → dof y' m' d' = f + j → ((i + 1 : Nat) : Int) - j < min (mlen y' m' - d' + 1) (l.length - j)) := fun hlt2 y' m' d' hD' hf' => by
            obtain ⟨rfl, rfl, rfl⟩ := hD.uniq hD' (hfd.trans hf'.symm)
            omega
          have HMo := hidIt mo
          have HMo2 := hidIt mo2
          have HDD := hidIt hD
          have hd1 := hD.d1
          have hDL : d + ((i : Int) - j) ≤ mlen y m := hLa.1.d2
          have hD1 : 1 ≤ d + ((i : Int) - j) := hLa.1.d1
          have HEnd : Hid ((d + ((i : Int) - j) = mlen y m ∨ i = n - 1) ↔ i - j + 1 = k) := by
            show _ ↔ _
            have := hD.d2
            omega
          have hjn : j ≤ i := hj
          clear mo mo2 all plen row bel mid hx hdr hD hc hLa hs hfd hc4
          generalize hDD : d + ((i : Int) - j) = D at *
          clear hDD hd1
          generalize mlen y m = L at *
          generalize hrr : rnd (s + x) L way = rr at *
          clear hL
          obtain ⟨s1, s2⟩ := hsb
          obtain ⟨x1, x2⟩ := hxb
          have HRr := hidIt hrr
          clear hrr
          by_cases hend : D = L
          · have HK1 : Hid (i - j + 1 = k) := HEnd.out.1 (.inl hend)
            have hde : (D == L) = true := by simpa using hend
            clear hend
            go_wp2_with fail
            refine (HP.out _).mono ?_
            rintro e w2 ⟨rfl, hb2⟩
            have HB2 := hidIt hb2
            have hz2 := hb2.size
            clear hb2
            go_wp2_with fail
            refine (HM.out _).mono ?_
            rintro e w3 ⟨rfl, hb3⟩
            have HB3 := hidIt (HB2.out.trans (hb3.mono hz2))
            clear hb3 hz2
            have hz3 := HB3.out.size
            go_wp2_with (first
              | (go_at_call 23; refine (HRd.out _).mono ?_; rintro e w4 ⟨rfl, rfl⟩)
              | (at_builtin; refine wpList_push_py Tryd.infoRPay Tryd.underlying29 rfl (.tmp 91) (.tmp 102) rfl w'.heap.size (.slice pa pn pc) pre (f + j) (f + i + 1) rr rfl (HRow.out.below HB3.out) (by first | (simp [Act.eval]; done) | simp [Act.eval, Act.put]) (by omega) (by omega) ?_; intro v' w5 hr5 hb5; obtain ⟨pa5, pn5, pc5, rfl, hp5⟩ := hr5.any3; have HR5 := hidIt hr5; have HB5 := hidIt hb5; have HP5 := hidIt hp5; clear hr5 hb5 hp5))
            go_roundw
            case rel =>
              have hL := HL.out
              have hbel5 : Below w'.heap.size w' w5 := (HBel.out.trans (HB3.out.mono hsz)).trans HB5.out
              have e1 : f + (i : Int) + 1 = f + ((i + 1 : Nat) : Int) := by omega
              have hik2 : j + k = i + 1 := by have := HK1.out; omega
              have mo3 : MoR way (f + ((i + 1 : Nat) : Int)) (l.drop (i + 1)) qs := by
                have := HMo2.out
                rw [List.drop_drop, hik2, show f + (j : Int) + (k : Int) = f + ((i + 1 : Nat) : Int) by omega] at this
                exact this
              have hp : (f + (j : Int), f + (j : Int) + (k : Int), rnd ((l.drop j).take k).sum L way) = ((f + (j : Int), f + (i : Int) + 1, rr) : Py) := by
                rw [← HK1.out, HSn.out, HRr.out, show f + (j : Int) + ((i - j + 1 : Nat) : Int) = f + (i : Int) + 1 by omega]
              have := RefS.mk (w := w') (B := B) (way := way) (f := f) (l := l) (ps := ps) (j := i + 1) (i := i + 1) (s := 0) (Nat.le_refl _) (by omega) mo3 (by rw [HAll.out, hp, List.append_assoc]; rfl) (.inl rfl) (by simp) HP5.out HR5.out hbel5
              have e2 : ((i + 1 : Nat) : Int) = (i : Int) + 1 := by omega
              rw [← e1, e2] at this
              first | exact this | exact ⟨_, _, _, _, _, _, _, _, _, _, _, _, _, _, _, _, _, _, _, _, _, _, _, _, _, _, _, _, _, _, _, _, _, _, _, _, _, _, _, _, _, _, _, _, _, _, _, _, _, _, _, _, _, _, _, _, this, rfl⟩
            case measure => simp [RowKit.intOf]; omega
          · by_cases hend2 : i = n - 1
            · have HK1 : Hid (i - j + 1 = k) := HEnd.out.1 (.inr hend2)
              have hde : (D == L) = false := by simpa using hend
              have hde2 : ((i : Int) == (n : Int) - 1) = true := by simp; omega
              clear hend hend2
              go_wp2_with fail
              refine (HP.out _).mono ?_
              rintro e w2 ⟨rfl, hb2⟩
              have HB2 := hidIt hb2
              have hz2 := hb2.size
              clear hb2
              go_wp2_with fail
              refine (HM.out _).mono ?_
              rintro e w3 ⟨rfl, hb3⟩
              have HB3 := hidIt (HB2.out.trans (hb3.mono hz2))
              clear hb3 hz2
              have hz3 := HB3.out.size
              go_wp2_with (first
                | (go_at_call 23; refine (HRd.out _).mono ?_; rintro e w4 ⟨rfl, rfl⟩)
                | (at_builtin; refine wpList_push_py Tryd.infoRPay Tryd.underlying29 rfl (.tmp 91) (.tmp 102) rfl w'.heap.size (.slice pa pn pc) pre (f + j) (f + i + 1) rr rfl (HRow.out.below HB3.out) (by first | (simp [Act.eval]; done) | simp [Act.eval, Act.put]) (by omega) (by omega) ?_; intro v' w5 hr5 hb5; obtain ⟨pa5, pn5, pc5, rfl, hp5⟩ := hr5.any3; have HR5 := hidIt hr5; have HB5 := hidIt hb5; have HP5 := hidIt hp5; clear hr5 hb5 hp5))
              go_roundw
              case rel =>
                have hL := HL.out
                have hbel5 : Below w'.heap.size w' w5 := (HBel.out.trans (HB3.out.mono hsz)).trans HB5.out
                have e1 : f + (i : Int) + 1 = f + ((i + 1 : Nat) : Int) := by omega
                have hik2 : j + k = i + 1 := by have := HK1.out; omega
                have mo3 : MoR way (f + ((i + 1 : Nat) : Int)) (l.drop (i + 1)) qs := by
                  have := HMo2.out
                  rw [List.drop_drop, hik2, show f + (j : Int) + (k : Int) = f + ((i + 1 : Nat) : Int) by omega] at this
                  exact this
                have hp : (f + (j : Int), f + (j : Int) + (k : Int), rnd ((l.drop j).take k).sum L way) = ((f + (j : Int), f + (i : Int) + 1, rr) : Py) := by
                  rw [← HK1.out, HSn.out, HRr.out, show f + (j : Int) + ((i - j + 1 : Nat) : Int) = f + (i : Int) + 1 by omega]
                have := RefS.mk (w := w') (B := B) (way := way) (f := f) (l := l) (ps := ps) (j := i + 1) (i := i + 1) (s := 0) (Nat.le_refl _) (by omega) mo3 (by rw [HAll.out, hp, List.append_assoc]; rfl) (.inl rfl) (by simp) HP5.out HR5.out hbel5
                have e2 : ((i + 1 : Nat) : Int) = (i : Int) + 1 := by omega
                rw [← e1, e2] at this
                first | exact this | exact ⟨_, _, _, _, _, _, _, _, _, _, _, _, _, _, _, _, _, _, _, _, _, _, _, _, _, _, _, _, _, _, _, _, _, _, _, _, _, _, _, _, _, _, _, _, _, _, _, _, _, _, _, _, _, _, _, _, this, rfl⟩
              case measure => simp [RowKit.intOf]; omega
            · have HK1 : Hid (i - j + 1 < k) := by
                have := HEnd.out
                show _ < _
                rcases Nat.lt_or_ge (i - j + 1) k with q | q
                · exact q
                · exact absurd (this.2 (by omega)) (by omega)
              have hde : (D == L) = false := by simpa using hend
              have hde2 : ((i : Int) == (n : Int) - 1) = false := by simp; omega
              clear hend hend2
              go_wp2_with fail
              refine (HP.out _).mono ?_
              rintro e w2 ⟨rfl, hb2⟩
              have HB2 := hidIt hb2
              have hz2 := hb2.size
              clear hb2
              go_wp2_with fail
              refine (HM.out _).mono ?_
              rintro e w3 ⟨rfl, hb3⟩
              have HB3 := hidIt (HB2.out.trans (hb3.mono hz2))
              clear hb3 hz2
              have hz3 := HB3.out.size
              go_wp2
              go_roundw
              case rel =>
                have hL := HL.out
                have hbel5 : Below w'.heap.size w' w3 := HBel.out.trans (HB3.out.mono hsz)
                have := RefS.mk (w := w') (B := B) (way := way) (f := f) (l := l) (ps := ps) (j := j) (i := i + 1) (s := s + x) (by omega) (by omega) HMo.out HAll.out (.inr (HMid.out HK1.out)) (by rw [← HSn.out]; congr 2; omega) HPn.out (HRow.out.below HB3.out) hbel5
                have e2 : ((i + 1 : Nat) : Int) = (i : Int) + 1 := by omega
                rw [e2] at this
                first | exact this | exact ⟨_, _, _, _, _, _, _, _, _, _, _, _, _, _, _, _, _, _, _, _, _, _, _, _, _, _, _, _, _, _, _, _, _, _, _, _, _, _, _, _, _, _, _, _, _, _, _, _, _, _, _, _, _, _, _, _, this, rfl⟩
              case measure => simp [RowKit.intOf]; omega
        · have c0 : decide ((i : Int) < n) = false := by simp; omega
          have hin : i = n := by omega
          have hjn : j = n := by
            rcases mid with e | e
            · omega
            · rcases Nat.lt_or_ge j n with q | q
              · exfalso
                have hdr : l.drop j ≠ [] := by
                  intro e
                  have := congrArg List.length e
                  rw [List.length_drop] at this
                  simp at this
                  omega
                obtain ⟨y, m, d, k, qs, hD, hfd, hc, _⟩ := mo.inv hdr
                have := e y m d hD hfd
                omega
              · omega
          have HPs : Hid (ps = pre) := by
            rw [hjn, List.drop_of_length_le (by omega)] at mo
            have := mo.inv_nil
            show _ = _
            rw [HAll.out, this, List.append_nil]
          clear mo all mid hs plen row bel hin hjn hL hi hj
          go_wp2
          go_ret2
          exact ⟨_, _, _, rfl, by rw [HPs.out]; exact HPn.out, HBel.out, by rw [HPs.out]; exact HRow.out⟩
end Go.Proofs.YtgfkaheoahkbcaaDoor

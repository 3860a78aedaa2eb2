/-
  WhyText: the law's walk.
-/
import Derived.Test.YtfnlcblalieolaaDoorWtLaw
import Derived.Deep.DrawnRows
namespace Go.Proofs.YtfnlcblalieolaaDoor
open Go.RowKit

theorem nrd_mono {w : World} {B B' : Nat} {v : Value} {l : List ByteArray} (h : NRd w B v l) (hB : B ≤ B') : NRd w B' v l := by
  obtain ⟨a, c, e, hl, hx⟩ := h
  refine ⟨a, c, e, hl, fun j x hj => ?_⟩
  obtain ⟨g, o, h1, h2, h3⟩ := hx j x hj
  exact ⟨g, o, h1, by omega, h3⟩
theorem srd_mono {w : World} {B B' : Nat} {v : Value} {l : List Clm} (h : SRd w B v l) (hB : B ≤ B') : SRd w B' v l := by
  obtain ⟨a, c, e, hl, hx⟩ := h
  refine ⟨a, c, e, hl, fun j x hj => ?_⟩
  obtain ⟨g, o, h1, h2, h3⟩ := hx j x hj
  exact ⟨g, o, h1, by omega, h3⟩
theorem read_ok {w : World} {p : Nat → Addr} (L : Laid w p) {na : Option Addr} {n nc : Nat} {nm : List ByteArray} (hN : NRd w w.heap.size (.slice na n nc) nm) (hn : n = nm.length) (hW : Wordy nm) (s : ByteArray) (hs : s.size ≤ 30000) {l : List Clm} (hst : stepsO nm (rowsA [] (bl s)) = .inl l) (W : World) (hb : Below w.heap.size w W) :
    Calls Tryd.prog 8 #[.string s, .slice na n nc] W (ReadA p (.inl l) W) := by
  have hfew := hW.few
  have e0 : stepsR nm (linesB (bl s)) = stepsO nm (rowsA [] (bl s)) := by rw [rowsA_lines (bl s).length (bl s) (Nat.le_refl _), stepsO_lines]
  have := read_p (L.below hb).sentW (hN.on hb.block) hb.size hn (by omega) (fun x hx => (hW.sz x hx).2) (bl s) (by rw [size_bl]; exact hs)
  rw [toA_bl, e0, hst] at this
  exact this
/-- The law answers true. -/
def TrueR (w : World) (e : Ending) (w' : World) : Prop := e = .returned (.bool true) ∧ Below w.heap.size w w'
set_option maxHeartbeats 4000000 in
set_option maxRecDepth 100000 in
theorem whyText_walk {w : World} {p : Nat → Addr} (L : Laid w p) {la na : Option Addr} {ln lc n nc : Nat} {l : List Clm} {nm : List ByteArray} (hS : SRd w w.heap.size (.slice la ln lc) l) (hN : NRd w w.heap.size (.slice na n nc) nm) (hln : ln = l.length) (hn : n = nm.length)
    (hwf : ∀ x, x ∈ l → -9223372036854775808 ≤ x.2.2 ∧ x.2.2 ≤ 9223372036854775807) (s : ByteArray) (hsb : s.size ≤ 9223372036854775807) :
    Calls Tryd.prog 3 #[.slice la ln lc, .slice na n nc, .string s] w (TrueR w) := by
  have hnb : n ≤ 17592186044416 := by obtain ⟨_, _, _, h, _⟩ := hN; omega
  have hlb : ln ≤ 8796093022208 := by obtain ⟨_, _, _, h, _⟩ := hS; omega
  have HF := hidLL (first_w w)
  have HWd := hidLL (fun W (hb : Below w.heap.size w W) => wordy_w (hN.on hb.block) hn hnb)
  have HL := hidLL L
  have HD := hidLL (And.intro hS (And.intro hN (And.intro hln (And.intro hn hwf))))
  clear L hS hN hln hn hwf
  go_enter Tryd.func3, Tryd.ntmps3
  go_wp2_with fail
  refine HF.out.mono ?_
  rintro e w1 ⟨rfl, hb1⟩
  have HB1 := hidLL hb1
  clear hb1
  go_wp2_with fail
  refine (HWd.out _ HB1.out).mono ?_
  rintro e w2 ⟨⟨b, rfl, hWy⟩, hb2⟩
  have HB2 := hidLL (HB1.out.trans (hb2.mono HB1.out.size))
  clear hb2
  have HWy := hidLL hWy
  clear hWy
  cases b with
  | false =>
    go_wp2
    go_ret
    exact ⟨rfl, HB2.out⟩
  | true =>
    by_cases c1 : (200 : Int) < (ln : Int)
    · go_wp2
      go_ret
      exact ⟨rfl, HB2.out⟩
    · by_cases c2 : (3000 : Int) < (s.size : Int)
      · go_wp2
        go_ret
        exact ⟨rfl, HB2.out⟩
      · have hl200 : ln ≤ 200 := by omega
        have hs3 : s.size ≤ 3000 := by omega
        have hW := HWy.out rfl
        have hnf : n ≤ 40 := by have := HD.out.2.2.2.1; have := hW.few; omega
        have HW := hidLL hW
        have HSt := hidLL (fun W (hb : Below w.heap.size w W) => steps_w (w := W) (HD.out.1.on hb.block) hb.size HD.out.2.2.1 (by omega))
        have HTx := hidLL (fun W B v k c (h : SRd W B (.slice v k c) l) (hB : B ≤ W.heap.size) (hk : k = l.length) (hb : Below w.heap.size w W) => text_p (srd_mono h hB) (nrd_mono (HD.out.2.1.on hb.block) hb.size) (Nat.le_refl W.heap.size) hk HD.out.2.2.2.1 (by omega) (by have := HD.out.2.2.1; omega) (fun x hx => (hW.sz x hx).2) HD.out.2.2.2.2)
        have HSx := hidLL (fun W (hb : Below w.heap.size w W) => stepsText_r (HD.out.1.on hb.block) (HD.out.2.1.on hb.block) hb.size HD.out.2.2.1 HD.out.2.2.2.1 (by omega) (by omega) (fun x hx => (hW.sz x hx).2) HD.out.2.2.2.2)
        obtain ⟨xs, fc, fa, hfc, hRd, hRs, _⟩ := both_read HL.out HD.out.2.1 HD.out.2.2.2.1 hW s (by omega)
        have HRd := hidLL hRd
        have HRs := hidLL hRs
        clear hW hRd hRs
        go_wp2_with fail
        refine (HSt.out _ HB2.out).mono ?_
        rintro e w3 ⟨sa, sn, sc, rfl, hsn, hsr, hb3⟩
        have HB3 := hidLL (HB2.out.trans (hb3.mono HB2.out.size))
        have H3 := hidLL (And.intro hsn hsr)
        clear hb3 hsn hsr
        go_wp2_with fail
        refine (HTx.out _ _ _ _ _ H3.out.2 (Nat.le_refl _) H3.out.1 HB3.out).mono ?_
        rintro e w4 ⟨rfl, hb4⟩
        have HB4 := hidLL (HB3.out.trans (hb4.mono HB3.out.size))
        clear hb4
        obtain ⟨u, hu⟩ : ∃ u : ByteArray, u = ⟨(textL nm l).toArray⟩ := ⟨_, rfl⟩
        rw [← hu]
        have HU := hidLL hu
        clear hu
        go_wp2_with fail
        refine (HSx.out _ HB4.out).mono ?_
        rintro e w5 ⟨⟨o2, rfl, ho2⟩, hb5⟩
        have HB5 := hidLL (HB4.out.trans (hb5.mono HB4.out.size))
        clear hb5
        have huo : u = o2 := by
          rw [HU.out, ← ho2, toA_bl]
        subst huo
        have hun : (u.toList != u.toList) = false := by simp
        clear ho2
        go_wp2_with fail
        refine (HRd.out _ HB5.out).mono ?_
        rintro e w6 ⟨xa, xn, xc, er, rfl, hxn, hxr, hb6, hcode⟩
        have HB6 := hidLL (HB5.out.trans (hb6.mono HB5.out.size))
        have HX := hidLL (And.intro hxn hxr)
        have HCd := hidLL hcode
        clear hb6 hxn hxr hcode
        go_wp2_with fail
        refine (HRs.out _ HB6.out).mono ?_
        rintro e w7 ⟨ya, yn, yc, rfl, hyn, hyr, hb7⟩
        have HB7 := hidLL (HB6.out.trans (hb7.mono HB6.out.size))
        have HB67 := hidLL hb7
        have HY := hidLL (And.intro hyn hyr)
        clear hb7 hyn hyr
        obtain ⟨W8, hW8⟩ : ∃ W8 : World, W8 = w7.alloc (.cells #[.int .i64 fc, .int .i64 fa] 36) := ⟨_, rfl⟩
        have HW8 := hidLL hW8
        have hb8 : Below w7.heap.size w7 W8 := by rw [hW8]; exact (Below.refl _ _).alloc (Nat.le_refl _) _
        have HB78 := hidLL hb8
        have HB8 := hidLL (HB7.out.trans (hb8.mono HB7.out.size))
        have k8 : W8.heap[w7.heap.size]? = some (.cells #[.int .i64 fc, .int .i64 fa] 36 (0, 0)) := by rw [hW8]; exact World.alloc_heap_new _ _
        have HK8 := hidLL k8
        clear hW8 hb8 k8
        go_wp2_with fail
        rw [← HW8.out]
        refine (HCd.out W8 (HB67.out.trans (HB78.out.mono HB67.out.size)) (HL.out.below HB8.out)).mono ?_
        rintro e w9 ⟨rfl, hb9⟩
        have HB9 := hidLL (HB8.out.trans (hb9.mono HB8.out.size))
        have k9 : w9.heap[w7.heap.size]? = some (.cells #[.int .i64 fc, .int .i64 fa] 36 (0, 0)) := (hb9.block _ (lt_of_block HK8.out)).trans HK8.out
        have f0 : w9.cell? ⟨w7.heap.size, 0, none⟩ = some (.int .i64 fc) := by simp [World.cell?, k9]
        have f1 : w9.cell? ⟨w7.heap.size, 1, none⟩ = some (.int .i64 fa) := by simp [World.cell?, k9]
        have HXY : Hid (SRd w9 w9.heap.size (.slice xa xn xc) xs ∧ SRd w9 w9.heap.size (.slice ya yn yc) xs) := by
          have hs8 := HB78.out.size
          have hs9 := hb9.size
          have hs7 := HB67.out.size
          exact ⟨srd_mono (((HX.out.2.on HB67.out.block).on fun k hk => HB78.out.block k (by omega)).on fun k hk => hb9.block k (by omega)) (by omega), srd_mono ((HY.out.2.on HB78.out.block).on fun k hk => hb9.block k (by omega)) (by omega)⟩
        clear hb9 k9
        have hee : (fc != fc) = false := by simp
        have haa : (fa != fa) = false := by simp
        have hnn : ((xn : Int) != (yn : Int)) = false := by
          rw [HX.out.1, HY.out.1]; simp
        obtain ⟨b7, hb7⟩ : ∃ b7, b7 = w7.heap.size := ⟨_, rfl⟩
        rw [← hb7] at f0 f1 ⊢
        clear hb7
        go_upto_region 13 with fail
        go_cut [85] (fun y wx => y = .bool false ∧ wx = w9)
        case first =>
          by_cases hf : 0 < fc
          · go_wp2
            go_meet
            exact ⟨rfl, rfl⟩
          · go_wp2
            go_meet
            exact ⟨rfl, rfl⟩
        case rest =>
          obtain ⟨h85, ewc⟩ := hcut
          subst h85
          subst wc
          clear f0 f1 hee haa hnn
          have hxb : xn ≤ 8796093022208 := by obtain ⟨_, _, _, h, _⟩ := HXY.out.1; have := HX.out.1; omega
          go_wp2_with fail
          go_loopw [16] (fun t wr => ∃ j : Nat, j ≤ xn ∧ t = .int .i64 j ∧ Below w9.heap.size w9 wr) (fun t _ => xn - (RowKit.intOf t).toNat)
          case atStart => exact ⟨0, by omega, rfl, Below.refl _ _⟩
          case round =>
            obtain ⟨j, hj, rfl, hbr⟩ := hrel
            obtain ⟨V16, hV⟩ : ∃ V : World, V = wr := ⟨_, rfl⟩
            subst hV
            by_cases hjl : j < xn
            · have hjz : (j : Int) < xn := by omega
              have hjy : (j : Int) < yn := by have := HX.out.1; have := HY.out.1; omega
              obtain ⟨c, hc⟩ : ∃ c, xs[j]? = some c := ⟨_, List.getElem?_eq_getElem (by have := HX.out.1; omega)⟩
              obtain ⟨gx, ox, ex, hgx, x0, x1, x2⟩ := (HXY.out.1.on hbr.block).at hc
              obtain ⟨gy, oy, ey, hgy, y0, y1, y2⟩ := (HXY.out.2.on hbr.block).at hc
              obtain ⟨c1, c2, c3⟩ := c
              simp only at x0 x1 x2 y0 y1 y2
              subst ex ey
              have hgV : gx < V16.heap.size := by have := hbr.size; omega
              have HBr := hidLL hbr
              clear hc hbr
              go_wp2_with fail
              go_region_with (go_at_call 11; refine (step_w c1 c2 c3 _).mono ?_; rintro e w5 ⟨rfl, hb5⟩; have q0 : w5.cell? ⟨gx, ox + j * 3, none⟩ = some (.bool c1) := (hb5.cell (p := ⟨gx, ox + j * 3, none⟩) hgV).trans x0; have q1 : w5.cell? ⟨gx, ox + j * 3 + 1, none⟩ = some (.bool c2) := (hb5.cell (p := ⟨gx, ox + j * 3 + 1, none⟩) hgV).trans x1; have q2 : w5.cell? ⟨gx, ox + j * 3 + 2, none⟩ = some (.int .i64 c3) := (hb5.cell (p := ⟨gx, ox + j * 3 + 2, none⟩) hgV).trans x2)
              all_goals
                have HB5 := hidLL (HBr.out.drew.trans (hb5.mono HBr.out.size))
                clear hb5
                go_wp2
                go_roundw
                case rel => exact ⟨j + 1, by omega, by go_num, HB5.out⟩
                case measure => simp [RowKit.intOf]; omega
            · have hjz : ¬ (j : Int) < (xn : Int) := by omega
              have HF1 := hidLL hbr
              clear hbr hj hjl
              have HBm := hidLL (HB9.out.trans (HF1.out.mono HB9.out.size))
              go_wp2_with fail
              clear hjz
              go_loopw [17] (fun t wr => ∃ j : Nat, j ≤ ln ∧ t = .int .i64 j ∧ wr = V16 ∧ ∀ i x, i < j → l[i]? = some x → LitIn nm x.2.2) (fun t _ => ln - (RowKit.intOf t).toNat)
              case atStart => exact ⟨0, by omega, rfl, rfl, fun i x h => by omega⟩
              case round =>
                obtain ⟨j2, hj2, rfl, hwr, hli⟩ := hrel
                subst hwr
                have HLi := hidLL hli
                clear hli
                by_cases hjl : j2 < ln
                · have hjz : (j2 : Int) < ln := by omega
                  obtain ⟨c, hc⟩ : ∃ c, l[j2]? = some c := ⟨_, List.getElem?_eq_getElem (by have := HD.out.2.2.1; omega)⟩
                  obtain ⟨gx, ox, rfl, hgx, x0, x1, x2⟩ := (HD.out.1.on HBm.out.block).at hc
                  obtain ⟨c1, c2, c3⟩ := c
                  simp only at x0 x1 x2
                  have HC := hidLL hc
                  clear hc x0 x1
                  have hwn : IntKind.i64.wrap (-(n : Int)) = -(n : Int) := by rw [IntKind.wrap_i64]; omega
                  by_cases a0 : c3 = 0
                  · have e0 : (c3 == 0) = true := by rw [a0]; rfl
                    clear a0
                    go_wp2
                    go_ret
                    exact ⟨rfl, HBm.out⟩
                  · have e0 : (c3 == 0) = false := by rw [beq_eq_false_iff_ne]; exact a0
                    by_cases a1 : (n : Int) < c3
                    · go_wp2
                      go_ret
                      exact ⟨rfl, HBm.out⟩
                    · by_cases a2 : c3 < -(n : Int)
                      · go_wp2
                        go_ret
                        exact ⟨rfl, HBm.out⟩
                      · have HLt : Hid (LitIn nm c3) := ⟨a0, by have := HD.out.2.2.2.1; omega, by have := HD.out.2.2.2.1; omega⟩
                        clear a0
                        go_wp2
                        go_roundw
                        case rel => exact ⟨j2 + 1, by omega, by go_num, by first | rfl | trivial, fun i x h1 h2 => by
                          rcases Nat.lt_or_ge i j2 with q | q
                          · exact HLi.out i x q h2
                          · obtain rfl : i = j2 := by omega
                            rw [HC.out] at h2
                            rw [← Option.some.inj h2]
                            exact HLt.out⟩
                        case measure => simp [RowKit.intOf]; omega
                · have hjz : ¬ (j2 : Int) < (ln : Int) := by omega
                  have hall : ∀ x, x ∈ l → LitIn nm x.2.2 := fun x hx => by
                    obtain ⟨i, hi⟩ := List.getElem?_of_mem hx
                    have h1 := (List.getElem?_eq_some_iff.1 hi).1
                    exact HLi.out i x (by have := HD.out.2.2.1; omega) hi
                  have hbk := back HW.out l hall
                  have hus : u.size ≤ 30000 := by
                    have h1 := textL_len (fun x hx => (HW.out.sz x hx).2) l
                    rw [HU.out]
                    show (textL nm l).toArray.size ≤ _
                    simp
                    have := HD.out.2.2.1
                    omega
                  have hub : bl u = textL nm l := by rw [HU.out]
                  have HR2 := hidLL (read_ok HL.out HD.out.2.1 HD.out.2.2.2.1 HW.out u hus (by rw [hub]; exact hbk))
                  clear hall hbk hub
                  go_wp2_with fail
                  refine (HR2.out _ HBm.out).mono ?_
                  rintro e w11 ⟨za, zn, zc, rfl, hzn, hzr, hb11⟩
                  have HB11 := hidLL (HBm.out.trans (hb11.mono HBm.out.size))
                  have HZ := hidLL (And.intro hzn hzr)
                  have hzz : ((zn : Int) != (ln : Int)) = false := by rw [hzn, HD.out.2.2.1]; first | done | simp
                  have hzb : zn ≤ 200 := by rw [hzn]; have := HD.out.2.2.1; omega
                  have HXZ : Hid (SRd w11 w11.heap.size (.slice za zn zc) l ∧ SRd w11 w11.heap.size (.slice la ln lc) l) := ⟨hzr, srd_mono (HD.out.1.on HB11.out.block) HB11.out.size⟩
                  clear hb11 hzn hzr
                  go_wp2_with fail
                  clear hzz
                  go_loopw [18] (fun t wr => ∃ j : Nat, j ≤ zn ∧ t = .int .i64 j ∧ Below w11.heap.size w11 wr) (fun t _ => zn - (RowKit.intOf t).toNat)
                  case atStart => exact ⟨0, by omega, rfl, Below.refl _ _⟩
                  case round =>
                    obtain ⟨j, hj, rfl, hbr⟩ := hrel
                    obtain ⟨V18, hV⟩ : ∃ V : World, V = wr := ⟨_, rfl⟩
                    subst hV
                    by_cases hjl : j < zn
                    · have hjz : (j : Int) < zn := by omega
                      have hjy : (j : Int) < ln := by have := HZ.out.1; have := HD.out.2.2.1; omega
                      obtain ⟨c, hc⟩ : ∃ c, l[j]? = some c := ⟨_, List.getElem?_eq_getElem (by have := HZ.out.1; omega)⟩
                      obtain ⟨gx, ox, ex, hgx, x0, x1, x2⟩ := (HXZ.out.1.on hbr.block).at hc
                      obtain ⟨gy, oy, ey, hgy, y0, y1, y2⟩ := (HXZ.out.2.on hbr.block).at hc
                      obtain ⟨c1, c2, c3⟩ := c
                      simp only at x0 x1 x2 y0 y1 y2
                      subst ex ey
                      have hgV : gx < V18.heap.size := by have := hbr.size; omega
                      have HBr := hidLL hbr
                      clear hc hbr
                      go_wp2_with fail
                      go_region_with (go_at_call 11; refine (step_w c1 c2 c3 _).mono ?_; rintro e w5 ⟨rfl, hb5⟩; have q0 : w5.cell? ⟨gx, ox + j * 3, none⟩ = some (.bool c1) := (hb5.cell (p := ⟨gx, ox + j * 3, none⟩) hgV).trans x0; have q1 : w5.cell? ⟨gx, ox + j * 3 + 1, none⟩ = some (.bool c2) := (hb5.cell (p := ⟨gx, ox + j * 3 + 1, none⟩) hgV).trans x1; have q2 : w5.cell? ⟨gx, ox + j * 3 + 2, none⟩ = some (.int .i64 c3) := (hb5.cell (p := ⟨gx, ox + j * 3 + 2, none⟩) hgV).trans x2)
                      all_goals
                        have HB5 := hidLL (HBr.out.drew.trans (hb5.mono HBr.out.size))
                        clear hb5
                        go_wp2
                        go_roundw
                        case rel => exact ⟨j + 1, by omega, by go_num, HB5.out⟩
                        case measure => simp [RowKit.intOf]; omega
                    · have hjz : ¬ (j : Int) < (zn : Int) := by omega
                      have HF3 := hidLL hbr
                      clear hbr hj hjl
                      go_wp2
                      go_ret
                      exact ⟨rfl, HB11.out.trans (HF3.out.mono HB11.out.size)⟩
end Go.Proofs.YtfnlcblalieolaaDoor

/-
  The laws of explanations: WhySound's walk.
-/
import Derived.Test.YtmbclnaenjcocaaDoorWhLaw
import Derived.Test.YtmbclnaenjcocaaDoorWhSteps
import Derived.Test.YtmbclnaenjcocaaDoorRsFirm
namespace Go.Proofs.YtmbclnaenjcocaaDoor
open Go.RowKit

set_option maxHeartbeats 1000000 in
theorem sound_none {w : World} {p : Nat → Addr} (hE : Sent4 w p) (a : Option Addr) (n c : Nat) : Calls Tryd.prog 7 #[.pointer none, .slice a n c] w fun e w' => e = .returned (.bool true) ∧ Below w.heap.size w w' := by
  have HL := hidLL (checks_w hE)
  clear hE
  go_enter Tryd.func7, Tryd.ntmps7
  go_wp2_with fail
  refine HL.out.mono ?_
  rintro e w1 ⟨rfl, hb⟩
  have HB := hidLL hb
  clear hb
  go_wp2
  go_ret
  exact ⟨rfl, HB.out⟩
set_option maxHeartbeats 4000000 in
set_option maxRecDepth 100000 in
theorem sound_w {w : World} {p : Nat → Addr} (hE : Sent4 w p) {B : Nat} {T : Thy} {rv ov : Value} {pb po : Nat} (h : TP w B T rv ov pb po) (hB : B ≤ w.heap.size) {ca : Option Addr} {cn cc : Nat} {l : List Clm} (hC : SRd w B (.slice ca cn cc) l) (hcn : cn = l.length) : Calls Tryd.prog 7 #[.pointer (some ⟨pb, po, none⟩), .slice ca cn cc] w fun e w' => e = .returned (.bool true) ∧ Below w.heap.size w w' := by
  have HL := hidLL (checks_w hE)
  have HX : Hid (∀ W, Below w.heap.size w W → TP W B T rv ov pb po ∧ B ≤ W.heap.size ∧ Sent4 W p ∧ SRd W B (.slice ca cn cc) l) := fun W hW => ⟨h.bel hW hB, by have := hW.size; omega, hE.bel hW, hC.on fun k hk => hW.block k (by omega)⟩
  have hcl : cn ≤ 8796093022208 := by
    obtain ⟨a', c', e, h9, _⟩ := hC
    omega
  have HCN := hidLL hcn
  clear hE h hB hC hcn
  by_cases hlong : 200 < cn
  · have hlz : (200 : Int) < cn := by omega
    go_enter Tryd.func7, Tryd.ntmps7
    go_wp2_with fail
    refine HL.out.mono ?_
    rintro e w1 ⟨rfl, hb1⟩
    have HB1 := hidLL hb1
    clear hb1 HL
    go_wp2
    go_ret
    exact ⟨rfl, HB1.out⟩
  · have hlz : ¬ (200 : Int) < cn := by omega
    go_enter Tryd.func7, Tryd.ntmps7
    go_wp2_with fail
    refine HL.out.mono ?_
    rintro e w1 ⟨rfl, hb1⟩
    have HB1 := hidLL hb1
    clear hb1 HL
    go_wp2_with fail
    refine (few_w (HX.out w1 HB1.out).1).mono ?_
    rintro e w2 ⟨b, rfl, ew⟩
    subst ew
    cases b with
    | false =>
      go_wp2
      go_ret
      exact ⟨rfl, HB1.out⟩
    | true =>
      go_wp2_with fail
      refine (theory_w (HX.out w2 HB1.out).1 (HX.out w2 HB1.out).2.1).mono ?_
      rintro e w3 ⟨rv', ov', rfl, hM, hb3⟩
      have HB3 := hidLL (HB1.out.trans (hb3.mono HB1.out.size))
      have HM := hidLL hM
      clear hb3 hM
      go_wp2_with fail
      refine (steps_w (HX.out w3 HB3.out).2.2.2 (HX.out w3 HB3.out).2.1 HCN.out (by omega)).mono ?_
      rintro e w4 ⟨sa, sn, sc, rfl, hsn, hsr, hb4⟩
      have HB4 := hidLL (HB3.out.trans (hb4.mono HB3.out.size))
      have hM4 := HM.out.below hb4 (Nat.le_refl _)
      have hs34 := hb4.size
      have hsn2 : sn ≤ 1000 := by rw [hsn, ← HCN.out]; omega
      have HCk := hidLL (check_p (T := T) hM4 hs34 (HX.out w4 HB4.out).2.2.1 (fun h W hW => ordC T _ _ w3.heap.size W h (hM4.below hW hs34) (Nat.le_trans hs34 hW.size)) hsr hsn hsn2)
      clear hM4 hsr hb4 hsn
      go_wp2_with fail
      refine HCk.out.mono ?_
      rintro e w5 ⟨hb5, hres⟩
      have HB5 := hidLL (HB4.out.trans (hb5.mono HB4.out.size))
      clear hb5 HCk
      obtain ⟨b, ev, rfl, hbe⟩ : ∃ (b : Bool) (ev : Value), e = .returned (.tuple #[.bool b, ev]) ∧ ((∃ k, ev = errV p (some k)) ∨ (ev = .nilIface ∧ (b = true → goodL T (fun _ _ => False) l))) := by
        rcases hres with ⟨k, _, rfl⟩ | ⟨_, b, rfl, hg⟩
        · exact ⟨_, _, rfl, .inl ⟨k, rfl⟩⟩
        · exact ⟨_, _, rfl, .inr ⟨rfl, hg.1⟩⟩
      clear hres
      have HBE := hidLL hbe
      clear hbe
      go_wp2_with fail
      refine (theory_w (HX.out w5 HB5.out).1 (HX.out w5 HB5.out).2.1).mono ?_
      rintro e w6 ⟨rv2, ov2, rfl, hM, hb6⟩
      have HB6 := hidLL (HB5.out.trans (hb6.mono HB5.out.size))
      have HM2 := hidLL hM
      clear hb6 hM
      go_wp2_with fail
      refine (solve_v HM2.out (Nat.le_refl _) (HX.out w6 HB6.out).2.2.1 (fun h W hW => ordC T _ _ w6.heap.size W h (HM2.out.below hW (Nat.le_refl _)) hW.size)).mono ?_
      rintro e w7 ⟨hb7, ⟨k, hk, rfl⟩ | ⟨hk, bS, bH, s, rfl, _, _, hS, hH, hF, hQ⟩⟩
      · have HB7 := hidLL (HB6.out.trans (hb7.mono HB6.out.size))
        clear hb7 hk
        rcases HBE.out with ⟨k2, rfl⟩ | ⟨rfl, _⟩
        · unfold errV
          go_wp2
          go_ret
          exact ⟨rfl, HB7.out.alloc HB7.out.size _⟩
        · unfold errV
          go_wp2
          go_ret
          exact ⟨rfl, HB7.out.alloc HB7.out.size _⟩
      · have HB7 := hidLL (HB6.out.trans (hb7.mono HB6.out.size))
        have hOk := errIs_okt hk
        rcases HBE.out with ⟨k2, rfl⟩ | ⟨rfl, hgood⟩
        · clear hb7 hk hS hH hF hQ hOk
          unfold errV
          go_wp2
          go_ret
          exact ⟨rfl, HB7.out.alloc HB7.out.size _⟩
        · cases b with
          | false =>
            clear hb7 hk hS hH hF hQ hOk hgood
            go_wp2
            go_ret
            exact ⟨rfl, HB7.out.alloc HB7.out.size _⟩
          | true =>
            have hgl := hgood (by first | rfl | trivial)
            have hcl2 := closed_of hOk hF hQ
            have hall : ∀ c, c ∈ l → IsLit T c.2.2 ∧ shwn s (pl c.2.2) c.1 = ansOf c.2.1 := fun c hc => by
              have h9 := goodL_fol l (Shw.none T) hgl c hc
              exact ⟨h9.1, (shwn_mk h9.1).2 ((hF.2.all hcl2 _ _).2 h9.2)⟩
            obtain ⟨N2, hN2⟩ : ∃ N2, N2 = 2 * (shOf T).N := ⟨_, rfl⟩
            rw [← hN2] at hS hH ⊢
            obtain ⟨W8, hW8⟩ : ∃ W8 : World, W8 = w7.alloc (.cells #[.slice (some ⟨bS, 0, none⟩) N2 N2, .slice (some ⟨bH, 0, none⟩) N2 N2] 27) := ⟨_, rfl⟩
            obtain ⟨kb, hkb⟩ : ∃ kb, kb = w7.heap.size := ⟨_, rfl⟩
            have hb8 : Below w7.heap.size w7 W8 := by rw [hW8]; exact (Below.refl _ _).alloc (Nat.le_refl _) _
            have hk8 : W8.heap[kb]? = some (.cells #[.slice (some ⟨bS, 0, none⟩) N2 N2, .slice (some ⟨bH, 0, none⟩) N2 N2] 27) := by rw [hW8, hkb]; exact blk_new _ _
            have k0 : W8.cell? ⟨kb, 0, none⟩ = some (.slice (some ⟨bS, 0, none⟩) N2 N2) := by simp [World.cell?, hk8]
            have k1 : W8.cell? ⟨kb, 1, none⟩ = some (.slice (some ⟨bH, 0, none⟩) N2 N2) := by simp [World.cell?, hk8]
            have hS8 := hS.of_block (hb8.block _ hS.lt)
            have hH8 := hH.of_block (hb8.block _ hH.lt)
            have hb08 : Below w.heap.size w W8 := HB7.out.trans (hb8.mono HB7.out.size)
            have hTP8 := (HX.out W8 hb08).1
            have HW8 := hidLL (And.intro hW8 hkb)
            have HR8 := hidLL (And.intro hS8 hH8)
            have HAll := hidLL hall
            have HSR := hidLL (HX.out W8 hb08).2.2.2
            have HB8 := hidLL hb08
            have HIs : Hid (∀ q, Calls Tryd.prog 22 #[.pointer (some ⟨pb, po, none⟩), .int .i64 q] W8 fun e w' => e = .returned (.bool (!noLit T q)) ∧ w' = W8) := fun q => isLit_r hTP8.c0 hOk.n0 hOk.n1 q
            have HOk := hidLL hOk
            have HN2 := hidLL hN2
            clear hb7 hk hS hH hF hQ hOk hgood hgl hcl2 hall hW8 hkb hb8 hk8 hS8 hH8 hb08 hTP8 hN2
            go_upto_region 9 with fail
            rw [← HW8.out.1, ← HW8.out.2]
            go_wp2_with fail
            go_loopw [11] (fun t wr => ∃ j : Nat, j ≤ cn ∧ t = .int .i64 j ∧ wr = W8) (fun t _ => cn - (RowKit.intOf t).toNat)
            case atStart => exact ⟨0, by omega, rfl, rfl⟩
            case round =>
              obtain ⟨j, hj, rfl, ew⟩ := hrel
              subst wr
              by_cases hlt : j < cn
              · have hjz : (j : Int) < cn := by omega
                obtain ⟨x, hx⟩ : ∃ x, l[j]? = some x := ⟨_, List.getElem?_eq_getElem (by have := HCN.out; omega)⟩
                obtain ⟨g, o, ea, hgB, y0, y1, y2⟩ := HSR.out.at hx
                subst ea
                obtain ⟨hlit, hsh⟩ := HAll.out x (List.mem_of_getElem? hx)
                obtain ⟨xa, xb, xq⟩ := x
                simp only at y0 y1 y2 hlit hsh
                have hok := hlit.ok HOk.out
                obtain ⟨q0, q1, q2, q3⟩ := hok
                have hplz : (pl xq : Int) < (N2 : Int) := by rw [HN2.out]; omega
                have m0 := HR8.out.1.cell (i := pl xq) (by rw [HN2.out]; exact q3)
                have m1 := HR8.out.2.cell (i := pl xq) (by rw [HN2.out]; exact q3)
                have HP := hidLL (plR_w xq q0 q1 q2 W8)
                have HI : Hid (Calls Tryd.prog 22 #[.pointer (some ⟨pb, po, none⟩), .int .i64 xq] W8 fun e w' => e = .returned (.bool true) ∧ w' = W8) := by
                  have := HIs.out xq
                  rw [noLit_iff.2 hlit] at this
                  exact this
                clear hx hlit q0 q1 q2 q3
                unfold shwn at hsh
                generalize pl xq = P at *
                cases xa with
                | true =>
                  have hsh : s.su P = ansOf xb := hsh
                  rw [hsh] at m0
                  generalize s.ho P = u at m1
                  clear hsh
                  cases xb with
                  | true =>
                    have e9 : ansOf true = 1 := rfl
                    rw [e9] at m0
                    clear e9
                    go_wp2_with fail
                    refine HI.out.mono ?_
                    rintro e w' ⟨rfl, ew⟩
                    subst w'
                    go_wp2_with fail
                    refine HP.out.mono ?_
                    rintro e w' ⟨rfl, ew⟩
                    subst w'
                    go_wp2
                    go_roundw
                    case rel => exact ⟨j + 1, by omega, by go_num, by first | rfl | trivial⟩
                    case measure => simp [RowKit.intOf]; omega
                  | false =>
                    have e9 : ansOf false = 2 := rfl
                    rw [e9] at m0
                    clear e9
                    go_wp2_with fail
                    refine HI.out.mono ?_
                    rintro e w' ⟨rfl, ew⟩
                    subst w'
                    go_wp2_with fail
                    refine HP.out.mono ?_
                    rintro e w' ⟨rfl, ew⟩
                    subst w'
                    go_wp2
                    go_roundw
                    case rel => exact ⟨j + 1, by omega, by go_num, by first | rfl | trivial⟩
                    case measure => simp [RowKit.intOf]; omega
                | false =>
                  have hsh : s.ho P = ansOf xb := hsh
                  rw [hsh] at m1
                  generalize s.su P = u at m0
                  clear hsh
                  cases xb with
                  | true =>
                    have e9 : ansOf true = 1 := rfl
                    rw [e9] at m1
                    clear e9
                    go_wp2_with fail
                    refine HI.out.mono ?_
                    rintro e w' ⟨rfl, ew⟩
                    subst w'
                    go_wp2_with fail
                    refine HP.out.mono ?_
                    rintro e w' ⟨rfl, ew⟩
                    subst w'
                    go_wp2
                    go_roundw
                    case rel => exact ⟨j + 1, by omega, by go_num, by first | rfl | trivial⟩
                    case measure => simp [RowKit.intOf]; omega
                  | false =>
                    have e9 : ansOf false = 2 := rfl
                    rw [e9] at m1
                    clear e9
                    go_wp2_with fail
                    refine HI.out.mono ?_
                    rintro e w' ⟨rfl, ew⟩
                    subst w'
                    go_wp2_with fail
                    refine HP.out.mono ?_
                    rintro e w' ⟨rfl, ew⟩
                    subst w'
                    go_wp2
                    go_roundw
                    case rel => exact ⟨j + 1, by omega, by go_num, by first | rfl | trivial⟩
                    case measure => simp [RowKit.intOf]; omega
              · have hge : ¬ (j : Int) < cn := by omega
                go_wp2
                go_ret
                exact ⟨rfl, HB8.out⟩
end Go.Proofs.YtmbclnaenjcocaaDoor

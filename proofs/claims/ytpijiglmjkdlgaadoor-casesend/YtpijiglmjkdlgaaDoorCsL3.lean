/-
  Cases, the reference: Stages.
-/
import Derived.Test.YtpijiglmjkdlgaaDoorCsCat
namespace Go.Proofs.YtpijiglmjkdlgaaDoor
open Go.RowKit

theorem names_take {p : Pn} {j : Nat} {x : ByteArray} (h : p.names[j]? = some x) : onceL (p.names.take (j + 1)) = addS (onceL (p.names.take j)) x := by
  unfold onceL
  rw [List.take_add_one, h]
  simp [List.foldl_append]
theorem once_len (xs : List ByteArray) : (onceL xs).length ≤ xs.length := by
  have := fold_len xs []
  unfold onceL
  simpa using this
theorem namesM_next {p : Pn} {j : Nat} {m : Mv} (h : p.mvs[j]? = some m) : p.namesM (j + 1) = p.namesM j ++ [m.fr, m.tt] := by
  unfold Pn.namesM
  rw [List.take_add_one, h]
  simp [List.flatMap_append]
theorem namesM_all (p : Pn) {j : Nat} (h : p.mvs.length ≤ j) : p.namesM j = p.names := by
  unfold Pn.namesM Pn.names
  rw [List.take_of_length_le h]
theorem namesM_size (p : Pn) (j : Nat) : (p.namesM j).length ≤ 1 + p.fin.length + 2 * p.mvs.length := by
  have h3 := names_len ⟨p.start, p.fin, p.mvs.take j⟩
  have h4 : (p.namesM j).length = _ := h3
  rw [h4]
  simp only [List.length_take]
  omega
section
variable {w : World} {S : Nat → Prop} {b o : Nat} {p : Pn} {pf pm : SlV}
def SgR (w : World) (p : Pn) (e : Ending) (w' : World) : Prop := ∃ a n c, e = .returned (.slice a n c) ∧ n = p.stL.length ∧ Below w.heap.size w w'
set_option maxHeartbeats 4000000 in
set_option maxRecDepth 20000 in
theorem stages_r (h : PlAt w S b o p pf pm) (hm : p.mvs.length ≤ 125) (hf : p.fin.length ≤ 125) : Calls Tryd.prog 8 #[.pointer (some ⟨b, o, none⟩)] w (SgR w p) := by
  obtain ⟨hpn, hbig⟩ := h.mvs.len
  obtain ⟨hfn, hbigF⟩ := h.fin.len
  have HN := hidLL (And.intro hpn hfn)
  have HL := hidLL (And.intro hm hf)
  have H := hidLL h
  obtain ⟨B, hB⟩ : ∃ B, B = w.heap.size := ⟨_, rfl⟩
  obtain ⟨W1, hW1⟩ : ∃ W1, W1 = w.alloc (.cells #[.string p.start] 9) := ⟨_, rfl⟩
  have hb1 : Below w.heap.size w W1 := by rw [hW1]; exact (Below.refl _ _).alloc (Nat.le_refl _) _
  have H1 := hidLL (h.step hb1)
  have HR1 : Hid (RowG strE 9 W1 B (.slice (some ⟨B, 0, none⟩) 1 1) [p.start]) := by
    rw [hW1, hB]
    exact ⟨World.ownsRow_lit w #[.string p.start] 1 (Nat.le_refl _) (by unfold maxLen; omega) rfl, by simp⟩
  have c0 := h.c0
  have d1 := H1.out.c1
  have hB1 : B ≤ W1.heap.size := by rw [hB]; exact hb1.size
  have HW := hidLL (And.intro hW1 (And.intro hB hb1))
  clear h hW1 hB hb1 hpn hfn hm hf
  go_enter Tryd.func8, Tryd.ntmps8
  go_upto_region 2 with fail
  rw [← HW.out.1, ← HW.out.2.1]
  clear c0
  go_wp2_with (at_builtin; refine wpList_cat (E := strE) Tryd.infoSr (by decide) Tryd.underlying23 rfl (.tmp 13) (.tmp 17) rfl B (.slice (some ⟨B, 0, none⟩) 1 1) [p.start] p.fin rfl HR1.out rfl H1.out.fin H1.out.nf hB1 (by have := HL.out; simp; omega) ?_; intro v2 W2 hr2 hb2 _; obtain ⟨va, vn, vc, rfl, hp2⟩ := hr2.any3; have H2 := hidLL (And.intro hr2 hb2); clear hr2 hb2 hp2)
  go_loopw [4, 3] (fun i x wr => ∃ (j : Nat) (a : Option Addr) (n c : Nat), j ≤ pm.n ∧ i = .int .i64 j ∧ x = .slice a n c ∧ RowG strE 9 wr B (.slice a n c) (p.namesM j) ∧ Below B w wr) (fun i _ _ => pm.n - (RowKit.intOf i).toNat)
  case atStart =>
    refine ⟨0, va, vn, vc, by omega, rfl, rfl, ?_, ?_⟩
    · have h9 := H2.out.1
      have e : p.namesM 0 = [p.start] ++ p.fin := by simp [Pn.namesM]
      rw [e]
      exact h9
    · rw [HW.out.2.1]
      have h9 := H2.out.2
      rw [HW.out.2.1] at h9
      exact HW.out.2.2.trans h9
  case round =>
    obtain ⟨j, xa, xn, xc, hj, rfl, rfl, hrow, hbel⟩ := hrel
    clear H2 d1
    have HP : Hid (PlAt wr S b o p pf pm) := H.out.step (by rw [← HW.out.2.1]; exact hbel)
    have HR := hidLL (And.intro hrow hbel)
    have hBw : B ≤ wr.heap.size := by rw [HW.out.2.1]; exact hbel.size
    clear hrow hbel
    have c2 := HP.out.c2
    by_cases hlt : j < pm.n
    · have hjz : (j : Int) < pm.n := by omega
      obtain ⟨m, hm⟩ : ∃ m, p.mvs[j]? = some m := ⟨_, List.getElem?_eq_getElem (by have := HN.out; omega)⟩
      obtain ⟨g, o2, hga, hg, hrg⟩ := HP.out.mvs.at hm
      rw [show mvE.k = 8 from rfl] at hrg
      obtain ⟨y0, y1, y2, y3, y4, y5, y6, y7⟩ := mv_cells hrg
      have HNx := hidLL (namesM_next hm)
      have hl0 : (p.namesM j).length + 2 ≤ 1000000 := by have := namesM_size p j; have := HL.out; omega
      rw [hga] at c2
      clear hm hrg hg hga
      have HRow : Hid (∀ V, Rch wr V → RowG strE 9 V B (.slice xa xn xc) (p.namesM j) ∧ B ≤ V.heap.size ∧ Below B w V) := fun V h8 => ⟨HR.out.1.below h8, Nat.le_trans hBw h8.size, HR.out.2.trans (Below.mono h8 hBw)⟩
      have HQ1 : Hid (RowG strE 9 ((wr.alloc (.cells #[.string m.fr, .string m.tt] 9)).drew) B (.slice xa xn xc) (p.namesM j) ∧ RdS strE ((wr.alloc (.cells #[.string m.fr, .string m.tt] 9)).drew) (fun k => k = wr.heap.size) (.slice (some ⟨wr.heap.size, 0, none⟩) 2 2) [m.fr, m.tt] ∧ B ≤ ((wr.alloc (.cells #[.string m.fr, .string m.tt] 9)).drew).heap.size ∧ Below B w ((wr.alloc (.cells #[.string m.fr, .string m.tt] 9)).drew)) := by
        obtain ⟨q1, q2, q3⟩ := HRow.out ((wr.alloc (.cells #[.string m.fr, .string m.tt] 9)).drew) (by repeat (first | exact Rch.refl _ | refine Rch.drew ?_ | refine Rch.alloc ?_ _))
        exact ⟨q1, laid_rd_d strE 9 wr [m.fr, m.tt] rfl (by simp), q2, q3⟩
      have HQ2 : Hid (RowG strE 9 (wr.drew.alloc (.cells #[.string m.fr, .string m.tt] 9)) B (.slice xa xn xc) (p.namesM j) ∧ RdS strE (wr.drew.alloc (.cells #[.string m.fr, .string m.tt] 9)) (fun k => k = wr.heap.size) (.slice (some ⟨wr.heap.size, 0, none⟩) 2 2) [m.fr, m.tt] ∧ B ≤ (wr.drew.alloc (.cells #[.string m.fr, .string m.tt] 9)).heap.size ∧ Below B w (wr.drew.alloc (.cells #[.string m.fr, .string m.tt] 9))) := by
        obtain ⟨q1, q2, q3⟩ := HRow.out (wr.drew.alloc (.cells #[.string m.fr, .string m.tt] 9)) (by repeat (first | exact Rch.refl _ | refine Rch.drew ?_ | refine Rch.alloc ?_ _))
        exact ⟨q1, laid_rd strE 9 wr.drew [m.fr, m.tt] rfl (by simp), q2, q3⟩
      have HQ3 : Hid (RowG strE 9 (wr.alloc (.cells #[.string m.fr, .string m.tt] 9)) B (.slice xa xn xc) (p.namesM j) ∧ RdS strE (wr.alloc (.cells #[.string m.fr, .string m.tt] 9)) (fun k => k = wr.heap.size) (.slice (some ⟨wr.heap.size, 0, none⟩) 2 2) [m.fr, m.tt] ∧ B ≤ (wr.alloc (.cells #[.string m.fr, .string m.tt] 9)).heap.size ∧ Below B w (wr.alloc (.cells #[.string m.fr, .string m.tt] 9))) := by
        obtain ⟨q1, q2, q3⟩ := HRow.out (wr.alloc (.cells #[.string m.fr, .string m.tt] 9)) (by repeat (first | exact Rch.refl _ | refine Rch.drew ?_ | refine Rch.alloc ?_ _))
        exact ⟨q1, laid_rd strE 9 wr [m.fr, m.tt] rfl (by simp), q2, q3⟩
      go_wp2_with fail
      go_region_law (first | (refine step_cat (E := strE) (a := some ⟨wr.heap.size, 0, none⟩) (n := 2) (c := 2) (Z := fun k => k = wr.heap.size) Tryd.infoSr (by decide) Tryd.underlying23 rfl (.tmp 28) (.tmp 45) rfl B (.slice xa xn xc) (p.namesM j) [m.fr, m.tt] (by first | (simp [Act.eval]; done) | simp [Act.eval, Act.put]) HQ1.out.1 (by first | (simp [Act.eval]; done) | simp [Act.eval, Act.put]) HQ1.out.2.1 (fun h9 => by cases h9) HQ1.out.2.2.1 hl0 ?_; intro v7 w7 hr7 hb7 hk7; (obtain ⟨pa, pn, pc, rfl, hp7⟩ := hr7.any3); (have H7 : Hid (RowG strE 9 w7 B (.slice pa pn pc) (p.namesM (j + 1)) ∧ Below B w w7) := (by rw [HNx.out]; exact ⟨hr7, HQ1.out.2.2.2.trans hb7⟩)); clear hr7 hb7 hp7 hk7) | (refine step_cat (E := strE) (a := some ⟨wr.heap.size, 0, none⟩) (n := 2) (c := 2) (Z := fun k => k = wr.heap.size) Tryd.infoSr (by decide) Tryd.underlying23 rfl (.tmp 28) (.tmp 45) rfl B (.slice xa xn xc) (p.namesM j) [m.fr, m.tt] (by first | (simp [Act.eval]; done) | simp [Act.eval, Act.put]) HQ2.out.1 (by first | (simp [Act.eval]; done) | simp [Act.eval, Act.put]) HQ2.out.2.1 (fun h9 => by cases h9) HQ2.out.2.2.1 hl0 ?_; intro v7 w7 hr7 hb7 hk7; (obtain ⟨pa, pn, pc, rfl, hp7⟩ := hr7.any3); (have H7 : Hid (RowG strE 9 w7 B (.slice pa pn pc) (p.namesM (j + 1)) ∧ Below B w w7) := (by rw [HNx.out]; exact ⟨hr7, HQ2.out.2.2.2.trans hb7⟩)); clear hr7 hb7 hp7 hk7) | (refine step_cat (E := strE) (a := some ⟨wr.heap.size, 0, none⟩) (n := 2) (c := 2) (Z := fun k => k = wr.heap.size) Tryd.infoSr (by decide) Tryd.underlying23 rfl (.tmp 28) (.tmp 45) rfl B (.slice xa xn xc) (p.namesM j) [m.fr, m.tt] (by first | (simp [Act.eval]; done) | simp [Act.eval, Act.put]) HQ3.out.1 (by first | (simp [Act.eval]; done) | simp [Act.eval, Act.put]) HQ3.out.2.1 (fun h9 => by cases h9) HQ3.out.2.2.1 hl0 ?_; intro v7 w7 hr7 hb7 hk7; (obtain ⟨pa, pn, pc, rfl, hp7⟩ := hr7.any3); (have H7 : Hid (RowG strE 9 w7 B (.slice pa pn pc) (p.namesM (j + 1)) ∧ Below B w w7) := (by rw [HNx.out]; exact ⟨hr7, HQ3.out.2.2.2.trans hb7⟩)); clear hr7 hb7 hp7 hk7))
      all_goals (
        go_wp2
        go_roundw
        case rel => exact ⟨j + 1, pa, pn, pc, by omega, by go_num, rfl, H7.out⟩
        case measure => simp [RowKit.intOf]; omega)
    · have hjz : ¬ (j : Int) < pm.n := by omega
      obtain ⟨B2, hB2⟩ : ∃ B2, B2 = wr.heap.size := ⟨_, rfl⟩
      obtain ⟨V, hV⟩ : ∃ V, V = wr := ⟨_, rfl⟩
      subst wr
      have HA : Hid (RdS strE V (· < B2) (.slice xa xn xc) p.names ∧ Below B w V ∧ B ≤ B2) := by
        have h9 := HR.out.1.rdS
        rw [namesM_all p (by have := HN.out; omega)] at h9
        rw [hB2]
        exact ⟨h9.mono fun k hk => hk.2.1, HR.out.2, hBw⟩
      have HB2 := hidLL hB2
      have hxn := HA.out.1.len
      obtain ⟨hxn1, hxn2⟩ := hxn
      have HXn := hidLL hxn1
      clear HR HP hB2 hxn1
      go_wp2_with fail
      clear c2
      go_loopw [6, 5] (fun i x wr => ∃ (j : Nat) (a : Option Addr) (n c : Nat), j ≤ xn ∧ i = .int .i64 j ∧ x = .slice a n c ∧ RowG strE 9 wr B2 (.slice a n c) (onceL (p.names.take j)) ∧ Below B2 V wr) (fun i _ _ => xn - (RowKit.intOf i).toNat)
      case atStart => exact ⟨0, _, _, _, by omega, rfl, rfl, by simpa [onceL] using RowG.nil _ _, Below.refl _ _⟩
      case round =>
        obtain ⟨k, ua, un, uc, hk, rfl, rfl, hrow, hbel⟩ := hrel
        have HR := hidLL (And.intro hrow hbel)
        have HA2 : Hid (RdS strE wr (· < B2) (.slice xa xn xc) p.names) := HA.out.1.on fun k hk => ⟨hk, hbel.block k hk⟩
        have hBw2 : B2 ≤ wr.heap.size := by rw [HB2.out]; exact hbel.size
        clear hrow hbel
        by_cases hlt2 : k < xn
        · have hkz : (k : Int) < xn := by omega
          obtain ⟨x, hx⟩ : ∃ x, p.names[k]? = some x := ⟨_, List.getElem?_eq_getElem (by have := HXn.out; omega)⟩
          obtain ⟨g, o2, hga, hg, hrg⟩ := HA2.out.at hx
          subst hga
          have y0 : wr.cell? ⟨g, o2 + k, none⟩ = some (.string x) := by
            have := hrg 0 _ rfl
            rw [show strE.k = 1 from rfl, Nat.mul_one] at this
            exact this
          have HC := hidLL (inNames_r HR.out.1.rdS x)
          have HE := hidLL (names_take hx)
          have hl0 : (onceL (p.names.take k)).length + 1 ≤ 1000000 := by
            have := once_len (p.names.take k)
            have h8 := names_len p
            rw [List.length_take] at this
            have := HL.out
            omega
          clear hx hrg
          go_wp2_with fail
          refine HC.out.mono ?_
          rintro e w9 ⟨ib, rfl, hib, h9⟩
          subst w9
          have HIb := hidLL hib
          clear hib
          cases ib with
          | true =>
            go_wp2
            go_roundw
            case rel =>
              refine ⟨k + 1, ua, un, uc, by omega, by go_num, rfl, ?_, HR.out.2⟩
              rw [HE.out]
              unfold addS
              rw [if_pos (HIb.out.1 (by trivial))]
              exact HR.out.1
            case measure => simp [RowKit.intOf]; omega
          | false =>
            have hni : x ∉ onceL (p.names.take k) := by
              have h8 := HIb.out
              simpa using h8
            have HNi : Hid (onceL (p.names.take (k + 1)) = onceL (p.names.take k) ++ [x]) := by
              rw [HE.out]
              unfold addS
              rw [if_neg hni]
              exact hidLL rfl
            clear hni
            go_wp2_with (at_builtin; refine wpList_push_g (E := strE) Tryd.infoSr (by decide) Tryd.underlying23 rfl (.tmp 61) (.tmp 66) rfl B2 (.slice ua un uc) (onceL (p.names.take k)) x _ rfl rfl HR.out.1 (by first | (simp [Act.eval]; done) | simp [Act.eval, Act.put]) hBw2 hl0 ?_; intro v' w5 hr5 hb5 hk5 hv5; obtain ⟨pa5, pn5, pc5, rfl, hp5⟩ := hr5.any3; have H5 := hidLL (And.intro hr5 hb5); clear hr5 hb5 hk5 hv5 hp5)
            go_roundw
            case rel =>
              refine ⟨k + 1, pa5, pn5, pc5, by omega, by go_num, rfl, ?_, HR.out.2.trans H5.out.2⟩
              rw [HNi.out]
              exact H5.out.1
            case measure => simp [RowKit.intOf]; omega
        · have hkz : ¬ (k : Int) < xn := by omega
          go_wp2
          go_ret
          refine ⟨ua, un, uc, rfl, ?_, ?_⟩
          · obtain ⟨_, _, _, e, h9⟩ := HR.out.1.any3
            injection e with _ e _
            rw [e, h9, List.take_of_length_le (by have := HXn.out; omega)]
            rfl
          · have h9 := HA.out.2.1.trans (HR.out.2.mono HA.out.2.2)
            rw [HW.out.2.1] at h9
            exact h9
end
end Go.Proofs.YtpijiglmjkdlgaaDoor

/-
  The reference: KindOf, Checked.
-/
import Derived.Test.YtmbclnaenjcocaaDoorRfVal
import Derived.Test.YtmbclnaenjcocaaDoorWhPl
namespace Go.Proofs.YtmbclnaenjcocaaDoor
open Go.RowKit

theorem kind_r (a b : Bool) (q : Int) (w : World) : Calls Tryd.prog 41 #[.agg #[.bool a, .bool b, .int .i64 q]] w fun e w' => e = .returned (.int .i64 (kOf a b)) ∧ Below w.heap.size w w' := by
  cases a <;> cases b
  all_goals
    go_enter Tryd.func41, Tryd.ntmps41
    go_wp2
    go_ret
    exact ⟨rfl, (Below.refl _ _).alloc (Nat.le_refl _) _⟩
theorem kOf_lt (a b : Bool) : kOf a b < 4 := by cases a <;> cases b <;> decide
/-- What Checked answers. -/
def ChkR (T : Thy) (l : List Clm) (w : World) (e : Ending) (w' : World) : Prop := ∃ b, e = .returned (.bool b) ∧ (b = true ↔ goodL T (fun _ _ => False) l) ∧ Below w.heap.size w w'
set_option maxHeartbeats 4000000 in
set_option maxRecDepth 100000 in
theorem checked_r {w : World} {B : Nat} {T : Thy} {rv ov : Value} {pb po : Nat} (h : TP w B T rv ov pb po) (hB : B ≤ w.heap.size) (hT : Okt T) {ca : Option Addr} {cn cc : Nat} {l : List Clm} (hC : SRd w B (.slice ca cn cc) l) (hcn : cn = l.length) : Calls Tryd.prog 21 #[.pointer (some ⟨pb, po, none⟩), .slice ca cn cc] w (ChkR T l w) := by
  have HN := hidLL (nothing_r h hB hT)
  have HT := hidLL hT
  obtain ⟨N2, hN2⟩ : ∃ N2, N2 = 2 * T.names.toNat := ⟨_, rfl⟩
  have hN2l : N2 ≤ 1000 := by have := hT.n1; have := hT.n0; omega
  have HN2 := hidLL hN2
  have hcl : cn ≤ 8796093022208 := by
    obtain ⟨a', c', e, h9, _⟩ := hC
    omega
  have HC : Hid (∀ W, Below w.heap.size w W → SRd W B (.slice ca cn cc) l) := fun W hW => hC.on fun k hk => hW.block k (by omega)
  have HCN := hidLL hcn
  have HB := hidLL hB
  clear h hB hT hC hcn hN2
  go_enter Tryd.func21, Tryd.ntmps21
  go_wp2_with fail
  refine HN.out.mono ?_
  rintro e w1 ⟨sb, bM, rfl, hSM, hsb, hbM, hne, hb1⟩
  have H1 := hidLL (And.intro hSM hb1)
  have HP0 := hidLL (And.intro hsb (And.intro hbM hne))
  clear hSM hb1 HN hsb hbM hne
  go_wp2_with fail
  go_loopw [6] (fun t wr => ∃ (j : Nat) (m : Nat → Nat → Bool), j ≤ cn ∧ t = .int .i64 j ∧ SM wr T rv ov B pb po sb bM m ∧ (goodL T (fun _ _ => False) l ↔ goodL T (mkB T m) (l.drop j)) ∧ Below w.heap.size w wr) (fun t _ => cn - (RowKit.intOf t).toNat)
  case atStart => exact ⟨0, _, by omega, rfl, H1.out.1, by rw [mkB_none, List.drop_zero], H1.out.2⟩
  case round =>
    obtain ⟨j, m, hj, rfl, hSM, hG, hbel⟩ := hrel
    obtain ⟨w3, hw3⟩ : ∃ w3 : World, w3 = wr := ⟨_, rfl⟩
    subst hw3
    by_cases hlt : j < cn
    · have hjz : (j : Int) < cn := by omega
      obtain ⟨x, hx⟩ : ∃ x, l[j]? = some x := ⟨_, List.getElem?_eq_getElem (by have := HCN.out; omega)⟩
      have hdr : l.drop j = x :: l.drop (j + 1) := by
        obtain ⟨h9, e9⟩ := List.getElem?_eq_some_iff.1 hx
        rw [List.drop_eq_getElem_cons h9, e9]
      rw [hdr] at hG
      obtain ⟨g, o, ea, hgB, y0, y1, y2⟩ := (HC.out w3 hbel).at hx
      subst ea
      have hgl : g < w3.heap.size := Nat.lt_of_lt_of_le hgB (Nat.le_trans HB.out hbel.size)
      obtain ⟨xa, xb, xq⟩ := x
      have hG : goodL T (fun _ _ => False) l ↔ IsLit T xq ∧ Can T (mkB T m) (kOf xa xb) xq ∧ goodL T (addM (mkB T m) (kOf xa xb) xq) (l.drop (j + 1)) := hG
      simp only at y0 y1 y2
      have HI := hidLL (isLit_r hSM.tp.c0 HT.out.n0 HT.out.n1 xq)
      have HS := hidLL (And.intro hSM (And.intro hG hbel))
      clear hSM hG hbel hx hdr
      cases hno : noLit T xq with
      | true =>
        rw [hno] at HI
        have HNO : Hid (¬ IsLit T xq) := fun e => by rw [noLit_iff.2 e] at hno; cases hno
        clear hno
        go_wp2_with fail
        refine HI.out.mono ?_
        rintro e w' ⟨rfl, ew⟩
        subst w'
        go_wp2
        go_ret
        exact ⟨false, rfl, ⟨fun e => (by cases e), fun e => absurd (HS.out.2.1.1 e).1 HNO.out⟩, HS.out.2.2⟩
      | false =>
        rw [hno] at HI
        have HLit := hidLL (noLit_iff.1 hno)
        clear hno
        have HK := hidLL (kind_r xa xb xq w3)
        have hk4 := kOf_lt xa xb
        have HCan : Hid (∀ W, Below w3.heap.size w3 W → Calls Tryd.prog 38 #[.pointer (some ⟨sb, 0, none⟩), .int .i64 xq, .int .i64 (kOf xa xb)] W (BR W (canB T m (kOf xa xb) xq))) := fun W hW => can_r (HS.out.1.bel hW) HT.out HLit.out hk4
        have HCV : Hid (canB T m (kOf xa xb) xq = true ↔ Can T (mkB T m) (kOf xa xb) xq) := canB_iff HT.out HLit.out hk4
        obtain ⟨k, hk⟩ : ∃ k, k = kOf xa xb := ⟨_, rfl⟩
        rw [← hk] at HK hk4 HCan HCV HS
        clear hk
        generalize canB T m k xq = cb at *
        go_wp2_with fail
        refine HI.out.mono ?_
        rintro e w' ⟨rfl, ew⟩
        subst w'
        go_wp2_with fail
        refine HK.out.mono ?_
        rintro e w4 ⟨rfl, hb4⟩
        have hgl4 : g < w4.heap.size := Nat.lt_of_lt_of_le hgl hb4.size
        have z2 : w4.cell? ⟨g, o + j * 3 + 2, none⟩ = some (.int .i64 xq) := (hb4.cell (p := ⟨g, o + j * 3 + 2, none⟩) hgl).trans y2
        have HC4 := hidLL (HCan.out w4 hb4)
        have H4 := hidLL hb4
        clear hb4 HCan HK HI
        go_wp2_with fail
        refine HC4.out.mono ?_
        rintro e w5 ⟨rfl, hb5⟩
        have x2 : w5.cell? ⟨g, o + j * 3 + 2, none⟩ = some (.int .i64 xq) := (hb5.cell (p := ⟨g, o + j * 3 + 2, none⟩) hgl4).trans z2
        have hgl5 : g < w5.heap.size := Nat.lt_of_lt_of_le hgl4 hb5.size
        have H5 := hidLL (H4.out.trans (hb5.mono H4.out.size))
        clear hb5 HC4 y0 y1 y2 z2 hgl hgl4
        cases cb with
        | false =>
          go_wp2
          go_ret
          exact ⟨false, rfl, ⟨fun e => (by cases e), fun e => absurd (HCV.out.2 (HS.out.2.1.1 e).2.1) (by simp)⟩, HS.out.2.2.trans (H5.out.mono HS.out.2.2.size)⟩
        | true =>
          obtain ⟨q0, q1, q2, q3⟩ := HLit.out.ok HT.out
          have hSM5 := HS.out.1.bel H5.out
          have HPl : Hid (∀ W, Calls Tryd.prog 17 #[.int .i64 xq] W fun e w' => e = .returned (.int .i64 (pl xq)) ∧ w' = W) := fun W => plR_w xq q0 q1 q2 W
          have hpN : pl xq < N2 := by rw [HN2.out]; exact q3
          have HUp : Hid (mkB T (updM m (pl xq) k) = addM (mkB T m) k xq) := mkB_upd HLit.out hk4
          obtain ⟨p, hp⟩ : ∃ p, p = pl xq := ⟨_, rfl⟩
          rw [← hp] at HPl hpN HUp
          have HSet : Hid (∀ W, Below (w5.setCell ⟨bM, p * 4 + k, none⟩ (.bool true)).heap.size (w5.setCell ⟨bM, p * 4 + k, none⟩ (.bool true)) W → SM W T rv ov B pb po sb bM (updM m p k) ∧ Below w.heap.size w W) := fun W hW => by
            have hbm := HP0.out.2.1
            have hb2 := HS.out.2.2.trans (H5.out.mono HS.out.2.2.size)
            have hb3 := hb2.setCell (p := ⟨bM, p * 4 + k, none⟩) hbm (.bool true)
            exact ⟨(hSM5.set (Nat.le_trans HB.out hbm) HP0.out.2.2 hk4).bel hW, hb3.trans (hW.mono hb3.size)⟩
          have s0 : w5.cell? ⟨sb, 0, none⟩ = some (.pointer (some ⟨pb, po, none⟩)) := by simp [World.cell?, hSM5.sh]
          have s1 : w5.cell? ⟨sb, 1, none⟩ = some (.slice (some ⟨bM, 0, none⟩) N2 N2) := by rw [HN2.out]; simp [World.cell?, hSM5.sh]
          have s2 := hSM5.row.cell (i := p * 4 + k) (by rw [← HN2.out]; omega)
          have s3 := hSM5.row.frozen (p * 4 + k)
          have hlM := hSM5.row.lt
          have hk4z : (k : Int) < 4 := by omega
          have hpz : (p : Int) < (N2 : Int) := by omega
          generalize Value.bool (m ((p * 4 + k) / 4) ((p * 4 + k) % 4)) = u2 at s2
          clear hSM5 hp q0 q1 q2 q3
          go_wp2_with fail
          go_region_with (go_at_call 17; refine (HPl.out _).mono ?_; rintro e w' ⟨rfl, rfl⟩)
          all_goals
            go_wp2
            go_roundw
            case rel =>
              have hfin := HSet.out (w5.setCell ⟨bM, p * 4 + k, none⟩ (.bool true)).drew ⟨rfl, rfl, rfl, Nat.le_refl _, fun _ _ => rfl⟩
              refine ⟨j + 1, updM m p k, by omega, by go_num, hfin.1, ?_, hfin.2⟩
              rw [HUp.out]
              exact HS.out.2.1.trans ⟨fun e => e.2.2, fun e => ⟨HLit.out, HCV.out.1 (by first | rfl | trivial), e⟩⟩
            case measure => simp [RowKit.intOf]; omega
    · have hge : ¬ (j : Int) < cn := by omega
      have hdr : l.drop j = [] := List.drop_eq_nil_of_le (by have := HCN.out; omega)
      rw [hdr] at hG
      have HS := hidLL (And.intro hG hbel)
      clear hSM hG hbel hdr
      go_wp2
      go_ret
      exact ⟨true, rfl, ⟨fun _ => HS.out.1.2 trivial, fun _ => rfl⟩, HS.out.2⟩
end Go.Proofs.YtmbclnaenjcocaaDoor

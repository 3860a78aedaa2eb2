/-
  Package reason: Valid.
-/
import Derived.Test.YtmbclnaenjcocaaGreatDoorRsV2
namespace Go.Proofs.YtmbclnaenjcocaaGreatDoor
open Go.RowKit

/-- The four errors that a theory may have, where they lie. -/
structure Sent4 (w : World) (p : Nat → Addr) : Prop where
  b : w.cell? ⟨1, 0, none⟩ = some (.iface 160 (.pointer (some (p 1))))
  n : w.cell? ⟨6, 0, none⟩ = some (.iface 160 (.pointer (some (p 6))))
  o : w.cell? ⟨7, 0, none⟩ = some (.iface 160 (.pointer (some (p 7))))
  k : w.cell? ⟨8, 0, none⟩ = some (.iface 160 (.pointer (some (p 8))))
theorem Sent4.bel {w w' : World} {p : Nat → Addr} (h : Sent4 w p) (hb : Below w.heap.size w w') : Sent4 w' p :=
  ⟨(hb.cell (p := ⟨1, 0, none⟩) (cell_lt h.b)).trans h.b, (hb.cell (p := ⟨6, 0, none⟩) (cell_lt h.n)).trans h.n, (hb.cell (p := ⟨7, 0, none⟩) (cell_lt h.o)).trans h.o, (hb.cell (p := ⟨8, 0, none⟩) (cell_lt h.k)).trans h.k⟩
def errV (p : Nat → Addr) : Option Nat → Value
  | none => .nilIface
  | some k => .iface 160 (.pointer (some (p k)))
/-- What is wrong with a theory, if anything. -/
def errIs (T : Thy) (k : Option Nat) : Prop :=
  (k = some 1 ∧ inB T = false) ∨ (k = some 8 ∧ inB T = true ∧ T.rules.any noKind = true) ∨ (k = some 6 ∧ inB T = true ∧ T.rules.any noKind = false ∧ hasN T = false) ∨ (k = some 7 ∧ inB T = true ∧ T.rules.any noKind = false ∧ hasN T = true ∧ ¬ Ranked T) ∨ (k = none ∧ inB T = true ∧ T.rules.any noKind = false ∧ hasN T = true ∧ Ranked T)
theorem okt_of {T : Thy} (h1 : inB T = true) (h2 : hasN T = true) : Okt T := by
  unfold inB sizeB at h1
  unfold hasN at h2
  simp only [Bool.and_eq_true, Bool.not_eq_true', Bool.or_eq_false_iff, decide_eq_false_iff_not, List.any_eq_false] at h1 h2
  obtain ⟨⟨⟨⟨a1, a2⟩, a3⟩, a4⟩, a5⟩ := h1
  obtain ⟨b1, b2⟩ := h2
  have lit : ∀ q, noLit T q = false → IsLit T q := fun q h => by
    unfold noLit at h
    simp only [Bool.or_eq_false_iff, decide_eq_false_iff_not, beq_eq_false_iff_ne] at h
    exact ⟨h.1.1, by omega, by omega⟩
  refine ⟨by omega, by omega, by omega, by omega, fun i r hr => ?_, fun i r hr => ?_, fun a b hab => ?_⟩
  · have := a5 r (List.mem_of_getElem? hr)
    unfold longB at this
    simp at this
    omega
  · have h9 : badRl T r = false := by simpa using b1 r (List.mem_of_getElem? hr)
    unfold badRl at h9
    rw [Bool.or_eq_false_iff] at h9
    refine ⟨lit _ h9.1, fun b hb => lit _ ?_⟩
    have := List.any_eq_false.1 h9.2 b hb
    simpa using this
  · have h9 : noPair T (a, b) = false := by simpa using b2 _ hab
    unfold noPair noRule at h9
    simp only [Bool.or_eq_false_iff, decide_eq_false_iff_not] at h9
    omega
def ValR (T : Thy) (p : Nat → Addr) (w : World) (e : Ending) (w' : World) : Prop := ∃ k, e = .returned (errV p k) ∧ errIs T k ∧ Below w.heap.size w w'
theorem inB_names {T : Thy} (h : inB T = true) : 0 ≤ T.names ∧ T.names ≤ 120 := by
  unfold inB sizeB at h
  simp only [Bool.and_eq_true, Bool.not_eq_true', Bool.or_eq_false_iff, decide_eq_false_iff_not] at h
  omega
set_option maxHeartbeats 1000000 in
theorem valid_v {T : Thy} {rv ov : Value} {B : Nat} {w : World} (hM : TM w B T rv ov) (hB : B ≤ w.heap.size) {p : Nat → Addr} (hE : Sent4 w p) (hO : Okt T → ∀ W, Below w.heap.size w W → OrdC T rv ov W) : Calls Tryz.prog 28 #[.agg #[.int .i64 T.names, rv, ov]] w (ValR T p w) := by
  obtain ⟨W0, hW0, hb0, hX⟩ := box_v hM hB
  have hz0 := hb0.size
  have HX : Hid (∀ W, Below w.heap.size w W → TM W B T rv ov ∧ Sent4 W p ∧ B ≤ W.heap.size) := fun W hW => ⟨hM.below hW hB, hE.bel hW, by have := hW.size; omega⟩
  have HC := hidLL hX
  obtain ⟨ra, rc, hrv, hrl, _⟩ := hM.r
  obtain ⟨oa, oc, hov, hol, _⟩ := hM.o
  obtain ⟨c0, c1, c2, hTM, hw0⟩ := hX W0 (Below.refl _ _)
  have H1 := hidLL (inB_v hTM (by omega))
  have HW0 := hidLL hW0
  have HB0 := hidLL hb0
  have HO := hidLL hO
  clear hW0 hb0 hX hM hE hO hTM
  obtain ⟨nm, hnm⟩ : ∃ nm, nm = T.names := ⟨_, rfl⟩
  rw [← hnm] at c0 HW0 H1 HC ⊢
  have HNM := hidLL hnm
  clear hnm
  subst hrv hov
  obtain ⟨R, hR⟩ : ∃ R, R = T.rules.length := ⟨_, rfl⟩
  obtain ⟨OO, hOO⟩ : ∃ OO, OO = T.over.length := ⟨_, rfl⟩
  rw [← hR, ← hOO] at H1 HW0 HC HX HO
  rw [← hR] at c1 hrl ⊢
  rw [← hOO] at c2 hol ⊢
  have HRR := hidLL (And.intro hR hOO)
  clear hR hOO
  cases hi : inB T with
  | false =>
    rw [hi] at H1
    have HR : Hid (errIs T (some 1)) := .inl ⟨rfl, hi⟩
    clear hi
    go_enter Tryz.func28, Tryz.ntmps28
    go_upto_region 1 with fail
    rw [← HW0.out]
    go_wp2_with fail
    refine H1.out.mono ?_
    rintro e w1 ⟨rfl, hb1⟩
    have hbw : Below w.heap.size w w1 := HB0.out.trans (hb1.mono hz0)
    have g0 := (HX.out w1 hbw).2.1.b
    have HBW := hidLL hbw
    clear hb1 hbw
    go_wp2
    go_ret
    exact ⟨some 1, rfl, HR.out, HBW.out⟩
  | true =>
    rw [hi] at H1
    have hnn := inB_names hi
    have HI := hidLL hi
    clear hi
    have H2 : Hid (∀ W, Below w.heap.size w W → Calls Tryz.prog 45 #[.slice ra R rc, .func (.func 46) #[] #[]] W fun e w' => e = .returned (.bool (T.rules.any noKind)) ∧ Below W.heap.size W w') := fun W hW => by
      have h9 := HX.out W hW
      rw [HRR.out.1] at hrl h9 ⊢
      exact hasKind h9.1.r h9.2.2 hrl
    have H3 : Hid (∀ W, Below w.heap.size w W → Calls Tryz.prog 47 #[.agg #[.int .i64 nm, .slice ra R rc, .slice oa OO oc]] W fun e w' => e = .returned (.bool (hasN T)) ∧ Below W.heap.size W w') := fun W hW => by
      have h9 := HX.out W hW
      rw [HNM.out]
      exact hasN_v h9.1 h9.2.2 hnn.1 hnn.2
    cases hk : T.rules.any noKind with
    | true =>
      rw [hk] at H2
      have HR : Hid (errIs T (some 8)) := .inr (.inl ⟨rfl, HI.out, hk⟩)
      clear hk H3
      go_enter Tryz.func28, Tryz.ntmps28
      go_upto_region 1 with fail
      rw [← HW0.out]
      go_wp2_with fail
      refine H1.out.mono ?_
      rintro e w1 ⟨rfl, hb1⟩
      have hbw : Below w.heap.size w w1 := HB0.out.trans (hb1.mono hz0)
      obtain ⟨d0, d1, d2, _, _⟩ := HC.out w1 hb1
      have HBW := hidLL hbw
      clear hb1 hbw
      go_wp2_with fail
      refine (H2.out _ HBW.out).mono ?_
      rintro e w2 ⟨rfl, hb2⟩
      have hbw2 : Below w.heap.size w w2 := HBW.out.trans (hb2.mono HBW.out.size)
      have g0 := (HX.out w2 hbw2).2.1.k
      have HBW2 := hidLL hbw2
      clear hb2 hbw2
      go_wp2
      go_ret
      exact ⟨some 8, rfl, HR.out, HBW2.out⟩
    | false =>
      rw [hk] at H2
      have HK := hidLL hk
      clear hk
      cases hn : hasN T with
      | false =>
        rw [hn] at H3
        have HR : Hid (errIs T (some 6)) := .inr (.inr (.inl ⟨rfl, HI.out, HK.out, hn⟩))
        clear hn
        go_enter Tryz.func28, Tryz.ntmps28
        go_upto_region 1 with fail
        rw [← HW0.out]
        go_wp2_with fail
        refine H1.out.mono ?_
        rintro e w1 ⟨rfl, hb1⟩
        have hbw : Below w.heap.size w w1 := HB0.out.trans (hb1.mono hz0)
        obtain ⟨d0, d1, d2, _, _⟩ := HC.out w1 hb1
        have HBW := hidLL (And.intro hbw hb1)
        clear hb1 hbw
        go_wp2_with fail
        refine (H2.out _ HBW.out.1).mono ?_
        rintro e w2 ⟨rfl, hb2⟩
        have hbw2 : Below w.heap.size w w2 := HBW.out.1.trans (hb2.mono HBW.out.1.size)
        obtain ⟨f0, f1, f2, _, _⟩ := HC.out w2 (HBW.out.2.trans (hb2.mono HBW.out.2.size))
        have HBW2 := hidLL hbw2
        clear hb2 hbw2 d0 d1 d2
        go_wp2_with fail
        refine (H3.out _ HBW2.out).mono ?_
        rintro e w3 ⟨rfl, hb3⟩
        have hbw3 : Below w.heap.size w w3 := HBW2.out.trans (hb3.mono HBW2.out.size)
        have g0 := (HX.out w3 hbw3).2.1.n
        have HBW3 := hidLL hbw3
        clear hb3 hbw3
        go_wp2
        go_ret
        exact ⟨some 6, rfl, HR.out, HBW3.out⟩
      | true =>
        rw [hn] at H3
        have hOk := okt_of HI.out hn
        have HN := hidLL hn
        have H4 : Hid (∀ W, Below w.heap.size w W → Calls Tryz.prog 48 #[.agg #[.int .i64 nm, .slice ra R rc, .slice oa OO oc]] W (OrdR T W)) := fun W hW => by
          rw [HNM.out]
          exact HO.out hOk W hW
        clear hn hOk HO
        go_enter Tryz.func28, Tryz.ntmps28
        go_upto_region 1 with fail
        rw [← HW0.out]
        go_wp2_with fail
        refine H1.out.mono ?_
        rintro e w1 ⟨rfl, hb1⟩
        have hbw : Below w.heap.size w w1 := HB0.out.trans (hb1.mono hz0)
        obtain ⟨d0, d1, d2, _, _⟩ := HC.out w1 hb1
        have HBW := hidLL (And.intro hbw hb1)
        clear hb1 hbw
        go_wp2_with fail
        refine (H2.out _ HBW.out.1).mono ?_
        rintro e w2 ⟨rfl, hb2⟩
        have hbw2 : Below w.heap.size w w2 := HBW.out.1.trans (hb2.mono HBW.out.1.size)
        have hbv2 := HBW.out.2.trans (hb2.mono HBW.out.2.size)
        obtain ⟨f0, f1, f2, _, _⟩ := HC.out w2 hbv2
        have HBW2 := hidLL (And.intro hbw2 hbv2)
        clear hb2 hbw2 hbv2 d0 d1 d2
        go_wp2_with fail
        refine (H3.out _ HBW2.out.1).mono ?_
        rintro e w3 ⟨rfl, hb3⟩
        have hbw3 : Below w.heap.size w w3 := HBW2.out.1.trans (hb3.mono HBW2.out.1.size)
        obtain ⟨h0, h1, h2, _, _⟩ := HC.out w3 (HBW2.out.2.trans (hb3.mono HBW2.out.2.size))
        have HBW3 := hidLL hbw3
        clear hb3 hbw3 f0 f1 f2
        go_wp2_with fail
        refine (H4.out _ HBW3.out).mono ?_
        rintro e w4 ⟨b, rfl, hrk, hb4⟩
        have hbw4 : Below w.heap.size w w4 := HBW3.out.trans (hb4.mono HBW3.out.size)
        have g0 := (HX.out w4 hbw4).2.1.o
        have HBW4 := hidLL hbw4
        have HRK := hidLL hrk
        clear hb4 hbw4 hrk h0 h1 h2
        cases b
        · go_wp2
          go_ret
          exact ⟨some 7, rfl, .inr (.inr (.inr (.inl ⟨rfl, HI.out, HK.out, HN.out, fun h => by have := HRK.out.2 h; cases this⟩))), HBW4.out⟩
        · go_wp2
          go_ret
          exact ⟨none, rfl, .inr (.inr (.inr (.inr ⟨rfl, HI.out, HK.out, HN.out, by first | exact HRK.out.1 rfl | exact HRK.out.1 trivial⟩))), HBW4.out⟩
end Go.Proofs.YtmbclnaenjcocaaGreatDoor

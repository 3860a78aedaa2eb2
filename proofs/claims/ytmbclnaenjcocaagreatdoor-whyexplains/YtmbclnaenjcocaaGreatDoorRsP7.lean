/-
  Package reason: follow, over what literalsOf answers.
-/
import Derived.Test.YtmbclnaenjcocaaGreatDoorRsThy
import Derived.Laws.EntriesVeiled
import Derived.Deep.Cut
namespace Go.Proofs.YtmbclnaenjcocaaGreatDoor
open Go.RowKit
variable {w : World} {bL bR hi : Nat} {H : Sh} {V : Vs} {s : St} {K : World → St → Prop} {kb top : Nat} {X : List Nat}

/-- What literalsOf answers. -/
def LitsR (T : Thy) (B : Nat) (w : World) (e : Ending) (w' : World) : Prop := ∃ bL bR V, e = .returned (.slice (some ⟨bL, 0, none⟩) (2 * (shOf T).N) (2 * (shOf T).N)) ∧ Net w' bL bR w'.heap.size (shOf T) V (st0 T) ∧ V.B = B ∧ w.heap.size ≤ bL ∧ Below w.heap.size w w'
def LitsC (T : Thy) (B : Nat) (rv ov : Value) (w : World) : Prop :=
  Calls Tryz.prog 38 #[.agg #[.int .i64 T.names, rv, ov]] w (LitsR T B w)
theorem RB.clear {w0 : World} {cl ct cm cs : Nat} {I : St → Prop} {x : St × Bool} (h : RB w0 bL bR hi H V K kb top X cl ct cm cs I w x) (hT : Tel H I K kb top X [bL, bR, cm]) : RB w0 bL bR hi H V K kb top X cl ct cm cs I (w.setCell ⟨cm, 0, none⟩ (.bool false)) (x.1, false) := by
  obtain ⟨hR, hI, hB, hlt, hC⟩ := h
  have e0 := hR.net.lt0
  have e1 := hR.net.lt
  have e2 := hR.net.lt2
  have e3 := hR.o5
  have e4 := hR.o6
  have e8 := hR.o4
  have e9 := hR.o8
  have c3 : Chg [cm] w (w.setCell ⟨cm, 0, none⟩ (.bool false)) := (Chg.refl _ _).setCell (p := ⟨cm, 0, none⟩) (by simp) _
  refine ⟨⟨hR.net.chg c3 (by intro k hk; simp at hk; omega), hT.on _ _ _ hR.kn c3.size fun k hk hy => c3.block k hk (by intro e; apply hy; simp at e ⊢; omega), blk_kept c3 hR.lits (by simp; omega), blk_kept c3 hR.tell (by simp; omega), one_setCell hR.more, hR.o4, hR.o5, hR.o6, hR.o7, Nat.le_trans e9 c3.size, hR.xs, hR.few⟩, hI, blk_kept c3 hB (by simp; omega), hlt, hC.trans ((c3.fr e9).mono (by simp))⟩
theorem RB.mcell {w0 : World} {cl ct cm cs : Nat} {I : St → Prop} {x : St × Bool} (h : RB w0 bL bR hi H V K kb top X cl ct cm cs I w x) : w.cell? ⟨cm, 0, none⟩ = some (.bool x.2) ∧ w.frozen? ⟨cm, 0, none⟩ = false := by
  have := h.1.more
  exact ⟨by simp [World.cell?, this], by simp [World.frozen?, this]⟩
set_option maxHeartbeats 4000000 in
set_option maxRecDepth 100000 in
theorem follow_p {KK : Nat → World → St → Prop} {T : Thy} (hT : Okt T) {rv ov : Value} {B : Nat} (hM : TM w B T rv ov) (hB : B ≤ w.heap.size) (hK : ∀ top, w.heap.size ≤ top → KK top w (st0 T)) (hX : ∀ k, k ∈ X → B ≤ k ∧ k < w.heap.size) (hTel : ∀ bL bR cm top, w.heap.size ≤ bL → w.heap.size ≤ bR → w.heap.size ≤ cm → w.heap.size ≤ top → bL < top → bR < top → cm < top → Tel (shOf T) (Fine T) (KK top) kb top X [bL, bR, cm]) (hL : ∀ w', Below w.heap.size w w' → LitsC T B rv ov w') :
    Calls Tryz.prog 29 #[.agg #[.int .i64 T.names, rv, ov], .func (.func 19) #[] #[.pointer (some ⟨kb, 0, none⟩)]] w fun e w' => e = .returned (.tuple #[]) ∧ ∃ top s, w.heap.size ≤ top ∧ KK top w' s ∧ Fine T s ∧ AllQ T s ∧ Chg X w w' := by
  obtain ⟨ra, rc, hrv, hrl, _⟩ := hM.r
  obtain ⟨oa, oc, hov, _, _⟩ := hM.o
  obtain ⟨W0, hW0⟩ : ∃ W0 : World, W0 = (w.alloc (.cells #[.int .i64 T.names, rv, ov] 35)).alloc (.cells #[.func (.func 19) #[] #[.pointer (some ⟨kb, 0, none⟩)]] 69) := ⟨_, rfl⟩
  have hz0 : W0.heap.size = w.heap.size + 2 := by rw [hW0]; simp
  have hb0 : Below w.heap.size w W0 := by rw [hW0]; exact ((Below.refl _ _).alloc (Nat.le_refl _) _).alloc (by simp) _
  have hbt : W0.heap[w.heap.size]? = some (.cells #[.int .i64 T.names, rv, ov] 35) := by
    rw [hW0]
    exact blk_kept ((Chg.refl [] _).alloc _) (blk_new _ _) (by simp)
  have hct : W0.heap[w.heap.size + 1]? = some (.cells #[.func (.func 19) #[] #[.pointer (some ⟨kb, 0, none⟩)]] 69) := by
    rw [hW0]
    have := blk_new (w.alloc (.cells #[.int .i64 T.names, rv, ov] 35)) (.cells #[.func (.func 19) #[] #[.pointer (some ⟨kb, 0, none⟩)]] 69)
    simpa using this
  have c0 : W0.cell? ⟨w.heap.size, 0, none⟩ = some (.int .i64 T.names) := by simp [World.cell?, hbt]
  have c1 : W0.cell? ⟨w.heap.size, 1, none⟩ = some rv := by simp [World.cell?, hbt]
  have c2 : W0.cell? ⟨w.heap.size, 2, none⟩ = some ov := by simp [World.cell?, hbt]
  have HL := hidLL (hL W0 hb0)
  have HW0 := hidLL hW0
  have HALL := hidLL (And.intro hM (And.intro hK (And.intro hb0 (And.intro hbt hct))))
  have HXX := hidLL hX
  have HTL := hidLL hTel
  have hN : ((shOf T).N : Int) = T.names := by show ((T.names.toNat : Nat) : Int) = T.names; have := hT.n0; omega
  have HNN := hidLL hN
  have hn1 := hT.n0
  have hn2 := hT.n1
  have hr1 := hT.r
  have HT := hidLL hT
  unfold LitsC LitsR at HL
  clear hW0 hb0 hbt hct hL hM hK hN hT hX hTel
  obtain ⟨NN, hNN⟩ : ∃ NN, NN = (shOf T).N := ⟨_, rfl⟩
  rw [← hNN] at HL HNN
  have HNQ := hidLL hNN
  clear hNN
  subst hrv hov
  generalize T.names = nm at *
  obtain ⟨R, hR⟩ : ∃ R, R = T.rules.length := ⟨_, rfl⟩
  rw [← hR] at hrl hr1 c1 HL HW0 ⊢
  have HRR := hidLL hR
  clear hR
  go_enter Tryz.func29, Tryz.ntmps29
  go_wp2_with fail
  rw [← HW0.out]
  refine HL.out.mono ?_
  rintro e w1 ⟨bL, bR, V, rfl, hNet, hVB, hlo, hB1⟩
  have hlt1 := hNet.lt
  have hlt2 := hNet.lt2
  have hz1 := hB1.size
  have HTOP : Hid (w.heap.size ≤ w1.heap.size + 1 + 1 + 1) := by show _ ≤ _; omega
  have d0 := (hB1.cell (p := ⟨w.heap.size, 0, none⟩) (by show w.heap.size < _; omega)).trans c0
  have d1 := (hB1.cell (p := ⟨w.heap.size, 1, none⟩) (by show w.heap.size < _; omega)).trans c1
  have d2 := (hB1.cell (p := ⟨w.heap.size, 2, none⟩) (by show w.heap.size < _; omega)).trans c2
  have HP := hidLL (And.intro hNet hB1)
  have HVB := hidLL hVB
  clear hNet hB1 c0 c1 c2 hVB
  obtain ⟨W, hW⟩ : ∃ W : World, W = ((w1.alloc (.cells #[.slice (some ⟨bL, 0, none⟩) (2 * NN) (2 * NN)] 92)).alloc (.cells #[.bool false] 4)).alloc (.cells #[.func (.func 49) #[] #[.pointer (some ⟨w1.heap.size, 0, none⟩), .pointer (some ⟨w.heap.size + 1, 0, none⟩), .pointer (some ⟨w1.heap.size + 1, 0, none⟩)]] 101) := ⟨_, rfl⟩
  have hzW : W.heap.size = w1.heap.size + 3 := by rw [hW]; simp
  have hbW : Below w1.heap.size w1 W := by rw [hW]; exact (((Below.refl _ _).alloc (Nat.le_refl _) _).alloc (by simp) _).alloc (by simp; omega) _
  have f0 : W.heap[w1.heap.size]? = some (.cells #[.slice (some ⟨bL, 0, none⟩) (2 * NN) (2 * NN)] 92) := by
    rw [hW]
    exact blk_kept (((Chg.refl [] _).alloc _).alloc _) (blk_new _ _) (by simp)
  have f1 : W.heap[w1.heap.size + 1]? = some (.cells #[.bool false] 4) := by
    rw [hW]
    have := blk_new (w1.alloc (.cells #[.slice (some ⟨bL, 0, none⟩) (2 * NN) (2 * NN)] 92)) (.cells #[.bool false] 4)
    rw [World.size_alloc] at this
    exact blk_kept ((Chg.refl [] _).alloc _) this (by simp)
  have f2 : W.heap[w1.heap.size + 1 + 1]? = some (.cells #[.func (.func 49) #[] #[.pointer (some ⟨w1.heap.size, 0, none⟩), .pointer (some ⟨w.heap.size + 1, 0, none⟩), .pointer (some ⟨w1.heap.size + 1, 0, none⟩)]] 101) := by
    rw [hW]
    have := blk_new ((w1.alloc (.cells #[.slice (some ⟨bL, 0, none⟩) (2 * NN) (2 * NN)] 92)).alloc (.cells #[.bool false] 4)) (.cells #[.func (.func 49) #[] #[.pointer (some ⟨w1.heap.size, 0, none⟩), .pointer (some ⟨w.heap.size + 1, 0, none⟩), .pointer (some ⟨w1.heap.size + 1, 0, none⟩)]] 101)
    rw [World.size_alloc, World.size_alloc] at this
    exact this
  have HW := hidLL hW
  obtain ⟨hM, hK, hb0, hbt, hct⟩ := HALL.out
  have hwW : Below w.heap.size w W := (hb0.trans (HP.out.2.mono (by omega))).trans (hbW.mono (by omega))
  have HT2 := hidLL (HTL.out bL bR (w1.heap.size + 1) (w1.heap.size + 1 + 1 + 1) (by omega) (by omega) (by omega) (by omega) (by omega) (by omega) (by omega))
  have HRB : Hid (RB W bL bR w1.heap.size (shOf T) V (KK (w1.heap.size + 1 + 1 + 1)) kb (w1.heap.size + 1 + 1 + 1) X w1.heap.size (w.heap.size + 1) (w1.heap.size + 1) (w1.heap.size + 1 + 1) (Fine T) W (st0 T, false)) := by
    refine ⟨⟨HP.out.1.grown hbW, HT2.out.on w W (st0 T) (hK _ (by omega)) hwW.size (fun k hk _ => hwW.block k hk), ?_, ?_, f1, by omega, Nat.le_refl _, by omega, by omega, by omega, fun k hk => ⟨by rw [HVB.out]; exact (HXX.out k hk).1, by have := (HXX.out k hk).2; omega, by have := (HXX.out k hk).2; omega⟩, ?_⟩, Fine.start T, f2, by omega, Fr.refl _ _ _⟩
    · rw [← HNQ.out]; exact f0
    · rw [hbW.block _ (by omega), HP.out.2.block _ (by omega)]
      exact hct
    · rw [← HNQ.out]; have := HNN.out; omega
  have hbtW : W.heap[w.heap.size]? = some (.cells #[.int .i64 nm, .slice ra R rc, .slice oa T.over.length oc] 35) := by
    rw [hbW.block _ (by omega), HP.out.2.block _ (by omega), HRR.out]
    exact hbt
  have HBT := hidLL hbtW
  have HMW := hidLL (hM.below hwW (by omega))
  have HWW := hidLL hwW
  have HIN : Hid (∀ wr x, RB W bL bR w1.heap.size (shOf T) V (KK (w1.heap.size + 1 + 1 + 1)) kb (w1.heap.size + 1 + 1 + 1) X w1.heap.size (w.heap.size + 1) (w1.heap.size + 1) (w1.heap.size + 1 + 1) (Fine T) wr x → TM wr B T (.slice ra R rc) (.slice oa T.over.length oc) ∧ wr.cell? ⟨w.heap.size, 0, none⟩ = some (.int .i64 nm) ∧ wr.cell? ⟨w.heap.size, 1, none⟩ = some (.slice ra R rc)) := fun wr x h => by
    have hC := h.2.2.2.2
    have hx : ∀ k, k < B ∨ k = w.heap.size → k ∉ bL :: bR :: (w1.heap.size + 1) :: X := fun k hk e => by
      simp only [List.mem_cons] at e
      rcases e with e | e | e | e
      · omega
      · omega
      · omega
      · have := HXX.out k e; omega
    have hkk := hC.blk hbtW (by omega) (hx _ (.inr rfl))
    refine ⟨?_, by simp [World.cell?, hkk], by simp [World.cell?, hkk]⟩
    rw [HRR.out]
    exact (hM.below hwW (by omega)).on fun k hk => hC.block k (by omega) (hx k (.inl hk))
  have e0 : W.cell? ⟨w.heap.size, 0, none⟩ = some (.int .i64 nm) := by simp [World.cell?, hbtW]
  have HFIN : Hid (∀ wr, Fr (w1.heap.size + 1 + 1 + 1) (bL :: bR :: (w1.heap.size + 1) :: X) W wr → Chg X w wr) := fun wr h => ⟨h.os.trans hwW.os, h.tape.trans hwW.tape, h.output.trans hwW.output, Nat.le_trans hwW.size h.size, fun k hk hy => by
    rw [h.block k (by omega) (by simp only [List.mem_cons, not_or]; exact ⟨by omega, by omega, by omega, hy⟩)]
    exact hwW.block k hk⟩
  clear hM hK hb0 hbt hct hwW f0 f1 f2 hbW hbtW hW HALL HW0 d0 d1 d2
  have HBo : Hid (∀ (wr : World) (x : St × Bool) (q : Int), IsLit T q → RB W bL bR w1.heap.size (shOf T) V (KK (w1.heap.size + 1 + 1 + 1)) kb (w1.heap.size + 1 + 1 + 1) X w1.heap.size (w.heap.size + 1) (w1.heap.size + 1) (w1.heap.size + 1 + 1) (Fine T) wr x → Calls Tryz.prog 51 #[.int .i64 q, .pointer (some ⟨w1.heap.size + 1 + 1, 0, none⟩)] wr fun e w' => e = .returned (.tuple #[]) ∧ RB W bL bR w1.heap.size (shOf T) V (KK (w1.heap.size + 1 + 1 + 1)) kb (w1.heap.size + 1 + 1 + 1) X w1.heap.size (w.heap.size + 1) (w1.heap.size + 1) (w1.heap.size + 1 + 1) (Fine T) w' (both (shOf T) x q)) := fun wr x q hq h => both_p h HT2.out (stays HT.out) (hq.ok HT.out) (hq.neg.ok HT.out)
  go_upto_region 5 with fail
  rw [← HW.out]
  go_wp2_with fail
  clear HL HP HBT HMW HWW hz0 hzW hlo hz1 e0
  go_loopw [16] (fun t wr => ∃ (k : Nat) (x : St × Bool), k ≤ NN ∧ t = .int .i64 k ∧ RB W bL bR w1.heap.size (shOf T) V (KK (w1.heap.size + 1 + 1 + 1)) kb (w1.heap.size + 1 + 1 + 1) X w1.heap.size (w.heap.size + 1) (w1.heap.size + 1) (w1.heap.size + 1 + 1) (Fine T) wr x ∧ P1 T k x) (fun t _ => NN - (RowKit.intOf t).toNat)
  case atStart => exact ⟨0, _, by omega, rfl, HRB.out, ⟨fun _ => ⟨rfl, fun j hj => by omega⟩, fun j hj => by omega⟩⟩
  case round =>
    obtain ⟨k, x, hk, rfl, hB, hP⟩ := hrel
    have HB := hidLL (And.intro hB hP)
    clear hB hP
    by_cases hlt : k < NN
    · have hkz : (k : Int) < nm := by have := HNN.out; omega
      have hlit : IsLit T ((k : Int) + 1) := lit_name HT.out (by rw [← HNQ.out]; exact hlt)
      have HC := hidLL (HBo.out _ _ _ hlit HB.out.1)
      have HP1 := hidLL (HB.out.2.next HT.out HB.out.1.2.1 (by rw [← HNQ.out]; exact hlt))
      clear hlit
      go_wp2_with fail
      refine HC.out.mono ?_
      rintro e w2 ⟨rfl, hB2⟩
      have HB2 := hidLL hB2
      clear hB2
      go_wp2
      go_roundw
      case rel => exact ⟨k + 1, _, by omega, by go_num, HB2.out, HP1.out⟩
      case measure => simp [RowKit.intOf]; omega
    · obtain rfl : k = NN := by omega
      have hge : ¬ (k : Int) < nm := by have := HNN.out; omega
      have HE : Hid (BareAll T x.1 ∧ (x.2 = false → AllQ T x.1)) := by
        have := HB.out.2
        rw [HNQ.out] at this
        exact this.end HT.out
      go_wp2_with fail
      go_loopg [] (zc (shOf T) x.1 + 1) (fun gk wr => ∃ y : St × Bool, RB W bL bR w1.heap.size (shOf T) V (KK (w1.heap.size + 1 + 1 + 1)) kb (w1.heap.size + 1 + 1 + 1) X w1.heap.size (w.heap.size + 1) (w1.heap.size + 1) (w1.heap.size + 1 + 1) (Fine T) wr y ∧ BareAll T y.1 ∧ (y.2 = false → AllQ T y.1) ∧ zc (shOf T) y.1 + (if y.2 then 1 else 0) ≤ gk)
      case atStart => exact ⟨x, HB.out.1, HE.out.1, HE.out.2, by split <;> omega⟩
      case round =>
        obtain ⟨y, hB3, hBa, hQ, hz⟩ := hrel
        obtain ⟨m0, m1⟩ := hB3.mcell
        have HB3 := hidLL (And.intro hB3 (And.intro hBa (And.intro hQ hz)))
        clear hBa hQ hz
        cases hm : y.2 with
        | false =>
          rw [hm] at m0
          have HM := hidLL hm
          clear hm hB3
          go_wp2
          go_end0
          exact ⟨rfl, w1.heap.size + 1 + 1 + 1, y.1, HTOP.out, HB3.out.1.1.kn, HB3.out.1.2.1, HB3.out.2.2.1 HM.out, HFIN.out _ HB3.out.1.2.2.2.2⟩
        | true =>
          rw [hm] at m0
          have HM := hidLL hm
          have hcl := hB3.clear HT2.out
          clear hm hB3
          obtain ⟨W3, hW3⟩ : ∃ W3, W3 = wr.setCell ⟨w1.heap.size + 1, 0, none⟩ (.bool false) := ⟨_, rfl⟩
          rw [← hW3] at hcl
          obtain ⟨_, i0, i1⟩ := HIN.out _ _ hcl
          have HW3 := hidLL hW3
          have HCL := hidLL hcl
          clear hW3 hcl
          go_upto_region 12 with fail
          rw [← HW3.out]
          go_wp2_with fail
          go_loopw [28] (fun t w4 => ∃ (i : Nat) (z : St × Bool), i ≤ R ∧ t = .int .i64 i ∧ RB W bL bR w1.heap.size (shOf T) V (KK (w1.heap.size + 1 + 1 + 1)) kb (w1.heap.size + 1 + 1 + 1) X w1.heap.size (w.heap.size + 1) (w1.heap.size + 1) (w1.heap.size + 1 + 1) (Fine T) w4 z ∧ P2 T y.1 i z) (fun t _ => R - (RowKit.intOf t).toNat)
          case atStart => exact ⟨0, _, by omega, rfl, HCL.out, ⟨fun _ => ⟨rfl, fun j hj => by omega⟩, fun e => by (cases e), HB3.out.2.1⟩⟩
          case round =>
            obtain ⟨i, z, hi, rfl, hB4, hP4⟩ := hrel
            by_cases hlt2 : i < R
            · have hiz : (i : Int) < R := by omega
              obtain ⟨hTM, j0, j1⟩ := HIN.out _ _ hB4
              have hrl2 : i < T.rules.length := by rw [← HRR.out]; exact hlt2
              obtain ⟨g, o, bv, e1, _, _, e3, _, _⟩ := hTM.r.at (rl_of hrl2)
              subst e1
              have HC := hidLL (HBo.out _ _ _ (HT.out.lit i _ (rl_of hrl2)).1 hB4)
              have HP1 := hidLL (hP4.next HT.out hrl2)
              clear hTM hB4 hP4 hrl2
              generalize (rlAt T i).head = q at *
              go_wp2_with fail
              refine HC.out.mono ?_
              rintro e w5 ⟨rfl, hB5⟩
              have HB5 := hidLL hB5
              clear hB5
              go_wp2
              go_roundw
              case rel => exact ⟨i + 1, _, by omega, by go_num, HB5.out, HP1.out⟩
              case measure => simp [RowKit.intOf]; omega
            · have hge2 : ¬ (i : Int) < R := by omega
              have HP5 : Hid (P2 T y.1 T.rules.length z) := by
                have hie : i = T.rules.length := by have := HRR.out; omega
                rw [← hie]; exact hP4
              have HB5 := hidLL hB4
              clear hB4 hP4
              go_wp2_with fail
              go_roundg (zc (shOf T) z.1 + (if z.2 then 1 else 0))
              case measure =>
                have h9 := HB3.out.2.2.2
                rw [HM.out, if_pos rfl] at h9
                cases hz2 : z.2
                · rw [(HP5.out.q hz2).1]
                  simp
                  omega
                · have := HP5.out.z hz2
                  simp
                  omega
              case rel => exact ⟨z, HB5.out, HP5.out.b, HP5.out.end HT.out, Nat.le_refl _⟩
end Go.Proofs.YtmbclnaenjcocaaGreatDoor

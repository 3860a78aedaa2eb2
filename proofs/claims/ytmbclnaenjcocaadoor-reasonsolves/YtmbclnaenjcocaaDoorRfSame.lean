/-
  The laws of rules: is what is known what is shown (SameKnown); error codes.
-/
import Derived.Test.YtmbclnaenjcocaaDoorRfVal
import Derived.Test.YtmbclnaenjcocaaDoorRfCode
namespace Go.Proofs.YtmbclnaenjcocaaDoor
open Go.RowKit

def stO (a b : Bool) : Int := if a then 1 else if b then 2 else 0
theorem state_w (a b : Bool) (w : World) : Calls Tryd.prog 34 #[.bool a, .bool b] w fun e w' => e = .returned (.int .i64 (stO a b)) ∧ w' = w := by
  cases a <;> cases b
  all_goals
    go_enter Tryd.func34, Tryd.ntmps34
    go_wp2
    go_ret
    exact ⟨rfl, rfl⟩
theorem known_at {T : Thy} (hT : Okt T) {s : St} (hF : Fine T s) (hQ : AllQ T s) {m : Nat → Nat → Bool} (hS : Shw T (mkB T m)) (hC : Closed T (mkB T m)) {p : Nat} (hp : p < 2 * T.names.toNat) : s.su p = stO (m p 0) (m p 1) ∧ s.ho p = stO (m p 2) (m p 3) := by
  obtain ⟨hl, hpl⟩ := litOf_lit hT hp
  have hc := closed_of hT hF hQ
  have key : ∀ k, k < 4 → (m p k = true ↔ mk T s k (litOf p)) := fun k hk => by
    have h1 : m p k = true ↔ mkB T m k (litOf p) := ⟨fun e => ⟨hl, hk, by rw [hpl]; exact e⟩, fun e => by have := e.2.2; rw [hpl] at this; exact this⟩
    rw [h1, hS.all hC, hF.2.all hc]
  have k0 : m p 0 = true ↔ s.su p = 1 := (key 0 (by omega)).trans ⟨fun e => by have := e.2; rw [hpl] at this; exact this, fun e => ⟨hl, by rw [hpl]; exact e⟩⟩
  have k1 : m p 1 = true ↔ s.su p = 2 := (key 1 (by omega)).trans ⟨fun e => by have := e.2; rw [hpl] at this; exact this, fun e => ⟨hl, by rw [hpl]; exact e⟩⟩
  have k2 : m p 2 = true ↔ s.ho p = 1 := (key 2 (by omega)).trans ⟨fun e => by have := e.2; rw [hpl] at this; exact this, fun e => ⟨hl, by rw [hpl]; exact e⟩⟩
  have k3 : m p 3 = true ↔ s.ho p = 2 := (key 3 (by omega)).trans ⟨fun e => by have := e.2; rw [hpl] at this; exact this, fun e => ⟨hl, by rw [hpl]; exact e⟩⟩
  have one : ∀ (x : Int) (a b : Bool), (x = 0 ∨ x = 1 ∨ x = 2) → (a = true ↔ x = 1) → (b = true ↔ x = 2) → x = stO a b := fun x a b hx ha hb => by
    unfold stO
    rcases hx with e | e | e
    · have h1 : a = false := by cases a; rfl; exact absurd (ha.1 rfl) (by omega)
      have h2 : b = false := by cases b; rfl; exact absurd (hb.1 rfl) (by omega)
      rw [h1, h2, e]; rfl
    · rw [ha.2 e, e]; rfl
    · have h1 : a = false := by cases a; rfl; exact absurd (ha.1 rfl) (by omega)
      rw [h1, hb.2 e, e]; rfl
  exact ⟨one _ _ _ (hF.1.t1 p) k0 k1, one _ _ _ (hF.1.t2 p) k2 k3⟩
set_option maxHeartbeats 4000000 in
set_option maxRecDepth 100000 in
theorem same_w {w : World} {T : Thy} {rv ov : Value} {B pb po sb bM bS bH : Nat} {m : Nat → Nat → Bool} {su ho : Nat → Int} (h : SM w T rv ov B pb po sb bM m) (hT : Okt T) (hS : w.rowIs bS 3 (2 * T.names.toNat) (fun q => .int .i64 (su q))) (hH : w.rowIs bH 3 (2 * T.names.toNat) (fun q => .int .i64 (ho q))) (he : ∀ p, p < 2 * T.names.toNat → su p = stO (m p 0) (m p 1) ∧ ho p = stO (m p 2) (m p 3)) :
    Calls Tryd.prog 15 #[.agg #[.slice (some ⟨bS, 0, none⟩) (2 * T.names.toNat) (2 * T.names.toNat), .slice (some ⟨bH, 0, none⟩) (2 * T.names.toNat) (2 * T.names.toNat)], .pointer (some ⟨sb, 0, none⟩)] w fun e w' => e = .returned (.bool true) ∧ Below w.heap.size w w' := by
  have hn1 := hT.n0
  have hn2 := hT.n1
  obtain ⟨N2, hN2⟩ : ∃ N2, N2 = 2 * T.names.toNat := ⟨_, rfl⟩
  obtain ⟨nm, hnm⟩ : ∃ nm, nm = T.names := ⟨_, rfl⟩
  have hNz : (N2 : Int) = 2 * nm := by omega
  rw [← hN2] at hS hH he ⊢
  obtain ⟨W0, hW0⟩ : ∃ W0 : World, W0 = w.alloc (.cells #[.slice (some ⟨bS, 0, none⟩) N2 N2, .slice (some ⟨bH, 0, none⟩) N2 N2] 27) := ⟨_, rfl⟩
  obtain ⟨kb, hkb⟩ : ∃ kb, kb = w.heap.size := ⟨_, rfl⟩
  have hb0 : Below w.heap.size w W0 := by rw [hW0]; exact (Below.refl _ _).alloc (Nat.le_refl _) _
  have hk0 : W0.heap[kb]? = some (.cells #[.slice (some ⟨bS, 0, none⟩) N2 N2, .slice (some ⟨bH, 0, none⟩) N2 N2] 27) := by rw [hW0, hkb]; exact blk_new _ _
  have HW0 := hidLL (And.intro hW0 hkb)
  have HC : Hid (∀ W : World, W.heap = W0.heap → W.cell? ⟨kb, 0, none⟩ = some (.slice (some ⟨bS, 0, none⟩) N2 N2) ∧ W.cell? ⟨kb, 1, none⟩ = some (.slice (some ⟨bH, 0, none⟩) N2 N2) ∧ W.cell? ⟨sb, 0, none⟩ = some (.pointer (some ⟨pb, po, none⟩)) ∧ W.cell? ⟨sb, 1, none⟩ = some (.slice (some ⟨bM, 0, none⟩) N2 N2) ∧ W.cell? ⟨pb, po, none⟩ = some (.int .i64 nm) ∧ ∀ p, p < N2 → W.cell? ⟨bS, p, none⟩ = some (.int .i64 (su p)) ∧ W.cell? ⟨bH, p, none⟩ = some (.int .i64 (ho p)) ∧ ∀ k, k < 4 → W.cell? ⟨bM, p * 4 + k, none⟩ = some (.bool (m p k))) := fun W hW => by
    have e : ∀ a, W.cell? a = W0.cell? a := fun a => World.cell?_of_block (by rw [hW])
    have hs0 := h.bel hb0
    refine ⟨?_, ?_, ?_, ?_, ?_, fun p hp => ⟨?_, ?_, fun k hk => ?_⟩⟩
    · rw [e]; simp [World.cell?, hk0]
    · rw [e]; simp [World.cell?, hk0]
    · rw [e]; simp [World.cell?, hs0.sh]
    · rw [e, hN2]; simp [World.cell?, hs0.sh]
    · rw [e, hnm]; exact hs0.tp.c0
    · rw [e]; exact (hS.of_block (hb0.block _ hS.lt)).cell hp
    · rw [e]; exact (hH.of_block (hb0.block _ hH.lt)).cell hp
    · rw [e]
      have h9 := hs0.row.cell (i := p * 4 + k) (by rw [← hN2]; omega)
      rw [show (p * 4 + k) / 4 = p by omega, show (p * 4 + k) % 4 = k by omega] at h9
      exact h9
  have HB0 := hidLL hb0
  have HE := hidLL he
  have hnm0 : (0 : Int) ≤ nm := by omega
  have hnm1 : nm ≤ 1000000 := by first | omega | (rw [hnm]; have := hT.n1; omega)
  have HNZ := hidLL hNz
  clear h hT hS hH he hN2 hnm hW0 hkb hb0 hk0 hn1 hn2 hNz
  go_enter Tryd.func15, Tryd.ntmps15
  go_upto_region 1 with fail
  rw [← HW0.out.1, ← HW0.out.2]
  obtain ⟨c0, c1, c2, c3, c4, _⟩ := HC.out W0 rfl
  go_wp2_with fail
  clear c0 c1 c2 c3 c4
  go_loopw [6] (fun t wr => ∃ p : Nat, p ≤ N2 ∧ t = .int .i64 p ∧ wr.heap = W0.heap ∧ Below w.heap.size w wr) (fun t _ => N2 - (RowKit.intOf t).toNat)
  case atStart => exact ⟨0, by omega, rfl, rfl, HB0.out⟩
  case round =>
    obtain ⟨p, hp, rfl, hhp, hbel⟩ := hrel
    obtain ⟨c0, c1, c2, c3, c4, cx⟩ := HC.out wr hhp
    have HQ := hidLL (And.intro hhp hbel)
    clear hhp hbel
    by_cases hlt : p < N2
    · have hpz : (p : Int) < 2 * nm := by have := HNZ.out; omega
      have hpz2 : (p : Int) < (N2 : Int) := by omega
      obtain ⟨y0, y1, ym⟩ := cx p hlt
      have m0 := ym 0 (by omega)
      have m1 := ym 1 (by omega)
      have m2 := ym 2 (by omega)
      have m3 := ym 3 (by omega)
      obtain ⟨e1, e2⟩ := HE.out p hlt
      have H1 : Hid (∀ W, Calls Tryd.prog 34 #[.bool (m p 0), .bool (m p 1)] W fun e w' => e = .returned (.int .i64 (su p)) ∧ w' = W) := fun W => by rw [e1]; exact state_w _ _ W
      have H2 : Hid (∀ W, Calls Tryd.prog 34 #[.bool (m p 2), .bool (m p 3)] W fun e w' => e = .returned (.int .i64 (ho p)) ∧ w' = W) := fun W => by rw [e2]; exact state_w _ _ W
      clear cx ym e1 e2
      rw [Nat.add_zero] at m0
      generalize m p 0 = M0 at *
      generalize m p 1 = M1 at *
      generalize m p 2 = M2 at *
      generalize m p 3 = M3 at *
      generalize su p = A at *
      generalize ho p = A2 at *
      have hA : (A != A) = false := by simp
      have hA2 : (A2 != A2) = false := by simp
      go_wp2_with fail
      go_quiet ((first | (go_at_call 34; exact Calls.quiet_of_same (H1.out _)) | (go_at_call 34; exact Calls.quiet_of_same (H2.out _))))
      go_wp2
      go_roundw
      case rel => exact ⟨p + 1, by omega, by go_num, HQ.out.1, ⟨HQ.out.2.os, HQ.out.2.tape, HQ.out.2.output, HQ.out.2.size, HQ.out.2.block⟩⟩
      case measure => simp [RowKit.intOf]; omega
    · have hge : ¬ (p : Int) < 2 * nm := by have := HNZ.out; omega
      clear cx
      go_wp2
      go_ret
      exact ⟨rfl, HQ.out.2⟩
end Go.Proofs.YtmbclnaenjcocaaDoor

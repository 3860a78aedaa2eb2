/-
  Package reason: from which claims one follows; whether a claim is known.
-/
import Derived.Test.YtmbclnaenjcocaaGreatDoorRsFrom3
import Derived.Test.YtmbclnaenjcocaaGreatDoorRsFrom4
namespace Go.Proofs.YtmbclnaenjcocaaGreatDoor
open Go.RowKit
variable {w : World} {bL bR hi : Nat} {H : Sh} {V : Vs} {s : St}

set_option maxHeartbeats 1000000 in
theorem from_p (h : Net w bL bR hi H V s) {p : Nat} (hp : p < 2 * H.N) (hq1 : -1000000 ≤ litOf p) (hq2 : litOf p ≤ 1000000) (hU : ∀ i, 0 ≤ s.uh i) (a b : Bool) (q : Int) : Calls Tryz.prog 42 #[.pointer (some ⟨bL, p * 6, none⟩), .agg #[.bool a, .bool b, .int .i64 q]] w (FrR w (fol4 H s p a b) (fromC H s p a b)) := by
  obtain ⟨W0, hW0⟩ : ∃ W0 : World, W0 = w.alloc (.cells #[.bool a, .bool b, .int .i64 q] 65) := ⟨_, rfl⟩
  have hb0 : Below w.heap.size w W0 := by rw [hW0]; exact (Below.refl _ _).alloc (Nat.le_refl _) _
  have hk0 : W0.heap[w.heap.size]? = some (.cells #[.bool a, .bool b, .int .i64 q] 65) := by rw [hW0]; exact Go.Deep.blk_alloc_new _ _
  have c0 : W0.cell? ⟨w.heap.size, 0, none⟩ = some (.bool a) := by simp [World.cell?, hk0]
  have c1 : W0.cell? ⟨w.heap.size, 1, none⟩ = some (.bool b) := by simp [World.cell?, hk0]
  have h' := h.grown hb0
  have up : ∀ {ok : Bool} {l : List Clm} {e : Ending} {w' : World}, FrR W0 ok l e w' → FrR w ok l e w' := fun {ok l e w'} hf => by
    obtain ⟨ad, n, c, rfl, h1, h2⟩ := hf
    exact ⟨ad, n, c, rfl, hb0.trans (h1.mono hb0.size), fun e => (h2 e).mono hb0.size⟩
  have HW0 := hidLL hW0
  have H1 : Hid (Calls Tryz.prog 65 #[.pointer (some ⟨bL, p * 6, none⟩)] W0 (FrR w ((H.ru p).any (bSure H s)) (sureC H s p))) := (whySure_p h' hp).mono fun _ _ hf => up hf
  have H2 : Hid (Calls Tryz.prog 66 #[.pointer (some ⟨bL, p * 6, none⟩)] W0 (FrR w (!(H.ru p).any (bNot H s)) ((H.ru p).flatMap (gNot H s)))) := (whyNot_p h' hp).mono fun _ _ hf => up hf
  have H3 : Hid (Calls Tryz.prog 67 #[.pointer (some ⟨bL, p * 6, none⟩)] W0 (FrR w (fHold H s p) (holdC H s p))) := (whyHolds_p h' hp hq1 hq2).mono fun _ _ hf => up hf
  have H4 : Hid (Calls Tryz.prog 68 #[.pointer (some ⟨bL, p * 6, none⟩)] W0 (FrR w (fFail H s p) (failC H s p))) := (whyFails_p h' hp hq1 hq2 hU).mono fun _ _ hf => up hf
  have HF : Hid (fol4 H s p a b = if a then (if b then (H.ru p).any (bSure H s) else !(H.ru p).any (bNot H s)) else (if b then fHold H s p else fFail H s p)) := rfl
  have HC : Hid (fromC H s p a b = if a then (if b then sureC H s p else (H.ru p).flatMap (gNot H s)) else (if b then holdC H s p else failC H s p)) := rfl
  clear h h' hW0 hb0 hk0 up
  generalize fol4 H s p a b = F at *
  generalize fromC H s p a b = Z at *
  generalize (H.ru p).any (bSure H s) = C1 at *
  generalize (H.ru p).any (bNot H s) = C2 at *
  generalize fHold H s p = C3 at *
  generalize fFail H s p = C4 at *
  generalize sureC H s p = D1 at *
  generalize (H.ru p).flatMap (gNot H s) = D2 at *
  generalize holdC H s p = D3 at *
  generalize failC H s p = D4 at *
  generalize p * 6 = X at *
  cases a
  · cases b
    · go_enter Tryz.func42, Tryz.ntmps42
      go_upto_region 1 with fail
      rw [← HW0.out]
      go_wp2_with (go_at_call 68; refine H4.out.mono ?_; rintro e w' ⟨ad, n, c, rfl, hb, hr⟩; have HQ := hidLL (And.intro hb hr); clear hb hr)
      go_ret2
      exact ⟨ad, n, c, by rw [HF.out]; rfl, HQ.out.1, fun e => by rw [HF.out] at e; rw [HC.out]; exact HQ.out.2 e⟩
    · go_enter Tryz.func42, Tryz.ntmps42
      go_upto_region 1 with fail
      rw [← HW0.out]
      go_wp2_with (go_at_call 67; refine H3.out.mono ?_; rintro e w' ⟨ad, n, c, rfl, hb, hr⟩; have HQ := hidLL (And.intro hb hr); clear hb hr)
      go_ret2
      exact ⟨ad, n, c, by rw [HF.out]; rfl, HQ.out.1, fun e => by rw [HF.out] at e; rw [HC.out]; exact HQ.out.2 e⟩
  · cases b
    · go_enter Tryz.func42, Tryz.ntmps42
      go_upto_region 1 with fail
      rw [← HW0.out]
      go_wp2_with (go_at_call 66; refine H2.out.mono ?_; rintro e w' ⟨ad, n, c, rfl, hb, hr⟩; have HQ := hidLL (And.intro hb hr); clear hb hr)
      go_ret2
      exact ⟨ad, n, c, by rw [HF.out]; rfl, HQ.out.1, fun e => by rw [HF.out] at e; rw [HC.out]; exact HQ.out.2 e⟩
    · go_enter Tryz.func42, Tryz.ntmps42
      go_upto_region 1 with fail
      rw [← HW0.out]
      go_wp2_with (go_at_call 65; refine H1.out.mono ?_; rintro e w' ⟨ad, n, c, rfl, hb, hr⟩; have HQ := hidLL (And.intro hb hr); clear hb hr)
      go_ret2
      exact ⟨ad, n, c, by rw [HF.out]; rfl, HQ.out.1, fun e => by rw [HF.out] at e; rw [HC.out]; exact HQ.out.2 e⟩
end Go.Proofs.YtmbclnaenjcocaaGreatDoor

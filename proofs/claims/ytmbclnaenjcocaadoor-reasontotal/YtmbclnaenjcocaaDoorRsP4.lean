/-
  Package reason: what is known, told claim by claim (Solve's own function).
-/
import Derived.Test.YtmbclnaenjcocaaDoorRsP3
import Derived.Test.YtmbclnaenjcocaaDoorRsFrom5
import Derived.Deep.RegionWith
import Derived.Deep.RegionLaw
import Derived.Deep.LoopGhost
namespace Go.Proofs.YtmbclnaenjcocaaDoor
open Go.RowKit
variable {w : World} {bL bR hi : Nat} {H : Sh} {V : Vs} {s : St}

/-- What is known, in memory: n places each. -/
structure Kn (w : World) (kb bS bH n : Nat) (su ho : Nat → Int) : Prop where
  blk : w.heap[kb]? = some (.cells #[.slice (some ⟨bS, 0, none⟩) n n, .slice (some ⟨bH, 0, none⟩) n n] 27 (0, 0))
  rS : w.rowIs bS 3 n (fun p => .int .i64 (su p))
  rH : w.rowIs bH 3 n (fun p => .int .i64 (ho p))
  n1 : bS ≠ bH
  n2 : bS ≠ kb
  n3 : bH ≠ kb
theorem Kn.on {w w' : World} {kb bS bH n : Nat} {su ho : Nat → Int} (h : Kn w kb bS bH n su ho) (h1 : w'.heap[kb]? = w.heap[kb]?) (h2 : w'.heap[bS]? = w.heap[bS]?) (h3 : w'.heap[bH]? = w.heap[bH]?) : Kn w' kb bS bH n su ho :=
  ⟨h1.trans h.blk, h.rS.of_block h2, h.rH.of_block h3, h.n1, h.n2, h.n3⟩
theorem Kn.lt {w : World} {kb bS bH n : Nat} {su ho : Nat → Int} (h : Kn w kb bS bH n su ho) : kb < w.heap.size := by
  rcases Nat.lt_or_ge kb w.heap.size with h1 | h1
  · exact h1
  · have := h.blk; rw [Array.getElem?_eq_none h1] at this; cases this
theorem Kn.chg {w w' : World} {kb bS bH n : Nat} {su ho : Nat → Int} {X : List Nat} (h : Kn w kb bS bH n su ho) (hc : Chg X w w') (h1 : kb ∉ X) (h2 : bS ∉ X) (h3 : bH ∉ X) : Kn w' kb bS bH n su ho :=
  h.on (hc.block _ h.lt h1) (hc.block _ h.rS.lt h2) (hc.block _ h.rH.lt h3)
theorem Kn.alloc {w : World} {kb bS bH n : Nat} {su ho : Nat → Int} (h : Kn w kb bS bH n su ho) (o : Obj) : Kn (w.alloc o) kb bS bH n su ho := h.chg (X := []) ((Chg.refl _ _).alloc o) (by simp) (by simp) (by simp)
theorem Kn.setS {w : World} {kb bS bH n : Nat} {su ho : Nat → Int} (h : Kn w kb bS bH n su ho) (p : Nat) (v : Int) : Kn (w.setCell ⟨bS, p, none⟩ (.int .i64 v)) kb bS bH n (upd su p v) ho :=
  ⟨(Below.heap_setCell _ _ _ _ (fun e => h.n2 e.symm)).trans h.blk, (h.rS.set p _).congr fun i _ => by unfold upd; split <;> rfl, h.rH.setOther (fun e => h.n1 e.symm) _, h.n1, h.n2, h.n3⟩
theorem Kn.setH {w : World} {kb bS bH n : Nat} {su ho : Nat → Int} (h : Kn w kb bS bH n su ho) (p : Nat) (v : Int) : Kn (w.setCell ⟨bH, p, none⟩ (.int .i64 v)) kb bS bH n su (upd ho p v) :=
  ⟨(Below.heap_setCell _ _ _ _ (fun e => h.n3 e.symm)).trans h.blk, h.rS.setOther h.n1 _, (h.rH.set p _).congr fun i _ => by unfold upd; split <;> rfl, h.n1, h.n2, h.n3⟩
theorem Kn.drew {w : World} {kb bS bH n : Nat} {su ho : Nat → Int} (h : Kn w kb bS bH n su ho) : Kn w.drew kb bS bH n su ho := h.on rfl rfl rfl
set_option maxHeartbeats 2000000 in
theorem tell_p {kb bS bH n : Nat} {su ho : Nat → Int} (h : Kn w kb bS bH n su ho) (a b : Bool) (q : Int) (h0 : q ≠ 0) (h1 : -1000000 ≤ q) (h2 : q ≤ 1000000) (hp : pl q < n) (fa : Option Addr) (fn fc : Nat) :
    Calls Tryd.prog 24 #[.agg #[.bool a, .bool b, .int .i64 q], .slice fa fn fc, .pointer (some ⟨kb, 0, none⟩)] w fun e w' => e = .returned (.tuple #[]) ∧ Kn w' kb bS bH n (if a then upd su (pl q) (ansOf b) else su) (if a then ho else upd ho (pl q) (ansOf b)) ∧ Chg [bS, bH] w w' := by
  have HP : Hid (∀ w, Calls Tryd.prog 26 #[.int .i64 q] w fun e w' => e = .returned (.int .i64 (pl q)) ∧ w' = w) := fun w => place_p q h0 h1 h2 w
  have HA : Hid (∀ w, Calls Tryd.prog 25 #[.agg #[.bool a, .bool b, .int .i64 q]] w fun e w' => e = .returned (.int .i64 (ansOf b)) ∧ w' = w.alloc (.cells #[.bool a, .bool b, .int .i64 q] 60)) := fun w => answer_p a b q w
  have x0 : w.cell? ⟨kb, 0, none⟩ = some (.slice (some ⟨bS, 0, none⟩) n n) := by simp [World.cell?, h.blk]
  have x1 : w.cell? ⟨kb, 1, none⟩ = some (.slice (some ⟨bH, 0, none⟩) n n) := by simp [World.cell?, h.blk]
  have l1 := h.lt
  have l2 := h.rS.lt
  have l3 := h.rH.lt
  have y1 := h.rS.cell hp
  have y2 := h.rH.cell hp
  have z1 := h.rS.frozen (pl q)
  have z2 := h.rH.frozen (pl q)
  have HS := hidLL (h.setS (pl q) (ansOf b))
  have HH := hidLL (h.setH (pl q) (ansOf b))
  have hpz : (pl q : Int) < n := by omega
  clear h
  generalize su (pl q) = k1 at *
  generalize ho (pl q) = k2 at *
  obtain ⟨U1, hU1⟩ : ∃ U, U = upd su (pl q) (ansOf b) := ⟨_, rfl⟩
  obtain ⟨U2, hU2⟩ : ∃ U, U = upd ho (pl q) (ansOf b) := ⟨_, rfl⟩
  rw [← hU1, ← hU2]
  rw [← hU1] at HS
  rw [← hU2] at HH
  clear hU1 hU2
  generalize pl q = P at *
  generalize ansOf b = u at *
  cases a
  · go_enter Tryd.func24, Tryd.ntmps24
    go_wp2_with fail
    go_region_with (first | (go_at_call 26; refine (HP.out _).mono ?_; rintro e w' ⟨rfl, ew⟩; subst w') | (go_at_call 25; refine (HA.out _).mono ?_; rintro e w' ⟨rfl, ew⟩; subst w'))
    all_goals
      go_wp2
      go_end0
      refine ⟨rfl, ?_, ?_⟩
      · first
          | exact ((HH.out).alloc _).alloc _
          | exact (((HH.out).alloc _).alloc _).drew
          | exact (((HH.out).alloc _).alloc _).drew.drew
          | exact (((HH.out).alloc _).alloc _).drew.drew.drew
      · first
          | exact ((((Chg.refl [bS, bH] w).setCell (p := ⟨bH, _, none⟩) (by simp) _)).alloc _).alloc _
          | exact (((((Chg.refl [bS, bH] w).setCell (p := ⟨bH, _, none⟩) (by simp) _)).alloc _).alloc _).drew
          | exact (((((Chg.refl [bS, bH] w).setCell (p := ⟨bH, _, none⟩) (by simp) _)).alloc _).alloc _).drew.drew
          | exact (((((Chg.refl [bS, bH] w).setCell (p := ⟨bH, _, none⟩) (by simp) _)).alloc _).alloc _).drew.drew.drew
  · go_enter Tryd.func24, Tryd.ntmps24
    go_wp2_with fail
    go_region_with (first | (go_at_call 26; refine (HP.out _).mono ?_; rintro e w' ⟨rfl, ew⟩; subst w') | (go_at_call 25; refine (HA.out _).mono ?_; rintro e w' ⟨rfl, ew⟩; subst w'))
    all_goals
      go_wp2
      go_end0
      refine ⟨rfl, ?_, ?_⟩
      · first
          | exact ((HS.out).alloc _).alloc _
          | exact (((HS.out).alloc _).alloc _).drew
          | exact (((HS.out).alloc _).alloc _).drew.drew
          | exact (((HS.out).alloc _).alloc _).drew.drew.drew
      · first
          | exact ((((Chg.refl [bS, bH] w).setCell (p := ⟨bS, _, none⟩) (by simp) _)).alloc _).alloc _
          | exact (((((Chg.refl [bS, bH] w).setCell (p := ⟨bS, _, none⟩) (by simp) _)).alloc _).alloc _).drew
          | exact (((((Chg.refl [bS, bH] w).setCell (p := ⟨bS, _, none⟩) (by simp) _)).alloc _).alloc _).drew.drew
          | exact (((((Chg.refl [bS, bH] w).setCell (p := ⟨bS, _, none⟩) (by simp) _)).alloc _).alloc _).drew.drew.drew
end Go.Proofs.YtmbclnaenjcocaaDoor

/-
  Cases: Stage, Since, Done, isUsedUp, isNone.
-/
import Derived.Test.YtpijiglmjkdlgaaDoorCsIx
import Derived.Test.YtpijiglmjkdlgaaDoorShelfS
import Derived.Deep.QuietTactic
import Derived.BigQuiet
namespace Go.Proofs.YtpijiglmjkdlgaaDoor
open Go.RowKit

/-- It answers yes or no. -/
def SomeB (e : Ending) : Prop := ∃ b : Bool, e = .returned (.bool b)
theorem RdS.str {w : World} {S : Nat → Prop} {a : Option Addr} {n c : Nat} {l : List ByteArray} (h : RdS strE w S (.slice a n c) l) {j : Nat} {s : ByteArray} (hj : l[j]? = some s) : ∃ g o, a = some ⟨g, o, none⟩ ∧ S g ∧ w.cell? ⟨g, o + j, none⟩ = some (.string s) := by
  obtain ⟨g, o, e, hg, hr⟩ := h.at hj
  refine ⟨g, o, e, hg, ?_⟩
  have := hr 0 _ rfl
  simpa [strE] using this
theorem contains_p {w : World} {S : Nat → Prop} {a : Option Addr} {n c : Nat} {l : List ByteArray} (h : RdS strE w S (.slice a n c) l) (x : ByteArray) :
    ∃ b : Bool, (b = true ↔ x ∈ l) ∧ ∀ k, Calls Tryd.prog 19 #[.slice a n c, .string x] (w.drewN k) fun e w' => e = .returned (.bool b) ∧ w' = w.drewN k := by
  obtain ⟨hn, hbig⟩ := h.len
  rcases Nat.eq_zero_or_pos n with h0 | h0
  · subst h0
    have hl : l = [] := List.eq_nil_of_length_eq_zero hn.symm
    exact ⟨false, by rw [hl]; simp, fun k => Tryd.slices_Contains_string_empty a c x _⟩
  · obtain ⟨s0, hs0⟩ : ∃ s, l[0]? = some s := ⟨_, List.getElem?_eq_getElem (by omega)⟩
    obtain ⟨g, o, rfl, hg, _⟩ := h.str hs0
    refine ⟨Lib.containsS (l.take n) x, ?_, fun k => Tryd.slices_Contains_string g o n c l x (w.drewN k) (by omega) (by omega) fun j hj => ?_⟩
    · rw [Lib.containsS_iff, List.take_of_length_le (by omega)]
    · obtain ⟨g', o', e, _, hc⟩ := h.str (List.getElem?_eq_getElem hj)
      injection e with e
      injection e with e1 e2
      subst e1 e2
      rw [List.getD_eq_getElem?_getD, List.getElem?_eq_getElem hj]
      exact hc
section
variable {w : World} {D : KD} {sv : SlV} {ts : List Nat} {stage : ByteArray} {since : Int} {steps : List Stp}
theorem stage_p (h : CaseAt w D sv ts stage since steps) (k : Nat) : Calls Tryd.prog 10 #[.pointer (some ⟨D.kb, 0, none⟩)] (w.drewN k) fun e w' => e = .returned (.string stage) ∧ w' = w.drewN k := by
  obtain ⟨c0, c1, c2, c3, c4, c5, c6⟩ := h.cells
  clear h
  go_enter Tryd.func10, Tryd.ntmps10
  go_wp2
  go_ret
  exact ⟨rfl, rfl⟩
theorem since_p (h : CaseAt w D sv ts stage since steps) (k : Nat) : Calls Tryd.prog 20 #[.pointer (some ⟨D.kb, 0, none⟩)] (w.drewN k) fun e w' => e = .returned (.int .i64 since) ∧ w' = w.drewN k := by
  obtain ⟨c0, c1, c2, c3, c4, c5, c6⟩ := h.cells
  clear h
  go_enter Tryd.func20, Tryd.ntmps20
  go_wp2
  go_ret
  exact ⟨rfl, rfl⟩
set_option maxHeartbeats 1000000 in
theorem done_p (h : CaseAt w D sv ts stage since steps) : ∃ b : Bool, (b = true ↔ stage ∈ D.p.fin) ∧ Calls Tryd.prog 9 #[.pointer (some ⟨D.kb, 0, none⟩)] w fun e w' => e = .returned (.bool b) ∧ ∃ k, w' = w.drewN k := by
  obtain ⟨b, hb, hC⟩ := contains_p h.fin stage
  refine ⟨b, hb, ?_⟩
  obtain ⟨c0, c1, c2, c3, c4, c5, c6⟩ := h.cells
  have HC := hidLL hC
  clear h hb hC c1 c2 c3 c5 c6
  go_enter Tryd.func9, Tryd.ntmps9
  go_upto_region 1 with fail
  go_quiet ((go_at_call 19; exact Calls.quiet_of_same (HC.out _)))
  go_wp2
  go_ret
  exact ⟨rfl, nq, rfl⟩
set_option maxHeartbeats 2000000 in
theorem used_p (h : CaseAt w D sv ts stage since steps) {i : Nat} {m : Mv} (hi : D.p.mvs[i]? = some m) : Calls Tryd.prog 22 #[.pointer (some ⟨D.kb, 0, none⟩), .int .i64 i] w fun e w' => e = .returned (.bool (decide (0 < m.most) && decide (m.most ≤ ((ts.getD i 0 : Nat) : Int)))) ∧ ∃ k, w' = w.drewN k := by
  obtain ⟨c0, c1, c2, c3, c4, c5, c6⟩ := h.cells
  obtain ⟨g, o, hga, hg, hrg⟩ := h.mvs.at hi
  rw [show mvE.k = 8 from rfl] at hrg
  obtain ⟨y0, y1, y2, y3, y4, y5, y6, y7⟩ := mv_cells hrg
  have hil := (List.getElem?_eq_some_iff.1 hi).1
  obtain ⟨hm1, hm2⟩ := h.mlen
  have z0 := h.tms.cell hil
  rw [hga] at c1
  have hiz : (i : Int) < (D.mv.n : Int) := by omega
  have hiz2 : (i : Int) < (D.p.mvs.length : Int) := by omega
  obtain ⟨t, ht⟩ : ∃ t : Nat, t = ts.getD i 0 := ⟨_, rfl⟩
  rw [← ht] at z0 ⊢
  generalize D.p.mvs.length = ml at *
  generalize D.mv.n = mn at *
  clear h hi hga hrg hg ht y0 y1 y2 y3 y4 y5 y6 c0 c3 c4 c5 c6
  by_cases h0 : 0 < m.most
  · have hd : decide (0 < m.most) = true := by simp [h0]
    go_enter Tryd.func22, Tryd.ntmps22
    go_upto_region 1 with fail
    go_quiet (fail)
    go_wp2
    go_ret
    exact ⟨by first | rfl | (rw [hd]; rfl), nq, rfl⟩
  · have hd : decide (0 < m.most) = false := by simp; omega
    go_enter Tryd.func22, Tryd.ntmps22
    go_upto_region 1 with fail
    go_quiet (fail)
    go_wp2
    go_ret
    exact ⟨by first | rfl | (rw [hd]; rfl), nq, rfl⟩
end
set_option maxHeartbeats 1000000 in
theorem none_p (N U R : Int) (w : World) : Calls Tryd.prog 36 #[.agg #[.int .i64 N, .int .i64 U, .int .i64 R]] w fun e w' => SomeB e ∧ Below w.heap.size w w' := by
  have HB : Hid (∀ o, Below w.heap.size w (w.alloc o)) := fun o => (Below.refl _ _).alloc (Nat.le_refl _) o
  go_enter Tryd.func36, Tryd.ntmps36
  go_wp2
  all_goals (go_ret; exact ⟨⟨_, rfl⟩, HB.out _⟩)
end Go.Proofs.YtpijiglmjkdlgaaDoor

/-
  Package script: Valid.
-/
import Derived.Test.YtgfaeeacndpniaaDoorValidP2
namespace Go.Proofs.YtgfaeeacndpniaaDoor
open Go.RowKit Go.Extern.Stop Go.Stop Go.Extern

/-- What Valid tells. -/
def VTold (p : Nat → Addr) (e : Ending) : VOut → Prop
  | .bad c => ∃ k, c = k + 1 ∧ k < 11 ∧ e = .returned (errI (p k))
  | .ok _ => e = .returned .nilIface
set_option maxHeartbeats 2000000 in
theorem valid_any (t : It) (hF : FewIt t) (p : Nat → Addr) (m : Int) (w : World) (hE : Env w p m) (P : Nat → Prop) (v : Nat → Value) (hL : Lies w P v t) :
    Calls Tryd.prog 20 #[.agg #[v 0, v 1, v 2, v 3]] w fun e w' => VTold p e (vIt 0 0 [] t) ∧ Below w.heap.size w w' := by
  obtain ⟨f0, f1, ⟨la, lc, f2⟩, ⟨ka, kc, f3⟩⟩ := hL.forms
  obtain ⟨W2, hW2⟩ : ∃ W2, W2 = (w.alloc (.cells #[.string t.label, .string t.head, .slice la t.lines.length lc, .slice ka t.kids.length kc] 31)).alloc (.cells #[.int .i64 0] 74) := ⟨_, rfl⟩
  have ha := alloc_two w (.cells #[.string t.label, .string t.head, .slice la t.lines.length lc, .slice ka t.kids.length kc] 31) (.cells #[.int .i64 0] 74)
  have hb : Below w.heap.size w W2 := by rw [hW2]; exact ((Below.refl _ _).alloc (Nat.le_refl _) _).alloc (by simp) _
  have hs2 : W2.heap.size = w.heap.size + 2 := by rw [hW2]; simp
  rw [← hW2] at ha
  have hI := item_any (w.heap.size + 1) p m w hE (by omega) _ t (Nat.le_refl _) hF 0 0 v W2 none 0 [] (fun _ _ => .nilIface) (hL.step fun b hb' _ => ⟨hb.block b hb', by show b ≠ w.heap.size + 1; omega⟩) ⟨fun i hi => absurd hi (Nat.not_lt_zero _), fun i k e => by cases e⟩ ha.2 hb (by omega) (by omega) (by simp)
  rw [f0, f1, f2, f3] at hI
  rw [f0, f1, f2, f3]
  have HI := hidLL hI
  have HB := hidLL hb
  have HX := hidLL hW2
  have HS2 := hidLL hs2
  obtain ⟨x0, x1, x2, x3, xf⟩ := four ha.1
  clear hI hb hW2 ha hL f0 f1 f2 f3 hF hs2
  generalize vIt 0 0 [] t = O at *
  go_enter Tryd.func20, Tryd.ntmps20
  go_upto_region 2 with fail
  rw [← HX.out]
  go_wp2_with fail
  go_at_call 36
  refine HI.out.mono ?_
  rintro e w3 ⟨hS, hb3⟩
  have HB3 : Hid (Below w.heap.size w w3) := HB.out.trans (hb3.down (by have := HS2.out; omega) (by omega))
  clear hb3
  cases O with
  | bad c =>
    obtain ⟨k, hc, hk, rfl⟩ := hS
    have HC := hidLL hc
    clear hc
    unfold errI
    go_wp2
    go_ret
    exact ⟨⟨k, HC.out, hk, rfl⟩, HB3.out⟩
  | ok n =>
    obtain ⟨rfl, _⟩ := hS
    go_wp2
    go_ret
    exact ⟨rfl, HB3.out⟩
end Go.Proofs.YtgfaeeacndpniaaDoor

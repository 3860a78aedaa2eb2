/-
  The reference: KidOf.
-/
import Derived.Test.YtgfaeeacndpniaaGreatDoorKidsOf
namespace Go.Proofs.YtgfaeeacndpniaaGreatDoor
open Go.RowKit Go.Extern.Stop Go.Stop Go.Extern

/-- The box that a call lays for an item, and the rest of memory. -/
structure Box3 (w wr : World) (u : Value) : Prop where
  c3 : wr.cell? ⟨w.heap.size, 3, none⟩ = some u
  bel : Below w.heap.size w wr
  lt : w.heap.size < wr.heap.size
theorem Box3.start (w : World) (a0 a1 a2 a3 : Value) (t : TypeId) : Box3 w (w.alloc (.cells #[a0, a1, a2, a3] t)) a3 := ⟨by simp, (Below.refl _ _).alloc (Nat.le_refl _) _, by simp⟩
set_option maxHeartbeats 2000000 in
theorem kidOf_lies {w : World} {P : Nat → Prop} {v : Nat → Value} {t : It} (h : Lies w P v t) (hn : t.kids.length ≤ 100000) (s : ByteArray) :
    Calls Tryz.prog 65 #[.agg #[v 0, v 1, v 2, v 3], .string s] w fun e w' => (∃ k : Int, e = .returned (.int .i64 k) ∧ -1 ≤ k ∧ (0 ≤ k ↔ hasKid t s = true)) ∧ Below w.heap.size w w' := by
  obtain ⟨f0, f1, ⟨la, lc, f2⟩, ⟨ka, kc, f3⟩⟩ := h.forms
  obtain ⟨_, V, hk, hr⟩ := h.kidsAt f3
  have HH := hidLL (kids_has hr s)
  have HC := hidLL (kids_cells hk hr)
  rw [f0, f1, f2, f3]
  generalize t.kids.length = kn at *
  generalize t.label = lb at *
  generalize t.head = hd at *
  generalize t.lines.length = ln at *
  generalize hasKid t s = hb at *
  clear h hk hr f0 f1 f2 f3
  go_enter Tryz.func65, Tryz.ntmps65
  have HB := hidLL (Box3.start w (.string lb) (.string hd) (.slice la ln lc) (.slice ka kn kc) 26)
  go_wp2_with fail
  generalize (w.alloc (.cells #[.string lb, .string hd, .slice la ln lc, .slice ka kn kc] 26)) = w2 at *
  go_loopw [5] (fun t wr => ∃ i : Nat, i ≤ kn ∧ t = .int .i64 i ∧ Box3 w wr (.slice ka kn kc) ∧ ∀ j, j < i → ((strOf (V j 0)).toList == s.toList) = false) (fun t _ => (kn - RowKit.intOf t).toNat)
  case atStart => exact ⟨0, by omega, rfl, HB.out, fun j hj => by omega⟩
  case round =>
    obtain ⟨i, hi, rfl, hbx, hno⟩ := hrel
    have HX := hidLL hbx
    have HN := hidLL hno
    have c3 := hbx.c3
    clear hbx hno
    by_cases hin : i < kn
    · have hiz : (i : Int) < kn := by omega
      obtain ⟨b, o, rfl, x0, _⟩ := HC.out i hin
      have y0 := (HX.out.bel.cell (p := ⟨b, o + i * 4, none⟩) (cell_lt x0)).trans x0
      clear x0
      cases hq : ((strOf (V i 0)).toList == s.toList)
      · have HQ := hidLL hq
        go_wp2
        go_roundw
        case rel =>
          refine ⟨i + 1, by omega, by go_num, HX.out, fun j hj => ?_⟩
          rcases Nat.lt_or_ge j i with h | h
          · exact HN.out j h
          · obtain rfl : j = i := by omega
            exact HQ.out
        case measure => simp [RowKit.intOf]; omega
      · have HQ := hidLL hq
        go_wp2
        go_ret
        exact ⟨⟨i, rfl, by omega, ⟨fun _ => HH.out.2 ⟨i, hin, HQ.out⟩, fun _ => by omega⟩⟩, HX.out.bel⟩
    · obtain rfl : i = kn := by omega
      go_wp2
      go_ret
      refine ⟨⟨-1, rfl, by omega, ⟨fun h => absurd h (by omega), fun h => ?_⟩⟩, HX.out.bel⟩
      obtain ⟨j, hj, e⟩ := HH.out.1 h
      rw [HN.out j hj] at e
      cases e
end Go.Proofs.YtgfaeeacndpniaaGreatDoor

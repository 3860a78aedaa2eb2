/-
  The item type's row of the table.
-/
import Derived.Test.YtpbolcjcmkmalaaGreatDoorProg
import Derived.WalkKit
import Derived.Test.YtpbolcjcmkmalaaGreatDoorCo10
import Derived.Test.YtpbolcjcmkmalaaGreatDoorCo11
namespace Go.Proofs.YtpbolcjcmkmalaaGreatDoor
open Go.RowKit

theorem Tryz.infoItem : ∃ i z, Tryz.prog.info? 25 = some i ∧ i.zero = some z ∧ i.size = 4 ∧ i.bytes = 80 ∧ z.cells.size = 4 := by
  have h : (Tryz.prog.info? 25).map (fun i => (i.zero, i.size, i.bytes)) = some (some (.agg #[.string ⟨#[]⟩, .string ⟨#[]⟩, .slice none 0 0, .slice none 0 0]), 4, 80) := by kernel_rfl
  obtain ⟨i, h1, h2⟩ := Option.map_eq_some_iff.1 h
  simp only [Prod.mk.injEq] at h2
  exact ⟨i, _, h1, h2.1, h2.2.1, h2.2.2, rfl⟩
theorem Tryz.infoStr : ∃ i z, Tryz.prog.info? 9 = some i ∧ i.zero = some z ∧ i.size = 1 ∧ i.bytes = 16 ∧ z.cells.size = 1 := by
  have h : (Tryz.prog.info? 9).map (fun i => (i.zero, i.size, i.bytes)) = some (some (.string ⟨#[]⟩), 1, 16) := by kernel_rfl
  obtain ⟨i, h1, h2⟩ := Option.map_eq_some_iff.1 h
  simp only [Prod.mk.injEq] at h2
  exact ⟨i, _, h1, h2.1, h2.2.1, h2.2.2, rfl⟩
end Go.Proofs.YtpbolcjcmkmalaaGreatDoor
namespace Go.Proofs.YtpbolcjcmkmalaaGreatDoor
open Go.RowKit Go.Extern.Stop Go.Stop Go.Extern

/-- What package-level variables hold. -/
structure Env (w : World) (p : Nat → Addr) (m : Int) : Prop where
  L : Laid w p
  T : Lib.Utf8Tabs 13 14 w
  M : w.cell? ⟨12, 0, none⟩ = some (.int .i64 m)
theorem Env.on {w w' : World} {p : Nat → Addr} {m : Int} (h : Env w p m) (hb : Below w.heap.size w w') : Env w' p m :=
  ⟨h.L.below hb, tabs_below h.T hb, (hb.cell (p := ⟨12, 0, none⟩) (World.block_lt_of_cell? w _ h.M)).trans h.M⟩
/-- The zero item. -/
def zItem : List Value := [.string ⟨#[]⟩, .string ⟨#[]⟩, .slice none 0 0, .slice none 0 0]
theorem zNews (wr : World) : ∀ (j : Nat) (u : Value), [Value.string ⟨#[]⟩, .string ⟨#[]⟩, .slice none 0 0, .slice none 0 0][j]? = some u → (wr.alloc (.cells #[Value.string ⟨#[]⟩, .string ⟨#[]⟩, .slice none 0 0, .slice none 0 0] 25)).cell? ((⟨wr.heap.size, 0, none⟩ : Addr).add j) = some u := by
  intro j u hj
  match j, hj with
  | 0, hj => simp at hj; subst hj; simp [Addr.add]
  | 1, hj => simp at hj; subst hj; simp [Addr.add]
  | 2, hj => simp at hj; subst hj; simp [Addr.add]
  | 3, hj => simp at hj; subst hj; simp [Addr.add]
theorem zOne : ∀ u ∈ [Value.string ⟨#[]⟩, .string ⟨#[]⟩, .slice none 0 0, .slice none 0 0], u.oneCell' = true := by
  intro u hu
  simp at hu
  rcases hu with rfl | rfl <;> rfl
end Go.Proofs.YtpbolcjcmkmalaaGreatDoor

/-
  What the walks of the reader share.
-/
import Derived.Test.YtgfaeeacndpniaaDoorReadTextP
import Derived.Test.YtgfaeeacndpniaaDoorLabP4
import Derived.Test.YtgfaeeacndpniaaDoorMemBase
namespace Go.Proofs.YtgfaeeacndpniaaDoor
open Go.RowKit Go.Extern.Stop Go.Stop Go.Extern

/-- What package-level variables hold. -/
structure Env (w : World) (p : Nat → Addr) (m : Int) : Prop where
  L : Laid w p
  T : Lib.Utf8Tabs 3 4 w
  M : w.cell? ⟨5, 0, none⟩ = some (.int .i64 m)
theorem Env.on {w w' : World} {p : Nat → Addr} {m : Int} (h : Env w p m) (hb : Below w.heap.size w w') : Env w' p m :=
  ⟨h.L.below hb, tabs_below h.T hb, (hb.cell (p := ⟨5, 0, none⟩) (World.block_lt_of_cell? w _ h.M)).trans h.M⟩
/-- What a step of the reader tells and leaves. -/
def StepOut (B br : Nat) (p : Nat → Addr) (e : Ending) (w' : World) : Step → Prop
  | .bad c => ∃ k, c = k + 1 ∧ k < 11 ∧ e = .returned (errI (p k))
  | .good z n => e = .returned .nilIface ∧ Rd B br w' z n
/-- The zero item. -/
def zItem : List Value := [.string ⟨#[]⟩, .string ⟨#[]⟩, .slice none 0 0, .slice none 0 0]
theorem zNews (wr : World) : ∀ (j : Nat) (u : Value), [Value.string ⟨#[]⟩, .string ⟨#[]⟩, .slice none 0 0, .slice none 0 0][j]? = some u → (wr.alloc (.cells #[Value.string ⟨#[]⟩, .string ⟨#[]⟩, .slice none 0 0, .slice none 0 0] 31)).cell? ((⟨wr.heap.size, 0, none⟩ : Addr).add j) = some u := by
  intro j u hj
  match j, hj with
  | 0, hj => simp at hj; subst hj; simp [Addr.add]
  | 1, hj => simp at hj; subst hj; simp [Addr.add]
  | 2, hj => simp at hj; subst hj; simp [Addr.add]
  | 3, hj => simp at hj; subst hj; simp [Addr.add]
theorem zOne : ∀ u ∈ [Value.string ⟨#[]⟩, .string ⟨#[]⟩, .slice none 0 0, .slice none 0 0], u.oneCell' = true := by
  intro u hu
  simp at hu
  rcases hu with rfl | rfl <;> rfl
/-- A new item is put behind the others. -/
theorem Rd.pushed {B br : Nat} {w W1 w' wc : World} {z : List It} {n : Nat} {own : Nat → Nat} {vo : Value} {V : Nat → Nat → Value} {K : Nat → Nat → Nat → Value} (h : RS B br w z n own vo V K) (hA : Below w.heap.size w W1) {g' cap' : Nat} {lab hd : ByteArray}
    (ho : w'.ownsRow B 31 4 (.slice (some ⟨g', 0, none⟩) (z.length + 1) cap') (z.length + 1) (flat4 V z.length ++ [.string ⟨#[]⟩, .string ⟨#[]⟩, .slice none 0 0, .slice none 0 0])) (hg : W1.grownBy w' vo.ownBlock)
    (hw : (Value.slice (some ⟨g', 0, none⟩) (z.length + 1) cap').ownBlock = vo.ownBlock ∨ (Value.slice (some ⟨g', 0, none⟩) (z.length + 1) cap').ownBlock = some W1.heap.size)
    (hl : LikeW wc ((set4 w' g' (z.length * 4) (vec4 (.string lab) (.string hd) (.slice none 0 0) (.slice none 0 0))).setCell ⟨br, 0, none⟩ (.slice (some ⟨g', 0, none⟩) (z.length + 1) cap'))) (hB : B ≤ w.heap.size) :
    Rd B br wc (z ++ [It.mk lab hd [] []]) n ∧ BelX B br w wc := by
  have hf := fill4 ho hg (by rcases hw with hw | hw; exact .inl hw; right; injection hw with hw; exact Nat.le_of_eq hw.symm) (vec4 (.string lab) (.string hd) (.slice none 0 0) (.slice none 0 0))
  have hr := h.push hA (x := vec4 (.string lab) (.string hd) (.slice none 0 0) (.slice none 0 0)) (lab := lab) (hd := hd) rfl rfl rfl rfl hf.1 hf.2 hw
  refine ⟨⟨_, _, _, _, hr.below (hl.bel _)⟩, ?_⟩
  have h1 : BelX B br w W1 := Below.x hA br hB
  have h2 := h1.grown hf.2 (Nat.le_trans hB hA.size) (fun k hk => (h.row.lt k hk).1)
  exact (h2.setCell (.inr rfl) _).trans (Below.x (hl.bel B) br (Nat.le_refl _))
theorem pushedOut {B br : Nat} {w0 w W1 w' wc : World} {z : List It} {n : Nat} {own : Nat → Nat} {vo : Value} {V : Nat → Nat → Value} {K : Nat → Nat → Nat → Value} {p : Nat → Addr} {S : Step} (h : RS B br w z n own vo V K) (hA : Below w.heap.size w W1) {g' cap' : Nat} {lab hd : ByteArray}
    (ho : w'.ownsRow B 31 4 (.slice (some ⟨g', 0, none⟩) (z.length + 1) cap') (z.length + 1) (flat4 V z.length ++ [.string ⟨#[]⟩, .string ⟨#[]⟩, .slice none 0 0, .slice none 0 0])) (hg : W1.grownBy w' vo.ownBlock)
    (hw : (Value.slice (some ⟨g', 0, none⟩) (z.length + 1) cap').ownBlock = vo.ownBlock ∨ (Value.slice (some ⟨g', 0, none⟩) (z.length + 1) cap').ownBlock = some W1.heap.size) (hB : B ≤ w.heap.size) (hb0 : BelX B br w0 w) (hS : S = .good (z ++ [It.mk lab hd [] []]) n)
    (hl : LikeW wc ((set4 w' g' (z.length * 4) (vec4 (.string lab) (.string hd) (.slice none 0 0) (.slice none 0 0))).setCell ⟨br, 0, none⟩ (.slice (some ⟨g', 0, none⟩) (z.length + 1) cap'))) :
    StepOut B br p (.returned .nilIface) wc S ∧ BelX B br w0 wc := by
  have := Rd.pushed h hA ho hg hw hl hB
  exact ⟨by rw [hS]; exact ⟨rfl, this.1⟩, hb0.trans this.2⟩
end Go.Proofs.YtgfaeeacndpniaaDoor

/-
  Package script: the reader's innermost; the items of its row.
-/
import Derived.Test.YtgfaeeacndpniaaDoorMemBase
import Derived.Deep.LoopGhost
namespace Go.Proofs.YtgfaeeacndpniaaDoor
open Go.RowKit Go.Extern.Stop Go.Stop Go.Extern

theorem innermost_any (br : Nat) (a : Option Addr) (j cap : Nat) (w : World) (hk : j ≤ 1000000) (h : w.cell? ⟨br, 0, none⟩ = some (.slice a (j + 1) cap)) :
    Calls Tryd.prog 50 #[.pointer (some ⟨br, 0, none⟩)] w fun e w' => e = .returned (.int .i64 j) ∧ w' = w := by
  go_enter Tryd.func50, Tryd.ntmps50
  go_wp2
  go_ret
  exact ⟨by simp, rfl⟩
theorem RS.item {B br : Nat} {w : World} {z : List It} {n : Nat} {own : Nat → Nat} {vo : Value} {V : Nat → Nat → Value} {K : Nat → Nat → Nat → Value} (h : RS B br w z n own vo V K) {g cap j : Nat} (hvo : vo = .slice (some ⟨g, 0, none⟩) z.length cap) (hj : j < z.length) (c : Nat) (hc : c < 4) : w.cell? ⟨g, j * 4 + c, none⟩ = some (V j c) := by
  have hr := h.row
  rw [hvo] at hr
  rw [hr.cellAt (j * 4 + c) (by omega), flat4_get _ _ _ _ hj hc]
theorem RS.itemF {B br : Nat} {w : World} {z : List It} {n : Nat} {own : Nat → Nat} {vo : Value} {V : Nat → Nat → Value} {K : Nat → Nat → Nat → Value} (h : RS B br w z n own vo V K) {g cap : Nat} (hvo : vo = .slice (some ⟨g, 0, none⟩) z.length cap) (i : Nat) : w.frozen? ⟨g, i, none⟩ = false := by
  have hr := h.row
  rw [hvo] at hr
  exact hr.frozenAt i
/-- An open item is put into the one around it. -/
theorem Rd.kidded {B br : Nat} {w W1 w' wc : World} {zz : List It} {n : Nat} {own : Nat → Nat} {vo : Value} {V : Nat → Nat → Value} {K : Nat → Nat → Nat → Value} (h : RS B br w zz n own vo V K) (hA : Below w.heap.size w W1) {g cap q g' cap' kn : Nat} (hvo : vo = .slice (some ⟨g, 0, none⟩) zz.length cap) (hl : zz.length = q + 2) {t b : It} (ht : zz[q]? = some t) (hb : zz[q + 1]? = some b) (hkn : kn = t.kids.length)
    {x : Nat → Value} (x0 : V (q + 1) 0 = x 0) (x1 : V (q + 1) 1 = x 1) (x2 : V (q + 1) 2 = x 2) (x3 : V (q + 1) 3 = x 3) {kv : Value} (hkv : V q 3 = kv)
    (ho : w'.ownsRow B 31 4 (.slice (some ⟨g', 0, none⟩) (kn + 1) cap') (kn + 1) (flat4 (K q) kn ++ [.string ⟨#[]⟩, .string ⟨#[]⟩, .slice none 0 0, .slice none 0 0])) (hg : W1.grownBy w' kv.ownBlock)
    (hw : (Value.slice (some ⟨g', 0, none⟩) (kn + 1) cap').ownBlock = kv.ownBlock ∨ (Value.slice (some ⟨g', 0, none⟩) (kn + 1) cap').ownBlock = some W1.heap.size)
    (hlike : LikeW wc ((set4 w' g' (kn * 4) x).setCell ⟨g, q * 4 + 3, none⟩ (.slice (some ⟨g', 0, none⟩) (kn + 1) cap'))) (hB : B ≤ w.heap.size) :
    Rd B br (wc.setCell ⟨br, 0, none⟩ (.slice (some ⟨g, 0, none⟩) (q + 1) cap)) (zz.take q ++ [t.addKid b]) n ∧ BelX B br w (wc.setCell ⟨br, 0, none⟩ (.slice (some ⟨g, 0, none⟩) (q + 1) cap)) := by
  subst hkn
  subst hkv
  have hf := fill4 ho hg (by rcases hw with hw | hw; exact .inl hw; right; injection hw with hw; exact Nat.le_of_eq hw.symm) x
  rw [← x0, ← x1, ← x2, ← x3] at hf
  have hq := h.addKid hA hvo hl ht hb hf.1 hf.2 hw
  refine ⟨⟨_, _, _, _, hq.below ((hlike.set ⟨br, 0, none⟩ _).bel _)⟩, ?_⟩
  have h1 : BelX B br w W1 := Below.x hA br hB
  have h2 := h1.grown hf.2 (Nat.le_trans hB hA.size) (fun k hk => ((h.it q t ht).kd.lt k hk).1)
  have hgB : B ≤ g := (h.row.lt g (by rw [hvo]; rfl)).1
  exact ((h2.setCell (p := ⟨g, q * 4 + 3, none⟩) (.inl hgB) _).trans (Below.x (hlike.bel B) br (Nat.le_refl _))).setCell (p := ⟨br, 0, none⟩) (.inr rfl) _
theorem shutB_step {z : List It} {q : Nat} {t : It} (ht : z[q]? = some t) (hq : q + 1 < z.length) : (shutB (q + 1) z).take q ++ [t.addKid (closeAll (z.drop (q + 1)))] = shutB q z := by
  unfold shutB
  rw [closeAll_drop z q t ht hq, List.take_append_of_le_length (by simp; omega), List.take_take, Nat.min_eq_left (by omega)]
end Go.Proofs.YtgfaeeacndpniaaDoor

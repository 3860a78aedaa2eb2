/-
  The reference's parser behind a fault: every rule comes to an end, and the fault stays.
-/
import Derived.Test.YtehbinobohjadaaGreatDoorBk05
import Derived.Deep.LoopGhost
namespace Go.Proofs.YtehbinobohjadaaGreatDoor
open Go.RowKit Go.Extern.Stop Go.Stop Go.Extern

/-- The world in which a rule's result has its cells: a new block. -/
structure Start (w W1 : World) : Prop where
  bel : Below w.heap.size w W1
  blk : W1.heap[w.heap.size]? = some (.cells #[.string ⟨#[]⟩, .string ⟨#[]⟩, .int .i64 0, .slice none 0 0] 44 (0, 0))
  lt : w.heap.size < W1.heap.size
theorem Start.new (w : World) : Start w (w.alloc (.cells #[.string ⟨#[]⟩, .string ⟨#[]⟩, .int .i64 0, .slice none 0 0] 44)) := ⟨(Below.refl _ _).alloc (Nat.le_refl _) _, heap_alloc_new _ _, by simp⟩
theorem belX4 {w W : World} {bp : Nat} (h : BelX w.heap.size bp w W) (a b c d : Value) : BelX w.heap.size bp w ((((W.setCell ⟨w.heap.size, 0, none⟩ a).setCell ⟨w.heap.size, 1, none⟩ b).setCell ⟨w.heap.size, 2, none⟩ c).setCell ⟨w.heap.size, 3, none⟩ d) :=
  (((h.setCell (p := ⟨w.heap.size, 0, none⟩) (.inl (Nat.le_refl _)) a).setCell (p := ⟨w.heap.size, 1, none⟩) (.inl (Nat.le_refl _)) b).setCell (p := ⟨w.heap.size, 2, none⟩) (.inl (Nat.le_refl _)) c).setCell (p := ⟨w.heap.size, 3, none⟩) (.inl (Nat.le_refl _)) d
end Go.Proofs.YtehbinobohjadaaGreatDoor
namespace Go.Proofs.YtehbinobohjadaaGreatDoor
open Go.RowKit Go.Extern.Stop Go.Stop Go.Extern

theorem heap4 {W : World} {g : Nat} (v0 v1 v2 v3 : Value) {q : Nat} (hq : q ≠ g) : ((((W.setCell ⟨g, 0, none⟩ v0).setCell ⟨g, 1, none⟩ v1).setCell ⟨g, 2, none⟩ v2).setCell ⟨g, 3, none⟩ v3).heap[q]? = W.heap[q]? := by
  rw [Below.heap_setCell _ _ _ _ hq, Below.heap_setCell _ _ _ _ hq, Below.heap_setCell _ _ _ _ hq, Below.heap_setCell _ _ _ _ hq]
theorem heap4_here {W : World} {g : Nat} {a b c d : Value} {t : TypeId} (h : W.heap[g]? = some (.cells #[a, b, c, d] t (0, 0))) (v0 v1 v2 v3 : Value) : ((((W.setCell ⟨g, 0, none⟩ v0).setCell ⟨g, 1, none⟩ v1).setCell ⟨g, 2, none⟩ v2).setCell ⟨g, 3, none⟩ v3).heap[g]? = some (.cells #[v0, v1, v2, v3] t (0, 0)) := by
  rw [heap_set (heap_set (heap_set (heap_set h _) _) _) _]
  simp
theorem size4 {W : World} {g : Nat} (v0 v1 v2 v3 : Value) : ((((W.setCell ⟨g, 0, none⟩ v0).setCell ⟨g, 1, none⟩ v1).setCell ⟨g, 2, none⟩ v2).setCell ⟨g, 3, none⟩ v3).heap.size = W.heap.size := by simp
/-- A rule under way with a node of its own at g3: what is read so far, what is to come. -/
inductive LoopAt (L : List Tok) (bp tb cp : Nat) (w : World) (R : PR Nd) (lp : Nat → Nd → Nat → Nat → PR Nd) (F g3 g : Nat) (wr : World) : Prop
  | mk (f : Nat) (r : PR Nd) (s0 s1 : ByteArray) (n2 : Int) (ka : Option Addr) (kn kc : Nat) (hg : f ≤ g) (hF : f ≤ F)
    (hs : PSt L bp tb cp wr r (fun x => NL wr (fun b => w.heap.size < b ∧ b ≠ g3) (nv (.string s0) (.string s1) (.int .i64 n2) (.slice ka kn kc)) x)) (hr : r ≠ .out)
    (hR : (r.bind fun x k n => lp f x k n) = R) (hc : wr.heap[g3]? = some (.cells #[.string s0, .string s1, .int .i64 n2, .slice ka kn kc] 44 (0, 0)))
    (hq : wr.heap[w.heap.size]? = some (.cells #[.string ⟨#[]⟩, .string ⟨#[]⟩, .int .i64 0, .slice none 0 0] 44 (0, 0))) (hB : BelX w.heap.size bp w wr) (h3 : w.heap.size < g3) (h4 : g3 < wr.heap.size) : LoopAt L bp tb cp w R lp F g3 g wr
structure Put2 (W WF : World) (g3 : Nat) (v0 v1 v2 : Value) (a b : Nat → Value) : Prop where
  os : WF.os = W.os
  tape : WF.tape = W.tape
  output : WF.output = W.output
  size : WF.heap.size = W.heap.size + 2
  old : ∀ q, q < W.heap.size → q ≠ g3 → WF.heap[q]? = W.heap[q]?
  var : WF.heap[g3]? = some (.cells #[v0, v1, v2, .slice (some ⟨W.heap.size + 1, 0, none⟩) 2 2] 44 (0, 0))
  ra : ∀ c, c < 4 → WF.cell? ⟨W.heap.size + 1, c, none⟩ = some (a c)
  rb : ∀ c, c < 4 → WF.cell? ⟨W.heap.size + 1, 4 + c, none⟩ = some (b c)
theorem Put2.ps {L : List Tok} {bp tb cp : Nat} {W WF : World} {g3 : Nat} {v0 v1 v2 : Value} {a b : Nat → Value} (h : Put2 W WF g3 v0 v1 v2 a b) {k : Nat} {n : Int} {cd ps : Nat} (hp : PS L bp tb cp W k n cd ps) (hg : g3 ≠ bp) (ht : g3 ≠ tb) : PS L bp tb cp WF k n cd ps :=
  ⟨(h.old bp hp.in (fun e => hg e.symm)).trans hp.blk, fun i t e q hq => (World.cell?_of_block (a := ⟨tb, i * 4 + q, none⟩) (h.old tb hp.tin (fun e => ht e.symm))).trans (hp.tok i t e q hq), hp.ne, hp.lt, hp.len, hp.bc⟩
end Go.Proofs.YtehbinobohjadaaGreatDoor
namespace Go.Proofs.YtehbinobohjadaaGreatDoor
open Go.RowKit Go.Extern.Stop Go.Stop Go.Extern

end Go.Proofs.YtehbinobohjadaaGreatDoor

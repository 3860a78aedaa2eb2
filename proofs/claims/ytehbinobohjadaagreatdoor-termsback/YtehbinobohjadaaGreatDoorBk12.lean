/-
  The reference's parser: factor.
-/
import Derived.Test.YtehbinobohjadaaGreatDoorBk11
namespace Go.Proofs.YtehbinobohjadaaGreatDoor
open Go.RowKit Go.Extern.Stop Go.Stop Go.Extern

theorem PSt.map {L : List Tok} {bp tb cp : Nat} {W : World} {α β : Type} {r : PR α} {U : α → Prop} (h : PSt L bp tb cp W r U) (g : α → β) {V : β → Prop} (hV : ∀ x, U x → V (g x)) : PSt L bp tb cp W (r.bind fun x k n => .ok (g x) k n) V := by
  cases r with
  | out => exact trivial
  | bad c a => exact h
  | ok x k n => exact ⟨h.1, hV x h.2⟩
structure Put2b (W WF : World) (g3 : Nat) (v0 v1 v2 : Value) (a b : Nat → Value) : Prop where
  os : WF.os = W.os
  tape : WF.tape = W.tape
  output : WF.output = W.output
  size : WF.heap.size = W.heap.size + 1
  old : ∀ q, q < W.heap.size → q ≠ g3 → WF.heap[q]? = W.heap[q]?
  var : WF.heap[g3]? = some (.cells #[v0, v1, v2, .slice (some ⟨W.heap.size, 0, none⟩) 2 2] 44 (0, 0))
  ra : ∀ c, c < 4 → WF.cell? ⟨W.heap.size, c, none⟩ = some (a c)
  rb : ∀ c, c < 4 → WF.cell? ⟨W.heap.size, 4 + c, none⟩ = some (b c)
theorem Put2b.ps {L : List Tok} {bp tb cp : Nat} {W WF : World} {g3 : Nat} {v0 v1 v2 : Value} {a b : Nat → Value} (h : Put2b W WF g3 v0 v1 v2 a b) {k : Nat} {n : Int} {cd ps : Nat} (hp : PS L bp tb cp W k n cd ps) (hg : g3 ≠ bp) (ht : g3 ≠ tb) : PS L bp tb cp WF k n cd ps :=
  ⟨(h.old bp hp.in (fun e => hg e.symm)).trans hp.blk, fun i t e q hq => (World.cell?_of_block (a := ⟨tb, i * 4 + q, none⟩) (h.old tb hp.tin (fun e => ht e.symm))).trans (hp.tok i t e q hq), hp.ne, hp.lt, hp.len, hp.bc⟩
end Go.Proofs.YtehbinobohjadaaGreatDoor

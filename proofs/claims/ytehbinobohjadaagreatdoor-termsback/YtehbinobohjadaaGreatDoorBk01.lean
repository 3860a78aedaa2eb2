/-
  The reference's parser: see at a bad token, step, wrong.
-/
import Derived.Test.YtehbinobohjadaaGreatDoorBk00
namespace Go.Proofs.YtehbinobohjadaaGreatDoor
open Go.RowKit Go.Extern.Stop Go.Stop Go.Extern

theorem belN {B : Nat} {a w : World} (h : Below B a w) : ∀ n, Below B a (w.drewN n) := fun _ => ⟨h.os, h.tape, h.output, h.size, h.block⟩
theorem BelX.then {B B' x : Nat} {a b c : World} (h : BelX B x a b) (h' : BelX B' x b c) (hB : B ≤ B') : BelX B x a c := ⟨h'.os.trans h.os, h'.tape.trans h.tape, h'.output.trans h.output, Nat.le_trans h.size h'.size, fun k hk hx => (h'.block k (by omega) hx).trans (h.block k hk hx)⟩
end Go.Proofs.YtehbinobohjadaaGreatDoor

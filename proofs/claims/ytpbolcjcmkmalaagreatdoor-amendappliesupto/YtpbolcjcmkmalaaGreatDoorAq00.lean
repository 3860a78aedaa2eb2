import Derived.Test.YtpbolcjcmkmalaaGreatDoorProg
import Derived.WalkKit
import Derived.Below
set_option maxHeartbeats 20000000
set_option maxRecDepth 20000
namespace Go.Proofs.YtpbolcjcmkmalaaGreatDoor
open Go.RowKit
theorem aI {p q : Prop} (h : p) (k : q) : p ∧ q := ⟨h, k⟩
theorem nR (n : Nat) : n ≤ n := Nat.le_refl n
theorem bA (w : World) (o : Obj) : Below w.heap.size w (w.alloc o) := (Below.refl _ _).alloc (Nat.le_refl _) _
end Go.Proofs.YtpbolcjcmkmalaaGreatDoor

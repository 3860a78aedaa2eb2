/-
  'coded' of the laws of months by its contracts.
-/
import Derived.Test.YtgfkaheoahkbcaaDoorSuR2
import Derived.Test.YtgfkaheoahkbcaaDoorCode
namespace Go.Proofs.YtgfkaheoahkbcaaDoor
open Go.RowKit Go.Extern.Stop Go.Stop Go.Extern

theorem coded_nil (n : Int) (w : World) : Calls Tryd.prog 8 #[.nilIface, .int .i64 n] w fun e w' => e = .returned (.bool ((0 : Int) == n)) ∧ w' = w := by
  go_enter Tryd.func8, Tryd.ntmps8
  go_wp2_with (go_at_call 24; refine (code_nil _).mono ?_; rintro e w' ⟨rfl, rfl⟩)
  go_ret
  exact ⟨rfl, rfl⟩
theorem coded_sent (k : Nat) (hk : k < 11) (n : Int) (p : Nat → Addr) (w : World) (L : Laid w p) :
    Calls Tryd.prog 8 #[.iface 92 (.pointer (some (p k))), .int .i64 n] w fun e w' => e = .returned (.bool (((k : Int) + 1) == n)) ∧ Below w.heap.size w w' := by
  go_enter Tryd.func8, Tryd.ntmps8
  go_wp2_with fail
  refine (code_sent k hk p _ L).mono ?_
  rintro e w' ⟨rfl, hb⟩
  go_wp2
  go_ret
  exact ⟨rfl, hb⟩
end Go.Proofs.YtgfkaheoahkbcaaDoor

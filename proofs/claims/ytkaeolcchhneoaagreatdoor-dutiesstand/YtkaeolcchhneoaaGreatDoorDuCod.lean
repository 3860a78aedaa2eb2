/-
  'coded' of the laws of duties by its contracts.
-/
import Derived.Test.YtkaeolcchhneoaaGreatDoorCode
namespace Go.Proofs.YtkaeolcchhneoaaGreatDoor
open Go.RowKit Go.Extern.Stop Go.Stop Go.Extern

theorem coded_nil (n : Int) (w : World) : Calls Tryz.prog 12 #[.nilIface, .int .i64 n] w fun e w' => e = .returned (.bool ((0 : Int) == n)) ∧ w' = w := by
  go_enter Tryz.func12, Tryz.ntmps12
  go_wp2_with (go_at_call 24; refine (code_nil _).mono ?_; rintro e w' ⟨rfl, rfl⟩)
  go_ret
  exact ⟨rfl, rfl⟩
theorem coded_sent (k : Nat) (hk : k < 11) (n : Int) (p : Nat → Addr) (w : World) (L : Laid w p) :
    Calls Tryz.prog 12 #[.iface 173 (.pointer (some (p k))), .int .i64 n] w fun e w' => e = .returned (.bool (((k : Int) + 1) == n)) ∧ Below w.heap.size w w' := by
  go_enter Tryz.func12, Tryz.ntmps12
  go_wp2_with fail
  refine (code_sent k hk p _ L).mono ?_
  rintro e w' ⟨rfl, hb⟩
  go_wp2
  go_ret
  exact ⟨rfl, hb⟩
end Go.Proofs.YtkaeolcchhneoaaGreatDoor

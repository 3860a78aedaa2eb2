/-
  The laws of rules: error codes.
-/
import Derived.Test.YtmbclnaenjcocaaDoorRfVal
import Derived.Test.YtmbclnaenjcocaaDoorCode
namespace Go.Proofs.YtmbclnaenjcocaaDoor
open Go.RowKit

theorem coded_nil (n : Int) (w : World) : Calls Tryd.prog 14 #[.nilIface, .int .i64 n] w fun e w' => e = .returned (.bool ((0 : Int) == n)) ∧ w' = w := by
  go_enter Tryd.func14, Tryd.ntmps14
  go_wp2_with (go_at_call 33; refine (code_nil _).mono ?_; rintro e w' ⟨rfl, rfl⟩)
  go_ret
  exact ⟨rfl, rfl⟩
theorem coded_sent (k : Nat) (hk : k < 11) (n : Int) (p : Nat → Addr) (w : World) (L : Laid w p) :
    Calls Tryd.prog 14 #[.iface 152 (.pointer (some (p k))), .int .i64 n] w fun e w' => e = .returned (.bool (((k : Int) + 1) == n)) ∧ Below w.heap.size w w' := by
  go_enter Tryd.func14, Tryd.ntmps14
  go_wp2_with fail
  refine (code_sent k hk p _ L).mono ?_
  rintro e w' ⟨rfl, hb⟩
  go_wp2
  go_ret
  exact ⟨rfl, hb⟩
/-- What is told of a theory by an error's code. -/
theorem coded_k {p : Nat → Addr} {T : Thy} {k : Option Nat} (hk : errIs T k) (w : World) (L : Laid w p) : Calls Tryd.prog 14 #[errV p k, .int .i64 (codeK k)] w fun e w' => e = .returned (.bool true) ∧ Below w.heap.size w w' := by
  cases k with
  | none =>
    refine (coded_nil 0 w).mono ?_
    rintro e w' ⟨rfl, rfl⟩
    exact ⟨rfl, Below.refl _ _⟩
  | some k =>
    have hlt : k < 11 := by
      rcases hk with ⟨e, _⟩ | ⟨e, _⟩ | ⟨e, _⟩ | ⟨e, _⟩ | ⟨e, _⟩
      · injection e with e; omega
      · injection e with e; omega
      · injection e with e; omega
      · injection e with e; omega
      · cases e
    refine (coded_sent k hlt (codeK (some k)) p w L).mono ?_
    rintro e w' ⟨rfl, hb⟩
    exact ⟨by unfold codeK; simp, hb⟩
theorem Laid.sent4 {w : World} {p : Nat → Addr} (h : Laid w p) : Sent4 w p := ⟨h.cell 1 (by omega), h.cell 6 (by omega), h.cell 7 (by omega), h.cell 8 (by omega)⟩
end Go.Proofs.YtmbclnaenjcocaaDoor

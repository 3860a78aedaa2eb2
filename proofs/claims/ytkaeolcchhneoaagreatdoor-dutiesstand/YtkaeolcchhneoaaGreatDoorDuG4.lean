/-
  'coded' of the laws of duties by its contracts.
-/
import Derived.Test.YtkaeolcchhneoaaGreatDoorCode
import Derived.Test.YtkaeolcchhneoaaGreatDoorDuI
namespace Go.Proofs.YtkaeolcchhneoaaGreatDoor
open Go.RowKit Go.Extern.Stop Go.Stop Go.Extern

theorem coded_nil (n : Int) (w : World) : Calls Tryz.prog 12 #[.nilIface, .int .i64 n] w fun e w' => e = .returned (.bool ((0 : Int) == n)) ∧ w' = w := by
  go_enter Tryz.func12, Tryz.ntmps12
  go_wp2_with (go_at_call 24; refine (code_nil _).mono ?_; rintro e w' ⟨rfl, rfl⟩)
  go_ret
  exact ⟨rfl, rfl⟩
theorem coded_sent (k : Nat) (hk : k < 11) (n : Int) (p : Nat → Addr) (w : World) (L : Laid w p) :
    Calls Tryz.prog 12 #[.iface 173 (.pointer (some (p k))), .int .i64 n] w fun e w' => e = .returned (.bool (((k : Int) + 1) == n)) ∧ Below w.heap.size w w' := by
  go_enter Tryz.func12, Tryz.ntmps12
  go_wp2_with fail
  refine (code_sent k hk p _ L).mono ?_
  rintro e w' ⟨rfl, hb⟩
  go_wp2
  go_ret
  exact ⟨rfl, hb⟩
end Go.Proofs.YtkaeolcchhneoaaGreatDoor
namespace Go.Proofs.YtkaeolcchhneoaaGreatDoor
open Go.RowKit Go.Sort Go.Lib

theorem plan_null (w : World) : Calls Tryz.prog 40 #[.pointer none] w (PlanR (fun _ => false) [] w) := by
  go_enter Tryz.func40, Tryz.ntmps40
  go_wp2
  refine bodyPost_ret (v := .agg #[.bool false, .bool false, .bool false, .bool false, .bool false, .bool false, .bool false, .int .i64 7, .slice none 0 0]) (by simp [results, Tryz.results40, go_sem]) rfl ⟨⟨_, rfl, fun _ => false, .slice none 0 0, fun _ => rfl, rfl, .inl ⟨rfl, ?_⟩, by simp⟩, bel1 _ _⟩
  have h1 : hol (fun _ => false) [] = [] := rfl
  rw [h1]
  simp [ready, Lib.compact, Lib.compactUpTo]
theorem newPlan_nil (w : World) : Calls Tryz.prog 30 #[.pointer none] w (NewPl (fun _ => false) [] w) := newPlan_p (plan_null w)
theorem newPlan_cal {w : World} {b : Nat} {off : Int → Bool} {xs : List Int} {v : Value} (h : Cal w b off xs v) : Calls Tryz.prog 30 #[.pointer (some ⟨b, 0, none⟩)] w (NewPl off xs w) := newPlan_p (plan_any b off xs v w h)
end Go.Proofs.YtkaeolcchhneoaaGreatDoor

/-
  'alive'.
-/
import Derived.Test.YtlpkaelgeeecoaaDoorRead2G
namespace Go.Proofs.YtlpkaelgeeecoaaDoor
open Go.RowKit Go.Extern.Stop Go.Stop Go.Extern

def s105 : ByteArray := ⟨#[49, 46, 48, 53]⟩
theorem cut105 : Cut s105 s105 false 0 := ⟨fun w => cut_no s105 w (by decide), by decide, by decide⟩
theorem q1 : wf (bl (s105.extract 0 (runLen isW (bl s105)))) < 0 := by decide +kernel
theorem q2 : cf (bl (s105.extract (runLen isW (bl s105)) s105.size)) < 0 := by decide +kernel
theorem q3 : pv (bl (s105.extract 0 (runLen isW (bl s105)))) * 100 + pv (bl (s105.extract (runLen isW (bl s105)) s105.size)) = 105 := by decide +kernel

theorem alive_any (m : Int) (a : Addr) (w : World) (hm : w.cell? ⟨13, 0, none⟩ = some (.int .i64 m)) (ht : w.cell? ⟨1, 0, none⟩ = some (.iface 157 (.pointer (some a)))) :
    Calls Tryd.prog 9 #[] w fun e w' => e = .returned (.bool true) ∧ Below w.heap.size w w' := by
  have h := read_fine s105 s105 false 0 cut105 m a w hm ht q1 q2 (by rw [q3]; decide)
  rw [q3] at h
  have H := hidIt (show Calls Tryd.prog 10 #[.string ⟨#[49, 46, 48, 53]⟩] w fun e w' => e = .returned (.tuple #[.int .i64 105, .nilIface]) ∧ Below w.heap.size w w' from h)
  clear h hm ht
  go_enter Tryd.func9, Tryd.ntmps9
  go_wp2_with fail
  refine H.out.mono ?_
  rintro e w' ⟨rfl, hb⟩
  go_wp2
  go_ret
  exact ⟨rfl, hb⟩

end Go.Proofs.YtlpkaelgeeecoaaDoor

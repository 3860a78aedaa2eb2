/-
  'coded' by its contracts; the walk of Names.
-/
import Derived.Test.YtagkplcomhomcaaDoorCode
import Derived.Deep.QuietTactic
import Derived.BigQuiet
namespace Go.Proofs.YtagkplcomhomcaaDoor
open Go.RowKit Go.Extern.Stop Go.Stop Go.Extern

theorem coded_nil (n : Int) (w : World) : Calls Tryd.prog 10 #[.nilIface, .int .i64 n] w fun e w' => e = .returned (.bool ((0 : Int) == n)) ∧ w' = w := by
  go_enter Tryd.func10, Tryd.ntmps10
  go_wp2_with (go_at_call 25; refine (code_nil _).mono ?_; rintro e w' ⟨rfl, rfl⟩)
  go_ret
  exact ⟨rfl, rfl⟩

theorem coded_sent (k : Nat) (hk : k < 11) (n : Int) (p : Nat → Addr) (w : World) (L : Laid w p) :
    Calls Tryd.prog 10 #[.iface 144 (.pointer (some (p k))), .int .i64 n] w fun e w' => e = .returned (.bool (((k : Int) + 1) == n)) ∧ Below w.heap.size w w' := by
  go_enter Tryd.func10, Tryd.ntmps10
  go_wp2_with fail
  refine (code_sent k hk p _ L).mono ?_
  rintro e w' ⟨rfl, hb⟩
  go_wp2
  go_ret
  exact ⟨rfl, hb⟩

theorem bdrewN {B : Nat} {a w : World} (h : Below B a w) : ∀ n, Below B a (w.drewN n) := fun _ => ⟨h.os, h.tape, h.output, h.size, h.block⟩

set_option maxHeartbeats 2000000 in
theorem names_walk (p : Nat → Addr) (w : World) (L : Laid w p) :
    Calls Tryd.prog 3 #[] w fun e w' => e = .returned (.bool true) ∧ Below w.heap.size w w' := by
  have c0 := L.cell 0 (by omega)
  have c1 := L.cell 1 (by omega)
  have c2 := L.cell 2 (by omega)
  have c3 := L.cell 3 (by omega)
  have c4 := L.cell 4 (by omega)
  have c5 := L.cell 5 (by omega)
  have c6 := L.cell 6 (by omega)
  have c7 := L.cell 7 (by omega)
  have c8 := L.cell 8 (by omega)
  have c9 := L.cell 9 (by omega)
  have c10 := L.cell 10 (by omega)
  have hS0 := hidIt (sent_cell p w)
  have HL0 := hidIt (L.alloc (.cells #[.iface 144 (.pointer (some (p 0))), .iface 144 (.pointer (some (p 1))), .iface 144 (.pointer (some (p 2))), .iface 144 (.pointer (some (p 3))), .iface 144 (.pointer (some (p 4))), .iface 144 (.pointer (some (p 5))), .iface 144 (.pointer (some (p 6))), .iface 144 (.pointer (some (p 7))), .iface 144 (.pointer (some (p 8))), .iface 144 (.pointer (some (p 9))), .iface 144 (.pointer (some (p 10)))] 23))
  have HB0 := hidIt ((Below.refl w.heap.size w).alloc (Nat.le_refl _) (.cells #[.iface 144 (.pointer (some (p 0))), .iface 144 (.pointer (some (p 1))), .iface 144 (.pointer (some (p 2))), .iface 144 (.pointer (some (p 3))), .iface 144 (.pointer (some (p 4))), .iface 144 (.pointer (some (p 5))), .iface 144 (.pointer (some (p 6))), .iface 144 (.pointer (some (p 7))), .iface 144 (.pointer (some (p 8))), .iface 144 (.pointer (some (p 9))), .iface 144 (.pointer (some (p 10)))] 23))
  have hsz : (w.alloc (.cells #[.iface 144 (.pointer (some (p 0))), .iface 144 (.pointer (some (p 1))), .iface 144 (.pointer (some (p 2))), .iface 144 (.pointer (some (p 3))), .iface 144 (.pointer (some (p 4))), .iface 144 (.pointer (some (p 5))), .iface 144 (.pointer (some (p 6))), .iface 144 (.pointer (some (p 7))), .iface 144 (.pointer (some (p 8))), .iface 144 (.pointer (some (p 9))), .iface 144 (.pointer (some (p 10)))] 23)).heap.size = w.heap.size + 1 := by simp
  have HZ := hidIt hsz
  clear hsz L
  go_enter Tryd.func3, Tryd.ntmps3
  go_wp2_with fail
  clear c0 c1 c2 c3 c4 c5 c6 c7 c8 c9 c10
  obtain ⟨W0, hW0⟩ : ∃ W0 : World, W0 = w.alloc (.cells #[.iface 144 (.pointer (some (p 0))), .iface 144 (.pointer (some (p 1))), .iface 144 (.pointer (some (p 2))), .iface 144 (.pointer (some (p 3))), .iface 144 (.pointer (some (p 4))), .iface 144 (.pointer (some (p 5))), .iface 144 (.pointer (some (p 6))), .iface 144 (.pointer (some (p 7))), .iface 144 (.pointer (some (p 8))), .iface 144 (.pointer (some (p 9))), .iface 144 (.pointer (some (p 10)))] 23) := ⟨_, rfl⟩
  rw [← hW0] at hS0 HL0 HB0 HZ ⊢
  clear hW0
  go_loopw [5] (fun t wr => ∃ i : Nat, i ≤ 11 ∧ t = .int .i64 i ∧ Below W0.heap.size W0 wr) (fun t _ => 11 - (intOf t).toNat)
  case atStart => exact ⟨0, by omega, rfl, Below.refl _ _⟩
  case round =>
    obtain ⟨i, hi, rfl, hb⟩ := hrel
    have hzw := HZ.out
    have HL := hidIt (HL0.out.below hb)
    have HS := hidIt (fun j hj => (hb.cell (p := ⟨w.heap.size, j, none⟩) (show w.heap.size < _ by omega)).trans (hS0.out j hj))
    have Hb := hidIt hb
    clear hzw hb
    obtain ⟨wo, hwo⟩ : ∃ wo : World, wo = wr := ⟨_, rfl⟩
    rw [← hwo] at HL HS Hb ⊢
    clear hwo
    by_cases hlt : i < 11
    · go_wp2_with fail
      go_loopw [6] (fun t wr => ∃ j : Nat, j ≤ i ∧ t = .int .i64 j ∧ Below W0.heap.size W0 wr) (fun t _ => 11 - (intOf t).toNat)
      case atStart => exact ⟨0, by omega, rfl, Hb.out⟩
      case round =>
        obtain ⟨j, hj, rfl, hb⟩ := hrel
        have hzw := HZ.out
        have HLr := hidIt (HL0.out.below hb)
        have HSr := hidIt (fun j hj => (hb.cell (p := ⟨w.heap.size, j, none⟩) (show w.heap.size < _ by omega)).trans (hS0.out j hj))
        have Hbr := hidIt hb
        clear hzw hb
        have si := HSr.out i hlt
        by_cases hji : j < i
        · have sj := HSr.out j (by omega)
          obtain ⟨ca, ta, hca⟩ := HLr.out.blk i hlt
          obtain ⟨cb, tb, hcb⟩ := HLr.out.blk j (by omega)
          have hne := HLr.out.ne i j hlt (by omega) (by omega)
          have hcall := fun n => is_other (p i) (p j) ca cb ta tb (wr.drewN n) hne (by simpa using hca) (by simpa using hcb)
          have HC := hidIt hcall
          clear hcall
          go_wp2_with fail
          go_quiet ((go_at_call 9; exact Calls.quiet_of_same (HC.out _)))
          go_wp2
          go_roundw
          case rel => exact ⟨j + 1, by omega, by go_num, bdrewN Hbr.out nq⟩
          case measure => simp [intOf]; omega
        · obtain rfl : j = i := by omega
          have hcall := coded_sent j hlt (j + 1) p wr HLr.out
          have HC := hidIt hcall
          clear hcall
          go_wp2_with fail
          refine HC.out.mono ?_
          rintro e w' ⟨rfl, hb'⟩
          have Hb' := hidIt (Hbr.out.trans (hb'.mono (Hbr.out.size)))
          clear hb'
          have ht : ((j : Int) + 1 == (j : Int) + 1) = true := by simp
          rw [ht]
          clear ht
          go_wp2
          go_roundw
          case rel => exact ⟨j + 1, by omega, by go_num, Hb'.out⟩
          case measure => simp [intOf]; omega
    · go_wp2
      go_ret
      exact ⟨rfl, HB0.out.trans (Hb.out.mono (by have := HZ.out; omega))⟩
end Go.Proofs.YtagkplcomhomcaaDoor

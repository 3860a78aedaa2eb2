/-
  plain.Code of an *api.Fault; 'faulted' by contracts.
-/
import Derived.Test.YtfnlcblalieolaaDoorAsHit
import Derived.Test.YtfnlcblalieolaaDoorCode
import Derived.Deep.QuietTactic
import Derived.BigQuiet
namespace Go.Proofs.YtfnlcblalieolaaDoor
open Go.RowKit Go.Extern.Stop Go.Stop Go.Extern

theorem as_hit_b (e t : Addr) (old : Value) (w : World) (p : Nat → Addr) (L : Laid w p) (B : Nat) (hB : B ≤ t.block) (ht0 : w.cell? t = some old) (hf0 : w.frozen? t = false) :
    Calls Tryd.prog 22 #[.iface 61 (.pointer (some e)), .iface 66 (.pointer (some t))] w fun ev w' => ev = .returned (.bool true) ∧ Below B w w' ∧ w'.cell? t = some (.pointer (some e)) := by
  have htl : t.block < w.heap.size := by
    rcases Nat.lt_or_ge t.block w.heap.size with h | h
    · exact h
    · simp [World.cell?, Array.getElem?_eq_none h] at ht0
  refine (as_hit e t old w L.typ ht0 hf0).mono ?_
  rintro ev w' ⟨rfl, rfl⟩
  refine ⟨rfl, (((((Below.refl _ _).alloc (by omega) _).alloc (by simp; omega) _).alloc (by simp; omega) _).alloc (by simp; omega) _).setCell hB _, ?_⟩
  refine World.cell?_setCell_same _ _ _ (u := old) ?_
  rw [World.cell?_alloc_lt _ _ t (by simp; omega), World.cell?_alloc_lt _ _ t (by simp; omega), World.cell?_alloc_lt _ _ t (by simp; omega), World.cell?_alloc_lt _ _ t htl]
  exact ht0

set_option maxHeartbeats 2000000 in
theorem code_fault (k : Nat) (hk : k < 11) (p : Nat → Addr) (blk : Nat) (pos : Int) (w : World) (L : Laid w p) (h0 : w.cell? ⟨blk, 0, none⟩ = some (.int .i64 pos)) (h1 : w.cell? ⟨blk, 0 + 1, none⟩ = some (.iface 107 (.pointer (some (p k))))) :
    Calls Tryd.prog 10 #[.iface 61 (.pointer (some ⟨blk, 0, none⟩))] w fun e w' => e = .returned (.tuple #[.int .i64 (k + 1), .int .i64 pos]) ∧ Below w.heap.size w w' := by
  have hlt : blk < w.heap.size := by
    rcases Nat.lt_or_ge blk w.heap.size with h | h
    · exact h
    · simp [World.cell?, Array.getElem?_eq_none h] at h0
  have La := hidIt (L.alloc (.cells #[.pointer none] 61))
  have HL := hidIt L
  have H0 := hidIt h0
  have H1 := hidIt h1
  clear L h0 h1
  go_enter Tryd.func10, Tryd.ntmps10
  go_wp2_with fail
  refine (as_hit_b _ ⟨w.heap.size, 0, none⟩ (.pointer none) _ p La.out w.heap.size (Nat.le_refl _) (by simp) (by simp)).mono ?_
  rintro e w1 ⟨rfl, hb1, hc1⟩
  have HB1 := hidIt (((Below.refl w.heap.size w).alloc (Nat.le_refl _) (.cells #[.pointer none] 61)).trans hb1)
  have x0 : w1.cell? ⟨blk, 0, none⟩ = some (.int .i64 pos) := (HB1.out.cell (p := ⟨blk, 0, none⟩) hlt).trans H0.out
  have x1 : w1.cell? ⟨blk, 0 + 1, none⟩ = some (.iface 107 (.pointer (some (p k)))) := (HB1.out.cell (p := ⟨blk, 0 + 1, none⟩) hlt).trans H1.out
  have L1 := HL.out.below HB1.out
  have c0 : w1.cell? ⟨1, 0, none⟩ = some (.iface 107 (.pointer (some (p 0)))) := L1.cell 0 (by omega)
  have c1 : w1.cell? ⟨0, 0, none⟩ = some (.iface 107 (.pointer (some (p 1)))) := L1.cell 1 (by omega)
  have c2 : w1.cell? ⟨2, 0, none⟩ = some (.iface 107 (.pointer (some (p 2)))) := L1.cell 2 (by omega)
  have c3 : w1.cell? ⟨3, 0, none⟩ = some (.iface 107 (.pointer (some (p 3)))) := L1.cell 3 (by omega)
  have c4 : w1.cell? ⟨4, 0, none⟩ = some (.iface 107 (.pointer (some (p 4)))) := L1.cell 4 (by omega)
  have c5 : w1.cell? ⟨5, 0, none⟩ = some (.iface 107 (.pointer (some (p 5)))) := L1.cell 5 (by omega)
  have c6 : w1.cell? ⟨6, 0, none⟩ = some (.iface 107 (.pointer (some (p 6)))) := L1.cell 6 (by omega)
  have c7 : w1.cell? ⟨7, 0, none⟩ = some (.iface 107 (.pointer (some (p 7)))) := L1.cell 7 (by omega)
  have c8 : w1.cell? ⟨8, 0, none⟩ = some (.iface 107 (.pointer (some (p 8)))) := L1.cell 8 (by omega)
  have c9 : w1.cell? ⟨9, 0, none⟩ = some (.iface 107 (.pointer (some (p 9)))) := L1.cell 9 (by omega)
  have c10 : w1.cell? ⟨10, 0, none⟩ = some (.iface 107 (.pointer (some (p 10)))) := L1.cell 10 (by omega)
  have hS := sent_cell p w1
  have HL2 := hidIt (L1.alloc (.cells #[.iface 107 (.pointer (some (p 0))), .iface 107 (.pointer (some (p 1))), .iface 107 (.pointer (some (p 2))), .iface 107 (.pointer (some (p 3))), .iface 107 (.pointer (some (p 4))), .iface 107 (.pointer (some (p 5))), .iface 107 (.pointer (some (p 6))), .iface 107 (.pointer (some (p 7))), .iface 107 (.pointer (some (p 8))), .iface 107 (.pointer (some (p 9))), .iface 107 (.pointer (some (p 10)))] 32))
  have HX1 := hidIt ((((Below.refl w1.heap.size w1).alloc (Nat.le_refl _) (.cells #[.iface 107 (.pointer (some (p 0))), .iface 107 (.pointer (some (p 1))), .iface 107 (.pointer (some (p 2))), .iface 107 (.pointer (some (p 3))), .iface 107 (.pointer (some (p 4))), .iface 107 (.pointer (some (p 5))), .iface 107 (.pointer (some (p 6))), .iface 107 (.pointer (some (p 7))), .iface 107 (.pointer (some (p 8))), .iface 107 (.pointer (some (p 9))), .iface 107 (.pointer (some (p 10)))] 32)).cell (p := ⟨blk, 0 + 1, none⟩) (show blk < w1.heap.size by have := HB1.out.size; omega)).trans x1)
  have HF := hidIt (HB1.out.alloc HB1.out.size (.cells #[.iface 107 (.pointer (some (p 0))), .iface 107 (.pointer (some (p 1))), .iface 107 (.pointer (some (p 2))), .iface 107 (.pointer (some (p 3))), .iface 107 (.pointer (some (p 4))), .iface 107 (.pointer (some (p 5))), .iface 107 (.pointer (some (p 6))), .iface 107 (.pointer (some (p 7))), .iface 107 (.pointer (some (p 8))), .iface 107 (.pointer (some (p 9))), .iface 107 (.pointer (some (p 10)))] 32))
  clear hb1 L1 x1
  go_wp2_with fail
  clear c0 c1 c2 c3 c4 c5 c6 c7 c8 c9 c10 hc1 x0
  go_loop [3, 29] (fun a t => a = .int .i64 pos ∧ ∃ i : Nat, i ≤ k ∧ t = .int .i64 i) (fun _ t => 11 - (intOf t).toNat)
  case atStart => exact ⟨rfl, 0, Nat.zero_le _, rfl⟩
  case round =>
    obtain ⟨rfl, i, hik, rfl⟩ := hrel
    have hi : i < 11 := by omega
    have hSi := hS i hi
    by_cases hl : i < k
    · obtain ⟨ca, ta, hca⟩ := HL2.out.blk k hk
      obtain ⟨cb, tb, hcb⟩ := HL2.out.blk i hi
      have hne := HL2.out.ne k i hk hi (by omega)
      go_wp2_with fail
      refine (is_wrap_other blk 0 (p i) (p k) ca cb ta tb _ HX1.out hne hca hcb).mono ?_
      rintro e w' ⟨rfl, rfl⟩
      go_wp2
      go_round
      case rel => exact ⟨rfl, i + 1, by omega, by go_num⟩
      case measure => simp [intOf]; omega
    · obtain rfl : i = k := by omega
      go_wp2_with fail
      refine (is_wrap_same blk 0 (p i) _ HX1.out).mono ?_
      rintro e w' ⟨rfl, rfl⟩
      go_wp2
      go_ret2
      exact ⟨rfl, HF.out⟩
end Go.Proofs.YtfnlcblalieolaaDoor

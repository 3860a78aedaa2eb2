/-
  'alive', and the walk of CoinRead.
-/
import Derived.Test.YtagkplcomhomcaaDoorAgree
import Derived.Test.YtagkplcomhomcaaDoorFault
namespace Go.Proofs.YtagkplcomhomcaaDoor
open Go.RowKit Go.Extern.Stop Go.Stop Go.Extern

def s105 : ByteArray := ⟨#[49, 46, 48, 53]⟩
theorem cut105 : Cut s105 s105 false 0 := ⟨fun w => cut_no s105 w (by decide), by decide, by decide⟩
theorem q1 : wf (bl (s105.extract 0 (runLen isW (bl s105)))) < 0 := by decide +kernel
theorem q2 : cf (bl (s105.extract (runLen isW (bl s105)) s105.size)) < 0 := by decide +kernel
theorem q3 : pv (bl (s105.extract 0 (runLen isW (bl s105)))) * 100 + pv (bl (s105.extract (runLen isW (bl s105)) s105.size)) = 105 := by decide +kernel

theorem alive_any (m : Int) (a : Addr) (w : World) (hm : w.cell? ⟨13, 0, none⟩ = some (.int .i64 m)) (ht : w.cell? ⟨2, 0, none⟩ = some (.iface 144 (.pointer (some a)))) :
    Calls Tryd.prog 11 #[] w fun e w' => e = .returned (.bool true) ∧ Below w.heap.size w w' := by
  have h := read_fine s105 s105 false 0 cut105 m a w hm ht q1 q2 (by rw [q3]; decide)
  rw [q3] at h
  have H := hidIt (show Calls Tryd.prog 12 #[.string ⟨#[49, 46, 48, 53]⟩] w fun e w' => e = .returned (.tuple #[.int .i64 105, .nilIface]) ∧ Below w.heap.size w w' from h)
  clear h hm ht
  go_enter Tryd.func11, Tryd.ntmps11
  go_wp2_with fail
  refine H.out.mono ?_
  rintro e w' ⟨rfl, hb⟩
  go_wp2
  go_ret
  exact ⟨rfl, hb⟩

theorem Ready.below {w w' : World} {p : Nat → Addr} (h : Ready w p) (hb : Below w.heap.size w w') : Ready w' p := by
  obtain ⟨⟨m, hm⟩, h0, h2⟩ := h
  exact ⟨⟨m, cell_below hm hb⟩, cell_below h0 hb, cell_below h2 hb⟩

set_option maxHeartbeats 1000000 in
theorem coinRead_walk (s : ByteArray) (p : Nat → Addr) (w : World) (hs : s.size ≤ maxLen) (L : Laid w p) (R : Ready w p) :
    Calls Tryd.prog 4 #[.string s] w fun e w' => e = .returned (.bool true) ∧ Below w.heap.size w w' := by
  have hal : Calls Tryd.prog 11 #[] w fun e w' => e = .returned (.bool true) ∧ Below w.heap.size w w' := by
    obtain ⟨⟨m, hm⟩, _, h2⟩ := R
    exact alive_any m (p 2) w hm h2
  have HA := hidIt hal
  have HL := hidIt L
  have HR := hidIt R
  clear hal L R
  unfold maxLen at hs
  by_cases hlen : s.size ≤ 3000
  · have d1 : decide ((3000 : Int) < s.size) = false := by simp; omega
    rcases agree s p hlen with ⟨k, pos, hk, B⟩ | ⟨n, B⟩
    · have hk' : k < 11 := by omega
      have HB := hidIt B
      clear B
      go_enter Tryd.func4, Tryd.ntmps4
      go_wp2_with fail
      refine HA.out.mono ?_
      rintro e w1 ⟨rfl, hb1⟩
      have H1 := hidIt hb1
      clear hb1
      go_wp2_with fail
      refine (HB.out.read _ (HR.out.below H1.out)).mono ?_
      rintro e w2 ⟨blk, rfl, hb2, hblk, f0, f1⟩
      have H2 := hidIt (H1.out.trans (hb2.mono H1.out.size))
      have F0 := hidIt f0
      have F1 := hidIt f1
      clear hb2 f0 f1
      go_wp2_with fail
      refine (HB.out.ref _).mono ?_
      rintro e w3 ⟨rfl, hb3⟩
      have H3 := hidIt hb3
      clear hb3
      have hbl : blk < w2.heap.size := by
        have h := F0.out
        rcases Nat.lt_or_ge blk w2.heap.size with h' | h'
        · exact h'
        · simp [World.cell?, Array.getElem?_eq_none h'] at h
      have H4 := hidIt ((H3.out.alloc H3.out.size (.cells #[.int .i64 (k + 1), .int .i64 pos] 31)))
      have HB4 := hidIt (H2.out.trans (H4.out.mono H2.out.size))
      have g0 := hidIt ((H4.out.cell (p := ⟨blk, 0, none⟩) hbl).trans F0.out)
      have g1 := hidIt ((H4.out.cell (p := ⟨blk, 0 + 1, none⟩) hbl).trans F1.out)
      go_wp2_with fail
      refine (faulted_fault k hk' p blk pos _ (HL.out.below HB4.out) g0.out g1.out).mono ?_
      rintro e w5 ⟨rfl, hb5⟩
      have H5 := hidIt (HB4.out.trans (hb5.mono HB4.out.size))
      clear hb5
      go_wp2
      go_ret
      exact ⟨rfl, H5.out⟩
    · have HB := hidIt B
      clear B
      have hnn : (n == n) = true := by simp
      go_enter Tryd.func4, Tryd.ntmps4
      go_wp2_with fail
      refine HA.out.mono ?_
      rintro e w1 ⟨rfl, hb1⟩
      have H1 := hidIt hb1
      clear hb1
      go_wp2_with fail
      refine (HB.out.read _ (HR.out.below H1.out)).mono ?_
      rintro e w2 ⟨rfl, hb2⟩
      have H2 := hidIt (H1.out.trans (hb2.mono H1.out.size))
      clear hb2
      go_wp2_with fail
      refine (HB.out.ref _).mono ?_
      rintro e w3 ⟨rfl, hb3⟩
      have H3 := hidIt (H2.out.trans (hb3.mono H2.out.size))
      clear hb3
      have H4 := hidIt ((H3.out.alloc H3.out.size (.cells #[.int .i64 0, .int .i64 (-1)] 31)))
      go_wp2_with fail
      refine (faulted_nil (-1) _).mono ?_
      rintro e w5 ⟨rfl, hb5⟩
      have H5 := hidIt (H4.out.trans (hb5.mono H4.out.size))
      clear hb5
      go_wp2
      go_ret
      exact ⟨rfl, H5.out⟩
  · have d1 : decide ((3000 : Int) < s.size) = true := by simp; omega
    go_enter Tryd.func4, Tryd.ntmps4
    go_wp2_with fail
    refine HA.out.mono ?_
    rintro e w1 ⟨rfl, hb1⟩
    go_wp2
    go_ret
    exact ⟨rfl, hb1⟩
end Go.Proofs.YtagkplcomhomcaaDoor

/-
  The law's own two calendars, without holidays.
-/
import Derived.Test.YtlebpojohaplnaaDoorBoth
namespace Go.Proofs.YtlebpojohaplnaaDoor
open Go.RowKit Go.Sort Go.Lib

set_option maxHeartbeats 4000000 in
set_option maxRecDepth 10000 in
theorem both_none (n cap : Nat) (oa : Option Addr) (B : Nat → Bool) (w : World) (hB : ∀ i : Nat, i < n → ∃ ob oo, oa = some ⟨ob, oo, none⟩ ∧ ob < w.heap.size ∧ w.cell? ⟨ob, oo + i, none⟩ = some (.bool (B i))) (hn : n ≤ 9223372036854775807) (off : Int → Bool) (hoff : ∀ j : Nat, j < 7 → off j = upTo B n j) :
    Calls Tryd.prog 7 #[.agg #[.slice oa n cap, (.slice none 0 0)]] w fun e w' => ∃ v1 v2, e = .returned (.tuple #[.pointer (some ⟨w.heap.size + 1, 0, none⟩), .pointer (some ⟨w.heap.size + 2, 0, none⟩)]) ∧ Cal w' (w.heap.size + 1) off [] v1 ∧ Cal w' (w.heap.size + 2) off [] v2 ∧ Below w.heap.size w w' := by
  have HB := hidIt hB
  have HOff := hidIt hoff
  clear hB hoff
  go_enter Tryd.func7, Tryd.ntmps7
  go_wp2_with fail
  go_loopw [6] (fun t wr => ∃ i : Nat, i ≤ 7 ∧ i ≤ n ∧ t = .int .i64 i ∧ BS w wr B i i (.slice oa n cap) (.slice none 0 0) (.slice none 0 0) (.slice none 0 0)) (fun t _ => (7 - RowKit.intOf t).toNat)
  case atStart => exact ⟨0, by omega, by omega, rfl, BS.start w B _ _ _ _ _⟩
  case round =>
    obtain ⟨i, hi7, hin, rfl, hbs⟩ := hrel
    have HS := hidIt hbs
    have c0 := hbs.c0
    clear hbs
    by_cases hlt : i < 7 ∧ i < n
    · obtain ⟨k1, k2⟩ := hlt
      have z1 : (i : Int) < 7 := by omega
      have z2 : (i : Int) < n := by omega
      obtain ⟨ob, oo, hoa, hob, hbc⟩ := HB.out i k2
      have HBc := hidIt hbc
      subst hoa
      clear hbc
      have hbi := (HS.out.bel.cell (p := ⟨ob, oo + i, none⟩) hob).trans HBc.out
      obtain ⟨hx, fx⟩ := HS.out.x i k1
      go_wp2_with fail
      have mixed := Tryd.mixedB
      go_big_region_o
      all_goals go_upto_region 7 with fail
      have HS2 := hidIt (HS.out.setX k1 1)
      obtain ⟨W2, hW2⟩ : ∃ W2 : World, W2 = (wr.drewN 1).setCell ⟨w.heap.size + 1, i, none⟩ (.bool (B i)) := ⟨_, rfl⟩
      rw [← hW2] at HS2
      have hE : wr.drew.setCell ⟨w.heap.size + 1, i, none⟩ (.bool (B i)) = W2 := by rw [hW2]; rfl
      first | rw [hE] | (have hE2 : (wr.setCell ⟨w.heap.size + 1, i, none⟩ (.bool (B i))).drew = W2 := by rw [hW2]; rfl
                         rw [hE2])
      clear hE hW2 hx fx hbi c0
      have c0 := HS2.out.c0
      have hbi := (HS2.out.bel.cell (p := ⟨ob, oo + i, none⟩) hob).trans HBc.out
      obtain ⟨hy, fy⟩ := HS2.out.y i k1
      go_big_region_o
      all_goals go_wp2
      all_goals exact ⟨⟨i + 1, by omega, by omega, by go_num, HS2.out.setY k1 1⟩, by simp [RowKit.intOf]; omega⟩
    · have hx7 := HS.out.x7.1
      have fx7 := HS.out.x7.2
      have c1 := HS.out.c1
      by_cases q7 : i < 7
      · have z1 : (i : Int) < 7 := by omega
        have z2 : ¬ (i : Int) < n := by omega
        go_wp2_with fail
        go_region
        all_goals
          have HX3 := hidIt ((HS.out.setX7 (.slice none 0 0)).keep ((Below.refl _ _).drew))
          obtain ⟨W3, hW3⟩ : ∃ W3 : World, W3 = (wr.setCell ⟨w.heap.size + 1, 7, none⟩ (.slice none 0 0)).drew := ⟨_, rfl⟩
          rw [← hW3] at HX3 ⊢
          clear hW3 hx7 fx7 c1 c0
          have d1 := HX3.out.c1
          have hy7 := HX3.out.y7.1
          have fy7 := HX3.out.y7.2
          go_wp2_with fail
          go_region
          all_goals
            have HY4 := hidIt ((HX3.out.setY7 (.slice none 0 0)).keep ((Below.refl _ _).drew))
            go_wp2
            go_ret2
            exact ⟨_, _, rfl, HY4.out.calX HOff.out (by omega) rfl (World.ownsRow_nil _ 0 3 1) (Nat.zero_le _), HY4.out.calY HOff.out (by omega) rfl (World.ownsRow_nil _ 0 3 1) (Nat.zero_le _), HY4.out.bel⟩
      · have z1 : ¬ (i : Int) < 7 := by omega
        go_wp2_with fail
        go_region
        all_goals
          have HX3 := hidIt ((HS.out.setX7 (.slice none 0 0)).keep ((Below.refl _ _).drew))
          obtain ⟨W3, hW3⟩ : ∃ W3 : World, W3 = (wr.setCell ⟨w.heap.size + 1, 7, none⟩ (.slice none 0 0)).drew := ⟨_, rfl⟩
          rw [← hW3] at HX3 ⊢
          clear hW3 hx7 fx7 c1 c0
          have d1 := HX3.out.c1
          have hy7 := HX3.out.y7.1
          have fy7 := HX3.out.y7.2
          go_wp2_with fail
          go_region
          all_goals
            have HY4 := hidIt ((HX3.out.setY7 (.slice none 0 0)).keep ((Below.refl _ _).drew))
            go_wp2
            go_ret2
            exact ⟨_, _, rfl, HY4.out.calX HOff.out (by omega) rfl (World.ownsRow_nil _ 0 3 1) (Nat.zero_le _), HY4.out.calY HOff.out (by omega) rfl (World.ownsRow_nil _ 0 3 1) (Nat.zero_le _), HY4.out.bel⟩
end Go.Proofs.YtlebpojohaplnaaDoor

/-
  The laws of explanations: checks.
-/
import Derived.Test.YtmbclnaenjcocaaGreatDoorWhCheck
import Derived.Test.YtmbclnaenjcocaaGreatDoorRsLaw3
import Derived.Test.YtmbclnaenjcocaaGreatDoorRsOrd3
namespace Go.Proofs.YtmbclnaenjcocaaGreatDoor
open Go.RowKit

/-- The theory of 'checks'. -/
def T2 : Thy := ⟨1, [⟨0, 1, []⟩], []⟩
theorem T2_ranked : Ranked T2 := ⟨fun _ => 0, fun a b h => by unfold Ovr T2 at h; simp at h⟩
theorem T2_err {k : Nat} (h : errIs T2 (some k)) : False := by
  have h1 : inB T2 = true := rfl
  have h2 : T2.rules.any noKind = false := rfl
  have h3 : hasN T2 = true := rfl
  rcases h with ⟨_, h⟩ | ⟨_, _, h⟩ | ⟨_, _, _, h⟩ | ⟨_, _, _, _, h⟩ | ⟨h, _⟩
  · rw [h1] at h; cases h
  · rw [h2] at h; cases h
  · rw [h3] at h; cases h
  · exact h T2_ranked
  · cases h
theorem T2_good : goodL T2 (fun _ _ => False) [(true, true, 1)] :=
  ⟨⟨by decide, by decide, by decide⟩, ⟨0, ⟨0, 1, []⟩, rfl, rfl, rfl, fun b hb => by cases hb⟩, trivial⟩
theorem blk2 (W : World) (o1 o2 : Obj) : ((W.alloc o1).alloc o2).heap[W.heap.size]? = some o1 := blk_kept ((Chg.refl [] _).alloc _) (blk_new W o1) (by simp)
theorem blk3 (W : World) (o1 o2 o3 : Obj) : (((W.alloc o1).alloc o2).alloc o3).heap[W.heap.size]? = some o1 := blk_kept (((Chg.refl [] _).alloc _).alloc _) (blk_new W o1) (by simp)
set_option maxHeartbeats 1000000 in
set_option maxRecDepth 100000 in
theorem checks_w {w : World} {p : Nat → Addr} (hE : Sent4 w p) : Calls Tryz.prog 4 #[] w fun e w' => e = .returned (.bool true) ∧ Below w.heap.size w w' := by
  obtain ⟨W, hW⟩ : ∃ W : World, W = ((w.alloc (.cells #[.int .i64 0, .int .i64 1, .slice none 0 0] 56)).alloc (.cells #[.int .i64 1, .slice (some ⟨w.heap.size, 0, none⟩) 1 1, .slice none 0 0] 35)).alloc (.cells #[.bool true, .bool true, .int .i64 1] 37) := ⟨_, rfl⟩
  have hb : Below w.heap.size w W := by rw [hW]; exact (((Below.refl _ _).alloc (Nat.le_refl _) _).alloc (by simp) _).alloc (by simp; omega) _
  have hz : W.heap.size = w.heap.size + 3 := by rw [hW]; simp
  have hblk : W.heap[w.heap.size]? = some (.cells #[.int .i64 0, .int .i64 1, .slice none 0 0] 56) := by rw [hW]; exact blk3 _ _ _ _
  have hst : W.heap[w.heap.size + 2]? = some (.cells #[.bool true, .bool true, .int .i64 1] 37) := by
    rw [hW]
    have := blk_new ((w.alloc (.cells #[.int .i64 0, .int .i64 1, .slice none 0 0] 56)).alloc (.cells #[.int .i64 1, .slice (some ⟨w.heap.size, 0, none⟩) 1 1, .slice none 0 0] 35)) (.cells #[.bool true, .bool true, .int .i64 1] 37)
    rw [World.size_alloc, World.size_alloc] at this
    exact this
  have hTM : TM W W.heap.size T2 (.slice (some ⟨w.heap.size, 0, none⟩) 1 1) (.slice none 0 0) := by
    refine ⟨⟨some ⟨w.heap.size, 0, none⟩, 1, rfl, by decide, fun i r hr => ?_⟩, ⟨none, 0, rfl, by decide, fun i x hx => by simp [T2] at hx⟩, by decide, by decide⟩
    match i, hr with
    | 0, hr =>
      have hr : some (⟨0, 1, []⟩ : Rl) = some r := hr
      injection hr with hr
      subst hr
      exact ⟨w.heap.size, 0, .slice none 0 0, rfl, blk_lt hblk, by simp [World.cell?, hblk], by simp [World.cell?, hblk], by simp [World.cell?, hblk], ⟨none, 0, rfl, by decide, fun j x hx => by simp at hx⟩⟩
    | i + 1, hr => simp [T2] at hr
  have hSR : SRd W W.heap.size (.slice (some ⟨w.heap.size + 2, 0, none⟩) 1 1) [(true, true, 1)] := by
    refine ⟨some ⟨w.heap.size + 2, 0, none⟩, 1, rfl, by decide, fun j x hx => ?_⟩
    match j, hx with
    | 0, hx =>
      have hx : some ((true, true, 1) : Clm) = some x := hx
      injection hx with hx
      subst hx
      exact ⟨w.heap.size + 2, 0, rfl, by omega, by simp [World.cell?, hst], by simp [World.cell?, hst], by simp [World.cell?, hst]⟩
    | j + 1, hx => simp at hx
  have HS : Hid (Calls Tryz.prog 17 #[.agg #[.int .i64 1, .slice (some ⟨w.heap.size, 0, none⟩) 1 1, .slice none 0 0], .slice (some ⟨w.heap.size + 2, 0, none⟩) 1 1] W (RgtR T2 p [(true, true, 1)] W)) := check_p (T := T2) hTM (Nat.le_refl _) (hE.bel hb) (fun h W' hW' => ordC T2 _ _ W.heap.size W' h (hTM.below hW' (Nat.le_refl _)) hW'.size) hSR rfl (by decide)
  have HW := hidLL hW
  have HB := hidLL hb
  clear hW hb hz hblk hst hTM hSR hE
  go_enter Tryz.func4, Tryz.ntmps4
  go_wp2_with fail
  rw [← HW.out]
  refine HS.out.mono ?_
  rintro e w1 ⟨hb1, ⟨k, hk, rfl⟩ | ⟨_, b, rfl, hg⟩⟩
  · exact (T2_err hk).elim
  · obtain rfl : b = true := hg.2 T2_good
    have HB1 := hidLL hb1
    clear hb1 hg
    go_wp2
    go_ret
    exact ⟨rfl, HB.out.trans (HB1.out.mono HB.out.size)⟩
theorem plR_w (q : Int) (h0 : q ≠ 0) (h1 : -1000000 ≤ q) (h2 : q ≤ 1000000) (w : World) : Calls Tryz.prog 13 #[.int .i64 q] w fun e w' => e = .returned (.int .i64 (pl q)) ∧ w' = w := by
  by_cases hq : q < 0
  · have HP : Hid ((pl q : Int) = -2 * q - 1) := by
      show _ = _
      unfold pl; rw [if_pos hq]; omega
    generalize pl q = P at *
    go_enter Tryz.func13, Tryz.ntmps13
    go_wp2
    go_ret
    exact ⟨retI HP.out.symm, rfl⟩
  · have HP : Hid ((pl q : Int) = 2 * q - 2) := by
      show _ = _
      unfold pl; rw [if_neg hq]; omega
    generalize pl q = P at *
    go_enter Tryz.func13, Tryz.ntmps13
    go_wp2
    go_ret
    exact ⟨retI HP.out.symm, rfl⟩
set_option maxHeartbeats 1000000 in
theorem isLit_r {T : Thy} {pb po : Nat} {w : World} (c0 : w.cell? ⟨pb, po, none⟩ = some (.int .i64 T.names)) (h1 : 0 ≤ T.names) (h2 : T.names ≤ 120) (q : Int) : Calls Tryz.prog 11 #[.pointer (some ⟨pb, po, none⟩), .int .i64 q] w fun e w' => e = .returned (.bool (!noLit T q)) ∧ w' = w := by
  have HL : Hid (noLit T q = (q == 0 || decide (q < -T.names) || decide (T.names < q))) := rfl
  generalize noLit T q = O at *
  generalize T.names = n at *
  by_cases h0 : q = 0
  · subst h0
    go_enter Tryz.func11, Tryz.ntmps11
    go_wp2
    go_ret
    exact ⟨retB (by rw [HL.out]; rfl), rfl⟩
  · have e0 : (q == 0) = false := by simp [h0]
    have e0n : (q != 0) = true := by simp [h0]
    by_cases h3 : q ≤ n
    · by_cases h4 : -n ≤ q
      · go_enter Tryz.func11, Tryz.ntmps11
        go_wp2
        go_ret
        exact ⟨retB (by rw [HL.out, e0, decide_eq_false (show ¬ q < -n by omega), decide_eq_false (show ¬ n < q by omega)]; simp), rfl⟩
      · go_enter Tryz.func11, Tryz.ntmps11
        go_wp2
        go_ret
        exact ⟨retB (by rw [HL.out, e0, decide_eq_true (show q < -n by omega)]; simp), rfl⟩
    · go_enter Tryz.func11, Tryz.ntmps11
      go_wp2
      go_ret
      exact ⟨retB (by rw [HL.out, e0, decide_eq_true (show n < q by omega)]; simp), rfl⟩
end Go.Proofs.YtmbclnaenjcocaaGreatDoor

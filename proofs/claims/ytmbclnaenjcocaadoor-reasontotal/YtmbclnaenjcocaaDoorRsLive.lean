/-
  The laws of rules: live.
-/
import Derived.Test.YtmbclnaenjcocaaDoorRsSol
import Derived.Test.YtmbclnaenjcocaaDoorRsLaw1
namespace Go.Proofs.YtmbclnaenjcocaaDoor
open Go.RowKit

/-- The theory of 'live'. -/
def T1 : Thy := ⟨1, [⟨1, 1, []⟩], []⟩
theorem T1_ranked : Ranked T1 := ⟨fun _ => 0, fun a b h => by unfold Ovr T1 at h; simp at h⟩
theorem T1_err {k : Nat} (h : errIs T1 (some k)) : False := by
  have h1 : inB T1 = true := rfl
  have h2 : T1.rules.any noKind = false := rfl
  have h3 : hasN T1 = true := rfl
  rcases h with ⟨_, h⟩ | ⟨_, _, h⟩ | ⟨_, _, _, h⟩ | ⟨_, _, _, _, h⟩ | ⟨h, _⟩
  · rw [h1] at h; cases h
  · rw [h2] at h; cases h
  · rw [h3] at h; cases h
  · exact h T1_ranked
  · cases h
theorem T1_okt : Okt T1 := okt_of rfl rfl
theorem T1_live {s : St} (hf : Fine T1 s) (hq : AllQ T1 s) : s.ho 0 = 1 ∧ s.ho 1 = 2 := by
  have hc := closed_of T1_okt hf hq
  have l1 : IsLit T1 1 := ⟨by decide, by decide, by decide⟩
  have l2 : IsLit T1 (-1) := ⟨by decide, by decide, by decide⟩
  have none2 : ∀ i r, T1.rl i r → r.head = -1 → False := fun i r hr e => by
    unfold Thy.rl T1 at hr
    match i, hr with
    | 0, hr =>
      simp only [List.getElem?_cons_zero, Option.some.injEq] at hr
      subst hr
      simp at e
    | i + 1, hr => simp at hr
  have n1 : mk T1 s 1 (-1) := hc 1 (-1) l2 fun i r hr _ e => (none2 i r hr e).elim
  have h1 : mk T1 s 2 1 := hc 2 1 l1 (.inr ⟨n1, ⟨0, ⟨1, 1, []⟩, rfl, rfl, by decide, trivial, fun b hb => by cases hb⟩, fun k r hr e => (none2 k r hr e).elim⟩)
  have h2 : mk T1 s 3 (-1) := hc 3 (-1) l2 ⟨n1, .inr (.inl fun i r hr e _ _ => (none2 i r hr e).elim)⟩
  exact ⟨h1.2, h2.2⟩
set_option maxHeartbeats 1000000 in
set_option maxRecDepth 100000 in
theorem live_w {w : World} {p : Nat → Addr} (hE : Sent4 w p) (hO : ∀ (T : Thy) (rv ov : Value) (B : Nat) (W : World), Okt T → TM W B T rv ov → B ≤ W.heap.size → OrdC T rv ov W) : Calls Tryd.prog 8 #[] w fun e w' => e = .returned (.bool true) ∧ Below w.heap.size w w' := by
  obtain ⟨W0, hW0⟩ : ∃ W0 : World, W0 = w.alloc (.cells #[.int .i64 1, .int .i64 1, .slice none 0 0] 58) := ⟨_, rfl⟩
  have hb0 : Below w.heap.size w W0 := by rw [hW0]; exact (Below.refl _ _).alloc (Nat.le_refl _) _
  have hblk : W0.heap[w.heap.size]? = some (.cells #[.int .i64 1, .int .i64 1, .slice none 0 0] 58) := by rw [hW0]; exact blk_new _ _
  have hTM : TM W0 W0.heap.size T1 (.slice (some ⟨w.heap.size, 0, none⟩) 1 1) (.slice none 0 0) := by
    refine ⟨⟨some ⟨w.heap.size, 0, none⟩, 1, rfl, by decide, fun i r hr => ?_⟩, ⟨none, 0, rfl, by decide, fun i x hx => by simp [T1] at hx⟩, by decide, by decide⟩
    match i, hr with
    | 0, hr =>
      have hr : some (⟨1, 1, []⟩ : Rl) = some r := hr
      injection hr with hr
      subst hr
      exact ⟨w.heap.size, 0, .slice none 0 0, rfl, blk_lt hblk, by simp [World.cell?, hblk], by simp [World.cell?, hblk], by simp [World.cell?, hblk], ⟨none, 0, rfl, by decide, fun j x hx => by simp at hx⟩⟩
    | i + 1, hr => simp [T1] at hr
  have HS : Hid (Calls Tryd.prog 10 #[.agg #[.int .i64 1, .slice (some ⟨w.heap.size, 0, none⟩) 1 1, .slice none 0 0]] W0 (SolR T1 p W0)) := solve_v hTM (Nat.le_refl _) (hE.bel hb0) (fun h W hW => hO T1 _ _ W0.heap.size W h (hTM.below hW (Nat.le_refl _)) hW.size)
  have HW0 := hidLL hW0
  have HB0 := hidLL hb0
  clear hW0 hb0 hblk hTM hE hO
  go_enter Tryd.func8, Tryd.ntmps8
  go_wp2_with fail
  rw [← HW0.out]
  refine HS.out.mono ?_
  rintro e w1 ⟨hb1, ⟨k, hk, rfl⟩ | ⟨_, bS, bH, s, rfl, _, _, hS, hH, hF, hQ⟩⟩
  · exact (T1_err hk).elim
  · obtain ⟨v0, v1⟩ := T1_live hF hQ
    have y0 := hH.cell (i := 0) (by decide)
    have y1 := hH.cell (i := 1) (by decide)
    rw [v0] at y0
    rw [v1] at y1
    have hlt := hH.lt
    have e2 : 2 * (shOf T1).N = 2 := rfl
    rw [e2]
    have HB1 := hidLL hb1
    clear hS hH hF hQ hb1 v0 v1 e2
    go_wp2
    go_ret
    refine ⟨rfl, ?_⟩
    exact (HB0.out.trans (HB1.out.mono HB0.out.size)).alloc (Nat.le_trans HB0.out.size HB1.out.size) _
end Go.Proofs.YtmbclnaenjcocaaDoor

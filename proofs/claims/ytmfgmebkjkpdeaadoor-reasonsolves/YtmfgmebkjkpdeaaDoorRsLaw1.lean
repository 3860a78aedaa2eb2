/-
  The laws of rules: few, live.
-/
import Derived.Test.YtmfgmebkjkpdeaaDoorRsSol
namespace Go.Proofs.YtmfgmebkjkpdeaaDoor
open Go.RowKit

/-- A slice of nothing has no room. -/
def NilV (v : Value) : Prop := ∀ n c, v = .slice none n c → c = 0
/-- A theory that a pointer leads to. -/
structure TP (w : World) (B : Nat) (T : Thy) (rv ov : Value) (pb po : Nat) : Prop where
  c0 : w.cell? ⟨pb, po, none⟩ = some (.int .i64 T.names)
  c1 : w.cell? ⟨pb, po + 1, none⟩ = some rv
  c2 : w.cell? ⟨pb, po + 2, none⟩ = some ov
  lt : pb < B
  tm : TM w B T rv ov
  nb : ∀ (g o i n c : Nat) (bv : Value), rv = .slice (some ⟨g, o, none⟩) n c → i < T.rules.length → w.cell? ⟨g, o + i * 3 + 2, none⟩ = some bv → NilV bv
  no : NilV ov
theorem TP.bel {w w' : World} {B : Nat} {T : Thy} {rv ov : Value} {pb po : Nat} (h : TP w B T rv ov pb po) {n' : Nat} (hb : Below n' w w') (hn : B ≤ n') : TP w' B T rv ov pb po :=
  ⟨(hb.cell (p := ⟨pb, po, none⟩) (Nat.lt_of_lt_of_le h.lt hn)).trans h.c0, (hb.cell (p := ⟨pb, po + 1, none⟩) (Nat.lt_of_lt_of_le h.lt hn)).trans h.c1, (hb.cell (p := ⟨pb, po + 2, none⟩) (Nat.lt_of_lt_of_le h.lt hn)).trans h.c2, h.lt, h.tm.below hb hn, fun g o i n c bv e hi hc => h.nb g o i n c bv e hi (by
    obtain ⟨a', c', e', _, hx⟩ := h.tm.r
    obtain ⟨g', o', bv', e2, h2, _⟩ := hx i _ (rl_of hi)
    rw [e] at e'
    injection e' with e3 _ _
    rw [e2] at e3
    injection e3 with e3
    injection e3 with e4 _ _
    rw [hb.cell (p := ⟨g, o + i * 3 + 2, none⟩) (by show g < n'; omega)] at hc
    exact hc), h.no⟩
def FewR (w : World) (e : Ending) (w' : World) : Prop := ∃ b, e = .returned (.bool b) ∧ w' = w
set_option maxHeartbeats 4000000 in
set_option maxRecDepth 100000 in
theorem few_w {w : World} {B : Nat} {T : Thy} {rv ov : Value} {pb po : Nat} (h : TP w B T rv ov pb po) : Calls Tryd.prog 9 #[.pointer (some ⟨pb, po, none⟩)] w (FewR w) := by
  obtain ⟨ra, rc, hrv, hrl, hrx⟩ := h.tm.r
  obtain ⟨oa, oc, hov, hol, _⟩ := h.tm.o
  have c0 := h.c0
  have c1 := h.c1
  have c2 := h.c2
  subst hrv hov
  have HX := hidLL hrx
  clear h hrx
  generalize T.names = nm at *
  obtain ⟨R, hR⟩ : ∃ R, R = T.rules.length := ⟨_, rfl⟩
  rw [← hR] at c1 hrl
  have HRR := hidLL hR
  clear hR
  generalize T.over.length = OO at *
  go_enter Tryd.func9, Tryd.ntmps9
  go_wp2_with fail
  go_loopw [3, 4] (fun s t wr => ∃ (n : Int) (i : Nat), i ≤ R ∧ s = .int .i64 n ∧ t = .int .i64 i ∧ wr = w) (fun _ t _ => R - (RowKit.intOf t).toNat)
  case atStart => exact ⟨0, 0, by omega, rfl, rfl, rfl⟩
  case round =>
    obtain ⟨n, i, hi, rfl, rfl, ew⟩ := hrel
    subst wr
    by_cases hlt : i < R
    · have hiz : (i : Int) < R := by omega
      obtain ⟨r, hr⟩ : ∃ r, T.rules[i]? = some r := ⟨_, List.getElem?_eq_getElem (by have := HRR.out; omega)⟩
      obtain ⟨g, o, bv, er, _, _, _, y2, ⟨ba, bc, ebv, hbl, _⟩⟩ := HX.out i r hr
      subst er
      subst ebv
      generalize r.body.length = bl at *
      clear hr
      go_wp2_with fail
      go_roundw
      case rel => exact ⟨_, i + 1, by omega, rfl, by go_num, by first | rfl | trivial⟩
      case measure => simp [RowKit.intOf]; omega
    · have hge : ¬ (i : Int) < R := by omega
      have Rz : (R : Int) ≤ 3518437208883 := by omega
      by_cases h1 : 3000 < n
      · go_wp2
        go_ret
        exact ⟨_, rfl, rfl⟩
      · by_cases h2 : (1300 : Int) < OO
        · go_wp2
          go_ret
          exact ⟨_, rfl, rfl⟩
        · by_cases h3 : 120 < nm
          · go_wp2
            go_ret
            exact ⟨_, rfl, rfl⟩
          · by_cases h4 : n ≤ 60 <;> by_cases h5 : (OO : Int) ≤ 60 <;> by_cases h6 : nm ≤ 12 <;> by_cases h7 : (120 : Int) < R <;> by_cases h8 : (1200 : Int) < OO <;> by_cases h9 : 120 < n <;> by_cases h10 : (R : Int) < 3
            all_goals
              first
                | (exfalso; omega)
                | (go_wp2
                   go_ret
                   exact ⟨_, rfl, rfl⟩)
/-- The theory of 'live'. -/
def T1 : Thy := ⟨1, [⟨1, 1, []⟩], []⟩
theorem T1_ranked : Ranked T1 := ⟨fun _ => 0, fun a b h => by unfold Ovr T1 at h; simp at h⟩
theorem T1_err {k : Nat} (h : errIs T1 (some k)) : False := by
  have h1 : inB T1 = true := rfl
  have h2 : T1.rules.any noKind = false := rfl
  have h3 : hasN T1 = true := rfl
  rcases h with ⟨_, h⟩ | ⟨_, _, h⟩ | ⟨_, _, _, h⟩ | ⟨_, _, _, _, h⟩ | ⟨h, _⟩
  · rw [h1] at h; cases h
  · rw [h2] at h; cases h
  · rw [h3] at h; cases h
  · exact h T1_ranked
  · cases h
theorem T1_okt : Okt T1 := okt_of rfl rfl
theorem T1_live {s : St} (hf : Fine T1 s) (hq : AllQ T1 s) : s.ho 0 = 1 ∧ s.ho 1 = 2 := by
  have hc := closed_of T1_okt hf hq
  have l1 : IsLit T1 1 := ⟨by decide, by decide, by decide⟩
  have l2 : IsLit T1 (-1) := ⟨by decide, by decide, by decide⟩
  have none2 : ∀ i r, T1.rl i r → r.head = -1 → False := fun i r hr e => by
    unfold Thy.rl T1 at hr
    match i, hr with
    | 0, hr =>
      simp only [List.getElem?_cons_zero, Option.some.injEq] at hr
      subst hr
      simp at e
    | i + 1, hr => simp at hr
  have n1 : mk T1 s 1 (-1) := hc 1 (-1) l2 fun i r hr _ e => (none2 i r hr e).elim
  have h1 : mk T1 s 2 1 := hc 2 1 l1 (.inr ⟨n1, ⟨0, ⟨1, 1, []⟩, rfl, rfl, by decide, trivial, fun b hb => by cases hb⟩, fun k r hr e => (none2 k r hr e).elim⟩)
  have h2 : mk T1 s 3 (-1) := hc 3 (-1) l2 ⟨n1, .inr (.inl fun i r hr e _ _ => (none2 i r hr e).elim)⟩
  exact ⟨h1.2, h2.2⟩
set_option maxHeartbeats 1000000 in
set_option maxRecDepth 100000 in
theorem live_w {w : World} {p : Nat → Addr} (hE : Sent4 w p) (hO : ∀ (T : Thy) (rv ov : Value) (B : Nat) (W : World), Okt T → TM W B T rv ov → B ≤ W.heap.size → OrdC T rv ov W) : Calls Tryd.prog 8 #[] w fun e w' => e = .returned (.bool true) ∧ Below w.heap.size w w' := by
  obtain ⟨W0, hW0⟩ : ∃ W0 : World, W0 = w.alloc (.cells #[.int .i64 1, .int .i64 1, .slice none 0 0] 58) := ⟨_, rfl⟩
  have hb0 : Below w.heap.size w W0 := by rw [hW0]; exact (Below.refl _ _).alloc (Nat.le_refl _) _
  have hblk : W0.heap[w.heap.size]? = some (.cells #[.int .i64 1, .int .i64 1, .slice none 0 0] 58) := by rw [hW0]; exact blk_new _ _
  have hTM : TM W0 W0.heap.size T1 (.slice (some ⟨w.heap.size, 0, none⟩) 1 1) (.slice none 0 0) := by
    refine ⟨⟨some ⟨w.heap.size, 0, none⟩, 1, rfl, by decide, fun i r hr => ?_⟩, ⟨none, 0, rfl, by decide, fun i x hx => by simp [T1] at hx⟩, by decide, by decide⟩
    match i, hr with
    | 0, hr =>
      have hr : some (⟨1, 1, []⟩ : Rl) = some r := hr
      injection hr with hr
      subst hr
      exact ⟨w.heap.size, 0, .slice none 0 0, rfl, blk_lt hblk, by simp [World.cell?, hblk], by simp [World.cell?, hblk], by simp [World.cell?, hblk], ⟨none, 0, rfl, by decide, fun j x hx => by simp at hx⟩⟩
    | i + 1, hr => simp [T1] at hr
  have HS : Hid (Calls Tryd.prog 10 #[.agg #[.int .i64 1, .slice (some ⟨w.heap.size, 0, none⟩) 1 1, .slice none 0 0]] W0 (SolR T1 p W0)) := solve_v hTM (Nat.le_refl _) (hE.bel hb0) (fun h W hW => hO T1 _ _ W0.heap.size W h (hTM.below hW (Nat.le_refl _)) hW.size)
  have HW0 := hidLL hW0
  have HB0 := hidLL hb0
  clear hW0 hb0 hblk hTM hE hO
  go_enter Tryd.func8, Tryd.ntmps8
  go_wp2_with fail
  rw [← HW0.out]
  refine HS.out.mono ?_
  rintro e w1 ⟨hb1, ⟨k, hk, rfl⟩ | ⟨_, bS, bH, s, rfl, _, _, hS, hH, hF, hQ⟩⟩
  · exact (T1_err hk).elim
  · obtain ⟨v0, v1⟩ := T1_live hF hQ
    have y0 := hH.cell (i := 0) (by decide)
    have y1 := hH.cell (i := 1) (by decide)
    rw [v0] at y0
    rw [v1] at y1
    have hlt := hH.lt
    have e2 : 2 * (shOf T1).N = 2 := rfl
    rw [e2]
    have HB1 := hidLL hb1
    clear hS hH hF hQ hb1 v0 v1 e2
    go_wp2
    go_ret
    refine ⟨rfl, ?_⟩
    exact (HB0.out.trans (HB1.out.mono HB0.out.size)).alloc (Nat.le_trans HB0.out.size HB1.out.size) _
end Go.Proofs.YtmfgmebkjkpdeaaDoor

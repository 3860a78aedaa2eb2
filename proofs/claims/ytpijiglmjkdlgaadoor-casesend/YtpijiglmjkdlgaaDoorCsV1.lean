/-
  Plans: hasNoWord, hasTwice, isWrong (written by tools/gencsv1.py).
-/
import Derived.Test.YtpijiglmjkdlgaaDoorCsWord
import Derived.Test.YtpijiglmjkdlgaaDoorCsK1
namespace Go.Proofs.YtpijiglmjkdlgaaDoor
open Go.RowKit

/-- A plan that can be read. -/
structure PnAt (w : World) (S : Nat → Prop) (p : Pn) (pf pm : SlV) : Prop where
  fin : RdS strE w S (.slice pf.a pf.n pf.c) p.fin
  mvs : RdS mvE w S (.slice pm.a pm.n pm.c) p.mvs
  lt : ∀ k, S k → k < w.heap.size
  cap : pm.n ≤ pm.c
section
variable {w : World} {S : Nat → Prop} {p : Pn} {pf pm : SlV}
theorem PnAt.step (h : PnAt w S p pf pm) {w' : World} (hb : Below w.heap.size w w') : PnAt w' S p pf pm :=
  ⟨h.fin.on fun k hk => ⟨hk, hb.block k (h.lt k hk)⟩, h.mvs.on fun k hk => ⟨hk, hb.block k (h.lt k hk)⟩, fun k hk => Nat.lt_of_lt_of_le (h.lt k hk) hb.size, h.cap⟩
def nw (s : ByteArray) : Bool := !isWordB s
def nwM (m : Mv) : Bool := nw m.nm || (nw m.fr || (nw m.tt || nw m.wh))
theorem nw1_p (s : ByteArray) (V : World) : Calls Tryd.prog 39 #[.string s] V fun e w' => e = .returned (.bool (nw s)) ∧ w' = V := by
  have HC := hidLL (isWord_c s)
  unfold nw
  generalize isWordB s = b at *
  go_enter Tryd.func39, Tryd.ntmps39
  go_wp2_with fail
  refine (HC.out _).mono ?_
  rintro e w' ⟨rfl, h9⟩
  subst w'
  go_wp2
  go_ret
  exact ⟨rfl, rfl⟩
set_option maxHeartbeats 2000000 in
theorem nw2_p {V : World} {fb : Nat} (hf : V.cell? ⟨fb, 0, none⟩ = some (.func (.func 39) #[] #[])) (m : Mv) :
    Calls Tryd.prog 42 #[.agg #[.string m.nm, .string m.fr, .string m.tt, .string m.wh, .int .i64 m.n, .int .i64 m.u, .int .i64 m.r, .int .i64 m.most], .pointer (some ⟨fb, 0, none⟩)] V fun e w' => e = .returned (.bool (nwM m)) ∧ Below V.heap.size V w' := by
  obtain ⟨W, hW⟩ : ∃ W, W = V.alloc (.cells #[.string m.nm, .string m.fr, .string m.tt, .string m.wh, .int .i64 m.n, .int .i64 m.u, .int .i64 m.r, .int .i64 m.most] 57) := ⟨_, rfl⟩
  obtain ⟨ab, hab⟩ : ∃ ab, ab = V.heap.size := ⟨_, rfl⟩
  have hb : Below V.heap.size V W := by rw [hW]; exact (Below.refl _ _).alloc (Nat.le_refl _) _
  have hbk : W.heap[ab]? = some (.cells #[.string m.nm, .string m.fr, .string m.tt, .string m.wh, .int .i64 m.n, .int .i64 m.u, .int .i64 m.r, .int .i64 m.most] 57 (0, 0)) := by rw [hW, hab]; exact Go.Deep.blk_alloc_new V _
  have n0 : W.cell? ⟨ab, 0, none⟩ = some (.string m.nm) := by rw [cell_of_row _ ab 0 _ _ _ hbk]; rfl
  have n1 : W.cell? ⟨ab, 1, none⟩ = some (.string m.fr) := by rw [cell_of_row _ ab 1 _ _ _ hbk]; rfl
  have n2 : W.cell? ⟨ab, 2, none⟩ = some (.string m.tt) := by rw [cell_of_row _ ab 2 _ _ _ hbk]; rfl
  have n3 : W.cell? ⟨ab, 3, none⟩ = some (.string m.wh) := by rw [cell_of_row _ ab 3 _ _ _ hbk]; rfl
  have k0 := (hb.cell (p := ⟨fb, 0, none⟩) (cell_lt hf)).trans hf
  have HW := hidLL (And.intro hW (And.intro hab hb))
  have H0 := hidLL (nw1_p m.nm)
  have H1 := hidLL (nw1_p m.fr)
  have H2 := hidLL (nw1_p m.tt)
  have H3 := hidLL (nw1_p m.wh)
  unfold nwM
  generalize nw m.nm = x0 at *
  generalize nw m.fr = x1 at *
  generalize nw m.tt = x2 at *
  generalize nw m.wh = x3 at *
  clear hW hab hb hbk hf
  cases x0 with
  | true =>
    go_enter Tryd.func42, Tryd.ntmps42
    go_upto_region 1 with fail
    rw [← HW.out.1, ← HW.out.2.1]
    go_wp2_with fail
    refine (H0.out _).mono ?_
    rintro e w' ⟨rfl, h9⟩
    subst w'
    go_wp2
    go_ret
    exact ⟨rfl, HW.out.2.2⟩
  | false =>
    cases x1 with
    | true =>
      go_enter Tryd.func42, Tryd.ntmps42
      go_upto_region 1 with fail
      rw [← HW.out.1, ← HW.out.2.1]
      go_wp2_with fail
      refine (H0.out _).mono ?_
      rintro e w' ⟨rfl, h9⟩
      subst w'
      go_wp2_with fail
      refine (H1.out _).mono ?_
      rintro e w' ⟨rfl, h9⟩
      subst w'
      go_wp2
      go_ret
      exact ⟨rfl, HW.out.2.2⟩
    | false =>
      cases x2 with
      | true =>
        go_enter Tryd.func42, Tryd.ntmps42
        go_upto_region 1 with fail
        rw [← HW.out.1, ← HW.out.2.1]
        go_wp2_with fail
        refine (H0.out _).mono ?_
        rintro e w' ⟨rfl, h9⟩
        subst w'
        go_wp2_with fail
        refine (H1.out _).mono ?_
        rintro e w' ⟨rfl, h9⟩
        subst w'
        go_wp2_with fail
        refine (H2.out _).mono ?_
        rintro e w' ⟨rfl, h9⟩
        subst w'
        go_wp2
        go_ret
        exact ⟨rfl, HW.out.2.2⟩
      | false =>
        go_enter Tryd.func42, Tryd.ntmps42
        go_upto_region 1 with fail
        rw [← HW.out.1, ← HW.out.2.1]
        go_wp2_with fail
        refine (H0.out _).mono ?_
        rintro e w' ⟨rfl, h9⟩
        subst w'
        go_wp2_with fail
        refine (H1.out _).mono ?_
        rintro e w' ⟨rfl, h9⟩
        subst w'
        go_wp2_with fail
        refine (H2.out _).mono ?_
        rintro e w' ⟨rfl, h9⟩
        subst w'
        go_wp2_with fail
        refine (H3.out _).mono ?_
        rintro e w' ⟨rfl, h9⟩
        subst w'
        go_wp2
        go_ret
        exact ⟨rfl, HW.out.2.2⟩
/-- A name that is no word. -/
def noWordB (p : Pn) : Bool := nw p.start || (p.fin.any nw || p.mvs.any nwM)
set_option maxHeartbeats 2000000 in
theorem noWord_p (h : PnAt w S p pf pm) : Calls Tryd.prog 26 #[.agg #[.string p.start, .slice pf.a pf.n pf.c, .slice pm.a pm.n pm.c]] w fun e w' => e = .returned (.bool (noWordB p)) ∧ Below w.heap.size w w' := by
  obtain ⟨W, hW⟩ : ∃ W, W = (w.alloc (.cells #[.string p.start, .slice pf.a pf.n pf.c, .slice pm.a pm.n pm.c] 33)).alloc (.cells #[.func (.func 39) #[] #[]] 86) := ⟨_, rfl⟩
  obtain ⟨ab, hab⟩ : ∃ ab, ab = w.heap.size := ⟨_, rfl⟩
  obtain ⟨fb, hfb⟩ : ∃ fb, fb = w.heap.size + 1 := ⟨_, rfl⟩
  have hb : Below w.heap.size w W := by rw [hW]; exact ((Below.refl _ _).alloc (Nat.le_refl _) _).alloc (by simp) _
  have hbk : W.heap[ab]? = some (.cells #[.string p.start, .slice pf.a pf.n pf.c, .slice pm.a pm.n pm.c] 33 (0, 0)) := by
    rw [hW, hab, Go.Deep.blk_alloc_lt _ _ _ (by simp)]
    exact Go.Deep.blk_alloc_new w _
  have f0 : W.cell? ⟨fb, 0, none⟩ = some (.func (.func 39) #[] #[]) := by rw [hW, hfb]; simp
  have H := hidLL (h.step hb)
  have H0 := hidLL (nw1_p p.start)
  have H1 : Hid (∀ V, Below W.heap.size W V → Calls Tryd.prog 41 #[.slice pf.a pf.n pf.c, .func (.func 39) #[] #[]] V fun e w' => e = .returned (.bool (p.fin.any nw)) ∧ Below V.heap.size V w') := fun V hV => has_word (f := nw) (H.out.step hV).fin (H.out.step hV).lt fun V' _ s => (nw1_p s V').mono fun e w' h9 => ⟨h9.1, by rw [h9.2]; exact Below.refl _ _⟩
  have H2 : Hid (∀ V, Below W.heap.size W V → Calls Tryd.prog 28 #[.slice pm.a pm.n pm.c, .func (.func 42) #[] #[.pointer (some ⟨fb, 0, none⟩)]] V fun e w' => e = .returned (.bool (p.mvs.any nwM)) ∧ Below V.heap.size V w') := fun V hV => has_words (f := nwM) (H.out.step hV).mvs (H.out.step hV).lt fun V' hV' m => nw2_p (((hV.trans (hV'.mono hV.size)).cell (p := ⟨fb, 0, none⟩) (cell_lt f0)).trans f0) m
  have HCl : Hid (∀ V, Below W.heap.size W V → V.cell? ⟨ab, 1, none⟩ = some (.slice pf.a pf.n pf.c) ∧ V.cell? ⟨ab, 2, none⟩ = some (.slice pm.a pm.n pm.c) ∧ V.cell? ⟨fb, 0, none⟩ = some (.func (.func 39) #[] #[]) ∧ Below w.heap.size w V) := fun V hV => by
    have h9 := (hV.block ab (Array.getElem?_eq_some_iff.1 hbk).1).trans hbk
    refine ⟨by rw [cell_of_row _ ab 1 _ _ _ h9]; rfl, by rw [cell_of_row _ ab 2 _ _ _ h9]; rfl, (hV.cell (p := ⟨fb, 0, none⟩) (cell_lt f0)).trans f0, hb.trans (hV.mono hb.size)⟩
  obtain ⟨n1, n2, _, _⟩ := HCl.out W (Below.refl _ _)
  have n0 : W.cell? ⟨ab, 0, none⟩ = some (.string p.start) := by rw [cell_of_row _ ab 0 _ _ _ hbk]; rfl
  have HW := hidLL (And.intro hW (And.intro hab hfb))
  unfold noWordB
  generalize nw p.start = x0 at *
  generalize p.fin.any nw = x1 at *
  generalize p.mvs.any nwM = x2 at *
  clear h hW hab hfb hb hbk
  cases x0 with
  | true =>
    go_enter Tryd.func26, Tryd.ntmps26
    go_upto_region 2 with fail
    rw [← HW.out.1, ← HW.out.2.2, ← HW.out.2.1]
    go_wp2_with fail
    refine (H0.out _).mono ?_
    rintro e w' ⟨rfl, h9⟩
    subst w'
    go_wp2
    go_ret
    exact ⟨rfl, (HCl.out W (Below.refl _ _)).2.2.2⟩
  | false =>
    cases x1 with
    | true =>
      go_enter Tryd.func26, Tryd.ntmps26
      go_upto_region 2 with fail
      rw [← HW.out.1, ← HW.out.2.2, ← HW.out.2.1]
      go_wp2_with fail
      refine (H0.out _).mono ?_
      rintro e w' ⟨rfl, h9⟩
      subst w'
      go_wp2_with fail
      refine (H1.out W (Below.refl _ _)).mono ?_
      rintro e V1 ⟨rfl, hb1⟩
      have HB1 := hidLL hb1
      obtain ⟨k1, k2, kf, _⟩ := HCl.out V1 hb1
      clear hb1
      go_wp2
      go_ret
      exact ⟨rfl, (HCl.out V1 HB1.out).2.2.2⟩
    | false =>
      go_enter Tryd.func26, Tryd.ntmps26
      go_upto_region 2 with fail
      rw [← HW.out.1, ← HW.out.2.2, ← HW.out.2.1]
      go_wp2_with fail
      refine (H0.out _).mono ?_
      rintro e w' ⟨rfl, h9⟩
      subst w'
      go_wp2_with fail
      refine (H1.out W (Below.refl _ _)).mono ?_
      rintro e V1 ⟨rfl, hb1⟩
      have HB1 := hidLL hb1
      obtain ⟨k1, k2, kf, _⟩ := HCl.out V1 hb1
      clear hb1
      go_wp2_with fail
      refine (H2.out V1 HB1.out).mono ?_
      rintro e V2 ⟨rfl, hb2⟩
      have HB2 := hidLL (HB1.out.trans (hb2.mono HB1.out.size))
      clear hb2
      go_wp2
      go_ret
      exact ⟨rfl, (HCl.out V2 HB2.out).2.2.2⟩
/-! Two of one name and one stage. -/
def sameM (a m : Mv) : Bool := (m.nm.toList == a.nm.toList) && (m.fr.toList == a.fr.toList)
set_option maxHeartbeats 2000000 in
theorem tw1_p {V : World} {fb : Nat} {a : Mv} (h0 : V.cell? ⟨fb, 0, none⟩ = some (.string a.nm)) (h1 : V.cell? ⟨fb, 1, none⟩ = some (.string a.fr)) (m : Mv) :
    Calls Tryd.prog 43 #[.agg #[.string m.nm, .string m.fr, .string m.tt, .string m.wh, .int .i64 m.n, .int .i64 m.u, .int .i64 m.r, .int .i64 m.most], .pointer (some ⟨fb, 0, none⟩)] V fun e w' => e = .returned (.bool (sameM a m)) ∧ Below V.heap.size V w' := by
  obtain ⟨W, hW⟩ : ∃ W, W = V.alloc (.cells #[.string m.nm, .string m.fr, .string m.tt, .string m.wh, .int .i64 m.n, .int .i64 m.u, .int .i64 m.r, .int .i64 m.most] 57) := ⟨_, rfl⟩
  obtain ⟨ab, hab⟩ : ∃ ab, ab = V.heap.size := ⟨_, rfl⟩
  have hb : Below V.heap.size V W := by rw [hW]; exact (Below.refl _ _).alloc (Nat.le_refl _) _
  have hbk : W.heap[ab]? = some (.cells #[.string m.nm, .string m.fr, .string m.tt, .string m.wh, .int .i64 m.n, .int .i64 m.u, .int .i64 m.r, .int .i64 m.most] 57 (0, 0)) := by rw [hW, hab]; exact Go.Deep.blk_alloc_new V _
  have n0 : W.cell? ⟨ab, 0, none⟩ = some (.string m.nm) := by rw [cell_of_row _ ab 0 _ _ _ hbk]; rfl
  have n1 : W.cell? ⟨ab, 1, none⟩ = some (.string m.fr) := by rw [cell_of_row _ ab 1 _ _ _ hbk]; rfl
  have k0 := (hb.cell (p := ⟨fb, 0, none⟩) (cell_lt h0)).trans h0
  have k1 := (hb.cell (p := ⟨fb, 1, none⟩) (cell_lt h0)).trans h1
  have HW := hidLL (And.intro hW (And.intro hab hb))
  unfold sameM
  clear hW hab hb hbk h0 h1
  cases hq : (m.nm.toList == a.nm.toList)
  all_goals (
    go_enter Tryd.func43, Tryd.ntmps43
    go_upto_region 1 with fail
    rw [← HW.out.1, ← HW.out.2.1]
    go_wp2
    go_ret
    exact ⟨rfl, HW.out.2.2⟩)
/-! A move that is wrong. -/
open Classical in
noncomputable def wrongB (p : Pn) (m : Mv) : Bool := decide (m.most < 0) || decide (m.fr ∈ p.fin)
open Classical in
theorem wrongB_eq {m : Mv} {b : Bool} (h : b = true ↔ m.fr ∈ p.fin) : wrongB p m = (decide (m.most < 0) || b) := by
  unfold wrongB
  congr 1
  cases b with
  | true => exact decide_eq_true (h.1 rfl)
  | false => exact decide_eq_false fun h9 => by have := h.2 h9; cases this
open Classical in
theorem wrongB_no {m : Mv} (h : wrongB p m = false) : 0 ≤ m.most ∧ m.fr ∉ p.fin := by
  unfold wrongB at h
  rw [Bool.or_eq_false_iff, decide_eq_false_iff_not, decide_eq_false_iff_not] at h
  exact ⟨by omega, h.2⟩
set_option maxHeartbeats 2000000 in
theorem wrong1_p (h : PnAt w S p pf pm) (m : Mv) : Calls Tryd.prog 29 #[.agg #[.string p.start, .slice pf.a pf.n pf.c, .slice pm.a pm.n pm.c], .agg #[.string m.nm, .string m.fr, .string m.tt, .string m.wh, .int .i64 m.n, .int .i64 m.u, .int .i64 m.r, .int .i64 m.most]] w fun e w' => e = .returned (.bool (wrongB p m)) ∧ Below w.heap.size w w' := by
  obtain ⟨W, hW⟩ : ∃ W, W = (w.alloc (.cells #[.string p.start, .slice pf.a pf.n pf.c, .slice pm.a pm.n pm.c] 33)).alloc (.cells #[.string m.nm, .string m.fr, .string m.tt, .string m.wh, .int .i64 m.n, .int .i64 m.u, .int .i64 m.r, .int .i64 m.most] 57) := ⟨_, rfl⟩
  obtain ⟨ab, hab⟩ : ∃ ab, ab = w.heap.size := ⟨_, rfl⟩
  obtain ⟨fb, hfb⟩ : ∃ fb, fb = w.heap.size + 1 := ⟨_, rfl⟩
  have hb : Below w.heap.size w W := by rw [hW]; exact ((Below.refl _ _).alloc (Nat.le_refl _) _).alloc (by simp) _
  have hbk : W.heap[ab]? = some (.cells #[.string p.start, .slice pf.a pf.n pf.c, .slice pm.a pm.n pm.c] 33 (0, 0)) := by
    rw [hW, hab, Go.Deep.blk_alloc_lt _ _ _ (by simp)]
    exact Go.Deep.blk_alloc_new w _
  have hbf : W.heap[fb]? = some (.cells #[.string m.nm, .string m.fr, .string m.tt, .string m.wh, .int .i64 m.n, .int .i64 m.u, .int .i64 m.r, .int .i64 m.most] 57 (0, 0)) := by
    rw [hW, hfb]
    have := Go.Deep.blk_alloc_new (w.alloc (.cells #[.string p.start, .slice pf.a pf.n pf.c, .slice pm.a pm.n pm.c] 33)) (.cells #[.string m.nm, .string m.fr, .string m.tt, .string m.wh, .int .i64 m.n, .int .i64 m.u, .int .i64 m.r, .int .i64 m.most] 57)
    simpa using this
  have n1 : W.cell? ⟨ab, 1, none⟩ = some (.slice pf.a pf.n pf.c) := by rw [cell_of_row _ ab 1 _ _ _ hbk]; rfl
  have x1 : W.cell? ⟨fb, 1, none⟩ = some (.string m.fr) := by rw [cell_of_row _ fb 1 _ _ _ hbf]; rfl
  have x7 : W.cell? ⟨fb, 7, none⟩ = some (.int .i64 m.most) := by rw [cell_of_row _ fb 7 _ _ _ hbf]; rfl
  obtain ⟨b, hbi, hC⟩ := contains_p (h.step hb).fin m.fr
  have HC := hidLL (hC 0)
  have hwb : wrongB p m = (decide (m.most < 0) || b) := wrongB_eq hbi
  rw [hwb]
  have HW := hidLL (And.intro hW (And.intro hab (And.intro hfb hb)))
  have HD : Hid (W.drewN 0 = W) := rfl
  rw [HD.out] at HC
  clear h hW hab hfb hb hbk hbf hbi hC hwb
  by_cases h0 : m.most < 0
  · have hd : decide (m.most < 0) = true := by simp [h0]
    rw [hd]
    go_enter Tryd.func29, Tryd.ntmps29
    go_upto_region 1 with fail
    rw [← HW.out.1, ← HW.out.2.2.1, ← HW.out.2.1]
    go_wp2
    go_ret
    exact ⟨rfl, HW.out.2.2.2⟩
  · have hd : decide (m.most < 0) = false := by simp; omega
    rw [hd]
    go_enter Tryd.func29, Tryd.ntmps29
    go_upto_region 1 with fail
    rw [← HW.out.1, ← HW.out.2.2.1, ← HW.out.2.1]
    go_wp2_with fail
    refine HC.out.mono ?_
    rintro e w' ⟨rfl, h9⟩
    subst w'
    go_wp2
    go_ret
    exact ⟨by first | rfl | simp, HW.out.2.2.2⟩
theorem wrong_p (h : PnAt w S p pf pm) : Calls Tryd.prog 28 #[.slice pm.a pm.n pm.c, .func (.func 29) #[.agg #[.string p.start, .slice pf.a pf.n pf.c, .slice pm.a pm.n pm.c]] #[]] w fun e w' => e = .returned (.bool (p.mvs.any (wrongB p))) ∧ Below w.heap.size w w' :=
  has_wrong (f := wrongB p) h.mvs h.lt fun _ hV m => wrong1_p (h.step hV) m
end
end Go.Proofs.YtpijiglmjkdlgaaDoor

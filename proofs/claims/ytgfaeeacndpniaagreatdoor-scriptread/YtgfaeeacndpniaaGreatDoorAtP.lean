/-
  The reference: the builder's at.
-/
import Derived.Test.YtgfaeeacndpniaaGreatDoorRefBase
import Derived.Test.YtgfaeeacndpniaaGreatDoorMemBase
import Derived.BigRegion
import Derived.BigCall
import Derived.BigGuard
import Derived.Deep.RegionWith
namespace Go.Proofs.YtgfaeeacndpniaaGreatDoor
open Go.RowKit Go.Extern.Stop Go.Stop Go.Extern

theorem wayOf_drop : ∀ (z : List It) (i : Nat), (wayOf z).drop i = wayOf (z.drop i)
  | z, 0 => by simp
  | [], i + 1 => rfl
  | [a], i + 1 => by simp [wayOf]
  | a :: b :: r, i + 1 => by rw [wayOf, List.drop_succ_cons, List.drop_succ_cons, wayOf_drop (b :: r) i]
theorem wayOf_get {z : List It} {i : Nat} {a b : It} {r : List It} (h : z.drop i = a :: b :: r) : (wayOf z)[i]? = some a.kids.length := by
  have := wayOf_drop z i
  rw [h, wayOf] at this
  have h2 : ((wayOf z).drop i)[0]? = some a.kids.length := by rw [this]; rfl
  rwa [List.getElem?_drop, Nat.add_zero] at h2
/-- The box of the item and the result's. -/
structure AtS (w wr : World) (u : Nat → Value) : Prop where
  res : wr.heap[w.heap.size]? = some (.cells #[.string ⟨#[]⟩, .string ⟨#[]⟩, .slice none 0 0, .slice none 0 0] 26 (0, 0))
  box : wr.heap[w.heap.size + 1]? = some (.cells #[u 0, u 1, u 2, u 3] 26 (0, 0))
  bel : Below w.heap.size w wr
theorem set4_block {w : World} {g : Nat} {a b c d : Value} {t : TypeId} (h : w.heap[g]? = some (.cells #[a, b, c, d] t (0, 0))) (x : Nat → Value) : (set4 w g 0 x).heap[g]? = some (.cells #[x 0, x 1, x 2, x 3] t (0, 0)) := by
  unfold set4
  have h1 := heap_setCell_same w g 0 _ _ (x 0) h
  have h2 := heap_setCell_same _ g (0 + 1) _ _ (x 1) h1
  have h3 := heap_setCell_same _ g (0 + 2) _ _ (x 2) h2
  have h4 := heap_setCell_same _ g (0 + 3) _ _ (x 3) h3
  rw [h4]; rfl
theorem AtS.step {w wr : World} {u : Nat → Value} (h : AtS w wr u) (x : Nat → Value) : AtS w (set4 wr (w.heap.size + 1) 0 x).drew x := by
  refine ⟨?_, set4_block h.box x, ?_⟩
  · show (set4 wr (w.heap.size + 1) 0 x).heap[w.heap.size]? = _
    unfold set4
    rw [Below.heap_setCell _ _ _ _ (by simp), Below.heap_setCell _ _ _ _ (by simp), Below.heap_setCell _ _ _ _ (by simp), Below.heap_setCell _ _ _ _ (by simp)]
    exact h.res
  · unfold set4
    exact ((((h.bel.setCell (by simp) _).setCell (by simp) _).setCell (by simp) _).setCell (by simp) _).drew
theorem AtS.c {w wr : World} {u : Nat → Value} (h : AtS w wr u) : wr.cell? ⟨w.heap.size + 1, 0, none⟩ = some (u 0) ∧ wr.cell? ⟨w.heap.size + 1, 1, none⟩ = some (u 1) ∧ wr.cell? ⟨w.heap.size + 1, 2, none⟩ = some (u 2) ∧ wr.cell? ⟨w.heap.size + 1, 3, none⟩ = some (u 3) ∧ ∀ i, wr.frozen? ⟨w.heap.size + 1, i, none⟩ = false := by
  simp [World.cell?, World.frozen?, h.box]
theorem AtS.r {w wr : World} {u : Nat → Value} (h : AtS w wr u) : wr.cell? ⟨w.heap.size, 0, none⟩ = some (.string ⟨#[]⟩) ∧ wr.cell? ⟨w.heap.size, 1, none⟩ = some (.string ⟨#[]⟩) ∧ wr.cell? ⟨w.heap.size, 2, none⟩ = some (.slice none 0 0) ∧ wr.cell? ⟨w.heap.size, 3, none⟩ = some (.slice none 0 0) ∧ ∀ i, wr.frozen? ⟨w.heap.size, i, none⟩ = false := by
  simp [World.cell?, World.frozen?, h.res]
theorem drop_two {z : List It} {i : Nat} (h : i + 1 < z.length) : ∃ a b r, z.drop i = a :: b :: r ∧ z.drop (i + 1) = b :: r ∧ a ∈ z := by
  refine ⟨z[i], z[i + 1], z.drop (i + 2), ?_, ?_, List.getElem_mem _⟩
  · rw [List.drop_eq_getElem_cons (by omega), List.drop_eq_getElem_cons h]
  · rw [List.drop_eq_getElem_cons h]
set_option maxHeartbeats 4000000 in
set_option maxRecDepth 10000 in
theorem at_any {B bb n : Nat} {w : World} {z : List It} {own : Nat → Nat} {v : Nat → Value} {wa : Option Addr} {wc : Nat} (d : Nat) (h : BS B bb w z n own v wa wc) (hd : d < z.length) (hz : z.length ≤ 1000) (hk : ∀ t ∈ z, t.kids.length ≤ 1000) :
    Calls Tryz.prog 63 #[.pointer (some ⟨bb, 0, none⟩), .int .i64 d] w fun e w' => (∃ u : Nat → Value, e = .returned (.agg #[u 0, u 1, u 2, u 3]) ∧ Path B w own d (z.drop d) u) ∧ Below w.heap.size w w' := by
  have HS := hidLL h
  have HK := hidLL hk
  obtain ⟨c0, c1, c2, c3, c4, _⟩ := h.c
  have hbl := h.lt
  obtain ⟨f0, f1, ⟨la, lc, f2⟩, ⟨ka, kc, f3⟩⟩ := h.pt.forms
  rw [f0] at c0
  rw [f1] at c1
  rw [f2] at c2
  rw [f3] at c3
  have HF := hidLL (And.intro f0 (And.intro f1 (And.intro f2 f3)))
  clear h hk f0 f1 f2 f3
  generalize (closeAll z).label = lb at *
  generalize (closeAll z).head = hd0 at *
  generalize (closeAll z).lines.length = ln at *
  generalize (closeAll z).kids.length = kn at *
  go_enter Tryz.func63, Tryz.ntmps63
  go_wp2_with fail
  go_loopw [6] (fun t wr => ∃ (i : Nat) (u : Nat → Value), i ≤ d ∧ t = .int .i64 i ∧ AtS w wr u ∧ Path B w own i (z.drop i) u) (fun t _ => (d - RowKit.intOf t).toNat)
  case atStart =>
    refine ⟨0, v, by omega, rfl, ⟨?_, ?_, ((Below.refl _ _).alloc (Nat.le_refl _) _).alloc (by simp) _⟩, by simpa using HS.out.pt⟩
    · exact (alloc_two w _ _).1
    · rw [HF.out.1, HF.out.2.1, HF.out.2.2.1, HF.out.2.2.2]; exact (alloc_two w _ _).2
  case round =>
    obtain ⟨i, u, hi, rfl, hA, hP⟩ := hrel
    obtain ⟨f0, f1, ⟨la1, lc1, f2⟩, ⟨ka1, kc1, f3⟩⟩ := hP.forms
    obtain ⟨x0, x1, x2, x3, xf⟩ := hA.c
    rw [f0] at x0
    rw [f1] at x1
    rw [f2] at x2
    rw [f3] at x3
    have HA := hidLL hA
    have HP := hidLL hP
    have hsz := hA.bel.size
    by_cases hin : i < d
    · have hiz : (i : Int) < d := by omega
      obtain ⟨a, b, r, e1, e2, ha⟩ := drop_two (z := z) (i := i) (by omega)
      rw [e1] at hP
      obtain ⟨g, cap, u', g3, _, hu, hP'⟩ := hP.inner
      rw [g3] at f3
      injection f3 with f4 f5 f6
      have hak := HK.out a ha
      obtain ⟨wb, wo, rfl, _, cw⟩ := HS.out.wy i _ (wayOf_get e1)
      rw [← f4, ← f5, ← f6] at x3
      have d4 := (hA.bel.cell (p := ⟨bb, 4, none⟩) hbl).trans c4
      have dw := (hA.bel.cell (p := ⟨wb, wo + i, none⟩) (cell_lt cw)).trans cw
      obtain ⟨h0, h1, ⟨la2, lc2, h2⟩, ⟨ka2, kc2, h3⟩⟩ := hP'.forms
      have hgl := cell_lt (hu 0 (by omega))
      have y0 := (hA.bel.cell (p := ⟨g, a.kids.length * 4, none⟩) hgl).trans (hu 0 (by omega))
      have y1 := (hA.bel.cell (p := ⟨g, a.kids.length * 4 + 1, none⟩) hgl).trans (hu 1 (by omega))
      have y2 := (hA.bel.cell (p := ⟨g, a.kids.length * 4 + 2, none⟩) hgl).trans (hu 2 (by omega))
      have y3 := (hA.bel.cell (p := ⟨g, a.kids.length * 4 + 3, none⟩) hgl).trans (hu 3 (by omega))
      rw [h0] at y0
      rw [h1] at y1
      rw [h2] at y2
      rw [h3] at y3
      have HP' : Hid (Path B w own (i + 1) (z.drop (i + 1)) u') := by show Path _ _ _ _ _ _; rw [e2]; exact hP'
      have HF' := hidLL (And.intro h0 (And.intro h1 (And.intro h2 h3)))
      clear hP hP' hA f0 f1 f2 g3 f4 f5 f6 h0 h1 h2 h3 hu cw e1 e2
      generalize (closeAll (z.drop i)).label = l1 at *
      generalize (closeAll (z.drop i)).head = l2 at *
      generalize (closeAll (z.drop i)).lines.length = l3 at *
      generalize (closeAll (b :: r)).label = l4 at *
      generalize (closeAll (b :: r)).head = l5 at *
      generalize (closeAll (b :: r)).lines.length = l6 at *
      generalize (closeAll (b :: r)).kids.length = l7 at *
      generalize a.kids.length = an at *
      obtain ⟨zl, hzl⟩ : ∃ zl, z.length = zl + 1 := ⟨z.length - 1, by omega⟩
      rw [hzl, Nat.add_sub_cancel] at d4
      have hi2 : (i : Int) < (zl : Int) := by omega
      have hi3 : (an : Int) < (an : Int) + 1 := by omega
      clear hzl
      go_wp2_with fail
      go_region
      go_wp2
      go_roundw
      case rel =>
        refine ⟨i + 1, u', by omega, by go_num, ?_, HP'.out⟩
        have h := HA.out.step u'
        unfold set4 at h
        rw [HF'.out.1, HF'.out.2.1, HF'.out.2.2.1, HF'.out.2.2.2] at h
        exact h
      case measure => simp [RowKit.intOf]; omega
    · obtain rfl : i = d := by omega
      obtain ⟨r0, r1, r2, r3, rf⟩ := hA.r
      have HF1 := hidLL (And.intro f0 (And.intro f1 (And.intro f2 f3)))
      clear hP hA f0 f1 f2 f3
      generalize (closeAll (z.drop i)).label = l1 at *
      generalize (closeAll (z.drop i)).head = l2 at *
      generalize (closeAll (z.drop i)).lines.length = l3 at *
      generalize (closeAll (z.drop i)).kids.length = l4 at *
      go_wp2
      refine bodyPost_ret (v := .agg #[.string l1, .string l2, .slice la1 l3 lc1, .slice ka1 l4 kc1]) (by simp [results, Tryz.results63, go_sem, r0, r1, r2, r3]) rfl ?_
      refine ⟨⟨u, by rw [HF1.out.1, HF1.out.2.1, HF1.out.2.2.1, HF1.out.2.2.2], HP.out⟩, ?_⟩
      exact (((HA.out.bel.setCell (Nat.le_refl _) _).setCell (Nat.le_refl _) _).setCell (Nat.le_refl _) _).setCell (Nat.le_refl _) _
end Go.Proofs.YtgfaeeacndpniaaGreatDoor

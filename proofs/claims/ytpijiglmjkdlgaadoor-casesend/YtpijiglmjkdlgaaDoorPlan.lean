/-
  A calendar made ready: day.plan (written by tools/genplan.py).
-/
import Derived.Test.YtpijiglmjkdlgaaDoorEq7
import Derived.Shelf.Slices.In.SortNone
import Derived.Lib.SmallJoins
import Derived.OwnWalk
import Derived.Lib.RowBridge
import Derived.Laws.AppendOwn
namespace Go.Proofs.YtpijiglmjkdlgaaDoor
open Go.RowKit Go.Sort Go.Lib

/-- A plan's value. -/
def planV (a : Nat → Bool) (k : Int) (sv : Value) : Value := .agg #[.bool (a 0), .bool (a 1), .bool (a 2), .bool (a 3), .bool (a 4), .bool (a 5), .bool (a 6), .int .i64 k, sv]
/-- The plan as it is made, in the call's own block; the answer's block ahead of it. -/
structure PS (w wr : World) (a : Nat → Bool) (k : Int) (sv : Value) : Prop where
  day : ∀ i : Nat, i < 7 → wr.cell? ⟨w.heap.size + 1, i, none⟩ = some (.bool (a i))
  wk : wr.cell? ⟨w.heap.size + 1, 7, none⟩ = some (.int .i64 k)
  sl : wr.cell? ⟨w.heap.size + 1, 8, none⟩ = some sv
  f7 : wr.frozen? ⟨w.heap.size + 1, 7, none⟩ = false
  f8 : wr.frozen? ⟨w.heap.size + 1, 8, none⟩ = false
  res : ∀ i : Nat, i < 9 → (∃ u, wr.cell? ⟨w.heap.size, i, none⟩ = some u) ∧ wr.frozen? ⟨w.heap.size, i, none⟩ = false
  bel : Below w.heap.size w wr
  sz : w.heap.size + 2 ≤ wr.heap.size
theorem PS.start (w : World) (a : Nat → Bool) (t : TypeId) : PS w ((w.alloc (.cells #[.bool false, .bool false, .bool false, .bool false, .bool false, .bool false, .bool false, .int .i64 0, .slice none 0 0] t)).alloc (.cells #[.bool (a 0), .bool (a 1), .bool (a 2), .bool (a 3), .bool (a 4), .bool (a 5), .bool (a 6), .int .i64 0, .slice none 0 0] t)) a 0 (.slice none 0 0) := by
  refine ⟨fun i hi => ?_, by simp, by simp, by simp, by simp, fun i hi => ⟨?_, by simp⟩, ((Below.refl _ _).alloc (Nat.le_refl _) _).alloc (by simp) _, by simp⟩
  · have h : i = 0 ∨ i = 1 ∨ i = 2 ∨ i = 3 ∨ i = 4 ∨ i = 5 ∨ i = 6 := by omega
    rcases h with rfl | rfl | rfl | rfl | rfl | rfl | rfl <;> simp
  · have h : i = 0 ∨ i = 1 ∨ i = 2 ∨ i = 3 ∨ i = 4 ∨ i = 5 ∨ i = 6 ∨ i = 7 ∨ i = 8 := by omega
    rcases h with rfl | rfl | rfl | rfl | rfl | rfl | rfl | rfl | rfl <;> simp
theorem PS.setWk {w wr : World} {a : Nat → Bool} {k : Int} {sv : Value} (h : PS w wr a k sv) (k' : Int) : PS w (wr.setCell ⟨w.heap.size + 1, 7, none⟩ (.int .i64 k')) a k' sv := by
  have hne : w.heap.size ≠ w.heap.size + 1 := by omega
  refine ⟨fun i hi => ?_, World.cell?_setCell_same _ _ _ h.wk, ?_, by simpa using h.f7, by simpa using h.f8, fun i hi => ⟨?_, by simpa using (h.res i hi).2⟩, h.bel.setCell (Nat.le_succ _) _, by simpa using h.sz⟩
  · rw [World.cell?_setCell_other _ _ _ _ (by intro e; injection e; omega)]; exact h.day i hi
  · rw [World.cell?_setCell_other _ _ _ _ (by intro e; injection e; omega)]; exact h.sl
  · rw [World.cell?_setCell_other _ _ _ _ (by intro e; injection e; omega)]; exact (h.res i hi).1
theorem PS.setSl {w wr : World} {a : Nat → Bool} {k : Int} {sv : Value} (h : PS w wr a k sv) (sv' : Value) : PS w (wr.setCell ⟨w.heap.size + 1, 8, none⟩ sv') a k sv' := by
  have hne : w.heap.size ≠ w.heap.size + 1 := by omega
  refine ⟨fun i hi => ?_, ?_, World.cell?_setCell_same _ _ _ h.sl, by simpa using h.f7, by simpa using h.f8, fun i hi => ⟨?_, by simpa using (h.res i hi).2⟩, h.bel.setCell (Nat.le_succ _) _, by simpa using h.sz⟩
  · rw [World.cell?_setCell_other _ _ _ _ (by intro e; injection e; omega)]; exact h.day i hi
  · rw [World.cell?_setCell_other _ _ _ _ (by intro e; injection e; omega)]; exact h.wk
  · rw [World.cell?_setCell_other _ _ _ _ (by intro e; injection e; omega)]; exact (h.res i hi).1
/-- What lies below the third block stays. -/
theorem PS.keep {w wr wr' : World} {a : Nat → Bool} {k : Int} {sv : Value} (h : PS w wr a k sv) (hb : Below (w.heap.size + 2) wr wr') : PS w wr' a k sv := by
  refine ⟨fun i hi => (hb.cell (p := ⟨w.heap.size + 1, i, none⟩) (Nat.lt_succ_self _)).trans (h.day i hi), (hb.cell (p := ⟨w.heap.size + 1, 7, none⟩) (Nat.lt_succ_self _)).trans h.wk, (hb.cell (p := ⟨w.heap.size + 1, 8, none⟩) (Nat.lt_succ_self _)).trans h.sl,
    (hb.frozen (p := ⟨w.heap.size + 1, 7, none⟩) (Nat.lt_succ_self _)).trans h.f7, (hb.frozen (p := ⟨w.heap.size + 1, 8, none⟩) (Nat.lt_succ_self _)).trans h.f8,
    fun i hi => ⟨?_, (hb.frozen (p := ⟨w.heap.size, i, none⟩) (show w.heap.size < _ by omega)).trans (h.res i hi).2⟩, h.bel.trans (hb.mono (by omega)), Nat.le_trans h.sz hb.size⟩
  obtain ⟨u, hu⟩ := (h.res i hi).1
  exact ⟨u, (hb.cell (p := ⟨w.heap.size, i, none⟩) (show w.heap.size < _ by omega)).trans hu⟩

def nb (a : Nat → Bool) (i : Nat) : Bool := !a i
theorem nb_step (a : Nat → Bool) (i : Nat) : cn (nb a) (i + 1) = cn (nb a) i + (bif !a i then 1 else 0) := rfl

/-- A row in the call's own blocks. -/
def RowAt (B : Nat) (w : World) (v : Value) (xs : List Int) : Prop :=
  (v = .slice none 0 0 ∧ xs = []) ∨ ∃ g cap, v = .slice (some ⟨g, 0, none⟩) xs.length cap ∧ B ≤ g ∧ g < w.heap.size ∧ xs.length ≤ cap ∧ ∀ (j : Nat) (x : Int), xs[j]? = some x → w.cell? ⟨g, j, none⟩ = some (.int .i64 x)
theorem RowAt.row {B : Nat} {w : World} {v : Value} {xs : List Int} (h : RowAt B w v xs) : Row w v xs := by
  rcases h with h | ⟨g, cap, h1, _, h2, h3, h4⟩
  · exact .inl h
  · exact .inr ⟨g, cap, h1, h2, h3, h4⟩
theorem RowAt.set {B : Nat} {w : World} {v : Value} {xs : List Int} (h : RowAt B w v xs) (a : Addr) (ha : a.block < B) (u : Value) : RowAt B (w.setCell a u) v xs := by
  rcases h with h | ⟨g, cap, h1, hB, h2, h3, h4⟩
  · exact .inl h
  · refine .inr ⟨g, cap, h1, hB, by simpa using h2, h3, fun j x hj => ?_⟩
    rw [World.cell?_setCell_other _ _ _ _ (by intro e; rw [e] at ha; simp at ha; omega)]
    exact h4 j x hj
theorem holds_below {w w' : World} {B g : Nat} {d : Array Int} (h : Holds (Value.int .i64) w g 0 d) (hb : Below B w w') (hg : g < B) : Holds (Value.int .i64) w' g 0 d := fun j hj =>
  ⟨(hb.cell (p := ⟨g, 0 + j, none⟩) hg).trans (h j hj).1, (hb.frozen (p := ⟨g, 0 + j, none⟩) hg).trans (h j hj).2⟩
theorem below_put (B : Nat) (w : World) (n g : Nat) (d : Array Int) (hB : B ≤ g) : Below B w (putRow (Value.int .i64) (Sort.ahead w n) g 0 d) :=
  ⟨rfl, rfl, rfl, by simp, fun i hi => by
    show ((Sort.ahead w n).heap.modify g _)[i]? = _
    rw [Array.getElem?_modify, if_neg (by omega)]
    rfl⟩
theorem below_grow0 (w : World) (os : Array Obj) : Below w.heap.size w (grow w os) :=
  ⟨rfl, rfl, rfl, by first | (simp [grow]; done) | (simp [grow]; omega), fun i hi => by
    show (w.heap ++ os)[i]? = _
    rw [Array.getElem?_append_left (by omega)]⟩
def Srt (B : Nat) (w : World) (sv : Value) (zs : List Int) : Prop :=
  (sv = .slice none 0 0 ∧ zs = []) ∨ ∃ g cap, sv = .slice (some ⟨g, 0, none⟩) zs.length cap ∧ B ≤ g ∧ g < w.heap.size ∧ zs.length ≤ cap ∧ Holds (Value.int .i64) w g 0 (zs.mergeSort fun x y => decide (x ≤ y)).toArray

theorem sort_row (w wr : World) (a : Nat → Bool) (k : Int) (sv : Value) (zs : List Int) (h : PS w wr a k sv) (ho : wr.ownsRow (w.heap.size + 2) 3 1 sv zs.length (zs.map (Value.int .i64))) (hl : zs.length ≤ 100) :
    Calls Tryd.prog 47 #[sv] wr fun e w' => e = .returned (.tuple #[]) ∧ PS w w' a k sv ∧ Srt (w.heap.size + 2) w' sv zs := by
  rcases Joins.ownsRow_forms ho with ⟨rfl, h0⟩ | ⟨g, cap, rfl⟩
  · refine (Any.slices_Sort_int_none Go.Proofs.Tryd.lays189 none 0 wr).mono ?_
    rintro e w' ⟨rfl, rfl⟩
    exact ⟨rfl, h, .inl ⟨rfl, List.eq_nil_of_length_eq_zero h0⟩⟩
  · have hlt := ho.lt g rfl
    have hcap : zs.length ≤ cap := by
      rcases ho.2 with ⟨h2, _⟩ | ⟨g', cap', cur, e, _, _, hcap, _⟩
      · cases h2
      · cases e; exact hcap
    have hH : Holds (Value.int .i64) wr g 0 zs.toArray := fun j hj => by
      have hj' : j < zs.length := by simpa using hj
      refine ⟨?_, ho.frozenAt _⟩
      rw [Nat.zero_add, ho.cellAt j (by omega), getElem!_pos zs.toArray j hj]
      simp [hj']
    refine (Go.Proofs.Tryd.slices_Sort_int g 0 cap zs wr hH hlt.2 (by omega)).mono ?_
    rintro e w' ⟨rfl, n, os, rfl⟩
    have b1 := below_put (w.heap.size + 2) wr n g (zs.mergeSort fun x y => decide (x ≤ y)).toArray hlt.1
    have b2 := below_grow0 (putRow (Value.int .i64) (Sort.ahead wr n) g 0 (zs.mergeSort fun x y => decide (x ≤ y)).toArray) os
    have hs : (putRow (Value.int .i64) (Sort.ahead wr n) g 0 (zs.mergeSort fun x y => decide (x ≤ y)).toArray).heap.size = wr.heap.size := by simp
    refine ⟨rfl, h.keep (b1.trans (b2.mono (by rw [hs]; exact h.sz))), .inr ⟨g, cap, rfl, hlt.1, Nat.lt_of_lt_of_le (by rw [hs]; exact hlt.2) b2.size, hcap, ?_⟩⟩
    refine holds_below (holds_putRow (Value.int .i64) (Sort.ahead wr n) g 0 zs.toArray _ hH (by simp [List.length_mergeSort])) b2 (by rw [hs]; exact hlt.2)

theorem compact_row (w wr : World) (a : Nat → Bool) (k : Int) (sv : Value) (zs : List Int) (h : PS w wr a k sv) (ho : Srt (w.heap.size + 2) wr sv zs) (hl : zs.length ≤ 100) :
    Calls Tryd.prog 48 #[sv] wr fun e w' => ∃ sv', e = .returned sv' ∧ PS w w' a k sv ∧ RowAt (w.heap.size + 2) w' sv' (ready zs) := by
  rcases ho with ⟨rfl, rfl⟩ | ⟨g, cap, rfl, hg, hlt, hcap, hH⟩
  · refine (Go.Proofs.Tryd.slices_Compact_int_empty none 0 wr).mono ?_
    rintro e w' ⟨rfl, rfl⟩
    exact ⟨_, rfl, h, .inl ⟨rfl, by simp [ready, Lib.compact, Lib.compactUpTo]⟩⟩
  · have hls : (zs.mergeSort fun x y => decide (x ≤ y)).length = zs.length := List.length_mergeSort ..
    have hcl := Lib.compact_length_le (zs.mergeSort fun x y => decide (x ≤ y))
    have hc := Go.Proofs.Tryd.slices_Compact_int g 0 cap (zs.mergeSort fun x y => decide (x ≤ y)) wr hH (by rw [hls]; omega) (by rw [hls]; exact hcap)
    rw [hls] at hc
    refine hc.mono ?_
    rintro e w' ⟨rfl, q, rfl⟩
    refine ⟨_, rfl, h.keep (below_put (w.heap.size + 2) wr q g _ hg), .inr ⟨g, cap, rfl, hg, by simpa using hlt, by unfold ready; omega, fun j x hj => ?_⟩⟩
    have hj' : j < (ready zs).length := (List.getElem?_eq_some_iff.1 hj).1
    have hsz : (Lib.compact (zs.mergeSort fun x y => decide (x ≤ y)) ++ List.replicate (zs.length - (Lib.compact (zs.mergeSort fun x y => decide (x ≤ y))).length) (0 : Int)).toArray.size = (zs.mergeSort fun x y => decide (x ≤ y)).toArray.size := by
      simp [hls]; omega
    have := (holds_putRow (Value.int .i64) (Sort.ahead wr q) g 0 _ _ hH hsz) j (by
      have : j < (Lib.compact (zs.mergeSort fun x y => decide (x ≤ y))).length := hj'
      simp; omega)
    rw [Nat.zero_add] at this
    rw [this.1]
    congr 2
    have hjc : j < (Lib.compact (zs.mergeSort fun x y => decide (x ≤ y))).length := hj'
    rw [getElem!_pos _ j (by simp; omega)]
    simp only [List.getElem_toArray]
    rw [List.getElem_append_left hjc]
    exact (List.getElem?_eq_some_iff.1 hj).2

set_option maxHeartbeats 2000000 in
set_option maxRecDepth 10000 in
theorem plan_off (b : Nat) (off : Int → Bool) (a : Nat → Bool) (ha : ∀ i : Nat, off i = a i) (xs : List Int) (v : Value) (w : World) (h : Cal w b off xs v) (hall : (List.range 7).all a = true) :
    Calls Tryd.prog 32 #[.pointer (some ⟨b, 0, none⟩)] w fun e w' => e = .returned (planV a 0 (.slice none 0 0)) ∧ Below w.heap.size w w' := by
  have hlt := h.lt
  have c0 := (h.day 0 (by omega)).trans (congrArg some (congrArg Value.bool (ha 0)))
  have c1 := (h.day 1 (by omega)).trans (congrArg some (congrArg Value.bool (ha 1)))
  have c2 := (h.day 2 (by omega)).trans (congrArg some (congrArg Value.bool (ha 2)))
  have c3 := (h.day 3 (by omega)).trans (congrArg some (congrArg Value.bool (ha 3)))
  have c4 := (h.day 4 (by omega)).trans (congrArg some (congrArg Value.bool (ha 4)))
  have c5 := (h.day 5 (by omega)).trans (congrArg some (congrArg Value.bool (ha 5)))
  have c6 := (h.day 6 (by omega)).trans (congrArg some (congrArg Value.bool (ha 6)))
  have heq := eq7 a
  rw [hall] at heq
  clear h ha hall
  go_enter Tryd.func32, Tryd.ntmps32
  go_wp2
  exact bodyPost_ret (v := planV a 0 (.slice none 0 0)) (by simp [results, Tryd.results32, go_sem, planV]) rfl ⟨rfl, ((Below.refl _ _).alloc (Nat.le_refl _) _).alloc (by simp) _⟩
end Go.Proofs.YtpijiglmjkdlgaaDoor

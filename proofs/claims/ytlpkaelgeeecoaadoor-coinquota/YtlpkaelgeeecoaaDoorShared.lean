/-
  coin.shared: parts by weights.
-/
import Derived.Test.YtlpkaelgeeecoaaDoorInts
namespace Go.Proofs.YtlpkaelgeeecoaaDoor
open Go.RowKit Go.Sort Go.Shelf

/-- n numbers in a block of the call's own. -/
def RowF (w : World) (b n : Nat) (f : Nat → Int) : Prop := ∀ i, i < n → w.cell? ⟨b, i, none⟩ = some (.int .i64 (f i)) ∧ w.frozen? ⟨b, i, none⟩ = false
def lst (f : Nat → Int) (n : Nat) : List Int := (List.range n).map f
theorem lst_len (f : Nat → Int) (n : Nat) : (lst f n).length = n := by simp [lst]
theorem lst_at (f : Nat → Int) (n i : Nat) (x : Int) (h : (lst f n)[i]? = some x) : i < n ∧ f i = x := by
  have hi : i < n := by
    have := (List.getElem?_eq_some_iff.1 h).1
    rwa [lst_len] at this
  rw [lst, List.getElem?_map, List.getElem?_range hi] at h
  exact ⟨hi, Option.some.inj h⟩
theorem lst_mem (f : Nat → Int) (n : Nat) (x : Int) (h : x ∈ lst f n) : ∃ i, i < n ∧ f i = x := by
  obtain ⟨i, hi⟩ := List.getElem?_of_mem h
  exact ⟨i, lst_at f n i x hi⟩
theorem RowF.reads {w : World} {b n : Nat} {f : Nat → Int} (h : RowF w b n f) : Reads w b 0 (lst f n) := fun i x hx => by
  obtain ⟨hi, rfl⟩ := lst_at f n i x hx
  rw [Nat.zero_add]; exact (h i hi).1
theorem RowF.congr {w : World} {b n : Nat} {f g : Nat → Int} (h : RowF w b n f) (e : ∀ i, i < n → f i = g i) : RowF w b n g := fun i hi => by
  rw [← e i hi]; exact h i hi
theorem RowF.below {w w' : World} {B b n : Nat} {f : Nat → Int} (h : RowF w b n f) (hb : Below B w w') (hlt : b < B) : RowF w' b n f := fun i hi =>
  ⟨(hb.cell (p := ⟨b, i, none⟩) hlt).trans (h i hi).1, (hb.frozen (p := ⟨b, i, none⟩) hlt).trans (h i hi).2⟩
theorem RowF.drew {w : World} {b n : Nat} {f : Nat → Int} (h : RowF w b n f) : RowF w.drew b n f := h
theorem RowF.drewN {w : World} {b n : Nat} {f : Nat → Int} (h : RowF w b n f) (k : Nat) : RowF (w.drewN k) b n f := h
theorem frozen_set (w : World) (a p : Addr) (v : Value) : (w.setCell a v).frozen? p = w.frozen? p := by
  simp only [World.frozen?, World.setCell, Array.getElem?_modify]
  by_cases h : a.block = p.block
  · simp only [h, if_true]
    cases w.heap[p.block]? with
    | none => rfl
    | some o => cases o <;> rfl
  · simp only [h, if_false]
theorem RowF.set {w : World} {b n : Nat} {f : Nat → Int} (h : RowF w b n f) (k : Nat) (hk : k < n) (v : Int) : RowF (w.setCell ⟨b, k, none⟩ (.int .i64 v)) b n (fun j => if j = k then v else f j) := fun i hi => by
  refine ⟨?_, by rw [frozen_set]; exact (h i hi).2⟩
  show _ = some (Value.int .i64 (if i = k then v else f i))
  by_cases e : i = k
  · subst e
    rw [if_pos rfl]; exact World.cell?_setCell_same _ _ _ (h i hi).1
  · rw [if_neg e, World.cell?_setCell_other _ _ _ _ (by intro h'; injection h' with _ h2 _; omega)]; exact (h i hi).1
theorem RowF.other {w : World} {b n : Nat} {f : Nat → Int} (h : RowF w b n f) {a : Addr} (ha : a.block ≠ b) (v : Value) : RowF (w.setCell a v) b n f := fun i hi => by
  refine ⟨?_, by rw [frozen_set]; exact (h i hi).2⟩
  rw [World.cell?_setCell_other _ _ _ _ (by intro e; exact ha (by rw [e]))]; exact (h i hi).1
theorem row_new (w : World) (n : Nat) : RowF (w.alloc (.cells (Array.replicate n (.int .i64 0)) 3)) w.heap.size n (fun _ => 0) := fun i hi => by
  refine ⟨?_, World.frozen?_alloc_new _ _ _ _⟩
  rw [World.cell?_alloc_new, Array.getElem?_replicate, if_pos hi]
theorem RowF.alloc {w : World} {b n : Nat} {f : Nat → Int} (h : RowF w b n f) (hb : b < w.heap.size) (o : Obj) : RowF (w.alloc o) b n f := h.below ((Below.refl w.heap.size w).alloc (Nat.le_refl _) o) hb
theorem below_setCell_any {B : Nat} {a w : World} (h : Below B a w) {p : Addr} (hp : B ≤ p.block) (v : Value) : Below B a (w.setCell p v) := h.setCell hp v

/-- What a rounding leaves and what it takes. -/
def qf (T all : Int) (wv : Nat → Int) (i : Nat) : Int := T * wv i / all
def rf (T all : Int) (wv : Nat → Int) (i : Nat) : Int := T * wv i % all
def upTo' (k : Nat) (f : Nat → Int) (i : Nat) : Int := if i < k then f i else 0
theorem upTo_step (k : Nat) (f : Nat → Int) (j : Nat) : (if j = k then f k else upTo' k f j) = upTo' (k + 1) f j := by
  unfold upTo'
  by_cases e : j = k
  · rw [if_pos e, if_pos (by omega), e]
  · rw [if_neg e]
    by_cases h : j < k
    · rw [if_pos h, if_pos (by omega)]
    · rw [if_neg h, if_neg (by omega)]

end Go.Proofs.YtlpkaelgeeecoaaDoor

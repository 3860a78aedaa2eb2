/-
  Package reason: isOrdered.
-/
import Derived.Test.YtpijiglmjkdlgaaDoorOr1
namespace Go.Proofs.YtpijiglmjkdlgaaDoor
open Go.RowKit

/-- While pairs are gone through: how many are above each, which are below each. -/
structure Ow (w0 : World) (c3 b4 b5 R : Nat) (w : World) (lf : Nat → Int) (v : Nat → Value) (l : Nat → List Nat) : Prop where
  left : w.rowIs b4 3 R (fun j => .int .i64 (lf j))
  cel : w.heap[c3]? = some (.cells #[.slice (some ⟨b4, 0, none⟩) R R] 58 (0, 0))
  blw : w.rowIs b5 58 R v
  row : ∀ k, k < R → w.ownsRow (b5 + 1) 3 1 (v k) (l k).length (intsV (l k))
  ne : ∀ j k, j < R → k < R → j ≠ k → ∀ g, (v j).ownBlock = some g → (v k).ownBlock ≠ some g
  o1 : w0.heap.size ≤ b4
  o2 : b4 < c3
  o3 : c3 < b5
  bel : Below w0.heap.size w0 w
section
variable {w0 : World} {c3 b4 b5 R : Nat} {w : World} {lf : Nat → Int} {v : Nat → Value} {l : Nat → List Nat}
theorem Ow.lt (h : Ow w0 c3 b4 b5 R w lf v l) : b5 < w.heap.size := h.blw.lt
theorem Ow.on (h : Ow w0 c3 b4 b5 R w lf v l) {w' : World} (hb : Below w.heap.size w w') : Ow w0 c3 b4 b5 R w' lf v l := by
  have h1 := h.lt
  have h2 := h.o1
  have h3 := h.o2
  have h4 := h.o3
  exact ⟨h.left.of_block (hb.block _ (by omega)), (hb.block _ (by omega)).trans h.cel, h.blw.of_block (hb.block _ h1), fun k hk => row_stepO (h.row k hk) fun g _ hl => hb.block g hl, h.ne, h.o1, h.o2, h.o3, h.bel.trans (hb.mono (by omega))⟩
theorem Ow.inc (h : Ow w0 c3 b4 b5 R w lf v l) (r : Nat) (u : Int) {lf' : Nat → Int} (hl : ∀ j, lf' j = if j = r then u else lf j) : Ow w0 c3 b4 b5 R (w.setCell ⟨b4, r, none⟩ (.int .i64 u)) lf' v l := by
  have h1 := h.o1
  have h2 := h.o2
  have h3 := h.o3
  have hb : ∀ b, b ≠ b4 → (w.setCell ⟨b4, r, none⟩ (.int .i64 u)).heap[b]? = w.heap[b]? := fun b hb => Below.heap_setCell _ _ _ _ hb
  refine ⟨(h.left.set r _).congr fun j _ => ?_, (hb c3 (by omega)).trans h.cel, h.blw.of_block (hb b5 (by omega)), fun k hk => row_stepO (h.row k hk) fun g hg _ => hb g (by have := (row_blkO (h.row k hk) hg).1; omega), h.ne, h.o1, h.o2, h.o3, h.bel.setCell (p := ⟨b4, r, none⟩) h1 _⟩
  show (if j = r then Value.int .i64 u else .int .i64 (lf j)) = .int .i64 (lf' j)
  rw [hl j]
  split <;> rfl
theorem Ow.after (h : Ow w0 c3 b4 b5 R w lf v l) {k : Nat} (hk : k < R) {W w' : World} (hW : Below w.heap.size w W) (hg : W.grownBy w' (v k).ownBlock) (b : Nat) (hb : b < w.heap.size) (hn : ∀ cur, w.heap[b]? ≠ some (.cells cur 3 (0, 0))) : w'.heap[b]? = w.heap[b]? := by
  rw [hg.block b (Nat.lt_of_lt_of_le hb hW.size) (fun e => ?_)]
  · exact hW.block b hb
  · rcases (h.row k hk).2 with ⟨e1, _⟩ | ⟨g, cap, cur, e1, _, hgg, _⟩
    · rw [e1] at e; cases e
    · rw [e1] at e
      injection e with e
      have e : b = g := e
      subst e
      exact hn cur hgg
theorem Ow.push (h : Ow w0 c3 b4 b5 R w lf v l) {W w' : World} {k i : Nat} (hk : k < R) {v' : Value} (hW : Below w.heap.size w W)
    (ho : w'.ownsRow (b5 + 1) 3 1 v' ((l k).length + 1) (intsV (l k) ++ [.int .i64 (i : Int)])) (hg : W.grownBy w' (v k).ownBlock) (hw : v'.ownBlock = (v k).ownBlock ∨ v'.ownBlock = some W.heap.size) :
    Ow w0 c3 b4 b5 R (w'.setCell ⟨b5, k, none⟩ v') lf (updO v k v') (updO l k (l k ++ [i])) := by
  have h1 := h.lt
  have h2 := h.o1
  have h3 := h.o2
  have h4 := h.o3
  have hWs := hW.size
  have hnk : ∀ g, (v k).ownBlock = some g → b5 + 1 ≤ g ∧ g < w.heap.size := fun g e => row_blkO (h.row k hk) e
  have hkeep : ∀ b, b < w.heap.size → (v k).ownBlock ≠ some b → w'.heap[b]? = w.heap[b]? := fun b hb hne => by
    rw [hg.block b (by omega) (fun e => hne e.symm)]
    exact hW.block b hb
  have hlow : ∀ b, b ≤ b5 → w'.heap[b]? = w.heap[b]? := fun b hb => hkeep b (by omega) fun e => by have := hnk _ e; omega
  have hset : ∀ b, b ≠ b5 → (w'.setCell ⟨b5, k, none⟩ v').heap[b]? = w'.heap[b]? := fun b e => Below.heap_setCell _ _ _ _ e
  refine ⟨h.left.of_block ((hset b4 (by omega)).trans (hlow b4 (by omega))), ((hset c3 (by omega)).trans (hlow c3 (by omega))).trans h.cel, ((h.blw.of_block (hlow b5 (Nat.le_refl _))).set k v').congr fun j _ => rfl, ?_, ?_, h.o1, h.o2, h.o3, ?_⟩
  · intro j hj
    have hv'b := fun g (e : v'.ownBlock = some g) => row_blkO ho e
    by_cases e : j = k
    · subst e
      have e1 : updO v j v' j = v' := by unfold updO; rw [if_pos rfl]
      have e2 : updO l j (l j ++ [i]) j = l j ++ [i] := by unfold updO; rw [if_pos rfl]
      rw [e1, e2, intsV_app, List.length_append]
      exact row_stepO ho fun g hg' _ => hset g (by have := (hv'b g hg').1; omega)
    · have e1 : updO v k v' j = v j := by unfold updO; rw [if_neg e]
      have e2 : updO l k (l k ++ [i]) j = l j := by unfold updO; rw [if_neg e]
      rw [e1, e2]
      refine row_stepO (h.row j hj) fun g hg' hl => ?_
      have hb := row_blkO (h.row j hj) hg'
      rw [hset g (by omega)]
      exact hkeep g hl fun e3 => h.ne j k hj hk e g hg' e3
  · intro a b ha hb hab g hga hgb
    have far : ∀ j, j < R → j ≠ k → ∀ g, (v j).ownBlock = some g → v'.ownBlock ≠ some g := fun j hj hjk g e1 e2 => by
      have hb := row_blkO (h.row j hj) e1
      rcases hw with e3 | e3
      · rw [e3] at e2
        exact h.ne j k hj hk hjk g e1 e2
      · rw [e3] at e2
        injection e2 with e2
        omega
    unfold updO at hga hgb
    by_cases e1 : a = k
    · rw [if_pos e1] at hga
      rw [if_neg (fun e => hab (e1.trans e.symm))] at hgb
      exact far b hb (fun e => hab (e1.trans e.symm)) g hgb hga
    · rw [if_neg e1] at hga
      by_cases e2 : b = k
      · rw [if_pos e2] at hgb
        exact far a ha e1 g hga hgb
      · rw [if_neg e2] at hgb
        exact h.ne a b ha hb hab g hga hgb
  · have hb2 : Below w0.heap.size w0 w' := by
      refine ⟨hg.os.trans (hW.os.trans h.bel.os), hg.tape.trans (hW.tape.trans h.bel.tape), hg.output.trans (hW.output.trans h.bel.output), Nat.le_trans h.bel.size (Nat.le_trans hWs hg.size), fun b hb => ?_⟩
      rw [hlow b (by omega)]
      exact h.bel.block b hb
    exact hb2.setCell (p := ⟨b5, k, none⟩) (by show _ ≤ b5; omega) v'
/-- All pairs are gone through; nothing is aside. -/
theorem Ow.od (h : Ow w0 c3 b4 b5 R w lf v l) {l' : Nat → List Nat} (hl : ∀ k, k < R → l k = l' k) : Od w0 c3 b4 b5 w.heap.size R v l' (w.alloc (.cells #[.slice none 0 0] 58)) lf [] := by
  have hb : Below w.heap.size w (w.alloc (.cells #[.slice none 0 0] 58)) := (Below.refl _ _).alloc (Nat.le_refl _) _
  have h' := h.on hb
  refine ⟨h'.left, h'.cel, h'.blw, fun k hk => ?_, ⟨_, blk_newO _ _, World.ownsRow_nil _ _ _ _⟩, h.o1, h.o2, h.o3, h.lt, h'.bel⟩
  rw [← hl k hk]
  obtain ⟨a, c, e⟩ := row_anyO (h.row k hk)
  refine ⟨a, c, e, fun j x hj => ?_⟩
  have h9 := h'.row k hk
  have h8 := h.row k hk
  rw [e] at h9 h8
  rcases h8.2 with ⟨_, h0⟩ | ⟨g, cap, cur, e1, hb5, hgg, _⟩
  · have := (List.getElem?_eq_some_iff.1 hj).1
    omega
  · injection e1 with e1 _ _
    refine ⟨g, e1, by omega, (Array.getElem?_eq_some_iff.1 hgg).1, ?_⟩
    subst e1
    have hc := World.ownsRow.cells h9 (g := g) rfl j (.int .i64 (x : Int)) (by unfold intsV; rw [List.getElem?_map, hj]; rfl)
    have h6 : (⟨g, 0, none⟩ : Addr).add j = ⟨g, j, none⟩ := by
      unfold Addr.add
      split
      · rename_i h0
        rw [h0]
      · simp
    rw [h6] at hc
    exact hc
end
def lfO (T : Thy) (o b : Nat) : Int := (((prs T).take o).countP (fun x => x.2 == b) : Nat)
def lO (T : Thy) (o a : Nat) : List Nat := (((prs T).take o).filter (fun x => x.1 == a)).map (·.2)
theorem prs_get {T : Thy} {o : Nat} {x : Int × Int} (h : T.over[o]? = some x) : (prs T)[o]? = some (x.1.toNat, x.2.toNat) := by unfold prs; rw [List.getElem?_map, h]; rfl
theorem lfO_next {T : Thy} {o A B : Nat} (h : (prs T)[o]? = some (A, B)) (j : Nat) : lfO T (o + 1) j = if j = B then lfO T o B + 1 else lfO T o j := by
  obtain ⟨hj, e⟩ := List.getElem?_eq_some_iff.1 h
  unfold lfO
  rw [List.take_succ_eq_append_getElem hj, e, List.countP_append]
  by_cases hb : j = B
  · subst hb; simp
  · rw [if_neg hb]
    have : (B == j) = false := by simp; exact fun e => hb e.symm
    simp [this]
theorem lO_next {T : Thy} {o A B : Nat} (h : (prs T)[o]? = some (A, B)) (a : Nat) : lO T (o + 1) a = updO (lO T o) A (lO T o A ++ [B]) a := by
  obtain ⟨hj, e⟩ := List.getElem?_eq_some_iff.1 h
  unfold lO updO
  rw [List.take_succ_eq_append_getElem hj, e, List.filter_append, List.map_append]
  by_cases ha : a = A
  · subst ha; simp
  · rw [if_neg ha]
    have : (A == a) = false := by simp; exact fun e => ha e.symm
    simp [this]
theorem lO_len (T : Thy) (o a : Nat) : (lO T o a).length ≤ T.over.length := by
  unfold lO
  rw [List.length_map]
  have h1 := List.length_filter_le (fun x : Nat × Nat => x.1 == a) ((prs T).take o)
  have h2 : ((prs T).take o).length ≤ (prs T).length := by rw [List.length_take]; omega
  have h3 : (prs T).length = T.over.length := by unfold prs; simp
  omega
theorem lfO_le (T : Thy) (o b : Nat) : 0 ≤ lfO T o b ∧ lfO T o b ≤ T.over.length := by
  unfold lfO
  have h1 := List.countP_le_length (l := (prs T).take o) (p := fun x => x.2 == b)
  have h2 : ((prs T).take o).length ≤ (prs T).length := by rw [List.length_take]; omega
  have h3 : (prs T).length = T.over.length := by unfold prs; simp
  omega
theorem lfO_end (T : Thy) (b : Nat) : lfO T T.over.length b = cntA T [] b := by
  unfold lfO cntA
  rw [List.take_of_length_le (by unfold prs; simp)]
  simp
theorem lO_end (T : Thy) (a : Nat) : lO T T.over.length a = blwL T a := by
  unfold lO blwL
  rw [List.take_of_length_le (by unfold prs; simp)]
theorem make_ints (n : Nat) (hn : n ≤ 100000) (w : World) : (Instr.makeSlice 58 (.int .i64 (n : Int)) (.int .i64 (n : Int))).run Tryd.prog w = .ok (.slice (some ⟨w.heap.size, 0, none⟩) n n) (w.alloc (.cells (madeCells #[.int .i64 0] n) 3)) :=
  run_make_row' 58 3 (.int .i64 0) 8 Tryd.underlying58 (by kernel_rfl) rfl .i64 .i64 n (by omega) (by omega) w
theorem make_rows (n : Nat) (hn : n ≤ 100000) (w : World) : (Instr.makeSlice 101 (.int .i64 (n : Int)) (.int .i64 (n : Int))).run Tryd.prog w = .ok (.slice (some ⟨w.heap.size, 0, none⟩) n n) (w.alloc (.cells (madeCells #[.slice none 0 0] n) 58)) :=
  run_make_row' 101 58 (.slice none 0 0) 24 Tryd.underlying101 (by kernel_rfl) rfl .i64 .i64 n (by omega) (by omega) w
end Go.Proofs.YtpijiglmjkdlgaaDoor

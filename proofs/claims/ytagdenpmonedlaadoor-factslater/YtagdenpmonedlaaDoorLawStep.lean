/-
  'append' as a step of a region that draws; a new item at the end of a row.
-/
import Derived.Test.YtagdenpmonedlaaDoorLawMem
import Derived.Deep.RegionLaw
import Derived.Deep.DeepCutAuto
namespace Go.Proofs.YtagdenpmonedlaaDoor
open Go.RowKit Go.Extern.Stop Go.Stop Go.Extern

theorem step_append_where {P : Program} {ops : Array Oper} {o : Oper} {a : Act} {w : World} {K : Act → World → Prop} {Q : Exit → Act → World → Prop} {E : Prop}
    (hgd : o.guard = none) (s x : Operand) (t : TypeId) (ho : o.op = Op.call { callee := Callee.builtin Builtin.append, args := #[s, x], argTypes := #[t, t] })
    (B : Nat) (e : TypeId) (i : TypeInfo) (z : Value) (size bytes : Nat) (ht : P.underlying t = some (.slice e)) (hi : P.info? e = some i) (hz : i.zero = some z) (hsize : i.size = size) (hby : i.bytes = bytes) (hzs : z.cells.size = size) (hsz : 0 < size)
    (v : Value) (n : Nat) (xs : List Value) (hs : a.eval s = v) (hown : w.ownsRow B e size v n xs)
    (ad : Addr) (m c : Nat) (news : List Value) (hx : a.eval x = .slice (some ad) m c) (hl : news.length = m * size) (hnews : ∀ j u, news[j]? = some u → w.cell? (ad.add j) = some u) (h1 : ∀ u ∈ news, u.oneCell' = true) (hm : 0 < m)
    (h63 : n + m ≤ maxLen) (hbytes : (n + m) * bytes ≤ 140737488355328) (hbase : B ≤ w.heap.size)
    (hK : ∀ v' w', w'.ownsRow B e size v' (n + m) (xs ++ news) → w.grownBy w' v.ownBlock → (v'.ownBlock = v.ownBlock ∨ v'.ownBlock = some w.heap.size) → K (a.put o.dst v') w') :
    if Region.wanted o (yielded ops a.tmps) = true then Oper.wp P o a w K Q else E := by
  have hw : Region.wanted o (yielded ops a.tmps) = true := by simp [Region.wanted, hgd]
  rw [if_pos hw]
  obtain ⟨v', w', hr, h2, h3, h4⟩ := run_append_own (P := P) w B t o.type e i z size bytes ht hi hz hsize hby hzs hsz v n xs hown ad m c news hl hnews h1 h63 hbytes hbase
  have h5 := append_where (P := P) w B t o.type e i z size bytes ht hi hz hsize hby v n xs hown ad m c news hl hnews h1 hm h63 hbytes v' w' hr
  unfold Oper.wp
  simp [execOp, ho, resolve, invoke, builtin, hs, hx, hr, Result.andThen]
  exact hK v' w' h2 h3 h5
/-- Four cells, one behind the other. -/
def set4 (w : World) (g o : Nat) (x : Nat → Value) : World := (((w.setCell ⟨g, o, none⟩ (x 0)).setCell ⟨g, o + 1, none⟩ (x 1)).setCell ⟨g, o + 2, none⟩ (x 2)).setCell ⟨g, o + 3, none⟩ (x 3)
theorem set4_flat (V : Nat → Nat → Value) (n : Nat) (a0 a1 a2 a3 : Value) (x : Nat → Value) : ((((flat4 V n ++ [a0, a1, a2, a3]).set (n * 4) (x 0)).set (n * 4 + 1) (x 1)).set (n * 4 + 2) (x 2)).set (n * 4 + 3) (x 3) = flat4 V n ++ [x 0, x 1, x 2, x 3] := by
  have h : ∀ k, k = n * 4 → ∀ l : List Value, l.length = k → (((((l ++ [a0, a1, a2, a3]).set k (x 0)).set (k + 1) (x 1)).set (k + 2) (x 2)).set (k + 3) (x 3)) = l ++ [x 0, x 1, x 2, x 3] := by
    intro k _ l hl
    subst hl
    simp
  exact h (n * 4) rfl (flat4 V n) (flat4_len V n)
theorem fill4 {W1 W2 : World} {B e g n cap : Nat} {V : Nat → Nat → Value} {a0 a1 a2 a3 : Value} {row : Option Nat} (ho : W2.ownsRow B e 4 (.slice (some ⟨g, 0, none⟩) (n + 1) cap) (n + 1) (flat4 V n ++ [a0, a1, a2, a3])) (hg : W1.grownBy W2 row) (hw : some g = row ∨ W1.heap.size ≤ g) (x : Nat → Value) :
    (set4 W2 g (n * 4) x).ownsRow B e 4 (.slice (some ⟨g, 0, none⟩) (n + 1) cap) (n + 1) (flat4 V n ++ [x 0, x 1, x 2, x 3]) ∧ W1.grownBy (set4 W2 g (n * 4) x) row := by
  have h1 := ho.stored (n * 4) (x 0)
  have h2 := h1.1.stored (n * 4 + 1) (x 1)
  have h3 := h2.1.stored (n * 4 + 2) (x 2)
  have h4 := h3.1.stored (n * 4 + 3) (x 3)
  rw [set4_flat] at h4
  refine ⟨h4.1, ?_⟩
  have hs : ∀ {A C : World}, W1.grownBy A row → A.grownBy C (some g) → W1.grownBy C row := fun ha hc => by
    refine ⟨hc.os.trans ha.os, hc.tape.trans ha.tape, hc.output.trans ha.output, Nat.le_trans ha.size hc.size, fun k hk hr => ?_⟩
    rw [hc.block k (Nat.lt_of_lt_of_le hk ha.size) ?_, ha.block k hk hr]
    intro e
    injection e with e
    rcases hw with hw | hw
    · exact hr (by rw [e]; exact hw)
    · omega
  exact hs (hs (hs (hs hg h1.2) h2.2) h3.2) h4.2
theorem fill4_cell {W2 : World} {B e g n cap : Nat} {xs : List Value} (ho : W2.ownsRow B e 4 (.slice (some ⟨g, 0, none⟩) (n + 1) cap) (n + 1) xs) (j : Nat) (hj : j < (n + 1) * 4) : ∃ u, W2.cell? ⟨g, j, none⟩ = some u := by
  rw [ho.cellAt j hj]
  exact ⟨_, List.getElem?_eq_getElem (by rw [ho.1]; exact hj)⟩
theorem setCell_comm (w : World) (a b : Addr) (u v : Value) (h : a.block ≠ b.block) : (w.setCell a u).setCell b v = (w.setCell b v).setCell a u := by
  unfold World.setCell
  simp only [World.mk.injEq, and_true]
  apply Array.ext_getElem?
  intro k
  simp only [Array.getElem?_modify]
  by_cases h1 : a.block = k
  · by_cases h2 : b.block = k
    · exact absurd (h1.trans h2.symm) h
    · simp [h1, h2]
  · by_cases h2 : b.block = k
    · simp [h1, h2]
    · simp [h1, h2]
theorem set4_comm (w : World) (g o : Nat) (x : Nat → Value) (a : Addr) (u : Value) (h : a.block ≠ g) : set4 (w.setCell a u) g o x = (set4 w g o x).setCell a u := by
  unfold set4
  rw [setCell_comm _ a _ _ _ h, setCell_comm _ a _ _ _ h, setCell_comm _ a _ _ _ h, setCell_comm _ a _ _ _ h]
/-- The same memory. -/
structure LikeW (w' w : World) : Prop where
  os : w'.os = w.os
  tape : w'.tape = w.tape
  output : w'.output = w.output
  heap : w'.heap = w.heap
theorem LikeW.refl (w : World) : LikeW w w := ⟨rfl, rfl, rfl, rfl⟩
theorem LikeW.bel {w' w : World} (h : LikeW w' w) (B : Nat) : Below B w w' := ⟨h.os, h.tape, h.output, by rw [h.heap]; exact Nat.le_refl _, fun k _ => by rw [h.heap]⟩
theorem LikeW.set {w' w : World} (h : LikeW w' w) (a : Addr) (u : Value) : LikeW (w'.setCell a u) (w.setCell a u) := ⟨h.os, h.tape, h.output, by unfold World.setCell; simp only [h.heap]⟩
theorem LikeW.cell {w' w : World} (h : LikeW w' w) (a : Addr) : w'.cell? a = w.cell? a := World.cell?_of_block (by rw [h.heap])
theorem LikeW.frz {w' w : World} (h : LikeW w' w) (a : Addr) : w'.frozen? a = w.frozen? a := World.frozen?_of_block (by rw [h.heap])
def vec4 (a b c d : Value) : Nat → Value
  | 0 => a
  | 1 => b
  | 2 => c
  | _ => d
theorem set4_other (w : World) (g o : Nat) (x : Nat → Value) (a : Addr) (h : a.block ≠ g) : (set4 w g o x).cell? a = w.cell? a ∧ (set4 w g o x).frozen? a = w.frozen? a := by
  have hb : (set4 w g o x).heap[a.block]? = w.heap[a.block]? := by
    unfold set4
    rw [Below.heap_setCell _ _ _ _ h, Below.heap_setCell _ _ _ _ h, Below.heap_setCell _ _ _ _ h, Below.heap_setCell _ _ _ _ h]
  exact ⟨World.cell?_of_block hb, World.frozen?_of_block hb⟩
theorem set_other (w : World) (b a : Addr) (u : Value) (h : a.block ≠ b.block) : (w.setCell b u).cell? a = w.cell? a ∧ (w.setCell b u).frozen? a = w.frozen? a :=
  ⟨World.cell?_of_block (Below.heap_setCell _ _ _ _ h), World.frozen?_of_block (Below.heap_setCell _ _ _ _ h)⟩
/-- A block that is not the row's own is as it was. -/
theorem grown_cell {w W w' : World} {row : Option Nat} (hA : Below w.heap.size w W) (hg : W.grownBy w' row) {a : Addr} (hl : a.block < w.heap.size) (hne : some a.block ≠ row) : w'.cell? a = w.cell? a ∧ w'.frozen? a = w.frozen? a := by
  have h1 : w'.heap[a.block]? = w.heap[a.block]? := by rw [hg.block a.block (Nat.lt_of_lt_of_le hl hA.size) hne, hA.block a.block hl]
  exact ⟨World.cell?_of_block h1, World.frozen?_of_block h1⟩
theorem own_ne {W : World} {v v' : Value} {w : World} (hA : Below w.heap.size w W) (hw : v'.ownBlock = v.ownBlock ∨ v'.ownBlock = some W.heap.size) {k : Nat} (hk : k < w.heap.size) (hne : some k ≠ v.ownBlock) : v'.ownBlock ≠ some k := by
  intro e
  rcases hw with h | h
  · exact hne (by rw [← h, e])
  · rw [h] at e; injection e with e; have := hA.size; omega
end Go.Proofs.YtagdenpmonedlaaDoor

/-
  Memory, for the texts of explanations: small laws. No walk.
-/
import Derived.Test.YtfnlcblalieolaaDoorWtPl
import Derived.Test.YtfnlcblalieolaaDoorProg
import Derived.WalkKit
import Derived.Below
import Derived.Outline
import Derived.Laws.OwnMore
import Derived.OneCell
import Derived.Deep.OwnRows
import Derived.Deep.QuietTactic
import Derived.BigQuiet
import Derived.Deep.RegionLaw
import Derived.Deep.DeepCutAuto
namespace Go.Proofs.YtfnlcblalieolaaDoor
open Go.RowKit

theorem hidLL {p : Prop} (h : p) : Hid p := h
theorem retB {a b : Bool} (h : a = b) : Ending.returned (.bool a) = .returned (.bool b) := by rw [h]
theorem retI {k : IntKind} {a b : Int} (h : a = b) : Ending.returned (.int k a) = .returned (.int k b) := by rw [h]
theorem bdrewN {B : Nat} {a w : World} (h : Below B a w) : ∀ n, Below B a (w.drewN n) := fun _ => ⟨h.os, h.tape, h.output, h.size, h.block⟩
theorem cell_lt {w : World} {b i : Nat} {v : Value} (h : w.cell? ⟨b, i, none⟩ = some v) : b < w.heap.size := World.block_lt_of_cell? w ⟨b, i, none⟩ h
/-- Only some blocks have changed, and there may be new ones. -/
structure Chg (X : List Nat) (w w' : World) : Prop where
  os : w'.os = w.os
  tape : w'.tape = w.tape
  output : w'.output = w.output
  size : w.heap.size ≤ w'.heap.size
  block : ∀ k, k < w.heap.size → k ∉ X → w'.heap[k]? = w.heap[k]?
theorem Chg.refl (X : List Nat) (w : World) : Chg X w w := ⟨rfl, rfl, rfl, Nat.le_refl _, fun _ _ _ => rfl⟩
theorem Chg.trans {X : List Nat} {a b c : World} (h : Chg X a b) (k : Chg X b c) : Chg X a c :=
  ⟨k.os.trans h.os, k.tape.trans h.tape, k.output.trans h.output, Nat.le_trans h.size k.size, fun i hi hx => (k.block i (Nat.lt_of_lt_of_le hi h.size) hx).trans (h.block i hi hx)⟩
theorem Chg.mono {X Y : List Nat} {a b : World} (h : Chg X a b) (hs : ∀ k, k ∈ X → k ∈ Y) : Chg Y a b := ⟨h.os, h.tape, h.output, h.size, fun i hi hx => h.block i hi fun e => hx (hs i e)⟩
theorem Chg.drewN {X : List Nat} {a b : World} (h : Chg X a b) (n : Nat) : Chg X a (b.drewN n) := ⟨h.os, h.tape, h.output, h.size, h.block⟩
theorem Chg.drew {X : List Nat} {a b : World} (h : Chg X a b) : Chg X a b.drew := ⟨h.os, h.tape, h.output, h.size, h.block⟩
theorem Chg.of_below {X : List Nat} {a b : World} (h : Below a.heap.size a b) : Chg X a b := ⟨h.os, h.tape, h.output, h.size, fun i hi _ => h.block i hi⟩
theorem Chg.alloc {X : List Nat} {a b : World} (h : Chg X a b) (o : Obj) : Chg X a (b.alloc o) := h.trans (Chg.of_below ((Below.refl _ _).alloc (Nat.le_refl _) o))
theorem Chg.setCell {X : List Nat} {a b : World} (h : Chg X a b) {p : Addr} (hp : p.block ∈ X) (u : Value) : Chg X a (b.setCell p u) :=
  h.trans ⟨rfl, rfl, rfl, by simp, fun k _ hx => Below.heap_setCell _ _ _ _ (fun e => hx (e ▸ hp))⟩
theorem Chg.below {X : List Nat} {B : Nat} {a b : World} (h : Chg X a b) (hB : B ≤ a.heap.size) (hx : ∀ k, k ∈ X → B ≤ k) : Below B a b := ⟨h.os, h.tape, h.output, h.size, fun k hk => h.block k (by omega) fun e => by have := hx k e; omega⟩
theorem Chg.cell {X : List Nat} {a b : World} (h : Chg X a b) {p : Addr} (h1 : p.block < a.heap.size) (h2 : p.block ∉ X) : b.cell? p = a.cell? p := World.cell?_of_block (h.block _ h1 h2)
theorem Chg.frozen {X : List Nat} {a b : World} (h : Chg X a b) {p : Addr} (h1 : p.block < a.heap.size) (h2 : p.block ∉ X) : b.frozen? p = a.frozen? p := World.frozen?_of_block (h.block _ h1 h2)

theorem row_step {w w' : World} {B e s : Nat} {v : Value} {n : Nat} {xs : List Value} (h : w.ownsRow B e s v n xs) (hk : ∀ g, v.ownBlock = some g → g < w.heap.size → w'.heap[g]? = w.heap[g]?) : w'.ownsRow B e s v n xs := by
  refine ⟨h.1, ?_⟩
  rcases h.2 with hn | ⟨g, cap, cur, rfl, hb, hgg, rest⟩
  · exact .inl hn
  · exact .inr ⟨g, cap, cur, rfl, hb, (hk g rfl (Array.getElem?_eq_some_iff.1 hgg).1).trans hgg, rest⟩
theorem row_any {w : World} {B e s : Nat} {v : Value} {n : Nat} {xs : List Value} (h : w.ownsRow B e s v n xs) : ∃ a cap, v = .slice a n cap := by
  rcases h.2 with ⟨rfl, rfl⟩ | ⟨g, cap, cur, rfl, _⟩
  · exact ⟨_, _, rfl⟩
  · exact ⟨_, _, rfl⟩
theorem blk_new (w : World) (o : Obj) : (w.alloc o).heap[w.heap.size]? = some o := Go.Deep.blk_alloc_new _ _
theorem blk_kept {X : List Nat} {w w' : World} (h : Chg X w w') {k : Nat} {o : Obj} (hb : w.heap[k]? = some o) (hx : k ∉ X) : w'.heap[k]? = some o := by
  have hk : k < w.heap.size := by
    rcases Nat.lt_or_ge k w.heap.size with h1 | h1
    · exact h1
    · rw [Array.getElem?_eq_none h1] at hb; cases hb
  rw [h.block k hk hx, hb]
theorem blk_lt {w : World} {k : Nat} {o : Obj} (hb : w.heap[k]? = some o) : k < w.heap.size := by
  rcases Nat.lt_or_ge k w.heap.size with h1 | h1
  · exact h1
  · rw [Array.getElem?_eq_none h1] at hb; cases hb
theorem row_blk {w : World} {B e s : Nat} {v : Value} {n : Nat} {xs : List Value} (h : w.ownsRow B e s v n xs) {g : Nat} (hg : v.ownBlock = some g) : B ≤ g ∧ g < w.heap.size := by
  rcases h.2 with ⟨rfl, rfl⟩ | ⟨g', cap, cur, rfl, hb, hgg, _⟩
  · cases hg
  · injection hg with hg
    subst hg
    exact ⟨hb, (Array.getElem?_eq_some_iff.1 hgg).1⟩
def clmC : List Clm → List Value
  | [] => []
  | x :: l => .bool x.1 :: .bool x.2.1 :: .int .i64 x.2.2 :: clmC l
theorem clmC_len : ∀ l : List Clm, (clmC l).length = l.length * 3
  | [] => rfl
  | x :: l => by rw [clmC, List.length_cons, List.length_cons, List.length_cons, clmC_len l, List.length_cons]; omega
theorem clmC_app : ∀ (a b : List Clm), clmC (a ++ b) = clmC a ++ clmC b
  | [], b => rfl
  | x :: a, b => by rw [List.cons_append, clmC, clmC, clmC_app a b]; rfl
theorem clmC_get : ∀ (l : List Clm) (i : Nat) (x : Clm), l[i]? = some x → (clmC l)[i * 3]? = some (.bool x.1) ∧ (clmC l)[i * 3 + 1]? = some (.bool x.2.1) ∧ (clmC l)[i * 3 + 2]? = some (.int .i64 x.2.2)
  | a :: l, 0, x, h => by
    obtain rfl : a = x := by simpa using h
    exact ⟨rfl, rfl, rfl⟩
  | a :: l, i + 1, x, h => by
    have := clmC_get l i x (by simpa using h)
    rw [clmC, show (i + 1) * 3 = i * 3 + 1 + 1 + 1 by omega]
    simpa using this
theorem clmC_one : ∀ (l : List Clm) (u : Value), u ∈ clmC l → u.oneCell' = true
  | [], u, h => by cases h
  | x :: l, u, h => by
    rw [clmC, List.mem_cons, List.mem_cons, List.mem_cons] at h
    rcases h with rfl | rfl | rfl | h
    · rfl
    · rfl
    · rfl
    · exact clmC_one l u h
theorem alloc_cellC (W : World) (cs : List Value) (T j : Nat) (u : Value) (h : cs[j]? = some u) : (W.alloc (.cells cs.toArray T)).cell? ((⟨W.heap.size, 0, none⟩ : Addr).add j) = some u := by
  have h6 : (⟨W.heap.size, 0, none⟩ : Addr).add j = ⟨W.heap.size, j, none⟩ := by
    unfold Addr.add
    split
    · rename_i h0
      rw [h0]
    · simp
  rw [h6, cell_of_row _ _ j cs.toArray T (0, 0) (Go.Deep.blk_alloc_new W _)]
  simpa using h
/-- Steps that can be read at a slice, in blocks below B. -/
def SRd (w : World) (B : Nat) (v : Value) (l : List Clm) : Prop :=
  ∃ a c, v = .slice a l.length c ∧ l.length ≤ 8796093022208 ∧ ∀ j x, l[j]? = some x → ∃ g o, a = some ⟨g, o, none⟩ ∧ g < B ∧ w.cell? ⟨g, o + j * 3, none⟩ = some (.bool x.1) ∧ w.cell? ⟨g, o + j * 3 + 1, none⟩ = some (.bool x.2.1) ∧ w.cell? ⟨g, o + j * 3 + 2, none⟩ = some (.int .i64 x.2.2)
theorem SRd.on {w w' : World} {B : Nat} {v : Value} {l : List Clm} (h : SRd w B v l) (hb : ∀ k, k < B → w'.heap[k]? = w.heap[k]?) : SRd w' B v l := by
  obtain ⟨a, c, e, hl, hx⟩ := h
  refine ⟨a, c, e, hl, fun j x hj => ?_⟩
  obtain ⟨g, o, h1, h2, h3, h4, h5⟩ := hx j x hj
  exact ⟨g, o, h1, h2, (World.cell?_of_block (a := ⟨g, o + j * 3, none⟩) (hb g h2)).trans h3, (World.cell?_of_block (a := ⟨g, o + j * 3 + 1, none⟩) (hb g h2)).trans h4, (World.cell?_of_block (a := ⟨g, o + j * 3 + 2, none⟩) (hb g h2)).trans h5⟩
theorem SRd.at {w : World} {B n c : Nat} {a : Option Addr} {l : List Clm} (h : SRd w B (.slice a n c) l) {j : Nat} {x : Clm} (hj : l[j]? = some x) : ∃ g o, a = some ⟨g, o, none⟩ ∧ g < B ∧ w.cell? ⟨g, o + j * 3, none⟩ = some (.bool x.1) ∧ w.cell? ⟨g, o + j * 3 + 1, none⟩ = some (.bool x.2.1) ∧ w.cell? ⟨g, o + j * 3 + 2, none⟩ = some (.int .i64 x.2.2) := by
  obtain ⟨a', c', e, _, hx⟩ := h
  injection e with e1 _ _
  subst e1
  exact hx j x hj
theorem srd_own {w : World} {lo t : Nat} {v : Value} {l : List Clm} (h : w.ownsRow lo t 3 v l.length (clmC l)) (hl : l.length ≤ 8796093022208) : SRd w w.heap.size v l := by
  obtain ⟨a, c, e⟩ := row_any h
  refine ⟨a, c, e, hl, fun j x hj => ?_⟩
  subst e
  rcases h.2 with ⟨_, h0⟩ | ⟨g, cap, cur, e1, _, hgg, _⟩
  · have := (List.getElem?_eq_some_iff.1 hj).1
    omega
  · injection e1 with e1 _ _
    subst e1
    obtain ⟨p1, p2, p3⟩ := clmC_get l j x hj
    have c1 := World.ownsRow.cells h (g := g) rfl (j * 3) _ p1
    have c2 := World.ownsRow.cells h (g := g) rfl (j * 3 + 1) _ p2
    have c3 := World.ownsRow.cells h (g := g) rfl (j * 3 + 2) _ p3
    have ad : ∀ j, (⟨g, 0, none⟩ : Addr).add j = ⟨g, j, none⟩ := fun j => by
      unfold Addr.add
      split
      · rename_i h0
        rw [h0]
      · simp
    rw [ad] at c1 c2 c3
    exact ⟨g, 0, rfl, (Array.getElem?_eq_some_iff.1 hgg).1, by rw [Nat.zero_add]; exact c1, by rw [Nat.zero_add]; exact c2, by rw [Nat.zero_add]; exact c3⟩
theorem SRd.mono {w : World} {B B' : Nat} {v : Value} {l : List Clm} (h : SRd w B v l) (hB : B ≤ B') : SRd w B' v l := by
  obtain ⟨a, c, e, hl, hx⟩ := h
  refine ⟨a, c, e, hl, fun j x hj => ?_⟩
  obtain ⟨g, o, h1, h2, h3⟩ := hx j x hj
  exact ⟨g, o, h1, by omega, h3⟩
end Go.Proofs.YtfnlcblalieolaaDoor

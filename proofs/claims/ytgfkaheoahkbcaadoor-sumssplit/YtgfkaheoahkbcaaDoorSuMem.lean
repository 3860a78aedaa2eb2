/-
  Numbers and pays in memory. No walk.
-/
import Derived.Test.YtgfkaheoahkbcaaDoorSuPl
import Derived.WalkKit
import Derived.Below
import Derived.Outline
import Derived.Laws.OwnMore
import Derived.OneCell
import Derived.Deep.OwnRows
import Derived.Deep.QuietTactic
import Derived.BigQuiet
import Derived.Deep.RegionLaw
import Derived.Deep.RegionWith
import Derived.Deep.DeepCutAuto
namespace Go.Proofs.YtgfkaheoahkbcaaDoor
open Go.RowKit

theorem cell_lt {w : World} {b i : Nat} {v : Value} (h : w.cell? ⟨b, i, none⟩ = some v) : b < w.heap.size := World.block_lt_of_cell? w ⟨b, i, none⟩ h
/-- Numbers that can be read at a slice, in blocks below B. -/
def IRd (w : World) (B : Nat) (v : Value) (l : List Int) : Prop :=
  ∃ a c, v = .slice a l.length c ∧ l.length ≤ 17592186044416 ∧ l.length ≤ c ∧ (a = none → l = [] ∧ c = 0) ∧ ∀ j x, l[j]? = some x → ∃ g o, a = some ⟨g, o, none⟩ ∧ g < B ∧ w.cell? ⟨g, o + j, none⟩ = some (.int .i64 x)
theorem IRd.on {w w' : World} {B : Nat} {v : Value} {l : List Int} (h : IRd w B v l) (hb : ∀ k, k < B → w'.heap[k]? = w.heap[k]?) : IRd w' B v l := by
  obtain ⟨a, c, e, hl, hc, hn, hx⟩ := h
  refine ⟨a, c, e, hl, hc, hn, fun j x hj => ?_⟩
  obtain ⟨g, o, h1, h2, h3⟩ := hx j x hj
  exact ⟨g, o, h1, h2, (World.cell?_of_block (a := ⟨g, o + j, none⟩) (hb g h2)).trans h3⟩
theorem IRd.below {w w' : World} {B : Nat} {v : Value} {l : List Int} (h : IRd w B v l) (hb : Below B w w') : IRd w' B v l := h.on hb.block
theorem IRd.mono {w : World} {B B' : Nat} {v : Value} {l : List Int} (h : IRd w B v l) (hB : B ≤ B') : IRd w B' v l := by
  obtain ⟨a, c, e, hl, hc, hn, hx⟩ := h
  refine ⟨a, c, e, hl, hc, hn, fun j x hj => ?_⟩
  obtain ⟨g, o, h1, h2, h3⟩ := hx j x hj
  exact ⟨g, o, h1, by omega, h3⟩
theorem IRd.at {w : World} {B n c : Nat} {a : Option Addr} {l : List Int} (h : IRd w B (.slice a n c) l) {j : Nat} {x : Int} (hj : l[j]? = some x) : ∃ g o, a = some ⟨g, o, none⟩ ∧ g < B ∧ w.cell? ⟨g, o + j, none⟩ = some (.int .i64 x) := by
  obtain ⟨a', c', e, _, _, _, hx⟩ := h
  injection e with e1 _ _
  subst e1
  exact hx j x hj
/-! Pays. -/
def pyC : List Py → List Value
  | [] => []
  | x :: l => .int .i64 x.1 :: .int .i64 x.2.1 :: .int .i64 x.2.2 :: pyC l
theorem pyC_len : ∀ l : List Py, (pyC l).length = l.length * 3
  | [] => rfl
  | x :: l => by rw [pyC, List.length_cons, List.length_cons, List.length_cons, pyC_len l, List.length_cons]; omega
theorem pyC_app : ∀ (a b : List Py), pyC (a ++ b) = pyC a ++ pyC b
  | [], b => rfl
  | x :: a, b => by rw [List.cons_append, pyC, pyC, pyC_app a b]; rfl
theorem pyC_get : ∀ (l : List Py) (i : Nat) (x : Py), l[i]? = some x → (pyC l)[i * 3]? = some (.int .i64 x.1) ∧ (pyC l)[i * 3 + 1]? = some (.int .i64 x.2.1) ∧ (pyC l)[i * 3 + 2]? = some (.int .i64 x.2.2)
  | a :: l, 0, x, h => by
    obtain rfl : a = x := by simpa using h
    exact ⟨rfl, rfl, rfl⟩
  | a :: l, i + 1, x, h => by
    have := pyC_get l i x (by simpa using h)
    rw [pyC, show (i + 1) * 3 = i * 3 + 1 + 1 + 1 by omega]
    simpa using this
theorem pyC_one : ∀ (l : List Py) (u : Value), u ∈ pyC l → u.oneCell' = true
  | [], u, h => by cases h
  | x :: l, u, h => by
    rw [pyC, List.mem_cons, List.mem_cons, List.mem_cons] at h
    rcases h with rfl | rfl | rfl | h
    · rfl
    · rfl
    · rfl
    · exact pyC_one l u h
theorem alloc_cellC (W : World) (cs : List Value) (T j : Nat) (u : Value) (h : cs[j]? = some u) : (W.alloc (.cells cs.toArray T)).cell? ((⟨W.heap.size, 0, none⟩ : Addr).add j) = some u := by
  have h6 : (⟨W.heap.size, 0, none⟩ : Addr).add j = ⟨W.heap.size, j, none⟩ := by
    unfold Addr.add
    split
    · rename_i h0
      rw [h0]
    · simp
  rw [h6, cell_of_row _ _ j cs.toArray T (0, 0) (Go.Deep.blk_alloc_new W _)]
  simpa using h
/-- Pays (of type T) in a row of the call's own. -/
structure PyRow (T : Nat) (w : World) (B : Nat) (v : Value) (l : List Py) : Prop where
  row : w.ownsRow B T 3 v l.length (pyC l)
  len : l.length ≤ 100000000
variable {T : Nat}
theorem PyRow.nil (w : World) (B : Nat) : PyRow T w B (.slice none 0 0) [] := ⟨World.ownsRow_nil w B _ _, by simp⟩
theorem PyRow.any {w : World} {B : Nat} {v : Value} {l : List Py} (h : PyRow T w B v l) : ∃ a c, v = .slice a l.length c := by
  rcases h.row.2 with ⟨rfl, e⟩ | ⟨g, cap, cur, rfl, _⟩
  · exact ⟨_, _, by rw [e]⟩
  · exact ⟨_, _, rfl⟩
theorem PyRow.any3 {w : World} {B : Nat} {v : Value} {l : List Py} (h : PyRow T w B v l) : ∃ a m c, v = .slice a m c ∧ m = l.length := by
  obtain ⟨a, c, e⟩ := h.any
  exact ⟨a, _, c, e, rfl⟩
theorem PyRow.on {w w' : World} {B : Nat} {v : Value} {l : List Py} (h : PyRow T w B v l) (hk : ∀ g, v.ownBlock = some g → B ≤ g → g < w.heap.size → w'.heap[g]? = w.heap[g]?) : PyRow T w' B v l := by
  refine ⟨⟨h.row.1, ?_⟩, h.len⟩
  rcases h.row.2 with hn | ⟨g, cap, cur, rfl, hb, hgg, rest⟩
  · exact .inl hn
  · exact .inr ⟨g, cap, cur, rfl, hb, (hk g rfl hb (Array.getElem?_eq_some_iff.1 hgg).1).trans hgg, rest⟩
theorem PyRow.below {w w' : World} {B : Nat} {v : Value} {l : List Py} (h : PyRow T w B v l) (hb : Below w.heap.size w w') : PyRow T w' B v l := h.on fun g _ _ hl => hb.block g hl
theorem PyRow.mono {w : World} {B B' : Nat} {v : Value} {l : List Py} (h : PyRow T w B v l) (hB : B' ≤ B) : PyRow T w B' v l := by
  refine ⟨⟨h.row.1, ?_⟩, h.len⟩
  rcases h.row.2 with hn | ⟨g, cap, cur, rfl, hb, rest⟩
  · exact .inl hn
  · exact .inr ⟨g, cap, cur, rfl, by omega, rest⟩
/-- Pays that can be read at a slice, in blocks below B. -/
def PRd (w : World) (B : Nat) (v : Value) (l : List Py) : Prop :=
  ∃ a c, v = .slice a l.length c ∧ l.length ≤ 100000000 ∧ ∀ j x, l[j]? = some x → ∃ g, a = some ⟨g, 0, none⟩ ∧ g < B ∧ w.cell? ⟨g, j * 3, none⟩ = some (.int .i64 x.1) ∧ w.cell? ⟨g, j * 3 + 1, none⟩ = some (.int .i64 x.2.1) ∧ w.cell? ⟨g, j * 3 + 2, none⟩ = some (.int .i64 x.2.2)
theorem PRd.on {w w' : World} {B : Nat} {v : Value} {l : List Py} (h : PRd w B v l) (hb : ∀ k, k < B → w'.heap[k]? = w.heap[k]?) : PRd w' B v l := by
  obtain ⟨a, c, e, hl, hx⟩ := h
  refine ⟨a, c, e, hl, fun j x hj => ?_⟩
  obtain ⟨g, h1, h2, h3, h4, h5⟩ := hx j x hj
  exact ⟨g, h1, h2, (World.cell?_of_block (a := ⟨g, j * 3, none⟩) (hb g h2)).trans h3, (World.cell?_of_block (a := ⟨g, j * 3 + 1, none⟩) (hb g h2)).trans h4, (World.cell?_of_block (a := ⟨g, j * 3 + 2, none⟩) (hb g h2)).trans h5⟩
theorem PRd.at {w : World} {B n c : Nat} {a : Option Addr} {l : List Py} (h : PRd w B (.slice a n c) l) {j : Nat} {x : Py} (hj : l[j]? = some x) : ∃ g, a = some ⟨g, 0, none⟩ ∧ g < B ∧ w.cell? ⟨g, j * 3, none⟩ = some (.int .i64 x.1) ∧ w.cell? ⟨g, j * 3 + 1, none⟩ = some (.int .i64 x.2.1) ∧ w.cell? ⟨g, j * 3 + 2, none⟩ = some (.int .i64 x.2.2) := by
  obtain ⟨a', c', e, _, hx⟩ := h
  injection e with e1 _ _
  subst e1
  exact hx j x hj
theorem addz (b j : Nat) : (⟨b, 0, none⟩ : Addr).add j = ⟨b, j, none⟩ := by cases j <;> simp [Addr.add]
theorem PyRow.rd {w : World} {B : Nat} {v : Value} {l : List Py} (h : PyRow T w B v l) : PRd w w.heap.size v l := by
  have h0 := h.row
  rcases h.row.2 with ⟨rfl, e⟩ | ⟨g, cap, cur, rfl, _, hgg, _⟩
  · exact ⟨none, 0, by rw [e], h.len, fun j x hx => by rw [List.eq_nil_of_length_eq_zero e] at hx; simp at hx⟩
  · refine ⟨_, _, rfl, h.len, fun j x hx => ⟨g, rfl, (Array.getElem?_eq_some_iff.1 hgg).1, ?_⟩⟩
    obtain ⟨h1, h2, h3⟩ := pyC_get l j x hx
    have hc := World.ownsRow.cells h0 (g := g) rfl
    have q1 := hc _ _ h1
    have q2 := hc _ _ h2
    have q3 := hc _ _ h3
    rw [addz] at q1 q2 q3
    exact ⟨q1, q2, q3⟩
/-- One pay more, which has just been laid. -/
theorem wpList_push_py {S : Nat} (hI : ∃ i z, Tryd.prog.info? T = some i ∧ i.zero = some z ∧ i.size = 3 ∧ i.bytes = 24 ∧ z.cells.size = 3) (hU : Tryd.prog.underlying S = some (.slice T)) {W : World} {ops : Array Oper} {rest : List Oper} {o : Oper} {a : Act} {Q : Exit → Act → World → Prop} (hgd : o.guard = none) (s x : Operand)
    (ho : o.op = .call { callee := .builtin .append, args := #[s, x], argTypes := #[S, S] }) (B : Nat) (v : Value) (l : List Py) (c1 c2 c3 : Int) (hs : a.eval s = v) (hown : PyRow T W B v l)
    (hx : a.eval x = .slice (some ⟨W.heap.size, 0, none⟩) 1 1) (hB : B ≤ W.heap.size) (hl : l.length + 1 ≤ 100000000)
    (h : ∀ v' w', PyRow T w' B v' (l ++ [(c1, c2, c3)]) → Below B W w' → wpList Tryd.prog ops Q rest (a.put o.dst v') w') : wpList Tryd.prog ops Q (o :: rest) a (W.alloc (.cells #[.int .i64 c1, .int .i64 c2, .int .i64 c3] T)) := by
  obtain ⟨i0, z, h1, h2, h3, h4, h5⟩ := hI
  have hn : ∀ (j : Nat) (u : Value), (pyC [(c1, c2, c3)])[j]? = some u → (W.alloc (.cells #[.int .i64 c1, .int .i64 c2, .int .i64 c3] T)).cell? ((⟨W.heap.size, 0, none⟩ : Addr).add j) = some u := fun j u hj => alloc_cellC W (pyC [(c1, c2, c3)]) T j u hj
  have hal := (hown.below ((Below.refl _ _).alloc (Nat.le_refl _) (.cells #[.int .i64 c1, .int .i64 c2, .int .i64 c3] T)))
  refine wpList_append_own _ hgd s x S ho B T i0 z 3 24 hU h1 h2 h3 h4 h5 (by decide) v l.length (pyC l) hs hal.row ⟨W.heap.size, 0, none⟩ 1 1 (pyC [(c1, c2, c3)]) hx rfl hn (pyC_one _) (by unfold maxLen; omega) (by omega) (by simp; omega) ?_
  intro v' w' hown' hgrow _
  refine h v' w' ⟨?_, by rw [List.length_append]; exact hl⟩ (((Below.refl B W).alloc hB _).grown hgrow (by simp; omega) (fun k hk => (hown.row.lt k hk).1))
  rw [List.length_append, pyC_app]
  exact hown'
theorem Tryd.infoPay : ∃ i z, Tryd.prog.info? 40 = some i ∧ i.zero = some z ∧ i.size = 3 ∧ i.bytes = 24 ∧ z.cells.size = 3 := by
  have h : (Tryd.prog.info? 40).map (fun i => (i.zero, i.size, i.bytes)) = some (some (.agg #[.int .i64 0, .int .i64 0, .int .i64 0]), 3, 24) := by kernel_rfl
  obtain ⟨i, h1, h2⟩ := Option.map_eq_some_iff.1 h
  simp only [Prod.mk.injEq] at h2
  exact ⟨i, _, h1, h2.1, h2.2.1, h2.2.2, rfl⟩
end Go.Proofs.YtgfkaheoahkbcaaDoor

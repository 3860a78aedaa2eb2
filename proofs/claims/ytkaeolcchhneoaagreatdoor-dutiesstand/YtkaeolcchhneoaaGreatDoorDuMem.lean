/-
  Rows of structs in memory, whatever an element is; duties, events, states. No walk.
-/
import Derived.Test.YtkaeolcchhneoaaGreatDoorDuPl2
import Derived.Test.YtkaeolcchhneoaaGreatDoorProg
import Derived.WalkKit
import Derived.Below
import Derived.Outline
import Derived.Laws.OwnMore
import Derived.OneCell
import Derived.Deep.OwnRows
import Derived.Deep.MidRow
import Derived.Maps.AppendAt
import Derived.Deep.QuietTactic
import Derived.BigQuiet
import Derived.Deep.RegionLaw
import Derived.Deep.RegionWith
import Derived.Deep.DeepCutAuto
namespace Go.Proofs.YtkaeolcchhneoaaGreatDoor
open Go.RowKit

theorem cell_lt {w : World} {b i : Nat} {v : Value} (h : w.cell? ⟨b, i, none⟩ = some v) : b < w.heap.size := World.block_lt_of_cell? w ⟨b, i, none⟩ h
theorem addz (b j : Nat) : (⟨b, 0, none⟩ : Addr).add j = ⟨b, j, none⟩ := by cases j <;> simp [Addr.add]
theorem addo (b o j : Nat) : (⟨b, o, none⟩ : Addr).add j = ⟨b, o + j, none⟩ := by cases j <;> simp [Addr.add]
theorem range_on {w w' : World} {b o : Nat} {cs : List Value} (h : w.rangeAt b o cs) (hb : w'.heap[b]? = w.heap[b]?) : w'.rangeAt b o cs := fun j v hv => (World.cell?_of_block (a := ⟨b, o + j, none⟩) hb).trans (h j v hv)
theorem alloc_range (W : World) (cs : List Value) (T : Nat) : (W.alloc (.cells cs.toArray T)).rangeAt W.heap.size 0 cs := fun j u h => by
  rw [Nat.zero_add, cell_of_row _ _ j cs.toArray T (0, 0) (Go.Deep.blk_alloc_new W _)]
  simpa using h

/-- How a thing lies in cells. -/
structure Enc (α : Type) where
  f : α → List Value
  k : Nat
  pos : 0 < k
  len : ∀ x, (f x).length = k
  one : ∀ x u, u ∈ f x → u.oneCell' = true
section
variable {α : Type} (E : Enc α)
def Enc.all (l : List α) : List Value := l.flatMap E.f
theorem Enc.all_nil : E.all [] = [] := rfl
theorem Enc.all_cons (x : α) (l : List α) : E.all (x :: l) = E.f x ++ E.all l := rfl
theorem Enc.all_app (a b : List α) : E.all (a ++ b) = E.all a ++ E.all b := by unfold Enc.all; rw [List.flatMap_append]
theorem Enc.all_len : ∀ l : List α, (E.all l).length = l.length * E.k
  | [] => by simp [Enc.all]
  | x :: l => by rw [E.all_cons, List.length_append, E.len, Enc.all_len l, List.length_cons, Nat.succ_mul]; omega
theorem Enc.all_get : ∀ (l : List α) (i : Nat) (x : α), l[i]? = some x → ∀ c u, (E.f x)[c]? = some u → (E.all l)[i * E.k + c]? = some u
  | y :: l, 0, x, h, c, u, hu => by
    obtain rfl : y = x := by simpa using h
    have hc := (List.getElem?_eq_some_iff.1 hu).1
    rw [Nat.zero_mul, Nat.zero_add, E.all_cons, List.getElem?_append_left hc]
    exact hu
  | y :: l, i + 1, x, h, c, u, hu => by
    have h1 := Enc.all_get l i x (by simpa using h) c u hu
    rw [E.all_cons, List.getElem?_append_right (by rw [E.len, Nat.succ_mul]; omega), E.len, show (i + 1) * E.k + c - E.k = i * E.k + c by rw [Nat.succ_mul]; omega]
    exact h1
theorem Enc.all_one (l : List α) (u : Value) (h : u ∈ E.all l) : u.oneCell' = true := by
  obtain ⟨x, _, hx⟩ := List.mem_flatMap.1 h
  exact E.one x u hx
end
/-- Things in a row of the call's own. -/
structure RowG {α : Type} (E : Enc α) (T : Nat) (w : World) (B : Nat) (v : Value) (l : List α) : Prop where
  row : w.ownsRow B T E.k v l.length (E.all l)
  len : l.length ≤ 100000000
/-- Things that can be read at a slice, in blocks below B. -/
def RdG {α : Type} (E : Enc α) (w : World) (B : Nat) (v : Value) (l : List α) : Prop :=
  ∃ a c, v = .slice a l.length c ∧ l.length ≤ 17592186044416 ∧ ∀ j x, l[j]? = some x → ∃ g o, a = some ⟨g, o, none⟩ ∧ g < B ∧ w.rangeAt g (o + j * E.k) (E.f x)
section
variable {α : Type} {E : Enc α} {T : Nat}
theorem RowG.nil (w : World) (B : Nat) : RowG E T w B (.slice none 0 0) [] := ⟨World.ownsRow_nil w B _ _, by simp⟩
theorem RowG.any {w : World} {B : Nat} {v : Value} {l : List α} (h : RowG E T w B v l) : ∃ a c, v = .slice a l.length c := by
  rcases h.row.2 with ⟨rfl, e⟩ | ⟨g, cap, cur, rfl, _⟩
  · exact ⟨_, _, by rw [e]⟩
  · exact ⟨_, _, rfl⟩
theorem RowG.any3 {w : World} {B : Nat} {v : Value} {l : List α} (h : RowG E T w B v l) : ∃ a m c, v = .slice a m c ∧ m = l.length := by
  obtain ⟨a, c, e⟩ := h.any
  exact ⟨a, _, c, e, rfl⟩
theorem RowG.blk {w : World} {B : Nat} {v : Value} {l : List α} (h : RowG E T w B v l) {g : Nat} (hg : v.ownBlock = some g) : B ≤ g ∧ g < w.heap.size := by
  rcases h.row.2 with ⟨rfl, e⟩ | ⟨g', cap, cur, rfl, hb, hgg, _⟩
  · cases hg
  · injection hg with hg
    subst hg
    exact ⟨hb, (Array.getElem?_eq_some_iff.1 hgg).1⟩
theorem RowG.on {w w' : World} {B : Nat} {v : Value} {l : List α} (h : RowG E T w B v l) (hk : ∀ g, v.ownBlock = some g → B ≤ g → g < w.heap.size → w'.heap[g]? = w.heap[g]?) : RowG E T w' B v l := by
  refine ⟨⟨h.row.1, ?_⟩, h.len⟩
  rcases h.row.2 with hn | ⟨g, cap, cur, rfl, hb, hgg, rest⟩
  · exact .inl hn
  · exact .inr ⟨g, cap, cur, rfl, hb, (hk g rfl hb (Array.getElem?_eq_some_iff.1 hgg).1).trans hgg, rest⟩
theorem RowG.below {w w' : World} {B : Nat} {v : Value} {l : List α} (h : RowG E T w B v l) (hb : Below w.heap.size w w') : RowG E T w' B v l := h.on fun g _ _ hl => hb.block g hl
theorem RowG.mono {w : World} {B B' : Nat} {v : Value} {l : List α} (h : RowG E T w B v l) (hB : B' ≤ B) : RowG E T w B' v l := by
  refine ⟨⟨h.row.1, ?_⟩, h.len⟩
  rcases h.row.2 with hn | ⟨g, cap, cur, rfl, hb, rest⟩
  · exact .inl hn
  · exact .inr ⟨g, cap, cur, rfl, by omega, rest⟩
theorem RdG.on {w w' : World} {B : Nat} {v : Value} {l : List α} (h : RdG E w B v l) (hb : ∀ k, k < B → w'.heap[k]? = w.heap[k]?) : RdG E w' B v l := by
  obtain ⟨a, c, e, hl, hx⟩ := h
  refine ⟨a, c, e, hl, fun j x hj => ?_⟩
  obtain ⟨g, o, h1, h2, h3⟩ := hx j x hj
  exact ⟨g, o, h1, h2, range_on h3 (hb g h2)⟩
theorem RdG.below {w w' : World} {B : Nat} {v : Value} {l : List α} (h : RdG E w B v l) (hb : Below B w w') : RdG E w' B v l := h.on hb.block
theorem RdG.mono {w : World} {B B' : Nat} {v : Value} {l : List α} (h : RdG E w B v l) (hB : B ≤ B') : RdG E w B' v l := by
  obtain ⟨a, c, e, hl, hx⟩ := h
  refine ⟨a, c, e, hl, fun j x hj => ?_⟩
  obtain ⟨g, o, h1, h2, h3⟩ := hx j x hj
  exact ⟨g, o, h1, by omega, h3⟩
theorem RdG.nil0 (w : World) (B c : Nat) (a : Option Addr) : RdG E w B (.slice a 0 c) [] := ⟨a, c, rfl, by simp, fun j x h => by simp at h⟩
theorem RdG.at {w : World} {B n c : Nat} {a : Option Addr} {l : List α} (h : RdG E w B (.slice a n c) l) {j : Nat} {x : α} (hj : l[j]? = some x) : ∃ g o, a = some ⟨g, o, none⟩ ∧ g < B ∧ w.rangeAt g (o + j * E.k) (E.f x) := by
  obtain ⟨a', c', e, _, hx⟩ := h
  injection e with e1 _ _
  subst e1
  exact hx j x hj
theorem RdG.len {w : World} {B n c : Nat} {a : Option Addr} {l : List α} (h : RdG E w B (.slice a n c) l) : n = l.length ∧ n ≤ 17592186044416 := by
  obtain ⟨a', c', e, hl, hx⟩ := h
  injection e with _ e2 _
  exact ⟨e2, by omega⟩
theorem RowG.cells {w : World} {B : Nat} {v : Value} {l : List α} (h : RowG E T w B v l) {g n cap : Nat} (hv : v = .slice (some ⟨g, 0, none⟩) n cap) : ∀ j u, (E.all l)[j]? = some u → w.cell? ⟨g, j, none⟩ = some u := fun j u hu => by
  have h0 := h.row
  obtain ⟨a, c, e⟩ := h.any
  rw [hv] at e
  injection e with e1 e2 e3
  subst e2 hv
  have := World.ownsRow.cells h0 (g := g) rfl j u hu
  rwa [addz] at this
theorem RowG.rd {w : World} {B : Nat} {v : Value} {l : List α} (h : RowG E T w B v l) : RdG E w w.heap.size v l := by
  have hlen := h.len
  rcases h.row.2 with ⟨rfl, e⟩ | ⟨g, cap, cur, hv, _, hgg, _⟩
  · exact ⟨.none, 0, by rw [e], by omega, fun j x hx => by rw [List.eq_nil_of_length_eq_zero e] at hx; simp at hx⟩
  · refine ⟨some ⟨g, 0, .none⟩, cap, hv, by omega, fun j x hx => ⟨g, 0, rfl, (Array.getElem?_eq_some_iff.1 hgg).1, fun c u hu => ?_⟩⟩
    rw [Nat.zero_add]
    exact h.cells hv _ _ (E.all_get l j x hx c u hu)
/-- One more, which has just been laid. -/
theorem wpList_push_g {S bytes : Nat} (hI : ∃ i z, Tryz.prog.info? T = some i ∧ i.zero = some z ∧ i.size = E.k ∧ i.bytes = bytes ∧ z.cells.size = E.k) (hby : bytes ≤ 200) (hU : Tryz.prog.underlying S = some (.slice T)) {W : World} {ops : Array Oper} {rest : List Oper} {o : Oper} {a : Act} {Q : Exit → Act → World → Prop} (hgd : o.guard = .none) (s x : Operand)
    (ho : o.op = .call { callee := .builtin .append, args := #[s, x], argTypes := #[S, S] }) (B : Nat) (v : Value) (l : List α) (y : α) (cs : Array Value) (hcs : cs = (E.f y).toArray) (hs : a.eval s = v) (hown : RowG E T W B v l)
    (hx : a.eval x = .slice (some ⟨W.heap.size, 0, .none⟩) 1 1) (hB : B ≤ W.heap.size) (hl : l.length + 1 ≤ 1000000)
    (h : ∀ v' w', RowG E T w' B v' (l ++ [y]) → Below B W w' → (∀ k, v.ownBlock ≠ some k → k < W.heap.size → w'.heap[k]? = W.heap[k]?) → (∀ k, v'.ownBlock = some k → v.ownBlock = some k ∨ W.heap.size ≤ k) → wpList Tryz.prog ops Q rest (a.put o.dst v') w') : wpList Tryz.prog ops Q (o :: rest) a (W.alloc (.cells cs T)) := by
  obtain ⟨i0, z, h1, h2, h3, h4, h5⟩ := hI
  subst hcs
  have hn : ∀ (j : Nat) (u : Value), (E.f y)[j]? = some u → (W.alloc (.cells (E.f y).toArray T)).cell? ((⟨W.heap.size, 0, .none⟩ : Addr).add j) = some u := fun j u hj => by
    have := alloc_range W (E.f y) T j u hj
    rw [addo]
    exact this
  have hal := (hown.below ((Below.refl _ _).alloc (Nat.le_refl _) (.cells (E.f y).toArray T)))
  refine wpList_append_own_at _ hgd s x S ho B T i0 z E.k bytes hU h1 h2 h3 h4 h5 E.pos v l.length (E.all l) hs hal.row ⟨W.heap.size, 0, .none⟩ 1 1 (E.f y) hx (by rw [E.len, Nat.one_mul]) hn (E.one y) (by unfold maxLen; omega) (by have h6 : (l.length + 1) * bytes ≤ 1000000 * 200 := Nat.mul_le_mul hl hby; omega) (by simp; omega) ?_
  intro v' w' hown' hgrow _ hblk
  refine h v' w' ⟨?_, by rw [List.length_append]; simp only [List.length_cons, List.length_nil]; omega⟩ (((Below.refl B W).alloc hB _).grown hgrow (by simp; omega) (fun k hk => (hown.row.lt k hk).1)) (fun k hk hlt => ?_) (fun k hk => ?_)
  · rw [List.length_append, E.all_app, show E.all [y] = E.f y by rw [E.all_cons, E.all_nil, List.append_nil]]
    exact hown'
  · rw [hgrow.block k (by simp; omega) (fun e => hk e.symm), Go.Deep.blk_alloc_lt _ _ _ hlt]
  · rcases hblk with e | e
    · exact .inl (e ▸ hk)
    · rw [hk] at e
      injection e with e
      exact .inr (by simp at e; omega)
end
def duE : Enc Du := ⟨fun d => [.string d.nm, .string d.who, .int .i64 d.frm, .int .i64 d.til, .string d.els, .int .i64 d.n, .int .i64 d.u, .int .i64 d.r], 8, by decide, fun _ => rfl, fun _ u h => by
  simp only [List.mem_cons, List.not_mem_nil, or_false] at h
  rcases h with rfl | rfl | rfl | rfl | rfl | rfl | rfl | rfl <;> rfl⟩
def evE : Enc Ev := ⟨fun e => [.int .i64 e.day, .string e.nm, .string e.who, .bool e.wv], 4, by decide, fun _ => rfl, fun _ u h => by
  simp only [List.mem_cons, List.not_mem_nil, or_false] at h
  rcases h with rfl | rfl | rfl | rfl <;> rfl⟩
def stE : Enc St := ⟨fun s => [.string s.d.nm, .string s.d.who, .int .i64 s.d.frm, .int .i64 s.d.til, .string s.d.els, .int .i64 s.d.n, .int .i64 s.d.u, .int .i64 s.d.r, .int .i64 s.st, .int .i64 s.day, .int .i64 s.of], 11, by decide, fun _ => rfl, fun _ u h => by
  simp only [List.mem_cons, List.not_mem_nil, or_false] at h
  rcases h with rfl | rfl | rfl | rfl | rfl | rfl | rfl | rfl | rfl | rfl | rfl <;> rfl⟩
/-- The cells of a duty that lies somewhere. -/
theorem du_cells {w : World} {g b : Nat} {d : Du} (h : w.rangeAt g b (duE.f d)) : w.cell? ⟨g, b, none⟩ = some (.string d.nm) ∧ w.cell? ⟨g, b + 1, none⟩ = some (.string d.who) ∧ w.cell? ⟨g, b + 2, none⟩ = some (.int .i64 d.frm) ∧ w.cell? ⟨g, b + 3, none⟩ = some (.int .i64 d.til) ∧ w.cell? ⟨g, b + 4, none⟩ = some (.string d.els) ∧ w.cell? ⟨g, b + 5, none⟩ = some (.int .i64 d.n) ∧ w.cell? ⟨g, b + 6, none⟩ = some (.int .i64 d.u) ∧ w.cell? ⟨g, b + 7, none⟩ = some (.int .i64 d.r) :=
  ⟨h 0 _ rfl, h 1 _ rfl, h 2 _ rfl, h 3 _ rfl, h 4 _ rfl, h 5 _ rfl, h 6 _ rfl, h 7 _ rfl⟩
theorem du_cells0 {w : World} {g : Nat} {d : Du} (h : w.rangeAt g 0 (duE.f d)) : w.cell? ⟨g, 0, none⟩ = some (.string d.nm) ∧ w.cell? ⟨g, 1, none⟩ = some (.string d.who) ∧ w.cell? ⟨g, 2, none⟩ = some (.int .i64 d.frm) ∧ w.cell? ⟨g, 3, none⟩ = some (.int .i64 d.til) ∧ w.cell? ⟨g, 4, none⟩ = some (.string d.els) ∧ w.cell? ⟨g, 5, none⟩ = some (.int .i64 d.n) ∧ w.cell? ⟨g, 6, none⟩ = some (.int .i64 d.u) ∧ w.cell? ⟨g, 7, none⟩ = some (.int .i64 d.r) :=
  ⟨h 0 _ rfl, h 1 _ rfl, h 2 _ rfl, h 3 _ rfl, h 4 _ rfl, h 5 _ rfl, h 6 _ rfl, h 7 _ rfl⟩
theorem ev_cells {w : World} {g b : Nat} {e : Ev} (h : w.rangeAt g b (evE.f e)) : w.cell? ⟨g, b, none⟩ = some (.int .i64 e.day) ∧ w.cell? ⟨g, b + 1, none⟩ = some (.string e.nm) ∧ w.cell? ⟨g, b + 2, none⟩ = some (.string e.who) ∧ w.cell? ⟨g, b + 3, none⟩ = some (.bool e.wv) :=
  ⟨h 0 _ rfl, h 1 _ rfl, h 2 _ rfl, h 3 _ rfl⟩
theorem st_cells {w : World} {g b : Nat} {s : St} (h : w.rangeAt g b (stE.f s)) : w.rangeAt g b (duE.f s.d) ∧ w.cell? ⟨g, b + 8, none⟩ = some (.int .i64 s.st) ∧ w.cell? ⟨g, b + 9, none⟩ = some (.int .i64 s.day) ∧ w.cell? ⟨g, b + 10, none⟩ = some (.int .i64 s.of) := by
  refine ⟨fun j v hv => ?_, h 8 _ rfl, h 9 _ rfl, h 10 _ rfl⟩
  refine h j v ?_
  have hj : j < 8 := (List.getElem?_eq_some_iff.1 hv).1
  match j, hj, hv with
  | 0, _, hv => exact hv
  | 1, _, hv => exact hv
  | 2, _, hv => exact hv
  | 3, _, hv => exact hv
  | 4, _, hv => exact hv
  | 5, _, hv => exact hv
  | 6, _, hv => exact hv
  | 7, _, hv => exact hv
end Go.Proofs.YtkaeolcchhneoaaGreatDoor

/-
  Facts in memory: rows of seven cells, files. No walk.
-/
import Derived.Test.YtagdenpmonedlaaDoorFTok
import Derived.Deep.WholeRow
namespace Go.Proofs.YtagdenpmonedlaaDoor
open Go.RowKit Go.Extern.Stop Go.Stop Go.Extern

theorem Tryd.infoFP : ∃ i z, Tryd.prog.info? 32 = some i ∧ i.zero = some z ∧ i.size = 7 ∧ i.bytes = 64 ∧ z.cells.size = 7 := by
  have h : (Tryd.prog.info? 32).map (fun i => (i.zero.map (fun z => z.cells.size), i.size, i.bytes)) = some (some 7, 7, 64) := by kernel_rfl
  obtain ⟨i, hi, e⟩ := Option.map_eq_some_iff.1 h
  injection e with e1 e2
  injection e2 with e2 e3
  obtain ⟨z, hz, e4⟩ := Option.map_eq_some_iff.1 e1
  exact ⟨i, z, hi, hz, e2, e3, e4⟩
theorem Tryd.infoFR : ∃ i z, Tryd.prog.info? 36 = some i ∧ i.zero = some z ∧ i.size = 7 ∧ i.bytes = 64 ∧ z.cells.size = 7 := by
  have h : (Tryd.prog.info? 36).map (fun i => (i.zero.map (fun z => z.cells.size), i.size, i.bytes)) = some (some 7, 7, 64) := by kernel_rfl
  obtain ⟨i, hi, e⟩ := Option.map_eq_some_iff.1 h
  injection e with e1 e2
  injection e2 with e2 e3
  obtain ⟨z, hz, e4⟩ := Option.map_eq_some_iff.1 e1
  exact ⟨i, z, hi, hz, e2, e3, e4⟩
def fctA (x : Fct) : Value := .agg #[.int .i64 x.who, .string x.nm, .int .i64 x.oth, .int .i64 x.val, .int .i64 x.frm, .int .i64 x.til, .int .i64 x.lrn]
def fctC (x : Fct) : List Value := [.int .i64 x.who, .string x.nm, .int .i64 x.oth, .int .i64 x.val, .int .i64 x.frm, .int .i64 x.til, .int .i64 x.lrn]
def fctV (x : Fct) : Nat → Value
  | 0 => .int .i64 x.who
  | 1 => .string x.nm
  | 2 => .int .i64 x.oth
  | 3 => .int .i64 x.val
  | 4 => .int .i64 x.frm
  | 5 => .int .i64 x.til
  | _ => .int .i64 x.lrn
theorem fctA_inj {x y : Fct} (h : fctA x = fctA y) : x = y := by
  unfold fctA at h
  injection h with h
  injection h with h
  injection h with h0 h
  injection h with h1 h
  injection h with h2 h
  injection h with h3 h
  injection h with h4 h
  injection h with h5 h
  injection h with h6 h
  injection h0 with _ h0
  injection h1 with h1
  injection h2 with _ h2
  injection h3 with _ h3
  injection h4 with _ h4
  injection h5 with _ h5
  injection h6 with _ h6
  cases x; cases y
  simp only at h0 h1 h2 h3 h4 h5 h6
  subst h0 h1 h2 h3 h4 h5 h6
  rfl
def fcells : List Fct → List Value
  | [] => []
  | x :: r => fctV x 0 :: fctV x 1 :: fctV x 2 :: fctV x 3 :: fctV x 4 :: fctV x 5 :: fctV x 6 :: fcells r
theorem fcells_app : ∀ (a b : List Fct), fcells (a ++ b) = fcells a ++ fcells b
  | [], b => rfl
  | x :: r, b => by rw [List.cons_append, fcells, fcells, fcells_app r b]; rfl
theorem fcells_get : ∀ (l : List Fct) (i c : Nat) (x : Fct), l[i]? = some x → c < 7 → (fcells l)[i * 7 + c]? = some (fctV x c)
  | a :: r, 0, c, x, h, hc => by
    obtain rfl : a = x := by simpa using h
    rw [fcells]
    match c, hc with
    | 0, _ => rfl
    | 1, _ => rfl
    | 2, _ => rfl
    | 3, _ => rfl
    | 4, _ => rfl
    | 5, _ => rfl
    | 6, _ => rfl
  | a :: r, i + 1, c, x, h, hc => by
    have := fcells_get r i c x (by simpa using h) hc
    rw [fcells, show (i + 1) * 7 + c = (i * 7 + c) + 1 + 1 + 1 + 1 + 1 + 1 + 1 by omega]
    simpa using this
/-- Facts one behind another, in memory of the call's own; T: the facts' type. -/
def FAt (T B : Nat) (w : World) (sv : Value) (L : List Fct) : Prop := w.ownsRow B T 7 sv L.length (fcells L)
/-- Facts that can be read at a place. -/
def FRead (w : World) (a : Option Addr) (L : List Fct) : Prop := ∀ i x, L[i]? = some x → ∃ g o, a = some ⟨g, o, none⟩ ∧ ∀ c, c < 7 → w.cell? ⟨g, o + i * 7 + c, none⟩ = some (fctV x c)
theorem FRead.cells {w : World} {a : Option Addr} {L : List Fct} (h : FRead w a L) {i : Nat} {x : Fct} (hx : L[i]? = some x) : ∃ g o, a = some ⟨g, o, none⟩ ∧ g < w.heap.size ∧ w.cell? ⟨g, o + i * 7, none⟩ = some (.int .i64 x.who) ∧ w.cell? ⟨g, o + i * 7 + 1, none⟩ = some (.string x.nm) ∧ w.cell? ⟨g, o + i * 7 + 2, none⟩ = some (.int .i64 x.oth)
    ∧ w.cell? ⟨g, o + i * 7 + 3, none⟩ = some (.int .i64 x.val) ∧ w.cell? ⟨g, o + i * 7 + 4, none⟩ = some (.int .i64 x.frm) ∧ w.cell? ⟨g, o + i * 7 + 5, none⟩ = some (.int .i64 x.til) ∧ w.cell? ⟨g, o + i * 7 + 6, none⟩ = some (.int .i64 x.lrn) := by
  obtain ⟨g, o, e, hc⟩ := h i x hx
  exact ⟨g, o, e, cell_lt (hc 0 (by omega)), hc 0 (by omega), hc 1 (by omega), hc 2 (by omega), hc 3 (by omega), hc 4 (by omega), hc 5 (by omega), hc 6 (by omega)⟩
theorem FRead.on {w w' : World} {a : Option Addr} {L : List Fct} (h : FRead w a L) (hb : ∀ g o, a = some ⟨g, o, none⟩ → g < w.heap.size → w'.heap[g]? = w.heap[g]?) : FRead w' a L := by
  intro i x hx
  obtain ⟨g, o, e, hc⟩ := h i x hx
  exact ⟨g, o, e, fun c k => (World.cell?_of_block (a := ⟨g, o + i * 7 + c, none⟩) (hb g o e (cell_lt (hc 0 (by omega))))).trans (hc c k)⟩
theorem FRead.bel {w w' : World} {a : Option Addr} {L : List Fct} (h : FRead w a L) (hb : Below w.heap.size w w') : FRead w' a L := h.on fun g _ _ hg => hb.block g hg
theorem FAt.slice {T B : Nat} {w : World} {sv : Value} {L : List Fct} (h : FAt T B w sv L) : ∃ a c, sv = .slice a L.length c ∧ FRead w a L ∧ L.length ≤ c ∧ (∀ g o, a = some ⟨g, o, none⟩ → sv.ownBlock = some g) := by
  obtain ⟨a, c, e⟩ := row_any h
  subst e
  refine ⟨a, c, rfl, fun i x hx => ?_, row_cap h, ?_⟩
  · have hl : i < L.length := (List.getElem?_eq_some_iff.1 hx).1
    obtain ⟨g, cap, e, _, _⟩ := row_form h (by omega)
    injection e with e1 e2 e3
    refine ⟨g, 0, e1, fun c hc => ?_⟩
    subst e1
    have h5 := World.ownsRow.cells h (g := g) rfl (i * 7 + c) _ (fcells_get L i c x hx hc)
    have h6 : (⟨g, 0, none⟩ : Addr).add (i * 7 + c) = ⟨g, i * 7 + c, none⟩ := by
      unfold Addr.add
      split
      · rename_i h0
        rw [h0]
      · simp
    rw [h6] at h5
    rw [Nat.zero_add]
    exact h5
  · intro g o e
    rw [e]
    rfl
theorem alloc_cell (W : World) (cs : List Value) (T j : Nat) (u : Value) (h : cs[j]? = some u) : (W.alloc (.cells cs.toArray T)).cell? ((⟨W.heap.size, 0, none⟩ : Addr).add j) = some u := by
  have h6 : (⟨W.heap.size, 0, none⟩ : Addr).add j = ⟨W.heap.size, j, none⟩ := by
    unfold Addr.add
    split
    · rename_i h0
      rw [h0]
    · simp
  rw [h6, cell_of_row _ _ j cs.toArray T (0, 0) (heap_alloc_last W _)]
  simpa using h
theorem fctNews (W : World) (x : Fct) (T : Nat) (j : Nat) (u : Value) (h : (fctC x)[j]? = some u) : (W.drew.alloc (.cells #[.int .i64 x.who, .string x.nm, .int .i64 x.oth, .int .i64 x.val, .int .i64 x.frm, .int .i64 x.til, .int .i64 x.lrn] T)).cell? ((⟨W.heap.size, 0, none⟩ : Addr).add j) = some u :=
  alloc_cell W.drew (fctC x) T j u h
theorem fctOne (x : Fct) : ∀ u ∈ fctC x, u.oneCell' = true := fun u hu => by
  simp only [fctC, List.mem_cons, List.not_mem_nil, or_false] at hu
  rcases hu with rfl | rfl | rfl | rfl | rfl | rfl | rfl <;> rfl
/-- A file of facts: one cell that holds the slice. -/
structure FFile (T B : Nat) (w : World) (b : Nat) (L : List Fct) (sv : Value) : Prop where
  lt : b < B
  inH : b < w.heap.size
  cell : w.cell? ⟨b, 0, none⟩ = some sv
  frz : w.frozen? ⟨b, 0, none⟩ = false
  row : FAt T B w sv L
/-- What adding a fact leaves as it was: all below B but the file's cell, and all that is no row of facts. -/
structure FStep (T B b : Nat) (w w' : World) : Prop where
  os : w'.os = w.os
  tape : w'.tape = w.tape
  output : w'.output = w.output
  size : w.heap.size ≤ w'.heap.size
  block : ∀ k, k < w.heap.size → k ≠ b → (k < B ∨ ∀ cs fr, w.heap[k]? ≠ some (.cells cs T fr)) → w'.heap[k]? = w.heap[k]?
theorem Below.fstep {T B b : Nat} {w w' : World} (h : Below w.heap.size w w') : FStep T B b w w' := ⟨h.os, h.tape, h.output, h.size, fun k hk _ _ => h.block k hk⟩
theorem FAt.block {T B : Nat} {w : World} {sv : Value} {L : List Fct} (h : FAt T B w sv L) {g : Nat} (hg : sv.ownBlock = some g) : B ≤ g ∧ ∃ cs, w.heap[g]? = some (.cells cs T (0, 0)) := by
  rcases h.2 with ⟨e, _⟩ | ⟨g', cap, cur, e, hb, hh, _⟩
  · subst e; cases hg
  · subst e
    injection hg with hg
    subst hg
    exact ⟨hb, cur, hh⟩
/-- A file of another kind stays. -/
theorem FFile.other {T T' B b b' : Nat} {w w' : World} {L : List Fct} {sv : Value} (h : FFile T B w b L sv) (hs : FStep T' B b' w w') (hT : T ≠ T') (hb : b ≠ b') (hb' : b' < B) : FFile T B w' b L sv := by
  have e := hs.block b h.inH hb (.inl h.lt)
  refine ⟨h.lt, Nat.lt_of_lt_of_le h.inH hs.size, (World.cell?_of_block (a := ⟨b, 0, none⟩) e).trans h.cell, (World.frozen?_of_block (a := ⟨b, 0, none⟩) e).trans h.frz, row_step h.row fun g hg hl => ?_⟩
  obtain ⟨h1, cs, h2⟩ := h.row.block hg
  refine hs.block g hl ?_ (.inr fun cs' fr e => ?_)
  · omega
  · rw [h2] at e
    injection e with e
    injection e with _ e _
    exact hT e
theorem FFile.bel {T B b : Nat} {w w' : World} {L : List Fct} {sv : Value} (h : FFile T B w b L sv) (hb : Below w.heap.size w w') : FFile T B w' b L sv := by
  have e := hb.block b h.inH
  exact ⟨h.lt, Nat.lt_of_lt_of_le h.inH hb.size, (World.cell?_of_block (a := ⟨b, 0, none⟩) e).trans h.cell, (World.frozen?_of_block (a := ⟨b, 0, none⟩) e).trans h.frz, row_step h.row fun g _ hl => hb.block g hl⟩
end Go.Proofs.YtagdenpmonedlaaDoor

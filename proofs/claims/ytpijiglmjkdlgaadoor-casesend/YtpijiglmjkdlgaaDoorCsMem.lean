/-
  Plans and cases in memory (written by tools/gencs.py).
-/
import Derived.Test.YtpijiglmjkdlgaaDoorCsPl
import Derived.Test.YtpijiglmjkdlgaaDoorEncMem
import Derived.Test.YtpijiglmjkdlgaaDoorCoded
namespace Go.Proofs.YtpijiglmjkdlgaaDoor
open Go.RowKit

theorem hidLL {p : Prop} (h : p) : Hid p := h
def strE : Enc ByteArray := ⟨fun s => [.string s], 1, by decide, fun _ => rfl, fun s u h => by
  obtain rfl : u = .string s := by simpa using h
  rfl⟩
def mvE : Enc Mv := ⟨fun m => [.string m.nm, .string m.fr, .string m.tt, .string m.wh, .int .i64 m.n, .int .i64 m.u, .int .i64 m.r, .int .i64 m.most], 8, by decide, fun _ => rfl, fun m u h => by
  simp only [List.mem_cons, List.not_mem_nil, or_false] at h
  rcases h with rfl | rfl | rfl | rfl | rfl | rfl | rfl | rfl <;> rfl⟩
structure Stp where
  mv : ByteArray
  wh : ByteArray
  dy : Int
def stE : Enc Stp := ⟨fun s => [.string s.mv, .string s.wh, .int .i64 s.dy], 3, by decide, fun _ => rfl, fun m u h => by
  simp only [List.mem_cons, List.not_mem_nil, or_false] at h
  rcases h with rfl | rfl | rfl <;> rfl⟩
/-- The cells of a move. -/
theorem mv_cells {w : World} {g o : Nat} {m : Mv} (h : w.rangeAt g o (mvE.f m)) : w.cell? ⟨g, o, none⟩ = some (.string m.nm) ∧ w.cell? ⟨g, o + 1, none⟩ = some (.string m.fr) ∧ w.cell? ⟨g, o + 2, none⟩ = some (.string m.tt) ∧ w.cell? ⟨g, o + 3, none⟩ = some (.string m.wh) ∧ w.cell? ⟨g, o + 4, none⟩ = some (.int .i64 m.n) ∧ w.cell? ⟨g, o + 5, none⟩ = some (.int .i64 m.u) ∧ w.cell? ⟨g, o + 6, none⟩ = some (.int .i64 m.r) ∧ w.cell? ⟨g, o + 7, none⟩ = some (.int .i64 m.most) :=
  ⟨h 0 _ rfl, h 1 _ rfl, h 2 _ rfl, h 3 _ rfl, h 4 _ rfl, h 5 _ rfl, h 6 _ rfl, h 7 _ rfl⟩
def ixI {α : Type} (f : α → Bool) (l : List α) : Int := match l.findIdx? f with
  | none => -1
  | some i => i
theorem ixI_none {α : Type} {f : α → Bool} {l : List α} (h : ∀ (j : Nat) x, l[j]? = some x → f x = false) : ixI f l = -1 := by
  unfold ixI
  rw [List.findIdx?_eq_none_iff.2 (fun x hx => by
    obtain ⟨j, hj⟩ := List.getElem?_of_mem hx
    exact h j _ hj)]
theorem ixI_some {α : Type} {f : α → Bool} {l : List α} {i : Nat} {x : α} (hx : l[i]? = some x) (h1 : f x = true) (h2 : ∀ (j : Nat) y, j < i → l[j]? = some y → f y = false) : ixI f l = i := by
  unfold ixI
  have : l.findIdx? f = some i := by
    rw [List.findIdx?_eq_some_iff_getElem]
    obtain ⟨hi, rfl⟩ := List.getElem?_eq_some_iff.1 hx
    refine ⟨hi, h1, fun j hj => ?_⟩
    have hjl : j < l.length := by omega
    have := h2 j (l[j]'hjl) hj (List.getElem?_eq_getElem hjl)
    simpa using this
  rw [this]
theorem ixI_cases {α : Type} (f : α → Bool) (l : List α) : (ixI f l = -1 ∧ l.any f = false) ∨ ∃ (i : Nat) (x : α), ixI f l = i ∧ l[i]? = some x ∧ f x = true ∧ l.any f = true := by
  unfold ixI
  cases h : l.findIdx? f with
  | none =>
    left
    refine ⟨rfl, ?_⟩
    rw [List.any_eq_false]
    intro x hx
    have := List.findIdx?_eq_none_iff.1 h x hx
    simp [this]
  | some i =>
    right
    obtain ⟨hi, h1, _⟩ := List.findIdx?_eq_some_iff_getElem.1 h
    exact ⟨i, _, rfl, List.getElem?_eq_getElem hi, h1, List.any_eq_true.2 ⟨_, List.getElem_mem hi, h1⟩⟩
theorem ixI_any {α : Type} (f : α → Bool) (l : List α) : decide (0 ≤ ixI f l) = l.any f := by
  rcases ixI_cases f l with ⟨h1, h2⟩ | ⟨i, x, h1, _, _, h2⟩ <;> rw [h1, h2] <;> simp
/-- What does not change of a case. -/
structure KD where
  kb : Nat
  tb : Nat
  g : Nat
  B : Nat
  p : Pn
  fv : SlV
  mv : SlV
def KD.Rd (D : KD) (k : Nat) : Prop := k < D.B ∧ k ≠ D.kb ∧ k ≠ D.tb
/-- A CASE IN MEMORY. -/
structure CaseAt (w : World) (D : KD) (sv : SlV) (ts : List Nat) (stage : ByteArray) (since : Int) (steps : List Stp) : Prop where
  blk : w.heap[D.kb]? = some (.cells #[.slice D.fv.a D.fv.n D.fv.c, .slice D.mv.a D.mv.n D.mv.c, .slice (some ⟨D.tb, 0, none⟩) D.p.mvs.length D.p.mvs.length, .pointer (some ⟨D.g, 0, none⟩), .string stage, .int .i64 since, .slice sv.a sv.n sv.c] 62 (0, 0))
  tms : w.rowIs D.tb 3 D.p.mvs.length (fun i => .int .i64 ((ts.getD i 0 : Nat) : Int))
  pln : w.heap[D.g]? = some (.cells #[.bool false, .bool false, .bool false, .bool false, .bool false, .bool false, .bool false, .int .i64 7, .slice none 0 0] 78 (0, 0))
  fin : RdS strE w D.Rd (.slice D.fv.a D.fv.n D.fv.c) D.p.fin
  mvs : RdS mvE w D.Rd (.slice D.mv.a D.mv.n D.mv.c) D.p.mvs
  row : RowG stE 46 w D.B (.slice sv.a sv.n sv.c) steps
  tlen : ts.length = D.p.mvs.length
  ne1 : D.kb ≠ D.tb
  ne2 : D.kb ≠ D.g
  ne3 : D.tb ≠ D.g
  lt1 : D.kb < D.B
  lt2 : D.tb < D.B
  lt3 : D.g < D.B
  hB : D.B ≤ w.heap.size
section
variable {w w' : World} {D : KD} {sv : SlV} {ts : List Nat} {stage : ByteArray} {since : Int} {steps : List Stp}
theorem CaseAt.step (h : CaseAt w D sv ts stage since steps) (hb : Below w.heap.size w w') : CaseAt w' D sv ts stage since steps := by
  have h1 := h.lt1
  have h2 := h.lt2
  have h3 := h.lt3
  have h4 := h.hB
  have hr : ∀ k, D.Rd k → D.Rd k ∧ w'.heap[k]? = w.heap[k]? := fun k hk => ⟨hk, hb.block k (by have := hk.1; omega)⟩
  exact ⟨(hb.block _ (by omega)).trans h.blk, h.tms.of_block (hb.block _ (by omega)), (hb.block _ (by omega)).trans h.pln, h.fin.on hr, h.mvs.on hr, h.row.below hb, h.tlen, h.ne1, h.ne2, h.ne3, h1, h2, h3, Nat.le_trans h4 hb.size⟩
/-- Its cells. -/
theorem CaseAt.cells (h : CaseAt w D sv ts stage since steps) : w.cell? ⟨D.kb, 0, none⟩ = some (.slice D.fv.a D.fv.n D.fv.c) ∧ w.cell? ⟨D.kb, 1, none⟩ = some (.slice D.mv.a D.mv.n D.mv.c) ∧ w.cell? ⟨D.kb, 2, none⟩ = some (.slice (some ⟨D.tb, 0, none⟩) D.p.mvs.length D.p.mvs.length) ∧ w.cell? ⟨D.kb, 3, none⟩ = some (.pointer (some ⟨D.g, 0, none⟩)) ∧ w.cell? ⟨D.kb, 4, none⟩ = some (.string stage) ∧ w.cell? ⟨D.kb, 5, none⟩ = some (.int .i64 since) ∧ w.cell? ⟨D.kb, 6, none⟩ = some (.slice sv.a sv.n sv.c) := by
  refine ⟨?_, ?_, ?_, ?_, ?_, ?_, ?_⟩
  · rw [cell_of_row _ _ 0 _ _ _ h.blk]; rfl
  · rw [cell_of_row _ _ 1 _ _ _ h.blk]; rfl
  · rw [cell_of_row _ _ 2 _ _ _ h.blk]; rfl
  · rw [cell_of_row _ _ 3 _ _ _ h.blk]; rfl
  · rw [cell_of_row _ _ 4 _ _ _ h.blk]; rfl
  · rw [cell_of_row _ _ 5 _ _ _ h.blk]; rfl
  · rw [cell_of_row _ _ 6 _ _ _ h.blk]; rfl
theorem CaseAt.mlen (h : CaseAt w D sv ts stage since steps) : D.mv.n = D.p.mvs.length ∧ D.mv.n ≤ 17592186044416 := by
  obtain ⟨a, c, e, hl, _⟩ := h.mvs
  injection e with _ e _
  exact ⟨e, by omega⟩
theorem CaseAt.flen (h : CaseAt w D sv ts stage since steps) : D.fv.n = D.p.fin.length ∧ D.fv.n ≤ 17592186044416 := by
  obtain ⟨a, c, e, hl, _⟩ := h.fin
  injection e with _ e _
  exact ⟨e, by omega⟩
end
end Go.Proofs.YtpijiglmjkdlgaaDoor

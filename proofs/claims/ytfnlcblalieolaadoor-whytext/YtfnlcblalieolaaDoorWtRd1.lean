/-
  Package why: Read: what is under way, in memory. No walk.
-/
import Derived.Test.YtfnlcblalieolaaDoorWtLine
import Derived.Test.YtfnlcblalieolaaDoorWtRow2
namespace Go.Proofs.YtfnlcblalieolaaDoor
open Go.RowKit Go.Shelf Go.Maps

/-- A line without its end. -/
def lineB (x : ByteArray) : List UInt8 := Lib.trimSuffix (bl x) [10]
/-- The steps of lines; or which line is wrong, and how. -/
def stepsR (nm : List ByteArray) : List ByteArray → List Clm ⊕ (Nat × Nat)
  | [] => .inl []
  | x :: r => match rowR nm (lineB x) 4 0 with
    | .inl k => .inr (0, k)
    | .inr c => match stepsR nm r with
      | .inl l => .inl (c :: l)
      | .inr q => .inr (q.1 + 1, q.2)
theorem stepsR_ok (nm : List ByteArray) {x : ByteArray} {c : Clm} (hx : rowR nm (lineB x) 4 0 = .inr c) : ∀ (pre : List ByteArray) (l : List Clm), stepsR nm pre = .inl l → stepsR nm (pre ++ [x]) = .inl (l ++ [c])
  | [], l, h => by
    injection h with h
    subst h
    simp only [List.nil_append, stepsR, hx]
  | y :: pre, l, h => by
    simp only [List.cons_append, stepsR] at h ⊢
    split at h
    · cases h
    · rename_i d hd
      split at h
      · rename_i l' hl
        injection h with h
        subst h
        rw [stepsR_ok nm hx pre l' hl]
        rfl
      · cases h
theorem stepsR_bad (nm : List ByteArray) {x : ByteArray} {k : Nat} (hx : rowR nm (lineB x) 4 0 = .inl k) : ∀ (pre : List ByteArray) (l : List Clm), stepsR nm pre = .inl l → stepsR nm (pre ++ [x]) = .inr (pre.length, k)
  | [], l, h => by simp only [List.nil_append, stepsR, hx]; rfl
  | y :: pre, l, h => by
    simp only [List.cons_append, stepsR] at h ⊢
    split at h
    · cases h
    · rename_i d hd
      split at h
      · rename_i l' hl
        rw [stepsR_bad nm hx pre l' hl]
        rfl
      · cases h
theorem stepsR_stop (nm : List ByteArray) {q : Nat × Nat} (r : List ByteArray) : ∀ (pre : List ByteArray), stepsR nm pre = .inr q → stepsR nm (pre ++ r) = .inr q
  | [], h => by cases h
  | y :: pre, h => by
    simp only [List.cons_append, stepsR] at h ⊢
    split at h
    · exact h
    · rename_i d hd
      split at h
      · cases h
      · rename_i q' hq
        rw [stepsR_stop nm r pre hq]
        exact h
theorem stepsR_len (nm : List ByteArray) : ∀ (pre : List ByteArray) (l : List Clm), stepsR nm pre = .inl l → l.length = pre.length
  | [], l, h => by
    injection h with h
    subst h
    rfl
  | y :: pre, l, h => by
    simp only [stepsR] at h
    split at h
    · cases h
    · split at h
      · rename_i l' hl
        injection h with h
        subst h
        rw [List.length_cons, List.length_cons, stepsR_len nm pre l' hl]
      · cases h

/-- While the lines are gone through: where the results go, the names' numbers, the steps so far, how many lines there were. -/
structure Rds (w : World) (b4 b5 b6 b7 b8 Bs bM : Nat) (nm : List ByteArray) (l : List Clm) (k : Nat) (W : World) : Prop where
  r4 : Boxed W b4 27 (.slice none 0 0)
  r5 : Boxed W b5 32 .nilIface
  box : Boxed W b6 53 (.map (some bM))
  map : ∃ m D, LMap (H := Unit) D nm ∧ W.ownsMap Tryd.prog 9 (plainElem Tryd.prog 3) bM m D
  steps : ∃ v, Boxed W b7 27 v ∧ W.ownsRow w.heap.size 26 3 v l.length (clmC l) ∧ True
  cnt : Boxed W b8 3 (.int .i64 k)
  str : ∃ u, Boxed W Bs 9 u
  bel : Below w.heap.size w W
section
variable {w : World} {b4 b5 b6 b7 b8 Bs bM : Nat} {nm : List ByteArray} {l : List Clm} {k : Nat} {W W' : World}
theorem boxed_keep {row : Option Nat} {B t : Nat} {v : Value} (h : Boxed W B t v) (hg : W.grownBy W' row) (hr : ∀ r, row = some r → ∃ o : Obj, W.heap[r]? = some o ∧ o.isCells = false) : Boxed W' B t v := h.kept hg fun e => by
  obtain ⟨o, ho, hc⟩ := hr _ e.symm
  rw [show W.heap[B]? = _ from h] at ho
  cases ho
  cases hc
theorem Rds.keep {row : Option Nat} (h : Rds w b4 b5 b6 b7 b8 Bs bM nm l k W) (hg : W.grownBy W' row) (hr : ∀ r, row = some r → bM ≠ r ∧ w.heap.size ≤ r ∧ ∃ o : Obj, W.heap[r]? = some o ∧ o.isCells = false) : Rds w b4 b5 b6 b7 b8 Bs bM nm l k W' := by
  obtain ⟨m, D, hN, hown⟩ := h.map
  obtain ⟨u, hu⟩ := h.str
  have hk : ∀ r, row = some r → ∃ o : Obj, W.heap[r]? = some o ∧ o.isCells = false := fun r e => (hr r e).2.2
  exact ⟨boxed_keep h.r4 hg hk, boxed_keep h.r5 hg hk, boxed_keep h.box hg hk, ⟨m, D, hN, hown.kept hg fun e => (hr _ e.symm).1 rfl⟩, holdsRow_own w.heap.size b7 27 26 3 (fun (_ : Unit) => l.length) (fun _ => clmC l) (fun _ _ => True) () W W' row h.steps hg hk, boxed_keep h.cnt hg hk, ⟨u, boxed_keep hu hg hk⟩, h.bel.grown hg h.bel.size (fun k e => (hr k e).2.1)⟩
theorem grown_of_below (h : Below W.heap.size W W') : W.grownBy W' none := ⟨h.os, h.tape, h.output, h.size, fun i hi _ => h.block i hi⟩
theorem Rds.below (h : Rds w b4 b5 b6 b7 b8 Bs bM nm l k W) (hb : Below W.heap.size W W') : Rds w b4 b5 b6 b7 b8 Bs bM nm l k W' := h.keep (grown_of_below hb) fun r e => by cases e
theorem Rds.alloc (h : Rds w b4 b5 b6 b7 b8 Bs bM nm l k W) (o : Obj) : Rds w b4 b5 b6 b7 b8 Bs bM nm l k (W.alloc o) := h.keep (World.grownBy_alloc W o none) fun r e => by cases e
theorem row_set {lo e s t : Nat} {v u x : Value} {n : Nat} {xs : List Value} {B : Nat} (h : W.ownsRow lo e s v n xs) (hB : Boxed W B t u) (hte : t ≠ e) : (W.setCell ⟨B, 0, none⟩ x).ownsRow lo e s v n xs :=
  row_step h fun g hg _ => Below.heap_setCell _ _ _ _ (fun e => hB.not_row hte h (by rw [hg]; exact congrArg some e.symm))
/-- The iterator's own cell turns. -/
theorem Rds.cell (h : Rds w b4 b5 b6 b7 b8 Bs bM nm l k W) (hd : b4 < Bs ∧ b5 < Bs ∧ b6 < Bs ∧ b7 < Bs ∧ b8 < Bs ∧ w.heap.size ≤ Bs) (x : Value) : Rds w b4 b5 b6 b7 b8 Bs bM nm l k (W.setCell ⟨Bs, 0, none⟩ x) := by
  obtain ⟨m, D, hN, es, ck, hh, hrest⟩ := h.map
  obtain ⟨u, hu⟩ := h.str
  obtain ⟨v, hv, hrow, _⟩ := h.steps
  have hne : bM ≠ Bs := fun e => by
    rw [e, show W.heap[Bs]? = _ from hu] at hh
    cases hh
  exact ⟨h.r4.other (by omega) _, h.r5.other (by omega) _, h.box.other (by omega) _, ⟨m, D, hN, es, ck, (Below.heap_setCell _ _ _ _ hne).trans hh, hrest⟩, ⟨v, hv.other (by omega) _, row_set hrow hu (by decide), trivial⟩, h.cnt.other (by omega) _, ⟨x, hu.set x⟩, h.bel.setCell (p := ⟨Bs, 0, none⟩) hd.2.2.2.2.2 x⟩
theorem Rds.own (B : Nat) {β : Type} (f : β → List Clm → Prop) (h1 : bM < B) (h2 : w.heap.size ≤ B) : OwnFrom B (fun (s : β) W => ∃ l, f s l ∧ Rds w b4 b5 b6 b7 b8 Bs bM nm l l.length W) :=
  fun _ _ _ _ ⟨l, hf, hs⟩ hg hr => ⟨l, hf, hs.keep hg fun r e => ⟨by have := (hr r e).1; omega, by have := (hr r e).1; omega, (hr r e).2⟩⟩
/-- One step more. -/
theorem Rds.push (h : Rds w b4 b5 b6 b7 b8 Bs bM nm l k W) (hd : b4 ≠ b7) {v v' : Value} {c : Clm} {tmp : Obj} {w1 : World} (hv : Boxed W b7 27 v) (hrow : W.ownsRow w.heap.size 26 3 v l.length (clmC l)) (hb : w.heap.size ≤ b7)
    (hown' : w1.ownsRow w.heap.size 26 3 v' (l.length + 1) (clmC l ++ clmC [c])) (hgrow : (W.alloc tmp).grownBy w1 v.ownBlock) (B : Nat) :
    Rds w b4 b5 b6 b7 b8 Bs bM nm (l ++ [c]) k (w1.setCell ⟨b7, 0, none⟩ v') ∧ KeepsFrom B W (w1.setCell ⟨b7, 0, none⟩ v') ∧ KpL w.heap.size Bs W (w1.setCell ⟨b7, 0, none⟩ v') ∧ w1.cell? ⟨b7, 0, none⟩ = some v ∧ w1.frozen? ⟨b7, 0, none⟩ = false := by
  obtain ⟨hv1, hv2, hr2, hk2, hb2⟩ := hv.appended (by decide) hrow h.bel.size hb hown' hgrow
  have other : ∀ (B t : Nat) (u : Value), Boxed W B t u → t ≠ 26 → B ≠ b7 → Boxed (w1.setCell ⟨b7, 0, none⟩ v') B t u := fun B t u hB h1 h2 => by
    have h3 : Boxed w1 B t u := (hB.alloc tmp).kept hgrow (hB.not_row h1 hrow)
    exact h3.other h2 _
  have ne : ∀ (B t : Nat) (u : Value), Boxed W B t u → t ≠ 27 → B ≠ b7 := fun B t u hB h2 e => by
    have h5 := hB
    rw [e] at h5
    have h4 := (show W.heap[b7]? = _ from h5).symm.trans hv
    simp at h4
    exact h2 h4.2
  obtain ⟨m, D, hN, es, ck, hh, hrest⟩ := h.map
  obtain ⟨u, hu⟩ := h.str
  have hA := other _ _ _ hu (by decide) (ne _ _ _ hu (by decide))
  refine ⟨⟨other _ _ _ h.r4 (by decide) hd, other _ _ _ h.r5 (by decide) (ne _ _ _ h.r5 (by decide)), other _ _ _ h.box (by decide) (ne _ _ _ h.box (by decide)), ⟨m, D, hN, es, ck, hk2.same _ _ hh rfl, hrest⟩, ⟨v', hv2, by rw [List.length_append, clmC_app]; exact hr2, trivial⟩, other _ _ _ h.cnt (by decide) (ne _ _ _ h.cnt (by decide)), ⟨u, hA⟩, h.bel.trans hb2⟩, hk2.from _, ⟨hb2, ?_⟩, hv1.cell, hv1.frozen⟩
  exact (show _ = _ from hA).trans (show W.heap[Bs]? = _ from hu).symm
/-- One line more. -/
theorem Rds.count {B : Nat} (h : Rds w b4 b5 b6 b7 b8 Bs bM nm l k W) (hd : b4 ≠ b8 ∧ b5 ≠ b8 ∧ b6 ≠ b8 ∧ b7 ≠ b8 ∧ Bs ≠ b8 ∧ w.heap.size ≤ b8) (q : Nat) : Rds w b4 b5 b6 b7 b8 Bs bM nm l q (W.setCell ⟨b8, 0, none⟩ (.int .i64 q)) ∧ KeepsFrom B W (W.setCell ⟨b8, 0, none⟩ (.int .i64 q)) ∧ KpL w.heap.size Bs W (W.setCell ⟨b8, 0, none⟩ (.int .i64 q)) := by
  obtain ⟨m, D, hN, es, ck, hh, hrest⟩ := h.map
  obtain ⟨u, hu⟩ := h.str
  obtain ⟨v, hv, hrow, _⟩ := h.steps
  have hne : bM ≠ b8 := fun e => by
    rw [e, show W.heap[b8]? = _ from h.cnt] at hh
    cases hh
  have hA := hu.other hd.2.2.2.2.1 (.int .i64 q)
  refine ⟨⟨h.r4.other hd.1 _, h.r5.other hd.2.1 _, h.box.other hd.2.2.1 _, ⟨m, D, hN, es, ck, (Below.heap_setCell _ _ _ _ hne).trans hh, hrest⟩, ⟨v, hv.other hd.2.2.2.1 _, row_set hrow h.cnt (by decide), trivial⟩, h.cnt.set _, ⟨u, hA⟩, h.bel.setCell (p := ⟨b8, 0, none⟩) hd.2.2.2.2.2 _⟩, (KeepsOthers.setCell _ _ _).from _, ⟨(Below.refl _ _).setCell (p := ⟨b8, 0, none⟩) hd.2.2.2.2.2 _, ?_⟩⟩
  exact (show _ = _ from hA).trans (show W.heap[Bs]? = _ from hu).symm
end
end Go.Proofs.YtfnlcblalieolaaDoor

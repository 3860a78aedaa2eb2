/-
  What holds of each flat row; the look at it in steps: plain.
-/
import Derived.Test.YtgfaeeacndpniaaGreatDoorFlatP
import Derived.Test.YtgfaeeacndpniaaGreatDoorRefSmall
namespace Go.Proofs.YtgfaeeacndpniaaGreatDoor
open Go.RowKit Go.Extern.Stop Go.Stop Go.Extern

structure RowOk (D : Nat) (r : FRow) : Prop where
  few : FewIt r.item
  dp : r.deep ≤ D
  nt : r.nth ≤ r.up.length
  ul : r.up.length ≤ 1000
theorem flat_ok : ∀ (N : Nat) (t : It), sizeIt t ≤ N → FewIt t → ∀ (d n D : Nat) (up : List It), n ≤ up.length → up.length ≤ 1000 → d + sizeIt t ≤ D → ∀ r ∈ flatIt d n up t, RowOk D r ∧ d ≤ r.deep
  | 0, t, h, _, d, n, D, up, _, _, _ => by have := sizeIt_eq t; omega
  | N + 1, t, h, hF, d, n, D, up, hn, hu, hD => by
    obtain ⟨k1, k2, k3, k4, k5, k6⟩ := hF.get
    intro r hr
    rw [flatIt_eq] at hr
    rcases List.mem_cons.1 hr with rfl | hr
    · exact ⟨⟨hF, by show d ≤ D; omega, hn, hu⟩, Nat.le_refl _⟩
    · have hks : ∀ (l : List It) (j : Nat), (∀ x ∈ l, x ∈ t.kids) → j + l.length ≤ t.kids.length → ∀ r ∈ flatKs (d + 1) j t.kids l, RowOk D r ∧ d ≤ r.deep := by
        intro l
        induction l with
        | nil => intro j _ _ r hr; rw [flatKs] at hr; cases hr
        | cons x q ih =>
          intro j hx hj r hr
          rw [List.length_cons] at hj
          rw [flatKs] at hr
          rcases List.mem_append.1 hr with hr | hr
          · have hxm := hx x (by simp)
            have hxs := kid_size hxm
            have := flat_ok N x (by omega) (k6 x hxm) (d + 1) j D t.kids (by omega) k2 (by omega) r hr
            exact ⟨this.1, by have := this.2; omega⟩
          · exact ih (j + 1) (fun y hy => hx y (List.mem_cons_of_mem _ hy)) (by omega) r hr
      exact hks t.kids 0 (fun x hx => hx) (by omega) r hr
theorem flatKs_deep (d : Nat) (up : List It) : ∀ (l : List It) (n : Nat), ∀ r ∈ flatKs d n up l, d ≤ r.deep
  | [], n, r, hr => by rw [flatKs] at hr; cases hr
  | x :: q, n, r, hr => by
    rw [flatKs] at hr
    rcases List.mem_append.1 hr with hr | hr
    · have hd : ∀ (N : Nat) (t : It), sizeIt t ≤ N → ∀ (d n : Nat) (up : List It), ∀ r ∈ flatIt d n up t, d ≤ r.deep := by
        intro N
        induction N with
        | zero => intro t h; have := sizeIt_eq t; omega
        | succ N ih =>
          intro t h d n up r hr
          rw [flatIt_eq] at hr
          rcases List.mem_cons.1 hr with rfl | hr
          · exact Nat.le_refl _
          · have hks : ∀ (l : List It) (j : Nat), (∀ x ∈ l, sizeIt x ≤ N) → ∀ r ∈ flatKs (d + 1) j t.kids l, d ≤ r.deep := by
              intro l
              induction l with
              | nil => intro j _ r hr; rw [flatKs] at hr; cases hr
              | cons x q ih2 =>
                intro j hx r hr
                rw [flatKs] at hr
                rcases List.mem_append.1 hr with hr | hr
                · have := ih x (hx x (by simp)) (d + 1) j t.kids r hr; omega
                · exact ih2 (j + 1) (fun y hy => hx y (List.mem_cons_of_mem _ hy)) r hr
            exact hks t.kids 0 (fun x hx => by have := kid_size hx; omega) r hr
      exact hd _ x (Nat.le_refl _) d n up r hr
    · exact flatKs_deep d up q (n + 1) r hr
/-- The first row is the law, and no other one. -/
theorem row_first {t : It} {i : Nat} {r : FRow} (h : (flatIt 0 0 [] t)[i]? = some r) : (r.deep = 0 ↔ i = 0) ∧ (i = 0 → r.nth = 0) := by
  rw [flatIt_eq] at h
  cases i with
  | zero =>
    obtain rfl : (⟨t, 0, 0, []⟩ : FRow) = r := by simpa using h
    exact ⟨⟨fun _ => rfl, fun _ => rfl⟩, fun _ => rfl⟩
  | succ i =>
    have h1 : (flatKs 1 0 t.kids t.kids)[i]? = some r := by simpa using h
    have := flatKs_deep 1 t.kids t.kids 0 r (List.mem_of_getElem? h1)
    exact ⟨⟨fun e => by omega, fun e => by omega⟩, fun e => by omega⟩
def vcode : VOut → Nat
  | .bad c => c
  | .ok _ => 0
theorem vcode_inc (o : VOut) : vcode (inc o) = vcode o := by cases o <;> rfl
theorem scan_step {rows : List FRow} {i : Nat} {r : FRow} (h : rows[i]? = some r) : scanF i (rows.drop i) = if rowE i r = 0 then scanF (i + 1) (rows.drop (i + 1)) else .bad (rowE i r) := by
  obtain ⟨hi, e⟩ := List.getElem?_eq_some_iff.1 h
  rw [List.drop_eq_getElem_cons hi, e, scanF]
theorem scan_end {rows : List FRow} {i : Nat} (h : rows.length ≤ i) : scanF i (rows.drop i) = .ok i := by
  rw [List.drop_eq_nil_of_le h, scanF]
theorem any_take {α : Type} (f : α → Bool) (l : List α) (i : Nat) (x : α) (h : l[i]? = some x) : (l.take (i + 1)).any f = ((l.take i).any f || f x) := by
  obtain ⟨hi, e⟩ := List.getElem?_eq_some_iff.1 h
  rw [List.take_succ_eq_append_getElem hi, e, List.any_append]
  simp
theorem any_takeLe {α : Type} (f : α → Bool) (l : List α) (i : Nat) (h : (l.take i).any f = true) : l.any f = true := by
  rw [List.any_eq_true] at *
  obtain ⟨x, hx, e⟩ := h
  exact ⟨x, List.mem_of_mem_take hx, e⟩
theorem take_all {α : Type} {l : List α} {i : Nat} (h : i = l.length) : l.take i = l := List.take_of_length_le (by omega)
/-- Whether the heading and the first lines are lines. -/
noncomputable def eT (t : It) (k : Nat) : Nat := if lineB t.head = true ∧ (t.lines.take k).any badB = false then 0 else 1
theorem eight {W : World} {g : Nat} {a0 a1 a2 a3 a4 a5 a6 a7 : Value} {t : TypeId} (h : W.heap[g]? = some (.cells #[a0, a1, a2, a3, a4, a5, a6, a7] t (0, 0))) :
    W.cell? ⟨g, 0, none⟩ = some a0 ∧ W.cell? ⟨g, 1, none⟩ = some a1 ∧ W.cell? ⟨g, 2, none⟩ = some a2 ∧ W.cell? ⟨g, 3, none⟩ = some a3 ∧ W.cell? ⟨g, 4, none⟩ = some a4 ∧ W.cell? ⟨g, 5, none⟩ = some a5 ∧ W.cell? ⟨g, 6, none⟩ = some a6 ∧ W.cell? ⟨g, 7, none⟩ = some a7 := by
  refine ⟨?_, ?_, ?_, ?_, ?_, ?_, ?_, ?_⟩ <;> simp [World.cell?, h]
end Go.Proofs.YtgfaeeacndpniaaGreatDoor

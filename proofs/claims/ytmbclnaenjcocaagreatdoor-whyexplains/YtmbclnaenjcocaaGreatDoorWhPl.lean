/-
  Explanations, plain: which lists of steps are right; what they say follows. No walk.
-/
import Derived.Test.YtmbclnaenjcocaaGreatDoorRsBld
import Derived.Test.YtmbclnaenjcocaaGreatDoorRsV1
namespace Go.Proofs.YtmbclnaenjcocaaGreatDoor
open Go.RowKit
section
variable {T : Thy} {s : St}

/-- Each step follows from those ahead of it. -/
def goodL (T : Thy) : Marks → List Clm → Prop
  | _, [] => True
  | S, c :: l => IsLit T c.2.2 ∧ Can T S (kOf c.1 c.2.1) c.2.2 ∧ goodL T (addM S (kOf c.1 c.2.1) c.2.2) l
theorem addM_same {S : Marks} {k : Nat} {q : Int} (h : S k q) : addM S k q = S := by
  funext k' q'
  apply propext
  unfold addM
  constructor
  · rintro (e | ⟨e1, e2⟩)
    · exact e
    · rw [e1, e2]; exact h
  · exact fun e => .inl e
theorem goodL_fol : ∀ (l : List Clm) {S : Marks}, Shw T S → goodL T S l → ∀ c, c ∈ l → IsLit T c.2.2 ∧ Fol T (kOf c.1 c.2.1) c.2.2
  | [], S, _, _, c, hc => by cases hc
  | x :: l, S, hS, hg, c, hc => by
    obtain ⟨h1, h2, h3⟩ := hg
    have hS' := hS.add h1 h2
    rcases List.mem_cons.1 hc with rfl | hc
    · exact ⟨h1, hS'.fol _ _ (.inr ⟨rfl, rfl⟩)⟩
    · exact goodL_fol l hS' h3 c hc
theorem mk_st0 (T : Thy) : mk T (st0 T) = fun _ _ => False := by
  funext k q
  apply propext
  unfold mk
  constructor
  · rintro ⟨_, h⟩
    match k, h with
    | 0, h => cases h
    | 1, h => cases h
    | 2, h => cases h
    | 3, h => cases h
    | _ + 4, h => exact h
  · exact fun h => h.elim
theorem noLit_iff {q : Int} : noLit T q = false ↔ IsLit T q := by
  unfold noLit IsLit
  simp only [Bool.or_eq_false_iff, beq_eq_false_iff_ne, decide_eq_false_iff_not, ne_eq]
  omega
def shwn (s : St) (p : Nat) (a : Bool) : Int := if a then s.su p else s.ho p
theorem shwn_mk {q : Int} (hq : IsLit T q) {a b : Bool} : shwn s (pl q) a = ansOf b ↔ mk T s (kOf a b) q := by
  unfold shwn mk kOf ansOf
  cases a <;> cases b <;> simp [hq]
/-- Where a claim follows that is not known yet, nothing is known. -/
theorem settle0 (hT : Okt T) (h : Fine T s) {q : Int} (hq : IsLit T q) {a b : Bool} (hn : shwn s (pl q) a ≠ ansOf b) (hf : fol4 (shOf T) s (pl q) a b = true) : shwn s (pl q) a = 0 := by
  rw [fol4_iff hT h.1 hq] at hf
  cases a
  · have hn : s.ho (pl q) ≠ ansOf b := hn
    show s.ho (pl q) = 0
    rcases h.1.t2 (pl q) with e | e | e
    · exact e
    · cases b
      · exact (h.2.coh.holds_step (h.2.sup 2 q ⟨hq, e⟩) hf).elim
      · exact absurd e hn
    · cases b
      · exact absurd e hn
      · exact (h.2.coh.holds_step hf (h.2.sup 3 q ⟨hq, e⟩)).elim
  · have hn : s.su (pl q) ≠ ansOf b := hn
    show s.su (pl q) = 0
    rcases h.1.t1 (pl q) with e | e | e
    · exact e
    · cases b
      · exact (h.2.coh.sure_step (h.2.sup 0 q ⟨hq, e⟩) hf).elim
      · exact absurd e hn
    · cases b
      · exact absurd e hn
      · exact (h.2.coh.sure_step hf (h.2.sup 1 q ⟨hq, e⟩)).elim
/-- One step more. -/
theorem good_lit {c : Clm} {l : List Clm} {S : Marks} (h : ¬ IsLit T c.2.2) : ¬ goodL T S (c :: l) := fun e => h e.1
theorem good_has (h : Fine T s) {a b : Bool} {q : Int} (hq : IsLit T q) (hh : shwn s (pl q) a = ansOf b) (l : List Clm) : goodL T (mk T s) ((a, b, q) :: l) ↔ goodL T (mk T s) l := by
  have hm := (shwn_mk hq).1 hh
  show (IsLit T q ∧ Can T (mk T s) (kOf a b) q ∧ goodL T (addM (mk T s) (kOf a b) q) l) ↔ _
  rw [addM_same hm]
  exact ⟨fun e => e.2.2, fun e => ⟨hq, h.2.sup _ _ hm, e⟩⟩
theorem good_not (hT : Okt T) (h : Fine T s) {a b : Bool} {q : Int} (hq : IsLit T q) (hf : fol4 (shOf T) s (pl q) a b = false) (l : List Clm) : ¬ goodL T (mk T s) ((a, b, q) :: l) := fun e => by
  have := (fol4_iff hT h.1 hq a b).2 e.2.1
  rw [hf] at this
  cases this
theorem good_take (hT : Okt T) (h : Fine T s) {a b : Bool} {q : Int} (hq : IsLit T q) (hn : shwn s (pl q) a ≠ ansOf b) (hf : fol4 (shOf T) s (pl q) a b = true) (l : List Clm) : Fine T (litTake (shOf T) s (pl q) a b) ∧ (goodL T (mk T s) ((a, b, q) :: l) ↔ goodL T (mk T (litTake (shOf T) s (pl q) a b)) l) := by
  have h0 := settle0 hT h hq hn hf
  have ht : toShow (shOf T) s (pl q) a b = true := toShow_iff.2 ⟨h0, hf⟩
  refine ⟨(stays hT).step s q a b (hq.ok hT) h ht, ?_⟩
  rw [mk_take hq a b h0]
  show (IsLit T q ∧ Can T (mk T s) (kOf a b) q ∧ goodL T (addM (mk T s) (kOf a b) q) l) ↔ _
  exact ⟨fun e => e.2.2, fun e => ⟨hq, (fol4_iff hT h.1 hq a b).1 hf, e⟩⟩
end
/-- Steps that can be read at a slice, in blocks below B. -/
def SRd (w : World) (B : Nat) (v : Value) (l : List Clm) : Prop :=
  ∃ a c, v = .slice a l.length c ∧ l.length ≤ 8796093022208 ∧ ∀ j x, l[j]? = some x → ∃ g o, a = some ⟨g, o, none⟩ ∧ g < B ∧ w.cell? ⟨g, o + j * 3, none⟩ = some (.bool x.1) ∧ w.cell? ⟨g, o + j * 3 + 1, none⟩ = some (.bool x.2.1) ∧ w.cell? ⟨g, o + j * 3 + 2, none⟩ = some (.int .i64 x.2.2)
theorem SRd.on {w w' : World} {B : Nat} {v : Value} {l : List Clm} (h : SRd w B v l) (hb : ∀ k, k < B → w'.heap[k]? = w.heap[k]?) : SRd w' B v l := by
  obtain ⟨a, c, e, hl, hx⟩ := h
  refine ⟨a, c, e, hl, fun j x hj => ?_⟩
  obtain ⟨g, o, h1, h2, h3, h4, h5⟩ := hx j x hj
  exact ⟨g, o, h1, h2, (World.cell?_of_block (a := ⟨g, o + j * 3, none⟩) (hb g h2)).trans h3, (World.cell?_of_block (a := ⟨g, o + j * 3 + 1, none⟩) (hb g h2)).trans h4, (World.cell?_of_block (a := ⟨g, o + j * 3 + 2, none⟩) (hb g h2)).trans h5⟩
theorem SRd.at {w : World} {B n c : Nat} {a : Option Addr} {l : List Clm} (h : SRd w B (.slice a n c) l) {j : Nat} {x : Clm} (hj : l[j]? = some x) : ∃ g o, a = some ⟨g, o, none⟩ ∧ g < B ∧ w.cell? ⟨g, o + j * 3, none⟩ = some (.bool x.1) ∧ w.cell? ⟨g, o + j * 3 + 1, none⟩ = some (.bool x.2.1) ∧ w.cell? ⟨g, o + j * 3 + 2, none⟩ = some (.int .i64 x.2.2) := by
  obtain ⟨a', c', e, _, hx⟩ := h
  injection e with e1 _ _
  subst e1
  exact hx j x hj
theorem srd_row {w : World} {t g : Nat} {l : List Clm} {f : Nat → Clm} (h : w.rowIs g t (l.length * 3) (cF f l.length)) (hf : ∀ j x, l[j]? = some x → f j = x) (hl : l.length ≤ 8796093022208) : SRd w (g + 1) (.slice (some ⟨g, 0, none⟩) l.length l.length) l := by
  refine ⟨_, _, rfl, hl, fun j x hj => ⟨g, 0, rfl, by omega, ?_⟩⟩
  have hjl := (List.getElem?_eq_some_iff.1 hj).1
  have e := hf j x hj
  have h0 := h.cell (i := j * 3) (by omega)
  have h1 := h.cell (i := j * 3 + 1) (by omega)
  have h2 := h.cell (i := j * 3 + 2) (by omega)
  unfold cF at h0 h1 h2
  rw [show j * 3 % 3 = 0 by omega, show j * 3 / 3 = j by omega] at h0
  rw [show (j * 3 + 1) % 3 = 1 by omega, show (j * 3 + 1) / 3 = j by omega] at h1
  rw [show (j * 3 + 2) % 3 = 2 by omega, show (j * 3 + 2) / 3 = j by omega] at h2
  simp only [if_pos hjl, e] at h0 h1 h2
  rw [Nat.zero_add]
  exact ⟨h0, h1, h2⟩
theorem srd_own {w : World} {lo t : Nat} {v : Value} {l : List Clm} (h : w.ownsRow lo t 3 v l.length (clmC l)) (hl : l.length ≤ 8796093022208) : SRd w w.heap.size v l := by
  obtain ⟨a, c, e⟩ := row_any h
  refine ⟨a, c, e, hl, fun j x hj => ?_⟩
  subst e
  rcases h.2 with ⟨_, h0⟩ | ⟨g, cap, cur, e1, _, hgg, _⟩
  · have := (List.getElem?_eq_some_iff.1 hj).1
    omega
  · injection e1 with e1 _ _
    subst e1
    obtain ⟨p1, p2, p3⟩ := clmC_get l j x hj
    have c1 := World.ownsRow.cells h (g := g) rfl (j * 3) _ p1
    have c2 := World.ownsRow.cells h (g := g) rfl (j * 3 + 1) _ p2
    have c3 := World.ownsRow.cells h (g := g) rfl (j * 3 + 2) _ p3
    have ad : ∀ j, (⟨g, 0, none⟩ : Addr).add j = ⟨g, j, none⟩ := fun j => by
      unfold Addr.add
      split
      · rename_i h0
        rw [h0]
      · simp
    rw [ad] at c1 c2 c3
    exact ⟨g, 0, rfl, (Array.getElem?_eq_some_iff.1 hgg).1, by rw [Nat.zero_add]; exact c1, by rw [Nat.zero_add]; exact c2, by rw [Nat.zero_add]; exact c3⟩
end Go.Proofs.YtmbclnaenjcocaaGreatDoor

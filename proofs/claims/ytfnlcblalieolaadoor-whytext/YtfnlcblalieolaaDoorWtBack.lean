/-
  An explanation's text is read as it: plain.
-/
import Derived.Test.YtfnlcblalieolaaDoorWtWordy
namespace Go.Proofs.YtfnlcblalieolaaDoor

theorem numAt {nm : List ByteArray} (hW : Wordy nm) {k : Nat} (hk : k < nm.length) : numOf nm (nameAt nm k) = k + 1 := by
  have e : nm[k]? = some nm[k] := List.getElem?_eq_getElem hk
  have : nameAt nm k = nm[k] := by unfold nameAt; rw [e]; rfl
  rw [this]
  exact numOf_at nm _ k hW.nd e
theorem nameAt_ok {nm : List ByteArray} (hW : Wordy nm) {k : Nat} (hk : k < nm.length) : ∀ c, c ∈ bl (nameAt nm k) → 48 ≤ c.toNat := by
  have e : nm[k]? = some nm[k] := List.getElem?_eq_getElem hk
  have : nameAt nm k = nm[k] := by unfold nameAt; rw [e]; rfl
  rw [this]
  exact hW.ok _ (List.getElem_mem hk)
/-- What is written of a literal that the names have. -/
structure LitIn (nm : List ByteArray) (q : Int) : Prop where
  ne : q ≠ 0
  lo : -(nm.length : Int) ≤ q
  hi : q ≤ nm.length
theorem no_ten {l : List UInt8} (h : ∀ c, c ∈ l → 48 ≤ c.toNat) : 10 ∉ l := fun e => by have := h 10 e; revert this; decide
theorem bl_toA (s : List UInt8) : bl (⟨s.toArray⟩ : ByteArray) = s := by simp [bl]
theorem toA_bl (x : ByteArray) : (⟨(bl x).toArray⟩ : ByteArray) = x := by simp [bl]
theorem pre_app (p r : List UInt8) : Lib.hasPrefix (p ++ r) p = true := (pre_iff _ _).2 ⟨r, rfl⟩
theorem trim_app (p r : List UInt8) : Lib.trimPrefix (p ++ r) p = r := by
  unfold Lib.trimPrefix
  rw [if_pos (pre_app p r)]
  simp
theorem not_pre {l : List UInt8} (h : ∀ c, c ∈ l → 48 ≤ c.toNat) : Lib.hasPrefix l (bl notB) = false := by
  cases e : Lib.hasPrefix l (bl notB)
  · rfl
  · rw [pre_iff] at e
    obtain ⟨t, e⟩ := e
    have h32 : (32 : UInt8) ∈ l := by rw [← e]; simp [bl, notB]
    have := h 32 h32
    revert this
    decide
theorem nameR_lit {nm : List ByteArray} (hW : Wordy nm) (a b : Bool) {q : Int} (h : LitIn nm q) : nameR nm a b (bl (litB nm q)) = .inr (a, b, q) := by
  have hne := h.ne
  have hlo := h.lo
  have hhi := h.hi
  by_cases hp : 0 < q
  · have hl : litB nm q = nameAt nm (q - 1).toNat := by unfold litB; rw [if_pos ⟨hp, hhi⟩]
    have hk : (q - 1).toNat < nm.length := by omega
    have hnp := not_pre (nameAt_ok hW hk)
    have ht : Lib.trimPrefix (bl (nameAt nm (q - 1).toNat)) (bl notB) = bl (nameAt nm (q - 1).toNat) := by
      unfold Lib.trimPrefix
      rw [if_neg (by rw [hnp]; decide)]
    rw [hl]
    unfold nameR
    rw [ht, toA_bl, numAt hW hk, if_neg (by omega), hnp]
    simp only [Bool.false_eq_true, if_false]
    rw [show (((q - 1).toNat + 1 : Nat) : Int) = q by omega]
  · have hl : litB nm q = notB ++ nameAt nm (-q - 1).toNat := by unfold litB; rw [if_neg (by omega), if_pos ⟨by omega, hlo⟩]
    have hk : (-q - 1).toNat < nm.length := by omega
    have hb : bl (notB ++ nameAt nm (-q - 1).toNat) = bl notB ++ bl (nameAt nm (-q - 1).toNat) := bl_cat _ _
    rw [hl]
    unfold nameR
    rw [hb, trim_app, pre_app, toA_bl, numAt hW hk, if_neg (by omega), if_pos rfl]
    rw [show -(((-q - 1).toNat + 1 : Nat) : Int) = q by omega]
/-- The number of a step's words. -/
def kOf (a b : Bool) : Nat := if a then (if b then 0 else 1) else (if b then 2 else 3)
theorem kOf_lt (a b : Bool) : kOf a b < 4 := by cases a <;> cases b <;> decide
theorem kOf_wd (a b : Bool) : wd (kOf a b) = wordB a b ∧ kindA (kOf a b) = a ∧ kindB (kOf a b) = b := by cases a <;> cases b <;> exact ⟨rfl, rfl, rfl⟩
theorem rowR_step {nm : List ByteArray} (hW : Wordy nm) (x : Clm) (h : LitIn nm x.2.2) : rowR nm (bl (wordB x.1 x.2.1) ++ bl (litB nm x.2.2)) 4 0 = .inr x := by
  obtain ⟨h1, h2, h3⟩ := kOf_wd x.1 x.2.1
  have hp : Lib.hasPrefix (bl (wordB x.1 x.2.1) ++ bl (litB nm x.2.2)) (bl (wd (kOf x.1 x.2.1))) = true := by rw [h1]; exact pre_app _ _
  rw [rowR_some nm _ (kOf_lt _ _) hp, h1, h2, h3]
  rw [show (bl (wordB x.1 x.2.1) ++ bl (litB nm x.2.2)).drop (wordB x.1 x.2.1).size = bl (litB nm x.2.2) by rw [← size_bl]; simp]
  exact nameR_lit hW x.1 x.2.1 h
theorem word_no (a b : Bool) : 10 ∉ bl (wordB a b) := by cases a <;> cases b <;> decide
theorem lit_no {nm : List ByteArray} (hW : Wordy nm) {q : Int} (h : LitIn nm q) : 10 ∉ bl (litB nm q) := by
  unfold litB
  have hne := h.ne
  have hlo := h.lo
  have hhi := h.hi
  by_cases hp : 0 < q
  · rw [if_pos ⟨hp, hhi⟩]
    exact no_ten (nameAt_ok hW (by omega))
  · rw [if_neg (by omega), if_pos ⟨by omega, hlo⟩, bl_cat]
    intro e
    rcases List.mem_append.1 e with e | e
    · revert e; decide
    · exact no_ten (nameAt_ok hW (by omega)) e
/-- THE TEXT OF AN EXPLANATION IS READ AS IT. -/
theorem back {nm : List ByteArray} (hW : Wordy nm) : ∀ l : List Clm, (∀ x, x ∈ l → LitIn nm x.2.2) → stepsO nm (rowsA [] (textL nm l)) = .inl l
  | [], _ => rfl
  | x :: l, h => by
    have hx := h x (List.mem_cons_self ..)
    have e : textL nm (x :: l) = (bl (wordB x.1 x.2.1) ++ bl (litB nm x.2.2)) ++ 10 :: textL nm l := by
      rw [textL, stepL]
      simp
    rw [e, rowsA_nl _ [] _ (fun e => by rcases List.mem_append.1 e with e | e; exact word_no _ _ e; exact lit_no hW hx e), List.nil_append, stepsO, rowR_step hW x hx, back hW l fun y hy => h y (List.mem_cons_of_mem _ hy)]
end Go.Proofs.YtfnlcblalieolaaDoor

/-
  Explanations' texts, plain: the words of a step, a literal's name, the text of steps. No walk.
-/
import Derived.Test.YtfnlcblalieolaaDoorBytePlain
namespace Go.Proofs.YtfnlcblalieolaaDoor

abbrev Clm := Bool × Bool × Int
/-- The words of a step, up to the blank behind them. -/
def wordB (a b : Bool) : ByteArray :=
  if a then (if b then ⟨#[115, 117, 114, 101, 32]⟩ else ⟨#[110, 111, 116, 32, 115, 117, 114, 101, 32]⟩) else (if b then ⟨#[104, 111, 108, 100, 115, 32]⟩ else ⟨#[102, 97, 105, 108, 115, 32]⟩)
def notB : ByteArray := ⟨#[110, 111, 116, 32]⟩
def askB : ByteArray := ⟨#[63]⟩
def nameAt (nm : List ByteArray) (i : Nat) : ByteArray := (nm[i]?).getD ⟨#[]⟩
/-- What is written of a literal. -/
def litB (nm : List ByteArray) (q : Int) : ByteArray :=
  if 0 < q ∧ q ≤ nm.length then nameAt nm (q - 1).toNat else if q < 0 ∧ -(nm.length : Int) ≤ q then notB ++ nameAt nm (-q - 1).toNat else askB
/-- The bytes of a step's line. -/
def stepL (nm : List ByteArray) (x : Clm) : List UInt8 := bl (wordB x.1 x.2.1) ++ (bl (litB nm x.2.2) ++ [10])
def textL (nm : List ByteArray) : List Clm → List UInt8
  | [] => []
  | x :: l => stepL nm x ++ textL nm l
theorem textL_app (nm : List ByteArray) : ∀ (l m : List Clm), textL nm (l ++ m) = textL nm l ++ textL nm m
  | [], m => rfl
  | x :: l, m => by rw [List.cons_append, textL, textL, textL_app nm l m, List.append_assoc]
theorem wordB_size (a b : Bool) : (wordB a b).size ≤ 9 := by cases a <;> cases b <;> decide
theorem nameAt_size {nm : List ByteArray} (h : ∀ s, s ∈ nm → s.size ≤ 24) (i : Nat) : (nameAt nm i).size ≤ 24 := by
  unfold nameAt
  cases e : nm[i]? with
  | none => exact Nat.zero_le _
  | some s => exact h s (List.mem_of_getElem? e)
theorem litB_size {nm : List ByteArray} (h : ∀ s, s ∈ nm → s.size ≤ 24) (q : Int) : (litB nm q).size ≤ 28 := by
  unfold litB
  split
  · exact Nat.le_trans (nameAt_size h _) (by decide)
  · split
    · have := nameAt_size h (-q - 1).toNat
      rw [ByteArray.size_append]
      have e : notB.size = 4 := rfl
      omega
    · decide
theorem stepL_len {nm : List ByteArray} (h : ∀ s, s ∈ nm → s.size ≤ 24) (x : Clm) : (stepL nm x).length ≤ 38 := by
  unfold stepL
  have h1 := wordB_size x.1 x.2.1
  have h2 := litB_size h x.2.2
  rw [List.length_append, List.length_append, size_bl, size_bl]
  simp
  omega
theorem textL_len {nm : List ByteArray} (h : ∀ s, s ∈ nm → s.size ≤ 24) : ∀ l : List Clm, (textL nm l).length ≤ l.length * 38
  | [] => Nat.zero_le _
  | x :: l => by
    rw [textL, List.length_append, List.length_cons]
    have h1 := stepL_len h x
    have h2 := textL_len h l
    omega
theorem stepL_ne (nm : List ByteArray) (x : Clm) : stepL nm x ≠ [] := by unfold stepL; simp
end Go.Proofs.YtfnlcblalieolaaDoor

/-
  Laws as trees: plain, no program.
-/
import Derived.WalkKit
import Derived.Test.YtagdenpmonedlaaDoorProg
namespace Go.Proofs.YtagdenpmonedlaaDoor
open Go.RowKit Go.Extern.Stop Go.Stop Go.Extern

/-- A provision: its label, its heading, its lines, its kids. -/
inductive It where
  | mk (label head : ByteArray) (lines : List ByteArray) (kids : List It)
def It.label : It → ByteArray | .mk a _ _ _ => a
def It.head : It → ByteArray | .mk _ b _ _ => b
def It.lines : It → List ByteArray | .mk _ _ c _ => c
def It.kids : It → List It | .mk _ _ _ d => d
theorem It.eta : ∀ t : It, t = .mk t.label t.head t.lines t.kids | .mk _ _ _ _ => rfl
def It.addKid (t k : It) : It := .mk t.label t.head t.lines (t.kids ++ [k])
def It.addLine (t : It) (s : ByteArray) : It := .mk t.label t.head (t.lines ++ [s]) t.kids
def It.none : It := .mk ⟨#[]⟩ ⟨#[]⟩ [] []
/-- The open items put into one another: the law. -/
def closeAll : List It → It
  | [] => It.none
  | [a] => a
  | a :: b :: r => a.addKid (closeAll (b :: r))
theorem closeAll_two (a b : It) (r : List It) : closeAll (a :: b :: r) = a.addKid (closeAll (b :: r)) := by rw [closeAll]
theorem closeAll_one (a : It) : closeAll [a] = a := by rw [closeAll]
theorem closeAll_drop (z : List It) (k : Nat) (a : It) (h : z[k]? = some a) (h2 : k + 1 < z.length) : closeAll (z.drop k) = a.addKid (closeAll (z.drop (k + 1))) := by
  obtain ⟨hk, e⟩ := List.getElem?_eq_some_iff.1 h
  rw [List.drop_eq_getElem_cons hk, e]
  rw [List.drop_eq_getElem_cons h2, closeAll_two]
theorem closeAll_last (z : List It) (k : Nat) (a : It) (h : z[k]? = some a) (h2 : z.length = k + 1) : closeAll (z.drop k) = a := by
  obtain ⟨hk, e⟩ := List.getElem?_eq_some_iff.1 h
  rw [List.drop_eq_getElem_cons hk, e, List.drop_eq_nil_of_le (by omega), closeAll_one]
/-- What is open if the items behind the k-th are put into it. -/
def shutB (k : Nat) (z : List It) : List It := z.take k ++ [closeAll (z.drop k)]
theorem shutB_len {k : Nat} {z : List It} (h : k < z.length) : (shutB k z).length = k + 1 := by unfold shutB; simp; omega
theorem shutB_last {z : List It} {k : Nat} (h : z.length = k + 1) : shutB k z = z := by
  unfold shutB
  obtain ⟨a, ha⟩ : ∃ a, z[k]? = some a := ⟨_, List.getElem?_eq_getElem (by omega)⟩
  rw [closeAll_last z k a ha h]
  obtain ⟨hk, e⟩ := List.getElem?_eq_some_iff.1 ha
  conv => rhs; rw [← List.take_append_drop k z]
  rw [List.drop_eq_getElem_cons hk, e, List.drop_eq_nil_of_le (by omega)]
theorem shutB_at {k : Nat} {z : List It} (h : k < z.length) : (shutB k z)[k]? = some (closeAll (z.drop k)) := by
  unfold shutB
  rw [List.getElem?_append_right (by simp; omega)]
  simp
  rw [show k - min k z.length = 0 by omega]
  rfl
theorem shutB_lt {k j : Nat} {z : List It} (h : j < k) (hk : k < z.length) : (shutB k z)[j]? = z[j]? := by
  unfold shutB
  rw [List.getElem?_append_left (by simp; omega), List.getElem?_take, if_pos h]

end Go.Proofs.YtagdenpmonedlaaDoor

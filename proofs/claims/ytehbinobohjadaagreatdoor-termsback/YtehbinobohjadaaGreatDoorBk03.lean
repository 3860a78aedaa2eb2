/-
  The reference's parser: among, grammar, deeper.
-/
import Derived.Test.YtehbinobohjadaaGreatDoorBk02
namespace Go.Proofs.YtehbinobohjadaaGreatDoor
open Go.RowKit Go.Extern.Stop Go.Stop Go.Extern

def plcI (ls : List ByteArray) (s : ByteArray) : Int := match placeIn ls s with
  | none => -1
  | some i => i
theorem plcI_none {ls : List ByteArray} {s : ByteArray} (h : ∀ (j : Nat) x, ls[j]? = some x → (x.toList == s.toList) = false) : plcI ls s = -1 := by
  unfold plcI placeIn
  rw [List.findIdx?_eq_none_iff.2 (fun x hx => by
    obtain ⟨j, hj, rfl⟩ := List.mem_iff_getElem.1 hx
    exact h j _ (List.getElem?_eq_getElem hj))]
theorem plcI_some {ls : List ByteArray} {s x : ByteArray} {i : Nat} (hx : ls[i]? = some x) (h1 : (x.toList == s.toList) = true) (h2 : ∀ (j : Nat) y, j < i → ls[j]? = some y → (y.toList == s.toList) = false) : plcI ls s = i := by
  unfold plcI placeIn
  have : ls.findIdx? (fun x => eqB x s) = some i := by
    rw [List.findIdx?_eq_some_iff_getElem]
    obtain ⟨hi, rfl⟩ := List.getElem?_eq_some_iff.1 hx
    refine ⟨hi, h1, fun j hj => ?_⟩
    have hjl : j < ls.length := by omega
    have := h2 j (ls[j]'hjl) hj (List.getElem?_eq_getElem hjl)
    unfold eqB
    simpa using this
  rw [this]
theorem plcI_neg {ls : List ByteArray} {s : ByteArray} : plcI ls s < 0 ↔ placeIn ls s = none := by
  unfold plcI
  cases placeIn ls s with
  | none => simp
  | some i => simp
end Go.Proofs.YtehbinobohjadaaGreatDoor

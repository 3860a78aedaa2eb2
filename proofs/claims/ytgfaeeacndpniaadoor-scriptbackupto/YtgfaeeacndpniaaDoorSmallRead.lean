/-
  A law that was read is small: plain.
-/
import Derived.Test.YtgfaeeacndpniaaDoorSameP
import Derived.Test.YtgfaeeacndpniaaDoorPlains2
namespace Go.Proofs.YtgfaeeacndpniaaDoor
open Go.RowKit Go.Extern.Stop Go.Stop Go.Extern

theorem small_leaf (a b : ByteArray) : SmallIt (It.mk a b [] []) := .mk _ (by simp [It.lines]) (by simp [It.kids]) (fun k hk => by cases hk)
theorem small_addKid {a k : It} (ha : SmallIt a) (hk : SmallIt k) (hl : a.kids.length ≤ 1000) : SmallIt (a.addKid k) := by
  cases ha with
  | mk _ h1 h2 h3 =>
    refine .mk _ h1 ?_ (fun x hx => ?_)
    · show (a.kids ++ [k]).length ≤ _
      simp; omega
    · have hx : x ∈ a.kids ++ [k] := hx
      rcases List.mem_append.1 hx with h | h
      · exact h3 x h
      · rw [List.mem_singleton.1 h]; exact hk
theorem small_addLine {a : It} {s : ByteArray} (ha : SmallIt a) (hl : a.lines.length ≤ 1000) : SmallIt (a.addLine s) := by
  cases ha with
  | mk _ h1 h2 h3 =>
    refine .mk _ ?_ h2 h3
    show (a.lines ++ [s]).length ≤ _
    simp; omega
theorem small_close : ∀ (z : List It), z ≠ [] → (∀ t ∈ z, SmallIt t ∧ t.kids.length ≤ 1000) → SmallIt (closeAll z)
  | [], h, _ => absurd rfl h
  | [a], _, h => by rw [closeAll_one]; exact (h a (by simp)).1
  | a :: b :: r, _, h => by
    rw [closeAll_two]
    exact small_addKid (h a (by simp)).1 (small_close (b :: r) (by simp) (fun t ht => h t (List.mem_cons_of_mem _ ht))) (h a (by simp)).2
theorem small_line {z : List It} {n d : Nat} {rest : ByteArray} {z' : List It} {n' : Nat} (hO : OkZ z n) (hS : ∀ t ∈ z, SmallIt t) (e : lineS z n d rest = .good z' n') : ∀ t ∈ z', SmallIt t := by
  unfold lineS at e
  split at e
  · cases e
  · split at e
    · cases e
    · split at e
      · rename_i h1 h2 h3
        have hd : d < z.length := by omega
        obtain ⟨t, ht⟩ : ∃ t, z[d]? = some t := ⟨_, List.getElem?_eq_getElem hd⟩
        rw [closeAll_last z d t ht (by omega)] at e
        injection e with e1 e2
        subst e1 e2
        have htm := List.mem_of_getElem? ht
        intro u hu
        rcases List.mem_or_eq_of_mem_set hu with hu | hu
        · exact hS u hu
        · rw [hu]; exact small_addLine (hS t htm) (by have := hO.lines t htm; omega)
      · cases e
theorem small_prov {z : List It} {n d : Nat} {body : ByteArray} {z' : List It} {n' : Nat} (hO : OkZ z n) (hS : ∀ t ∈ z, SmallIt t) (hd : d < z.length) (e : provS z n d body = .good z' n') : ∀ t ∈ z', SmallIt t := by
  unfold provS at e
  split at e
  · cases e
  · split at e
    · cases e
    · split at e
      · injection e with e1 e2
        subst e1 e2
        intro u hu
        rcases List.mem_append.1 hu with hu | hu
        · unfold shutB at hu
          rcases List.mem_append.1 hu with h1 | h1
          · exact hS u (List.mem_of_mem_take h1)
          · rw [List.mem_singleton.1 h1]
            refine small_close _ ?_ fun t ht => ?_
            · intro h0
              have := congrArg List.length h0
              simp at this
              omega
            · have htz := List.mem_of_mem_drop ht
              exact ⟨hS t htz, by have := hO.kid htz; omega⟩
        · rw [List.mem_singleton.1 hu]; exact small_leaf _ _
      · cases e
theorem small_take {z : List It} {n : Nat} {row : ByteArray} {z' : List It} {n' : Nat} (hO : OkZ z n) (hS : ∀ t ∈ z, SmallIt t) (e : takeS z n row = .good z' n') : ∀ t ∈ z', SmallIt t := by
  unfold takeS at e
  split at e
  · cases e
  · split at e
    · unfold lawS at e
      split at e
      · split at e
        · injection e with e1 e2
          subst e1 e2
          intro u hu
          rw [List.mem_singleton.1 hu]; exact small_leaf _ _
        · cases e
      · cases e
    · split at e
      · cases e
      · split at e
        · exact small_line hO hS e
        · exact small_prov hO hS (by omega) e
theorem small_goR : ∀ (rows : List ByteArray) (z : List It) (n i : Nat) (t : It), OkZ z n → (∀ t ∈ z, SmallIt t) → goR z n i rows = .good t → SmallIt t
  | [], z, n, i, t, hO, hS, e => by
    rw [goR] at e
    split at e
    · cases e
    · rename_i h0
      injection e with e
      rw [← e]
      exact small_close z (fun h => h0 (by rw [h]; rfl)) fun u hu => ⟨hS u hu, by have := hO.kid hu; omega⟩
  | row :: r, z, n, i, t, hO, hS, e => by
    rw [goR] at e
    split at e
    · exact small_goR r z n (i + 1) t hO hS e
    · split at e
      · cases e
      · rename_i z' n' h
        exact small_goR r z' n' (i + 1) t (hO.take h) (small_take hO hS h) e
theorem small_read {s : ByteArray} {t : It} (h : readB s = .good t) : SmallIt t := by
  unfold readB at h
  split at h
  · cases h
  · exact small_goR _ _ _ _ _ OkZ.start (fun t ht => by cases ht) h
end Go.Proofs.YtgfaeeacndpniaaDoor

/-
  A slice that a law is handed, out of its reading, an element at a time.
-/
import Derived.Test.YtpijiglmjkdlgaaDoorRows
import Derived.Test.YtpijiglmjkdlgaaDoorEncMem
import Derived.ProofKit
import Derived.LaidMore
import Derived.OpenShut
import Derived.Stop.Joined
import Derived.SevenTiedAt
import Derived.WideLaws
import Derived.ChangeSlices
import Derived.ChangeSame
import Derived.Carry
namespace Go.Proofs.YtpijiglmjkdlgaaDoor
open Go.ChangeShapes Go.WideShapes Go.ChangeAt Go.WideMaps Go.WideElems Go.RowKit

theorem Tryd.ownAll : ownKnob Tryd.prog.godebug = none := by kernel_rfl
theorem Tryd.laidOutAll : laidOutB Tryd.prog = true := by kernel_rfl
section
variable {H : Type} {enc : TypeId × Value → H} {W : World}
theorem spot_none {a : Addr} {u : Value} (h : W.cell? a = some u) : ∃ b o, a = ⟨b, o, none⟩ := by
  obtain ⟨b, o, sp⟩ := a
  have hs := World.cell?_spot h
  have hs' : sp = none := hs
  subst hs'
  exact ⟨b, o, rfl⟩
theorem addr_plus (b o j : Nat) : (⟨b, o, none⟩ : Addr).add j = ⟨b, o + j, none⟩ := by cases j <;> simp [Addr.add]
theorem cells_at {a : Addr} {n : Nat} {cs : List Value} (h : W.cells? 0 a n = some cs) : cs.length = n ∧ ∀ i, i < n → W.cell? (a.add i) = cs[i]? := by
  unfold World.cells? at h
  rw [if_pos (Nat.zero_le _)] at h
  have hl := mapM_some_length h
  rw [List.length_range] at hl
  exact ⟨hl, fun i hi => mapM_some_get h i i (by rw [List.getElem?_range hi])⟩
theorem Tryd.c_int : Tryd.prog.cellsOf 3 = 1 := by kernel_rfl
theorem w64 {n : Int} (h : (Lit.int .i64 n).wf = true) : -9223372036854775808 ≤ n ∧ n ≤ 9223372036854775807 := by
  have e1 : IntKind.i64.min = -9223372036854775808 := by decide
  have e2 : IntKind.i64.max = 9223372036854775807 := by decide
  have h : (decide (IntKind.i64.min ≤ n) && decide (n ≤ IntKind.i64.max)) = true := h
  rw [Bool.and_eq_true, decide_eq_true_eq, decide_eq_true_eq, e1, e2] at h
  exact h
/-- A slice without an address has no room. -/
def NilV (v : Value) : Prop := ∀ n c, v = .slice none n c → c = 0
theorem nilV0 : NilV (.slice none 0 0) := fun n c h => by
  injection h with _ _ h
  exact h.symm
theorem nilVs (a : Addr) (len cap : Nat) : NilV (.slice (some a) len cap) := fun n c h => by
  injection h with h _ _
  cases h
theorem mem_weightsAll (P : Program) (e : TypeId) : ∀ (l : List (DataW H)) {d : DataW H}, d ∈ l → ∀ z ∈ d.weights P e, z ∈ DataW.weightsAll P e l
  | x :: l, d, hd, z, hz => by
    rw [DataW.weightsAll]
    rcases List.mem_cons.1 hd with rfl | hd
    · exact List.mem_append_left _ hz
    · exact List.mem_append_right _ (mem_weightsAll P e l hd z hz)
set_option maxRecDepth 100000 in
/-- A slice's reading, an element at a time, whatever an element is. -/
theorem slice_read {α : Type} {t e : TypeId} {k : Nat} (hk : 0 < k) (ht : Tryd.prog.underlying t = some (.slice e)) (hc : Tryd.prog.cellsOf e = k) {fuel : Nat} {v : Value} {x : DataW H × List MemPlace}
    (h : DataW.trod enc Tryd.prog W 0 (fun _ => true) true fuel t [v] = some x) (hw : ∀ y ∈ x.1.weights Tryd.prog t, y ≤ reachBytes) (P : α → List Value → Prop)
    (hone : ∀ n cs y, DataW.trod enc Tryd.prog W 0 (fun _ => true) true n e cs = some y → (∀ z ∈ y.1.weights Tryd.prog e, z ≤ reachBytes) → ∃ a, P a cs) :
    NilV v ∧ ∃ a c, ∃ l : List α, v = .slice a l.length c ∧ l.length ≤ c ∧ l.length * Tryd.prog.bytesOf e ≤ reachBytes ∧ ∀ i r, l[i]? = some r → ∃ g o cs, a = some ⟨g, o, none⟩ ∧ g < W.heap.size ∧ P r cs ∧ ∀ c, c < k → W.cell? ⟨g, o + i * k + c, none⟩ = cs[c]? := by
  rcases DataW.trod_slice ht h with ⟨h1, _⟩ | ⟨a, len, cap', elems, rest, m, _, h1, hx, _, hlc, _, helen, hel, _⟩
  · injection h1 with h1 _
    subst h1
    exact ⟨nilV0, none, 0, [], rfl, by simp, by simp, fun i r hr => by simp at hr⟩
  · injection h1 with h1 _
    subst h1
    subst hx
    simp only [DataW.weights, ht] at hw
    have hw0 := hw _ (List.mem_cons_self ..)
    have hwe : ∀ d ∈ elems.map (·.1), ∀ z ∈ d.weights Tryd.prog e, z ≤ reachBytes := fun d hd z hz => hw z (List.mem_cons_of_mem _ (List.mem_append_left _ (mem_weightsAll _ _ _ hd z hz)))
    have hone2 : ∀ i, i < len → ∃ a' cs, P a' cs ∧ ∀ c, c < k → W.cell? ((a.add (i * k)).add c) = cs[c]? := fun i hi => by
      have h2 := hel i hi
      obtain ⟨y, hy⟩ : ∃ y, elems[i]? = some y := ⟨_, List.getElem?_eq_getElem (by omega)⟩
      rw [hy, Option.bind_eq_some_iff] at h2
      obtain ⟨cs1, h3, h5⟩ := h2
      rw [hc] at h3
      obtain ⟨a', ha⟩ := hone _ _ _ h5 (hwe y.1 (List.mem_map_of_mem (List.mem_of_getElem? hy)))
      exact ⟨a', cs1, ha, (cells_at h3).2⟩
    refine ⟨nilVs a len cap', some a, cap', ?_⟩
    have hlist : ∀ n, n ≤ len → ∃ l : List α, l.length = n ∧ ∀ i r, l[i]? = some r → ∃ cs, P r cs ∧ ∀ c, c < k → W.cell? ((a.add (i * k)).add c) = cs[c]? := fun n => by
      induction n with
      | zero => exact fun _ => ⟨[], rfl, fun i r hr => by simp at hr⟩
      | succ n ih =>
        intro hn
        obtain ⟨l, hl, hp⟩ := ih (by omega)
        obtain ⟨a', cs, h1, h2⟩ := hone2 n (by omega)
        refine ⟨l ++ [a'], by simp [hl], fun i r hr => ?_⟩
        rcases Nat.lt_or_ge i n with hi | hi
        · rw [List.getElem?_append_left (by omega)] at hr
          exact hp i r hr
        · have hin : i = n := by
            have := (List.getElem?_eq_some_iff.1 hr).1
            simp at this
            omega
          subst hin
          rw [← hl] at hr
          simp at hr
          subst hr
          exact ⟨cs, h1, h2⟩
    obtain ⟨l, hl, hp⟩ := hlist len (Nat.le_refl _)
    refine ⟨l, by rw [hl], by rw [hl]; exact hlc, ?_, fun i r hr => ?_⟩
    · refine Nat.le_trans (Nat.mul_le_mul_right _ ?_) hw0
      rw [hl, List.length_map, helen]
      omega
    · obtain ⟨cs, h1, h2⟩ := hp i r hr
      have hi : i < len := by have := (List.getElem?_eq_some_iff.1 hr).1; omega
      have h4 := hel 0 (by omega)
      obtain ⟨y, hy⟩ : ∃ y, elems[0]? = some y := ⟨_, List.getElem?_eq_getElem (by omega)⟩
      rw [hy, Option.bind_eq_some_iff] at h4
      obtain ⟨cs1, h5, _⟩ := h4
      rw [hc] at h5
      obtain ⟨q1, q2⟩ := cells_at h5
      have q3 := q2 0 hk
      rw [List.getElem?_eq_getElem (by omega), show (a.add (0 * k)).add 0 = a by simp [Addr.add]] at q3
      obtain ⟨ab, ao, hb⟩ := spot_none q3
      subst hb
      refine ⟨ab, ao, cs, rfl, cell_lt q3, h1, fun c hc2 => ?_⟩
      rw [← h2 c hc2, addr_plus, addr_plus]
end
end Go.Proofs.YtpijiglmjkdlgaaDoor

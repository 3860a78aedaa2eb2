/-
  Package why: the words of a step, a literal's text.
-/
import Derived.Test.YtfnlcblalieolaaDoorWtBld
namespace Go.Proofs.YtfnlcblalieolaaDoor
open Go.RowKit

/-- Texts that can be read at a slice, in blocks below B. -/
def NRd (w : World) (B : Nat) (v : Value) (l : List ByteArray) : Prop :=
  ∃ a c, v = .slice a l.length c ∧ l.length ≤ 8796093022208 ∧ ∀ j x, l[j]? = some x → ∃ g o, a = some ⟨g, o, none⟩ ∧ g < B ∧ w.cell? ⟨g, o + j, none⟩ = some (.string x)
theorem NRd.on {w w' : World} {B : Nat} {v : Value} {l : List ByteArray} (h : NRd w B v l) (hb : ∀ k, k < B → w'.heap[k]? = w.heap[k]?) : NRd w' B v l := by
  obtain ⟨a, c, e, hl, hx⟩ := h
  refine ⟨a, c, e, hl, fun j x hj => ?_⟩
  obtain ⟨g, o, h1, h2, h3⟩ := hx j x hj
  exact ⟨g, o, h1, h2, (World.cell?_of_block (a := ⟨g, o + j, none⟩) (hb g h2)).trans h3⟩
theorem NRd.at {w : World} {B n c : Nat} {a : Option Addr} {l : List ByteArray} (h : NRd w B (.slice a n c) l) {j : Nat} {x : ByteArray} (hj : l[j]? = some x) : ∃ g o, a = some ⟨g, o, none⟩ ∧ g < B ∧ w.cell? ⟨g, o + j, none⟩ = some (.string x) := by
  obtain ⟨a', c', e, _, hx⟩ := h
  injection e with e1 _ _
  subst e1
  exact hx j x hj
set_option maxHeartbeats 1000000 in
theorem words_p (a b : Bool) (q : Int) (w : World) : Calls Tryd.prog 13 #[.agg #[.bool a, .bool b, .int .i64 q]] w fun e w' => e = .returned (.string (wordB a b)) ∧ Below w.heap.size w w' := by
  cases a <;> cases b
  all_goals
    go_enter Tryd.func13, Tryd.ntmps13
    go_wp2
    go_ret
    exact ⟨rfl, (Below.refl _ _).alloc (Nat.le_refl _) _⟩
theorem app_nil (s : ByteArray) : (⟨#[]⟩ : ByteArray) ++ s = s := by
  apply ByteArray.ext
  simp
set_option maxHeartbeats 2000000 in
set_option maxRecDepth 100000 in
theorem litText_p {w : World} {B : Nat} {na : Option Addr} {n nc : Nat} {nm : List ByteArray} (hN : NRd w B (.slice na n nc) nm) (hn : n = nm.length) (hfew : n ≤ 1000) (hsz : ∀ s, s ∈ nm → s.size ≤ 24) (q : Int) (h1 : -9223372036854775808 ≤ q) (h2 : q ≤ 9223372036854775807) :
    Calls Tryd.prog 14 #[.int .i64 q, .slice na n nc] w fun e w' => e = .returned (.string (litB nm q)) ∧ w' = w := by
  have HL : Hid (litB nm q = if 0 < q ∧ q ≤ (n : Int) then nameAt nm (q - 1).toNat else if q < 0 ∧ -(n : Int) ≤ q then notB ++ nameAt nm (-q - 1).toNat else askB) := by
    rw [hn]
    exact rfl
  have HN := hidLL hN
  have HE := hidLL hn
  have HSZ := hidLL hsz
  clear hN hn hsz
  by_cases hp : 0 < q
  · by_cases hle : q ≤ (n : Int)
    · obtain ⟨i, hi⟩ : ∃ i : Nat, q = (i : Int) + 1 := ⟨(q - 1).toNat, by omega⟩
      obtain ⟨x, hx⟩ : ∃ x, nm[i]? = some x := ⟨_, List.getElem?_eq_getElem (by have := HE.out; omega)⟩
      obtain ⟨g, o, ea, _, hc⟩ := HN.out.at hx
      have HR : Hid (litB nm q = x) := by
        show _ = _
        rw [HL.out, if_pos ⟨hp, hle⟩]
        unfold nameAt
        rw [show (q - 1).toNat = i by omega, hx]
        rfl
      subst ea
      have hz : (i : Int) < n := by omega
      have hw1 : IntKind.i64.wrap (q - 1) = (i : Int) := by rw [IntKind.wrap_i64]; omega
      have hxs := HSZ.out x (List.mem_of_getElem? hx)
      have hxs1 : ¬ 9223372036854775807 < x.size := by omega
      have hxs2 : ¬ 9223372036854775807 < 0 + x.size := by omega
      have hg1 : ¬ q < 0 := by omega
      have hg2 : ¬ q < 1 := by omega
      have hg4 : ¬ (n : Int) < q := by omega
      have HI := hidLL hi
      clear hi
      clear hx hp hle
      go_enter Tryd.func14, Tryd.ntmps14
      go_wp2
      go_ret
      refine ⟨?_, rfl⟩
      rw [HR.out]
      first
        | rfl
        | (congr 1; congr 1; exact app_nil x)
    · have HR : Hid (litB nm q = askB) := by
        show _ = _
        rw [HL.out, if_neg (by omega), if_neg (by omega)]
      have hg1 : ¬ q < 0 := by omega
      have hg2 : ¬ q < 1 := by omega
      have hg3 : (n : Int) < q := by omega
      clear hp hle
      go_enter Tryd.func14, Tryd.ntmps14
      go_wp2
      go_ret
      exact ⟨by rw [HR.out]; rfl, rfl⟩
  · by_cases h0 : q = 0
    · have HR : Hid (litB nm q = askB) := by
        show _ = _
        rw [HL.out, if_neg (by omega), if_neg (by omega)]
      rw [HR.out]
      subst h0
      go_enter Tryd.func14, Tryd.ntmps14
      go_wp2
      go_ret
      exact ⟨rfl, rfl⟩
    · have hq : q < 0 := by omega
      by_cases hle : -(n : Int) ≤ q
      · obtain ⟨i, hi⟩ : ∃ i : Nat, -q = (i : Int) + 1 := ⟨(-q - 1).toNat, by omega⟩
        obtain ⟨x, hx⟩ : ∃ x, nm[i]? = some x := ⟨_, List.getElem?_eq_getElem (by have := HE.out; omega)⟩
        obtain ⟨g, o, ea, _, hc⟩ := HN.out.at hx
        have HR : Hid (litB nm q = notB ++ x) := by
          show _ = _
          rw [HL.out, if_neg (by omega), if_pos ⟨hq, hle⟩]
          unfold nameAt
          rw [show (-q - 1).toNat = i by omega, hx]
          rfl
        subst ea
        have hz : (i : Int) < n := by omega
        obtain ⟨m, hm⟩ : ∃ m : Int, m = (i : Int) + 1 := ⟨_, rfl⟩
        have hw0 : IntKind.i64.wrap (-q) = m := by rw [IntKind.wrap_i64]; omega
        have hw1 : IntKind.i64.wrap (m - 1) = (i : Int) := by rw [IntKind.wrap_i64]; omega
        have hxs := HSZ.out x (List.mem_of_getElem? hx)
        have hxs1 : ¬ 9223372036854775807 < 4 + x.size := by omega
        have hg2 : ¬ m < 1 := by omega
        have hg4 : ¬ (n : Int) < m := by omega
        have HI := hidLL (And.intro hi hm)
        clear hi hm
        clear hx hp hle
        go_enter Tryd.func14, Tryd.ntmps14
        go_wp2
        go_ret
        refine ⟨?_, rfl⟩
        rw [HR.out]
        rfl
      · have HR : Hid (litB nm q = askB) := by
          show _ = _
          rw [HL.out, if_neg (by omega), if_neg (by omega)]
        rw [HR.out]
        by_cases hm : q = -9223372036854775808
        · subst hm
          have hw0 : IntKind.i64.wrap 9223372036854775808 = -9223372036854775808 := by rw [IntKind.wrap_i64]; omega
          clear hp hle hq h0 h1 h2
          go_enter Tryd.func14, Tryd.ntmps14
          go_wp2
          go_ret
          exact ⟨rfl, rfl⟩
        · obtain ⟨i, hi⟩ : ∃ i : Int, i = -q := ⟨_, rfl⟩
          have hw0 : IntKind.i64.wrap (-q) = i := by rw [IntKind.wrap_i64]; omega
          have hg2 : ¬ i < 1 := by omega
          have hg3 : (n : Int) < i := by omega
          clear hp hle hi
          go_enter Tryd.func14, Tryd.ntmps14
          go_wp2
          go_ret
          exact ⟨rfl, rfl⟩
set_option maxHeartbeats 1000000 in
/-- A builder that nothing was written to. -/
theorem string_nil (B b : Nat) (w : World) (h : w.heap[b]? = some (.cells #[.pointer none, .slice none 0 0] 47 (0, 0))) :
    Calls Tryd.prog 15 #[.pointer (some ⟨b, 0, none⟩)] w fun e w' => e = .returned (.string ⟨#[]⟩) ∧ Below B w w' := by
  have c1 : w.drew.cell? ⟨b, 1, none⟩ = some (.slice none 0 0) := by
    have hd : w.drew.heap[b]? = some (.cells #[.pointer none, .slice none 0 0] 47 (0, 0)) := h
    simp [World.cell?, hd]
  have hSD := Lib.run_unsafeSliceData_nil (P := Tryd.prog) (w := w.drew) #[45] 69 0 0
  have hUS := Lib.run_unsafeString_none (P := Tryd.prog) (w := w.drew) 69 3 9 none
  have mixed : Tryd.prog.follows Departure.mixedOrders = true := by kernel_rfl
  clear h
  go_enter Tryd.func15, Tryd.ntmps15
  go_wp2
  go_region_o
  all_goals (go_wp2; go_ret; exact ⟨rfl, (Below.refl B w).drew⟩)
end Go.Proofs.YtfnlcblalieolaaDoor

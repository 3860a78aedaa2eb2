/-
  The kids of an item in memory, as labelled asks for them; isLabel.
-/
import Derived.Test.YtgfaeeacndpniaaDoorReadBase
import Derived.Test.YtgfaeeacndpniaaDoorMemBase
import Derived.Test.YtgfaeeacndpniaaDoorLabelledP
namespace Go.Proofs.YtgfaeeacndpniaaDoor
open Go.RowKit Go.Extern.Stop Go.Stop Go.Extern

theorem kids_has {w : World} {P : Nat → Prop} {t : It} {V : Nat → Nat → Value} (hr : ∀ i k, t.kids[i]? = some k → Lies w P (V i) k) (s : ByteArray) : hasKid t s = true ↔ ∃ i, i < t.kids.length ∧ ((strOf (V i 0)).toList == s.toList) = true := by
  unfold hasKid
  rw [List.any_eq_true]
  constructor
  · rintro ⟨k, hk, e⟩
    obtain ⟨i, hi, rfl⟩ := List.getElem_of_mem hk
    refine ⟨i, hi, ?_⟩
    rw [(hr i _ (List.getElem?_eq_getElem hi)).forms.1]
    exact e
  · rintro ⟨i, hi, e⟩
    refine ⟨t.kids[i], List.getElem_mem hi, ?_⟩
    rw [(hr i _ (List.getElem?_eq_getElem hi)).forms.1] at e
    exact e
theorem labelled_lies {w : World} {P : Nat → Prop} {v : Nat → Value} {t : It} (h : Lies w P v t) {ka : Option Addr} {n kc : Nat} (e : v 3 = .slice ka n kc) (hn : n ≤ 100000) (s : ByteArray) :
    Calls Tryd.prog 76 #[.slice ka n kc, .string s] w fun e w' => (∃ k : Int, e = .returned (.int .i64 k) ∧ -1 ≤ k ∧ (0 ≤ k ↔ hasKid t s = true)) ∧ Below w.heap.size w w' := by
  obtain ⟨rfl, V, hk, hr⟩ := h.kidsAt e
  refine (labelled_any t.kids.length ka kc _ _ _ _ _ _ _ _ s w hn (kids_cells hk hr)).mono ?_
  rintro e w' ⟨⟨k, h1, h2, h3⟩, hb⟩
  exact ⟨⟨k, h1, h2, h3.trans (kids_has hr s).symm⟩, hb⟩
set_option maxHeartbeats 1000000 in
theorem isLabel_any (s : ByteArray) (hs : s.size ≤ 1000000) (w : World) (hT : Lib.Utf8Tabs 3 4 w) :
    Calls Tryd.prog 75 #[.string s] w fun e w' => e = .returned (.bool (isLab s)) ∧ Below w.heap.size w w' := by
  have HC := hidLL (readLabel_any s hs w hT)
  clear hT
  go_enter Tryd.func75, Tryd.ntmps75
  go_wp2_with fail
  refine HC.out.mono ?_
  rintro e w1 ⟨hb, h | h⟩
  · obtain ⟨k, l, hl, rfl⟩ := h
    have HB := hidLL hb
    have HL := hidLL hl
    clear hb hl
    go_wp2
    go_ret
    refine ⟨ret_b (by unfold isLab; exact (@decide_eq_true _ (Classical.propDecidable _) (⟨k, l, HL.out⟩ : ∃ k l, Lab s k l)).symm), ?_⟩
    exact HB.out.alloc HB.out.size _
  · obtain ⟨hn, v0, v1, v2, rfl⟩ := h
    have HB := hidLL hb
    have HN := hidLL hn
    clear hb hn
    go_wp2
    go_ret
    refine ⟨ret_b (by unfold isLab; exact (@decide_eq_false _ (Classical.propDecidable _) HN.out).symm), ?_⟩
    exact HB.out.alloc HB.out.size _
end Go.Proofs.YtgfaeeacndpniaaDoor

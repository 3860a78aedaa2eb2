/-
  Facts: the program's all, Size, isSo, Fact.
-/
import Derived.Test.YtagdenpmonedlaaDoorFMem
namespace Go.Proofs.YtagdenpmonedlaaDoor
open Go.RowKit Go.Extern.Stop Go.Stop Go.Extern

theorem all_f {B b : Nat} {w : World} {L : List Fct} {sv : Value} (h : FFile 32 B w b L sv) :
    Calls Tryd.prog 23 #[.pointer (some ⟨b, 0, none⟩)] w fun e w' => e = .returned sv ∧ w' = w := by
  obtain ⟨a, c, rfl, _⟩ := h.row.slice
  have hc := h.cell
  clear h
  go_enter Tryd.func23, Tryd.ntmps23
  go_wp2
  go_ret
  exact ⟨rfl, rfl⟩
theorem size_f {B b : Nat} {w : World} {L : List Fct} {sv : Value} (h : FFile 32 B w b L sv) :
    Calls Tryd.prog 7 #[.pointer (some ⟨b, 0, none⟩)] w fun e w' => e = .returned (.int .i64 L.length) ∧ w' = w := by
  have HA := hidLL (all_f h)
  obtain ⟨a, c, rfl, _⟩ := h.row.slice
  clear h
  go_enter Tryd.func7, Tryd.ntmps7
  go_wp2_with (go_at_call 23; refine HA.out.mono ?_; rintro e w' ⟨rfl, rfl⟩)
  go_ret
  exact ⟨rfl, rfl⟩
def isSoB (x : Fct) (on known : Int) : Bool := decide (x.lrn ≤ known) && decide (x.frm ≤ on) && (decide (x.til = 0) || decide (on < x.til))
theorem soB_eq (x : Fct) (who : Int) (nm : ByteArray) (on known : Int) : soB x who nm on known = (decide (x.who = who) && decide (x.nm = nm) && isSoB x on known) := by
  unfold soB isSoB
  simp [Bool.and_assoc]
theorem isSo_f (x : Fct) (on known : Int) (w : World) :
    Calls Tryd.prog 38 #[.agg #[.int .i64 x.who, .string x.nm, .int .i64 x.oth, .int .i64 x.val, .int .i64 x.frm, .int .i64 x.til, .int .i64 x.lrn], .int .i64 on, .int .i64 known] w fun e w' => e = .returned (.bool (isSoB x on known)) ∧ w' = w.alloc (.cells #[.int .i64 x.who, .string x.nm, .int .i64 x.oth, .int .i64 x.val, .int .i64 x.frm, .int .i64 x.til, .int .i64 x.lrn] 32) := by
  obtain ⟨xw, xn, xo, xv, xf, xt, xl⟩ := x
  have hO : Hid (isSoB ⟨xw, xn, xo, xv, xf, xt, xl⟩ on known = (decide (xl ≤ known) && decide (xf ≤ on) && (decide (xt = 0) || decide (on < xt)))) := rfl
  generalize isSoB ⟨xw, xn, xo, xv, xf, xt, xl⟩ on known = O at *
  by_cases h1 : xl ≤ known
  · by_cases h2 : xf ≤ on
    · by_cases h3 : xt = 0
      · subst h3
        go_enter Tryd.func38, Tryd.ntmps38
        go_wp2
        go_ret
        exact ⟨retB (by rw [hO.out, Bool.eq_iff_iff]; simp [h1, h2]), rfl⟩
      · go_enter Tryd.func38, Tryd.ntmps38
        go_wp2
        go_ret
        exact ⟨retB (by rw [hO.out, Bool.eq_iff_iff]; simp [h1, h2, h3]), rfl⟩
    · go_enter Tryd.func38, Tryd.ntmps38
      go_wp2
      go_ret
      exact ⟨retB (by rw [hO.out, decide_eq_false (by omega : ¬ xf ≤ on)]; simp), rfl⟩
  · go_enter Tryd.func38, Tryd.ntmps38
    go_wp2
    go_ret
    exact ⟨retB (by rw [hO.out, decide_eq_false (by omega : ¬ xl ≤ known)]; simp), rfl⟩
set_option maxHeartbeats 1000000 in
theorem fact_hit {B b : Nat} {w : World} {L : List Fct} {sv : Value} (h : FFile 32 B w b L sv) (k : Nat) (x : Fct) (hx : L[k]? = some x) :
    Calls Tryd.prog 8 #[.pointer (some ⟨b, 0, none⟩), .int .i64 k] w fun e w' => e = .returned (.tuple #[.agg #[.int .i64 x.who, .string x.nm, .int .i64 x.oth, .int .i64 x.val, .int .i64 x.frm, .int .i64 x.til, .int .i64 x.lrn], .bool true]) ∧ Below w.heap.size w w' := by
  have HB : Hid (∀ o : Obj, Below w.heap.size w (w.alloc o)) := fun o => (Below.refl _ _).alloc (Nat.le_refl _) o
  have HS : Hid (∀ o : Obj, Calls Tryd.prog 7 #[.pointer (some ⟨b, 0, none⟩)] (w.alloc o) fun e w' => e = .returned (.int .i64 L.length) ∧ w' = w.alloc o) := fun o => size_f (h.bel (HB.out o))
  have hlt : k < L.length := (List.getElem?_eq_some_iff.1 hx).1
  obtain ⟨a, c, rfl, hr, hc, _⟩ := h.row.slice
  have hcl := h.cell
  have hb := h.inH
  obtain ⟨g, o, rfl, hg, x0, x1, x2, x3, x4, x5, x6⟩ := hr.cells hx
  clear h hr hx
  generalize L.length = n at *
  obtain ⟨xw, xn, xo, xv, xf, xt, xl⟩ := x
  simp only at x0 x1 x2 x3 x4 x5 x6 ⊢
  have hk : (k : Int) < n := by omega
  have hk' : ¬ (n : Int) ≤ k := by omega
  go_enter Tryd.func8, Tryd.ntmps8
  go_wp2_with (go_at_call 7; refine (HS.out _).mono ?_; rintro e w' ⟨rfl, ew⟩; subst w')
  have HBB := HB.out (.cells #[.int .i64 xw, .string xn, .int .i64 xo, .int .i64 xv, .int .i64 xf, .int .i64 xt, .int .i64 xl] 32)
  refine bodyPost_ret (v := .tuple #[.agg #[.int .i64 xw, .string xn, .int .i64 xo, .int .i64 xv, .int .i64 xf, .int .i64 xt, .int .i64 xl], .bool true]) (by simp [results, Tryd.results8, go_sem]) rfl ?_
  exact ⟨rfl, HBB⟩
set_option maxHeartbeats 1000000 in
theorem fact_miss {B b : Nat} {w : World} {L : List Fct} {sv : Value} (h : FFile 32 B w b L sv) (k : Int) (hk : k < 0 ∨ L.length ≤ k) :
    Calls Tryd.prog 8 #[.pointer (some ⟨b, 0, none⟩), .int .i64 k] w fun e w' => e = .returned (.tuple #[.agg #[.int .i64 0, .string ⟨#[]⟩, .int .i64 0, .int .i64 0, .int .i64 0, .int .i64 0, .int .i64 0], .bool false]) ∧ Below w.heap.size w w' := by
  have HB : Hid (∀ o : Obj, Below w.heap.size w (w.alloc o)) := fun o => (Below.refl _ _).alloc (Nat.le_refl _) o
  have HS : Hid (∀ o : Obj, Calls Tryd.prog 7 #[.pointer (some ⟨b, 0, none⟩)] (w.alloc o) fun e w' => e = .returned (.int .i64 L.length) ∧ w' = w.alloc o) := fun o => size_f (h.bel (HB.out o))
  clear h
  generalize L.length = n at *
  by_cases h0 : k < 0
  · go_enter Tryd.func8, Tryd.ntmps8
    go_wp2_with (go_at_call 7; refine (HS.out _).mono ?_; rintro e w' ⟨rfl, ew⟩; subst w')
    refine bodyPost_ret (v := .tuple #[.agg #[.int .i64 0, .string ⟨#[]⟩, .int .i64 0, .int .i64 0, .int .i64 0, .int .i64 0, .int .i64 0], .bool false]) (by simp [results, Tryd.results8, go_sem]) rfl ?_
    exact ⟨rfl, HB.out _⟩
  · have hk2 : (n : Int) ≤ k := by omega
    go_enter Tryd.func8, Tryd.ntmps8
    go_wp2_with (go_at_call 7; refine (HS.out _).mono ?_; rintro e w' ⟨rfl, ew⟩; subst w')
    refine bodyPost_ret (v := .tuple #[.agg #[.int .i64 0, .string ⟨#[]⟩, .int .i64 0, .int .i64 0, .int .i64 0, .int .i64 0, .int .i64 0], .bool false]) (by simp [results, Tryd.results8, go_sem]) rfl ?_
    exact ⟨rfl, HB.out _⟩
end Go.Proofs.YtagdenpmonedlaaDoor

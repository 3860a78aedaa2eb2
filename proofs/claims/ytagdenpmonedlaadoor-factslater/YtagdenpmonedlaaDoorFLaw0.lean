/-
  Facts: the law's small functions: fact, coded, sameInts, New, fewFacts.
-/
import Derived.Test.YtagdenpmonedlaaDoorFSort
import Derived.Test.YtagdenpmonedlaaDoorFAll
import Derived.BigQuiet
namespace Go.Proofs.YtagdenpmonedlaaDoor
open Go.RowKit Go.Extern.Stop Go.Stop Go.Extern

theorem coded3_nil (n : Int) (w : World) : Calls Tryd.prog 21 #[.nilIface, .int .i64 n] w fun e w' => e = .returned (.bool ((0 : Int) == n)) ∧ w' = w := by
  go_enter Tryd.func21, Tryd.ntmps21
  go_wp2_with (go_at_call 33; refine (code_nil _).mono ?_; rintro e w' ⟨rfl, rfl⟩)
  go_ret
  exact ⟨rfl, rfl⟩
theorem coded3_sent (k : Nat) (hk : k < 11) (n : Int) (p : Nat → Addr) (w : World) (L : Laid w p) :
    Calls Tryd.prog 21 #[.iface 127 (.pointer (some (p k))), .int .i64 n] w fun e w' => e = .returned (.bool (((k : Int) + 1) == n)) ∧ Below w.heap.size w w' := by
  go_enter Tryd.func21, Tryd.ntmps21
  go_wp2_with fail
  refine (code_sent k hk p _ L).mono ?_
  rintro e w' ⟨rfl, hb⟩
  go_wp2
  go_ret
  exact ⟨rfl, hb⟩
theorem fact_l (x : Fct) (w : World) :
    Calls Tryd.prog 9 #[.agg #[.int .i64 x.who, .string x.nm, .int .i64 x.oth, .int .i64 x.val, .int .i64 x.frm, .int .i64 x.til, .int .i64 x.lrn]] w fun e w' => e = .returned (.agg #[.int .i64 x.who, .string x.nm, .int .i64 x.oth, .int .i64 x.val, .int .i64 x.frm, .int .i64 x.til, .int .i64 x.lrn]) ∧ Below w.heap.size w w' := by
  obtain ⟨xw, xn, xo, xv, xf, xt, xl⟩ := x
  have HB : Hid (∀ o1 o2 : Obj, Below w.heap.size w ((w.alloc o1).alloc o2)) := fun o1 o2 => ((Below.refl _ _).alloc (Nat.le_refl _) o1).alloc (by simp) o2
  go_enter Tryd.func9, Tryd.ntmps9
  go_wp2
  refine bodyPost_ret (v := .agg #[.int .i64 xw, .string xn, .int .i64 xo, .int .i64 xv, .int .i64 xf, .int .i64 xt, .int .i64 xl]) (by simp [results, Tryd.results9, go_sem]) rfl ?_
  exact ⟨rfl, HB.out _ _⟩
theorem new_l (w : World) : Calls Tryd.prog 19 #[] w fun e w' => e = .returned (.pointer (some ⟨w.heap.size, 0, none⟩)) ∧ w' = w.alloc (.cells #[.slice none 0 0] 54) := by
  go_enter Tryd.func19, Tryd.ntmps19
  go_wp2
  go_ret
  exact ⟨rfl, rfl⟩
set_option maxHeartbeats 1000000 in
set_option maxRecDepth 100000 in
theorem same_l {w : World} {u v : Value} {xs : List Int} (h1 : IRead w u xs) (h2 : IRead w v xs) (hl : xs.length ≤ 100000) :
    Calls Tryd.prog 12 #[u, v] w fun e w' => e = .returned (.bool true) ∧ Below w.heap.size w w' := by
  rcases h1 with ⟨rfl, rfl⟩ | ⟨g1, c1, rfl, _, k1⟩
  · obtain ⟨a, c, rfl⟩ : ∃ a c, v = .slice a 0 c := by
      rcases h2 with ⟨rfl, _⟩ | ⟨g, c, rfl, _⟩
      · exact ⟨_, _, rfl⟩
      · exact ⟨_, _, rfl⟩
    clear h2
    go_enter Tryd.func12, Tryd.ntmps12
    go_wp2_with fail
    refine wp_loop_rounds 1 ?_
    rw [rounds_succ]
    go_wp2
    go_ret
    exact ⟨rfl, Below.refl _ _⟩
  · obtain ⟨a, c, rfl, k2⟩ : ∃ a c, v = .slice a xs.length c ∧ ∀ (j : Nat) (x : Int), xs[j]? = some x → ∃ g, a = some ⟨g, 0, none⟩ ∧ w.cell? ⟨g, j, none⟩ = some (.int .i64 x) := by
      rcases h2 with ⟨rfl, rfl⟩ | ⟨g, c, rfl, _, k2⟩
      · exact ⟨none, 0, rfl, fun j x hx => by simp at hx⟩
      · exact ⟨some ⟨g, 0, none⟩, c, rfl, fun j x hx => ⟨g, rfl, k2 j x hx⟩⟩
    have HK1 := hidLL k1
    have HK2 := hidLL k2
    clear k1 k2 h2
    obtain ⟨m, hm⟩ : ∃ m, m = xs.length := ⟨_, rfl⟩
    rw [← hm] at hl ⊢
    have HM := hidLL hm
    clear hm
    go_enter Tryd.func12, Tryd.ntmps12
    go_wp2_with fail
    go_loopw [5] (fun t wr => ∃ i : Nat, i ≤ m ∧ t = .int .i64 i ∧ Below w.heap.size w wr) (fun t _ => (m - RowKit.intOf t).toNat)
    case atStart => exact ⟨0, by omega, rfl, Below.refl _ _⟩
    case round =>
      obtain ⟨i, hi, rfl, hb⟩ := hrel
      have HB := hidLL hb
      clear hb
      by_cases hin : i < m
      · have hiz : (i : Int) < m := by omega
        obtain ⟨x, hx⟩ : ∃ x, xs[i]? = some x := ⟨_, List.getElem?_eq_getElem (by have := HM.out; omega)⟩
        have y1 := HK1.out i x hx
        obtain ⟨g, rfl, y2⟩ := HK2.out i x hx
        have z1 := (HB.out.cell (p := ⟨g1, i, none⟩) (cell_lt y1)).trans y1
        have z2 := (HB.out.cell (p := ⟨g, i, none⟩) (cell_lt y2)).trans y2
        clear y1 y2 hx
        go_wp2_with fail
        go_quiet (fail)
        go_wp2_with fail
        go_roundw
        case rel => exact ⟨i + 1, by omega, by go_num, bdrewN HB.out _⟩
        case measure => simp [RowKit.intOf]; omega
      · obtain rfl : i = m := by omega
        go_wp2
        go_ret
        exact ⟨rfl, HB.out⟩
/-- Names that are short. -/
def fewB (l : List Fct) : Bool := l.all (fun x => decide (x.nm.size ≤ 100)) && decide (l.length ≤ 502)
set_option maxHeartbeats 1000000 in
set_option maxRecDepth 100000 in
theorem few_l {w : World} {a : Option Addr} {c : Nat} {l : List Fct} (hr : FRead w a l) (hl : l.length ≤ 9223372036854775807) :
    Calls Tryd.prog 5 #[.slice a l.length c] w fun e w' => e = .returned (.bool (fewB l)) ∧ w' = w := by
  have HR := hidLL hr
  clear hr
  have HF : Hid (fewB l = (l.all (fun x => decide (x.nm.size ≤ 100)) && decide (l.length ≤ 502))) := rfl
  obtain ⟨m, hm⟩ : ∃ m, m = l.length := ⟨_, rfl⟩
  rw [← hm] at HF hl ⊢
  have HM := hidLL hm
  clear hm
  generalize fewB l = F at *
  go_enter Tryd.func5, Tryd.ntmps5
  go_wp2_with fail
  go_loopw [3] (fun t wr => ∃ i : Nat, i ≤ m ∧ t = .int .i64 i ∧ wr = w ∧ l.all (fun x => decide (x.nm.size ≤ 100)) = (l.drop i).all (fun x => decide (x.nm.size ≤ 100))) (fun t _ => (m - RowKit.intOf t).toNat)
  case atStart => exact ⟨0, by omega, rfl, rfl, rfl⟩
  case round =>
    obtain ⟨i, hi, rfl, ew, hall⟩ := hrel
    subst wr
    have HA := hidLL hall
    clear hall
    by_cases hin : i < m
    · have hiz : (i : Int) < m := by omega
      obtain ⟨x, hx⟩ : ∃ x, l[i]? = some x := ⟨_, List.getElem?_eq_getElem (by have := HM.out; omega)⟩
      obtain ⟨g, o, rfl, hg, x0, x1, x2, x3, x4, x5, x6⟩ := HR.out.cells hx
      have HD : Hid ((l.drop i).all (fun x => decide (x.nm.size ≤ 100)) = (decide (x.nm.size ≤ 100) && (l.drop (i + 1)).all (fun x => decide (x.nm.size ≤ 100)))) := by
        obtain ⟨h1, h2⟩ := List.getElem?_eq_some_iff.1 hx
        show _ = _
        rw [List.drop_eq_getElem_cons h1, List.all_cons, h2]
      clear hx x0 x2 x3 x4 x5 x6
      by_cases hs : x.nm.size ≤ 100
      · rw [decide_eq_true hs] at HD
        have hsz : (x.nm.size : Int) ≤ 100 := by omega
        have hsz2 : ¬ (100 : Int) < x.nm.size := by omega
        generalize x.nm = xn at *
        go_wp2_with fail
        go_roundw
        case rel => exact ⟨i + 1, by omega, by go_num, trivial, by rw [HA.out, HD.out]; rfl⟩
        case measure => simp [RowKit.intOf]; omega
      · rw [decide_eq_false hs] at HD
        have hsz : (100 : Int) < x.nm.size := by omega
        generalize x.nm = xn at *
        go_wp2_with fail
        go_ret
        exact ⟨retB (by rw [HF.out, HA.out, HD.out]; rfl), rfl⟩
    · obtain rfl : i = m := by omega
      have HT : Hid (l.drop i = []) := List.drop_eq_nil_of_le (by rw [HM.out]; exact Nat.le_refl _)
      go_wp2
      go_ret
      exact ⟨retB (by rw [HF.out, HA.out, HT.out, Bool.eq_iff_iff]; simp; try omega), rfl⟩
end Go.Proofs.YtagdenpmonedlaaDoor

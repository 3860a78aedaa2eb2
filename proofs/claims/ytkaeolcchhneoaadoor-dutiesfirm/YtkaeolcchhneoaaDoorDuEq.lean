/-
  Two duties held against each other.
-/
import Derived.Test.YtkaeolcchhneoaaDoorDuMem
import Derived.Test.YtkaeolcchhneoaaDoorBel1
import Derived.Laws.StructEq
import Derived.ChangeKeysEq
namespace Go.Proofs.YtkaeolcchhneoaaDoor
open Go.RowKit

theorem Tryd.strPlain : Tryd.prog.plainKey 9 = true := by kernel_rfl
theorem Tryd.intPlain : Tryd.prog.plainKey 3 = true := by kernel_rfl
/-- The fields of a duty, as they are compared. -/
theorem Tryd.duFields : ((Tryd.prog.fieldsOf 38).toList.map fun f => (f.name, f.type, f.offset)) = [("Name", 9, 0), ("Who", 9, 1), ("From", 3, 2), ("By", 3, 3), ("Else", 9, 4), ("Term", 36, 5)] := by kernel_rfl
theorem Tryd.teFields : ((Tryd.prog.fieldsOf 36).toList.map fun f => (f.name, f.type, f.offset)) = [("N", 3, 0), ("Unit", 3, 1), ("Roll", 3, 2)] := by kernel_rfl
theorem Tryd.duU : Tryd.prog.underlying 38 = some (.struct (Tryd.prog.fieldsOf 38)) := by kernel_rfl
theorem Tryd.teU : Tryd.prog.underlying 36 = some (.struct (Tryd.prog.fieldsOf 36)) := by kernel_rfl
theorem Tryd.duH : Tryd.prog.stoodInHeld 38 = false := by kernel_rfl
theorem Tryd.teH : Tryd.prog.stoodInHeld 36 = false := by kernel_rfl
theorem eqF_cons (d : Nat) (xs ys : Array Value) (f : Field) (fs : List Field) (w : World) (h : f.name ≠ "_") {a b : Value} (ha : (part f.type xs f.offset).run Tryd.prog w = .ok a w) (hb : (part f.type ys f.offset).run Tryd.prog w = .ok b w) {r : Bool} (hr : (Op.equalIn d f.type a b).run Tryd.prog w = .ok r w) {R : Bool} (hR : (Op.eqFields d xs ys fs).run Tryd.prog w = .ok R w) : (Op.eqFields d xs ys (f :: fs)).run Tryd.prog w = .ok (r && R) w := by
  rw [Op.eqFields, if_pos h, Sem.run_bind, ha, Result.andThen_ok, Sem.run_bind, hb, Result.andThen_ok, Sem.run_bind, hr, Result.andThen_ok]
  cases r
  · rfl
  · exact hR
/-- The fields, one after another, by what is told of each. -/
theorem eqF_all (d : Nat) (xs ys : Array Value) (w : World) : ∀ (fs : List Field) (ts : List (String × Nat × Nat)) (rs : List Bool), (fs.map fun f => (f.name, f.type, f.offset)) = ts → ts.length = rs.length →
    (∀ (i : Nat) (t : String × Nat × Nat) (r : Bool), ts[i]? = some t → rs[i]? = some r → t.1 ≠ "_" ∧ ∃ a b, (part t.2.1 xs t.2.2).run Tryd.prog w = .ok a w ∧ (part t.2.1 ys t.2.2).run Tryd.prog w = .ok b w ∧ (Op.equalIn d t.2.1 a b).run Tryd.prog w = .ok r w) →
    (Op.eqFields d xs ys fs).run Tryd.prog w = .ok (rs.all id) w
  | [], ts, rs, e, hl, _ => by
    subst e
    obtain rfl := List.eq_nil_of_length_eq_zero hl.symm
    rfl
  | f :: fs, ts, rs, e, hl, h => by
    subst e
    match rs, hl with
    | r :: rs, hl =>
      obtain ⟨h1, a, b, ha, hb, hr⟩ := h 0 _ r rfl rfl
      have ih := eqF_all d xs ys w fs _ rs rfl (by simpa using hl) (fun i t r' ht hr' => h (i + 1) t r' (by simpa using ht) (by simpa using hr'))
      rw [List.all_cons]
      exact eqF_cons d xs ys f fs w h1 ha hb hr ih
theorem part_str {xs : Array Value} {o : Nat} {v : Value} (w : World) (h : xs[o]? = some v) : (part 9 xs o).run Tryd.prog w = .ok v w := run_part_plain w Tryd.strPlain h
theorem part_int {xs : Array Value} {o : Nat} {v : Value} (w : World) (h : xs[o]? = some v) : (part 3 xs o).run Tryd.prog w = .ok v w := run_part_plain w Tryd.intPlain h
theorem part_term (x0 x1 x2 x3 x4 x5 x6 x7 : Value) (w : World) : (part 36 #[x0, x1, x2, x3, x4, x5, x6, x7] 5).run Tryd.prog w = .ok (.agg #[x5, x6, x7]) w := by kernel_rfl
theorem beqB (a b : ByteArray) : (a.toList == b.toList) = decide (a = b) := by
  by_cases h : a = b
  · subst h; simp
  · have : ¬ a.toList = b.toList := fun e => h (by
      rw [ByteArray.toList_eq, ByteArray.toList_eq] at e
      exact ByteArray.ext (Array.toList_inj.1 e))
    simp [h, this]
theorem eq_term (n u r n' u' r' : Int) (w : World) (k : Nat) : (Op.equalIn (k + 2) 36 (.agg #[.int .i64 n, .int .i64 u, .int .i64 r]) (.agg #[.int .i64 n', .int .i64 u', .int .i64 r'])).run Tryd.prog w = .ok ([n == n', u == u', r == r'].all id) w := by
  rw [run_equalIn_struct w (k + 1) _ _ _ Tryd.teU Tryd.teH]
  refine eqF_all (k + 1) _ _ w _ _ [n == n', u == u', r == r'] Tryd.teFields rfl fun i t q ht hq => ?_
  match i, ht, hq with
  | 0, ht, hq => injection ht with ht; injection hq with hq; subst ht hq; exact ⟨by decide, _, _, part_int w rfl, part_int w rfl, run_equalIn_int w k _ _ _ _ _ Tryd.underlying3⟩
  | 1, ht, hq => injection ht with ht; injection hq with hq; subst ht hq; exact ⟨by decide, _, _, part_int w rfl, part_int w rfl, run_equalIn_int w k _ _ _ _ _ Tryd.underlying3⟩
  | 2, ht, hq => injection ht with ht; injection hq with hq; subst ht hq; exact ⟨by decide, _, _, part_int w rfl, part_int w rfl, run_equalIn_int w k _ _ _ _ _ Tryd.underlying3⟩
theorem eq_duty (d e : Du) (w : World) : (Op.equalIn 10000 38 (.agg (duE.f d).toArray) (.agg (duE.f e).toArray)).run Tryd.prog w = .ok (decide (d = e)) w := by
  obtain ⟨dn, dw, df, dt, de, dN, dU, dR⟩ := d
  obtain ⟨en, ew, ef, et, ee, eN, eU, eR⟩ := e
  rw [show (10000 : Nat) = 9999 + 1 from rfl, run_equalIn_struct w 9999 _ _ _ Tryd.duU Tryd.duH]
  have h := eqF_all 9999 (duE.f ⟨dn, dw, df, dt, de, dN, dU, dR⟩).toArray (duE.f ⟨en, ew, ef, et, ee, eN, eU, eR⟩).toArray w _ _ [dn.toList == en.toList, dw.toList == ew.toList, df == ef, dt == et, de.toList == ee.toList, [dN == eN, dU == eU, dR == eR].all id] Tryd.duFields rfl fun i t q ht hq => by
    match i, ht, hq with
    | 0, ht, hq => injection ht with ht; injection hq with hq; subst ht hq; exact ⟨by decide, _, _, part_str w rfl, part_str w rfl, run_equalIn_string w 9998 _ _ _ Tryd.underlying9⟩
    | 1, ht, hq => injection ht with ht; injection hq with hq; subst ht hq; exact ⟨by decide, _, _, part_str w rfl, part_str w rfl, run_equalIn_string w 9998 _ _ _ Tryd.underlying9⟩
    | 2, ht, hq => injection ht with ht; injection hq with hq; subst ht hq; exact ⟨by decide, _, _, part_int w rfl, part_int w rfl, run_equalIn_int w 9998 _ _ _ _ _ Tryd.underlying3⟩
    | 3, ht, hq => injection ht with ht; injection hq with hq; subst ht hq; exact ⟨by decide, _, _, part_int w rfl, part_int w rfl, run_equalIn_int w 9998 _ _ _ _ _ Tryd.underlying3⟩
    | 4, ht, hq => injection ht with ht; injection hq with hq; subst ht hq; exact ⟨by decide, _, _, part_str w rfl, part_str w rfl, run_equalIn_string w 9998 _ _ _ Tryd.underlying9⟩
    | 5, ht, hq => injection ht with ht; injection hq with hq; subst ht hq; exact ⟨by decide, _, _, part_term _ _ _ _ _ _ _ _ w, part_term _ _ _ _ _ _ _ _ w, eq_term _ _ _ _ _ _ w 9997⟩
  rw [h]
  clear h
  refine congrArg (fun b => Result.ok b w) ?_
  rw [beqB, beqB, beqB]
  by_cases hh : (Du.mk dn dw df dt de dN dU dR) = ⟨en, ew, ef, et, ee, eN, eU, eR⟩
  · rw [decide_eq_true hh]
    injection hh with h1 h2 h3 h4 h5 h6 h7 h8
    subst h1 h2 h3 h4 h5 h6 h7 h8
    simp
  · rw [decide_eq_false hh, ← Bool.not_eq_true, List.all_eq_true]
    intro hall
    apply hh
    have a0 := hall (decide (dn = en)) (by simp)
    have a1 := hall (decide (dw = ew)) (by simp)
    have a2 := hall (df == ef) (by simp)
    have a3 := hall (dt == et) (by simp)
    have a4 := hall (decide (de = ee)) (by simp)
    have a5 := hall ([dN == eN, dU == eU, dR == eR].all id) (by simp)
    simp at a0 a1 a2 a3 a4 a5
    obtain ⟨a5, a6, a7⟩ := a5
    subst a0 a1 a2 a3 a4 a5 a6 a7
    rfl
end Go.Proofs.YtkaeolcchhneoaaDoor

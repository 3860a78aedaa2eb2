/-
  Two duties held against each other.
-/
import Derived.Test.YtkaeolcchhneoaaGreatDoorDuG1
import Derived.Test.YtkaeolcchhneoaaGreatDoorBel1
import Derived.Laws.StructEq
import Derived.ChangeKeysEq
namespace Go.Proofs.YtkaeolcchhneoaaGreatDoor
open Go.RowKit

theorem Tryz.strPlain : Tryz.prog.plainKey 9 = true := by kernel_rfl
theorem Tryz.intPlain : Tryz.prog.plainKey 3 = true := by kernel_rfl
/-- The fields of a duty, as they are compared. -/
theorem Tryz.duFields : ((Tryz.prog.fieldsOf 57).toList.map fun f => (f.name, f.type, f.offset)) = [("Name", 9, 0), ("Who", 9, 1), ("From", 3, 2), ("By", 3, 3), ("Else", 9, 4), ("Term", 55, 5)] := by kernel_rfl
theorem Tryz.teFields : ((Tryz.prog.fieldsOf 55).toList.map fun f => (f.name, f.type, f.offset)) = [("N", 3, 0), ("Unit", 3, 1), ("Roll", 3, 2)] := by kernel_rfl
theorem Tryz.duU : Tryz.prog.underlying 57 = some (.struct (Tryz.prog.fieldsOf 57)) := by kernel_rfl
theorem Tryz.teU : Tryz.prog.underlying 55 = some (.struct (Tryz.prog.fieldsOf 55)) := by kernel_rfl
theorem Tryz.duH : Tryz.prog.stoodInHeld 57 = false := by kernel_rfl
theorem Tryz.teH : Tryz.prog.stoodInHeld 55 = false := by kernel_rfl
theorem eqF_cons (d : Nat) (xs ys : Array Value) (f : Field) (fs : List Field) (w : World) (h : f.name ≠ "_") {a b : Value} (ha : (part f.type xs f.offset).run Tryz.prog w = .ok a w) (hb : (part f.type ys f.offset).run Tryz.prog w = .ok b w) {r : Bool} (hr : (Op.equalIn d f.type a b).run Tryz.prog w = .ok r w) {R : Bool} (hR : (Op.eqFields d xs ys fs).run Tryz.prog w = .ok R w) : (Op.eqFields d xs ys (f :: fs)).run Tryz.prog w = .ok (r && R) w := by
  rw [Op.eqFields, if_pos h, Sem.run_bind, ha, Result.andThen_ok, Sem.run_bind, hb, Result.andThen_ok, Sem.run_bind, hr, Result.andThen_ok]
  cases r
  · rfl
  · exact hR
/-- The fields, one after another, by what is told of each. -/
theorem eqF_all (d : Nat) (xs ys : Array Value) (w : World) : ∀ (fs : List Field) (ts : List (String × Nat × Nat)) (rs : List Bool), (fs.map fun f => (f.name, f.type, f.offset)) = ts → ts.length = rs.length →
    (∀ (i : Nat) (t : String × Nat × Nat) (r : Bool), ts[i]? = some t → rs[i]? = some r → t.1 ≠ "_" ∧ ∃ a b, (part t.2.1 xs t.2.2).run Tryz.prog w = .ok a w ∧ (part t.2.1 ys t.2.2).run Tryz.prog w = .ok b w ∧ (Op.equalIn d t.2.1 a b).run Tryz.prog w = .ok r w) →
    (Op.eqFields d xs ys fs).run Tryz.prog w = .ok (rs.all id) w
  | [], ts, rs, e, hl, _ => by
    subst e
    obtain rfl := List.eq_nil_of_length_eq_zero hl.symm
    rfl
  | f :: fs, ts, rs, e, hl, h => by
    subst e
    match rs, hl with
    | r :: rs, hl =>
      obtain ⟨h1, a, b, ha, hb, hr⟩ := h 0 _ r rfl rfl
      have ih := eqF_all d xs ys w fs _ rs rfl (by simpa using hl) (fun i t r' ht hr' => h (i + 1) t r' (by simpa using ht) (by simpa using hr'))
      rw [List.all_cons]
      exact eqF_cons d xs ys f fs w h1 ha hb hr ih
theorem part_str {xs : Array Value} {o : Nat} {v : Value} (w : World) (h : xs[o]? = some v) : (part 9 xs o).run Tryz.prog w = .ok v w := run_part_plain w Tryz.strPlain h
theorem part_int {xs : Array Value} {o : Nat} {v : Value} (w : World) (h : xs[o]? = some v) : (part 3 xs o).run Tryz.prog w = .ok v w := run_part_plain w Tryz.intPlain h
theorem part_term (x0 x1 x2 x3 x4 x5 x6 x7 : Value) (w : World) : (part 55 #[x0, x1, x2, x3, x4, x5, x6, x7] 5).run Tryz.prog w = .ok (.agg #[x5, x6, x7]) w := by kernel_rfl
theorem beqB (a b : ByteArray) : (a.toList == b.toList) = decide (a = b) := by
  by_cases h : a = b
  · subst h; simp
  · have : ¬ a.toList = b.toList := fun e => h (by
      rw [ByteArray.toList_eq, ByteArray.toList_eq] at e
      exact ByteArray.ext (Array.toList_inj.1 e))
    simp [h, this]
theorem eq_term (n u r n' u' r' : Int) (w : World) (k : Nat) : (Op.equalIn (k + 2) 55 (.agg #[.int .i64 n, .int .i64 u, .int .i64 r]) (.agg #[.int .i64 n', .int .i64 u', .int .i64 r'])).run Tryz.prog w = .ok ([n == n', u == u', r == r'].all id) w := by
  rw [run_equalIn_struct w (k + 1) _ _ _ Tryz.teU Tryz.teH]
  refine eqF_all (k + 1) _ _ w _ _ [n == n', u == u', r == r'] Tryz.teFields rfl fun i t q ht hq => ?_
  match i, ht, hq with
  | 0, ht, hq => injection ht with ht; injection hq with hq; subst ht hq; exact ⟨by decide, _, _, part_int w rfl, part_int w rfl, run_equalIn_int w k _ _ _ _ _ Tryz.underlying3⟩
  | 1, ht, hq => injection ht with ht; injection hq with hq; subst ht hq; exact ⟨by decide, _, _, part_int w rfl, part_int w rfl, run_equalIn_int w k _ _ _ _ _ Tryz.underlying3⟩
  | 2, ht, hq => injection ht with ht; injection hq with hq; subst ht hq; exact ⟨by decide, _, _, part_int w rfl, part_int w rfl, run_equalIn_int w k _ _ _ _ _ Tryz.underlying3⟩
theorem eq_duty (d e : Du) (w : World) : (Op.equalIn 10000 57 (.agg (duE.f d).toArray) (.agg (duE.f e).toArray)).run Tryz.prog w = .ok (decide (d = e)) w := by
  obtain ⟨dn, dw, df, dt, de, dN, dU, dR⟩ := d
  obtain ⟨en, ew, ef, et, ee, eN, eU, eR⟩ := e
  rw [show (10000 : Nat) = 9999 + 1 from rfl, run_equalIn_struct w 9999 _ _ _ Tryz.duU Tryz.duH]
  have h := eqF_all 9999 (duE.f ⟨dn, dw, df, dt, de, dN, dU, dR⟩).toArray (duE.f ⟨en, ew, ef, et, ee, eN, eU, eR⟩).toArray w _ _ [dn.toList == en.toList, dw.toList == ew.toList, df == ef, dt == et, de.toList == ee.toList, [dN == eN, dU == eU, dR == eR].all id] Tryz.duFields rfl fun i t q ht hq => by
    match i, ht, hq with
    | 0, ht, hq => injection ht with ht; injection hq with hq; subst ht hq; exact ⟨by decide, _, _, part_str w rfl, part_str w rfl, run_equalIn_string w 9998 _ _ _ Tryz.underlying9⟩
    | 1, ht, hq => injection ht with ht; injection hq with hq; subst ht hq; exact ⟨by decide, _, _, part_str w rfl, part_str w rfl, run_equalIn_string w 9998 _ _ _ Tryz.underlying9⟩
    | 2, ht, hq => injection ht with ht; injection hq with hq; subst ht hq; exact ⟨by decide, _, _, part_int w rfl, part_int w rfl, run_equalIn_int w 9998 _ _ _ _ _ Tryz.underlying3⟩
    | 3, ht, hq => injection ht with ht; injection hq with hq; subst ht hq; exact ⟨by decide, _, _, part_int w rfl, part_int w rfl, run_equalIn_int w 9998 _ _ _ _ _ Tryz.underlying3⟩
    | 4, ht, hq => injection ht with ht; injection hq with hq; subst ht hq; exact ⟨by decide, _, _, part_str w rfl, part_str w rfl, run_equalIn_string w 9998 _ _ _ Tryz.underlying9⟩
    | 5, ht, hq => injection ht with ht; injection hq with hq; subst ht hq; exact ⟨by decide, _, _, part_term _ _ _ _ _ _ _ _ w, part_term _ _ _ _ _ _ _ _ w, eq_term _ _ _ _ _ _ w 9997⟩
  rw [h]
  clear h
  refine congrArg (fun b => Result.ok b w) ?_
  rw [beqB, beqB, beqB]
  by_cases hh : (Du.mk dn dw df dt de dN dU dR) = ⟨en, ew, ef, et, ee, eN, eU, eR⟩
  · rw [decide_eq_true hh]
    injection hh with h1 h2 h3 h4 h5 h6 h7 h8
    subst h1 h2 h3 h4 h5 h6 h7 h8
    simp
  · rw [decide_eq_false hh, ← Bool.not_eq_true, List.all_eq_true]
    intro hall
    apply hh
    have a0 := hall (decide (dn = en)) (by simp)
    have a1 := hall (decide (dw = ew)) (by simp)
    have a2 := hall (df == ef) (by simp)
    have a3 := hall (dt == et) (by simp)
    have a4 := hall (decide (de = ee)) (by simp)
    have a5 := hall ([dN == eN, dU == eU, dR == eR].all id) (by simp)
    simp at a0 a1 a2 a3 a4 a5
    obtain ⟨a5, a6, a7⟩ := a5
    subst a0 a1 a2 a3 a4 a5 a6 a7
    rfl
end Go.Proofs.YtkaeolcchhneoaaGreatDoor
namespace Go.Proofs.YtkaeolcchhneoaaGreatDoor
open Go.RowKit

/-- The fields of a duty, as they are compared. -/
theorem Tryz.rduFields : ((Tryz.prog.fieldsOf 62).toList.map fun f => (f.name, f.type, f.offset)) = [("Name", 9, 0), ("Who", 9, 1), ("From", 3, 2), ("By", 3, 3), ("Else", 9, 4), ("Term", 60, 5)] := by kernel_rfl
theorem Tryz.rteFields : ((Tryz.prog.fieldsOf 60).toList.map fun f => (f.name, f.type, f.offset)) = [("N", 3, 0), ("Unit", 3, 1), ("Roll", 3, 2)] := by kernel_rfl
theorem Tryz.rduU : Tryz.prog.underlying 62 = some (.struct (Tryz.prog.fieldsOf 62)) := by kernel_rfl
theorem Tryz.rteU : Tryz.prog.underlying 60 = some (.struct (Tryz.prog.fieldsOf 60)) := by kernel_rfl
theorem Tryz.rduH : Tryz.prog.stoodInHeld 62 = false := by kernel_rfl
theorem Tryz.rteH : Tryz.prog.stoodInHeld 60 = false := by kernel_rfl
theorem rpart_term (x0 x1 x2 x3 x4 x5 x6 x7 : Value) (w : World) : (part 60 #[x0, x1, x2, x3, x4, x5, x6, x7] 5).run Tryz.prog w = .ok (.agg #[x5, x6, x7]) w := by kernel_rfl
theorem req_term (n u r n' u' r' : Int) (w : World) (k : Nat) : (Op.equalIn (k + 2) 60 (.agg #[.int .i64 n, .int .i64 u, .int .i64 r]) (.agg #[.int .i64 n', .int .i64 u', .int .i64 r'])).run Tryz.prog w = .ok ([n == n', u == u', r == r'].all id) w := by
  rw [run_equalIn_struct w (k + 1) _ _ _ Tryz.rteU Tryz.rteH]
  refine eqF_all (k + 1) _ _ w _ _ [n == n', u == u', r == r'] Tryz.rteFields rfl fun i t q ht hq => ?_
  match i, ht, hq with
  | 0, ht, hq => injection ht with ht; injection hq with hq; subst ht hq; exact ⟨by decide, _, _, part_int w rfl, part_int w rfl, run_equalIn_int w k _ _ _ _ _ Tryz.underlying3⟩
  | 1, ht, hq => injection ht with ht; injection hq with hq; subst ht hq; exact ⟨by decide, _, _, part_int w rfl, part_int w rfl, run_equalIn_int w k _ _ _ _ _ Tryz.underlying3⟩
  | 2, ht, hq => injection ht with ht; injection hq with hq; subst ht hq; exact ⟨by decide, _, _, part_int w rfl, part_int w rfl, run_equalIn_int w k _ _ _ _ _ Tryz.underlying3⟩
theorem req_duty (d e : Du) (w : World) (k : Nat) : (Op.equalIn (k + 3) 62 (.agg (duE.f d).toArray) (.agg (duE.f e).toArray)).run Tryz.prog w = .ok (decide (d = e)) w := by
  obtain ⟨dn, dw, df, dt, de, dN, dU, dR⟩ := d
  obtain ⟨en, ew, ef, et, ee, eN, eU, eR⟩ := e
  rw [run_equalIn_struct w (k + 2) _ _ _ Tryz.rduU Tryz.rduH]
  have h := eqF_all (k + 2) (duE.f ⟨dn, dw, df, dt, de, dN, dU, dR⟩).toArray (duE.f ⟨en, ew, ef, et, ee, eN, eU, eR⟩).toArray w _ _ [dn.toList == en.toList, dw.toList == ew.toList, df == ef, dt == et, de.toList == ee.toList, [dN == eN, dU == eU, dR == eR].all id] Tryz.rduFields rfl fun i t q ht hq => by
    match i, ht, hq with
    | 0, ht, hq => injection ht with ht; injection hq with hq; subst ht hq; exact ⟨by decide, _, _, part_str w rfl, part_str w rfl, run_equalIn_string w (k + 1) _ _ _ Tryz.underlying9⟩
    | 1, ht, hq => injection ht with ht; injection hq with hq; subst ht hq; exact ⟨by decide, _, _, part_str w rfl, part_str w rfl, run_equalIn_string w (k + 1) _ _ _ Tryz.underlying9⟩
    | 2, ht, hq => injection ht with ht; injection hq with hq; subst ht hq; exact ⟨by decide, _, _, part_int w rfl, part_int w rfl, run_equalIn_int w (k + 1) _ _ _ _ _ Tryz.underlying3⟩
    | 3, ht, hq => injection ht with ht; injection hq with hq; subst ht hq; exact ⟨by decide, _, _, part_int w rfl, part_int w rfl, run_equalIn_int w (k + 1) _ _ _ _ _ Tryz.underlying3⟩
    | 4, ht, hq => injection ht with ht; injection hq with hq; subst ht hq; exact ⟨by decide, _, _, part_str w rfl, part_str w rfl, run_equalIn_string w (k + 1) _ _ _ Tryz.underlying9⟩
    | 5, ht, hq => injection ht with ht; injection hq with hq; subst ht hq; exact ⟨by decide, _, _, rpart_term _ _ _ _ _ _ _ _ w, rpart_term _ _ _ _ _ _ _ _ w, req_term _ _ _ _ _ _ w k⟩
  rw [h]
  clear h
  refine congrArg (fun b => Result.ok b w) ?_
  rw [beqB, beqB, beqB]
  by_cases hh : (Du.mk dn dw df dt de dN dU dR) = ⟨en, ew, ef, et, ee, eN, eU, eR⟩
  · rw [decide_eq_true hh]
    injection hh with h1 h2 h3 h4 h5 h6 h7 h8
    subst h1 h2 h3 h4 h5 h6 h7 h8
    simp
  · rw [decide_eq_false hh, ← Bool.not_eq_true, List.all_eq_true]
    intro hall
    apply hh
    have a0 := hall (decide (dn = en)) (by simp)
    have a1 := hall (decide (dw = ew)) (by simp)
    have a2 := hall (df == ef) (by simp)
    have a3 := hall (dt == et) (by simp)
    have a4 := hall (decide (de = ee)) (by simp)
    have a5 := hall ([dN == eN, dU == eU, dR == eR].all id) (by simp)
    simp at a0 a1 a2 a3 a4 a5
    obtain ⟨a5, a6, a7⟩ := a5
    subst a0 a1 a2 a3 a4 a5 a6 a7
    rfl

theorem Tryz.rstFields : ((Tryz.prog.fieldsOf 81).toList.map fun f => (f.name, f.type, f.offset)) = [("Duty", 62, 0), ("State", 3, 8), ("Day", 3, 9), ("Of", 3, 10)] := by kernel_rfl
theorem Tryz.rstU : Tryz.prog.underlying 81 = some (.struct (Tryz.prog.fieldsOf 81)) := by kernel_rfl
theorem Tryz.rstH : Tryz.prog.stoodInHeld 81 = false := by kernel_rfl
theorem rpart_duty (x0 x1 x2 x3 x4 x5 x6 x7 x8 x9 x10 : Value) (w : World) : (part 62 #[x0, x1, x2, x3, x4, x5, x6, x7, x8, x9, x10] 0).run Tryz.prog w = .ok (.agg #[x0, x1, x2, x3, x4, x5, x6, x7]) w := by kernel_rfl
theorem req_state (s t : St) (w : World) : (Op.equalIn 10000 81 (.agg (stE.f s).toArray) (.agg (stE.f t).toArray)).run Tryz.prog w = .ok (decide (s = t)) w := by
  obtain ⟨d, a, b, c⟩ := s
  obtain ⟨d', a', b', c'⟩ := t
  rw [show (10000 : Nat) = 9999 + 1 from rfl, run_equalIn_struct w 9999 _ _ _ Tryz.rstU Tryz.rstH]
  have h := eqF_all 9999 (stE.f ⟨d, a, b, c⟩).toArray (stE.f ⟨d', a', b', c'⟩).toArray w _ _ [decide (d = d'), a == a', b == b', c == c'] Tryz.rstFields rfl fun i t q ht hq => by
    match i, ht, hq with
    | 0, ht, hq => injection ht with ht; injection hq with hq; subst ht hq; exact ⟨by decide, _, _, rpart_duty _ _ _ _ _ _ _ _ _ _ _ w, rpart_duty _ _ _ _ _ _ _ _ _ _ _ w, req_duty d d' w 9996⟩
    | 1, ht, hq => injection ht with ht; injection hq with hq; subst ht hq; exact ⟨by decide, _, _, part_int w rfl, part_int w rfl, run_equalIn_int w 9998 _ _ _ _ _ Tryz.underlying3⟩
    | 2, ht, hq => injection ht with ht; injection hq with hq; subst ht hq; exact ⟨by decide, _, _, part_int w rfl, part_int w rfl, run_equalIn_int w 9998 _ _ _ _ _ Tryz.underlying3⟩
    | 3, ht, hq => injection ht with ht; injection hq with hq; subst ht hq; exact ⟨by decide, _, _, part_int w rfl, part_int w rfl, run_equalIn_int w 9998 _ _ _ _ _ Tryz.underlying3⟩
  rw [h]
  clear h
  refine congrArg (fun b => Result.ok b w) ?_
  by_cases hh : (St.mk d a b c) = ⟨d', a', b', c'⟩
  · rw [decide_eq_true hh]
    injection hh with h1 h2 h3 h4
    subst h1 h2 h3 h4
    simp
  · rw [decide_eq_false hh, ← Bool.not_eq_true, List.all_eq_true]
    intro hall
    apply hh
    have a0 := hall (decide (d = d')) (by simp)
    have a1 := hall (a == a') (by simp)
    have a2 := hall (b == b') (by simp)
    have a3 := hall (c == c') (by simp)
    simp at a0 a1 a2 a3
    subst a0 a1 a2 a3
    rfl
end Go.Proofs.YtkaeolcchhneoaaGreatDoor

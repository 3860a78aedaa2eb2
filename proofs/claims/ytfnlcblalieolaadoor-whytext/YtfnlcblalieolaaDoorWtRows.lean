/-
  The reference: Rows: a text's lines without their ends.
-/
import Derived.Test.YtfnlcblalieolaaDoorWtRd1
namespace Go.Proofs.YtfnlcblalieolaaDoor
open Go.RowKit Go.Extern.Stop Go.Stop Go.Extern

/-! Plain. -/
def rowsA : List UInt8 → List UInt8 → List (List UInt8)
  | x, [] => if x = [] then [] else [x]
  | x, c :: r => if c = 10 then x :: rowsA [] r else rowsA (x ++ [c]) r
theorem rowsA_no : ∀ (x r : List UInt8), 10 ∉ r → rowsA x r = if x ++ r = [] then [] else [x ++ r]
  | x, [], _ => by rw [rowsA, List.append_nil]
  | x, c :: r, h => by
    rw [rowsA, if_neg (fun e => h (by rw [e]; exact List.mem_cons_self ..)), rowsA_no (x ++ [c]) r (fun e => h (List.mem_cons_of_mem _ e)), List.append_assoc]
    rfl
theorem rowsA_nl (rest : List UInt8) : ∀ (x pre : List UInt8), 10 ∉ pre → rowsA x (pre ++ 10 :: rest) = (x ++ pre) :: rowsA [] rest
  | x, [], _ => by rw [List.nil_append, rowsA, if_pos rfl, List.append_nil]
  | x, c :: r, h => by
    rw [List.cons_append, rowsA, if_neg (fun e => h (by rw [e]; exact List.mem_cons_self ..)), rowsA_nl rest (x ++ [c]) r (fun e => h (List.mem_cons_of_mem _ e)), List.append_assoc]
    rfl
theorem cutL_cases : ∀ r : List UInt8, (10 ∉ r ∧ cutL r = (r, [])) ∨ ∃ pre rest, r = pre ++ 10 :: rest ∧ 10 ∉ pre ∧ cutL r = (pre ++ [10], rest)
  | [] => .inl ⟨by simp, rfl⟩
  | c :: r => by
    unfold cutL
    by_cases h : (c == 10) = true
    · obtain rfl : c = 10 := by simpa using h
      rw [if_pos h]
      exact .inr ⟨[], r, rfl, by simp, rfl⟩
    · have hc : c ≠ 10 := by simpa using h
      rw [if_neg h]
      rcases cutL_cases r with ⟨h1, h2⟩ | ⟨pre, rest, h1, h2, h3⟩
      · rw [h2]
        exact .inl ⟨fun e => by rcases List.mem_cons.1 e with e | e; exact hc e.symm; exact h1 e, rfl⟩
      · rw [h3]
        exact .inr ⟨c :: pre, rest, by rw [h1]; rfl, fun e => by rcases List.mem_cons.1 e with e | e; exact hc e.symm; exact h2 e, rfl⟩
theorem trim_end (l : List UInt8) : Lib.trimSuffix (l ++ [10]) [10] = l := by
  have h : Lib.hasSuffix (l ++ [10]) [10] = true := by
    show ([10] : List UInt8).isSuffixOf (l ++ [10]) = true
    rw [List.isSuffixOf_iff_suffix]
    exact ⟨l, rfl⟩
  unfold Lib.trimSuffix
  rw [if_pos h]
  simp
theorem trim_no (l : List UInt8) (h : 10 ∉ l) : Lib.trimSuffix l [10] = l := by
  have h2 : Lib.hasSuffix l [10] ≠ true := by
    show ([10] : List UInt8).isSuffixOf l ≠ true
    rw [Ne, List.isSuffixOf_iff_suffix]
    rintro ⟨t, e⟩
    exact h (by rw [← e]; simp)
  unfold Lib.trimSuffix
  rw [if_neg h2]
/-- A text's rows are its lines without their ends. -/
theorem rowsA_lines : ∀ (f : Nat) (s : List UInt8), s.length ≤ f → rowsA [] s = (linesB s).map lineB
  | 0, s, h => by
    obtain rfl : s = [] := List.eq_nil_of_length_eq_zero (by omega)
    rfl
  | f + 1, s, h => by
    by_cases h0 : s.length = 0
    · obtain rfl : s = [] := List.eq_nil_of_length_eq_zero h0
      rfl
    · have hle := cutL_le s
      rw [linesB_cons h0, List.map_cons, ← rowsA_lines f (cutL s).2 (by omega)]
      have hb : ∀ l : List UInt8, lineB ⟨l.toArray⟩ = Lib.trimSuffix l [10] := fun l => by simp [lineB, bl]
      rw [hb]
      rcases cutL_cases s with ⟨h1, h2⟩ | ⟨pre, rest, h1, h2, h3⟩
      · rw [h2, trim_no s h1, rowsA_no [] s h1, List.nil_append, if_neg (fun e => h0 (by rw [e]; rfl))]
        rfl
      · rw [h3, trim_end, h1, rowsA_nl rest [] pre h2, List.nil_append]
theorem empty_is (r : ByteArray) : r.toList.isEmpty = decide (r.size = 0) := by
  rw [Bool.eq_iff_iff, List.isEmpty_iff, decide_eq_true_eq, Lib.toList_data]
  have hl : r.data.toList.length = r.size := by simp
  constructor
  · intro h; rw [← hl, h]; rfl
  · intro h; exact List.eq_nil_of_length_eq_zero (by omega)
theorem Tryd.infoStr : ∃ i z, Tryd.prog.info? 9 = some i ∧ i.zero = some z ∧ i.size = 1 ∧ i.bytes = 16 ∧ z.cells.size = 1 := by
  have h : (Tryd.prog.info? 9).map (fun i => (i.zero, i.size, i.bytes)) = some (some (.string ⟨#[]⟩), 1, 16) := by kernel_rfl
  obtain ⟨i, h1, h2⟩ := Option.map_eq_some_iff.1 h
  simp only [Prod.mk.injEq] at h2
  exact ⟨i, _, h1, h2.1, h2.2.1, h2.2.2, rfl⟩
theorem oneNews (w : World) (s : ByteArray) : ∀ (j : Nat) (u : Value), [Value.string s][j]? = some u → (w.alloc (.cells #[Value.string s] 9)).cell? ((⟨w.heap.size, 0, none⟩ : Addr).add j) = some u := by
  intro j u hj
  match j, hj with
  | 0, hj => simp at hj; subst hj; simp [Addr.add]
theorem bl_extract (s : ByteArray) (a b : Nat) : bl (s.extract a b) = ((bl s).take b).drop a := by
  show (s.extract a b).data.toList = _
  rw [ByteArray.data_extract, List.drop_take]
  simp [bl]
theorem bl_cat (a b : ByteArray) : bl (a ++ b) = bl a ++ bl b := by simp [bl]
theorem bl_at (s : ByteArray) (i : Nat) (h : i < s.size) : (bl s).drop i = s[i] :: (bl s).drop (i + 1) := by
  rw [List.drop_eq_getElem_cons (by rw [size_bl]; exact h)]
  have := bl_get s i h
  rw [List.getElem?_eq_getElem (by rw [size_bl]; exact h)] at this
  rw [Option.some.inj this]
theorem bl_one (s : ByteArray) (i : Nat) (h : i < s.size) : bl (s.extract i (i + 1)) = [s[i]] := by
  rw [bl_extract, List.take_add_one, bl_get s i h, List.drop_append_of_le_length (by rw [List.length_take, size_bl]; omega), List.drop_eq_nil_of_le (by rw [List.length_take, size_bl]; omega)]
  rfl
/-- The rows so far. -/
inductive RowsAt (w : World) (s : ByteArray) (v y t : Value) (wr : World) : Prop
  | mk (i : Nat) (o : List ByteArray) (x : ByteArray) (h1 : i ≤ s.size) (h2 : t = .int .i64 i) (h3 : y = .string x) (h4 : wr.ownsRow w.heap.size 9 1 v o.length (o.map Value.string)) (h5 : rowsA [] (bl s) = o.map bl ++ rowsA (bl x) ((bl s).drop i)) (h6 : Below w.heap.size w wr)
      (h7 : x.size = 0 → i = 0 ∨ ∃ h : i - 1 < s.size, s[i - 1] = 10) (h8 : o.length ≤ i) (h9 : x.size ≤ i)
set_option maxHeartbeats 4000000 in
set_option maxRecDepth 10000 in
theorem rows_r (s : ByteArray) (hs : s.size ≤ 100000) (w : World) : Calls Tryd.prog 21 #[.string s] w fun e w' => (∃ v, ∃ o : List ByteArray, e = .returned v ∧ w'.ownsRow w.heap.size 9 1 v o.length (o.map Value.string) ∧ o.map bl = rowsA [] (bl s) ∧ o.length ≤ s.size + 1) ∧ Below w.heap.size w w' := by
  obtain ⟨i0, iz, hi0, hi1, hi2, hi3, hi4⟩ := Tryd.infoStr
  have HI := hidLL (And.intro hi0 (And.intro hi1 (And.intro hi2 (And.intro hi3 hi4))))
  clear hi0 hi1 hi2 hi3 hi4
  go_enter Tryd.func21, Tryd.ntmps21
  go_wp2_with fail
  go_loopw [3, 4, 5] (fun v y t wr => RowsAt w s v y t wr) (fun _ _ t _ => (s.size - RowKit.intOf t).toNat)
  case atStart => exact ⟨0, [], ⟨#[]⟩, by omega, rfl, rfl, World.ownsRow_nil _ _ _ _, rfl, Below.refl _ _, fun _ => .inl rfl, Nat.le_refl _, Nat.le_refl _⟩
  case round =>
    obtain ⟨i, o, x, hi, rfl, rfl, ho, hsp, hb, h7, h8, h9⟩ := hrel
    obtain ⟨sa, sc, hv⟩ := row_any ho
    subst hv
    generalize hon : o.length = on at *
    have HOn := hidLL hon
    clear hon
    have HO := hidLL ho
    have HS := hidLL hsp
    have HB := hidLL hb
    have H7 := hidLL h7
    have hsz := hb.size
    clear ho hsp hb h7
    by_cases hin : i < s.size
    · have hiz : (i : Int) < s.size := by omega
      by_cases hc : s[i] = 10
      · have hcz : (((s[i].toNat : Nat) : Int) == 10) = true := by rw [hc]; rfl
        have HSn : Hid (rowsA [] (bl s) = (o ++ [x]).map bl ++ rowsA (bl ⟨#[]⟩) ((bl s).drop (i + 1))) := by
          show _ = _
          rw [HS.out, bl_at s i hin, hc, rowsA, if_pos rfl, List.map_append, List.append_assoc]
          rfl
        have HC : Hid (s[i] = 10) := hc
        have HNW := hidLL (oneNews wr x)
        have HOC : Hid (∀ u ∈ [Value.string x], u.oneCell' = true) := by intro u hu; simp at hu; subst hu; rfl
        clear hc
        go_wp2_with (at_builtin; go_loud (refine wpList_append_own _ rfl (.tmp 16) (.tmp 18) 23 rfl w.heap.size 9 i0 iz 1 16 Tryd.underlying23 HI.out.1 HI.out.2.1 HI.out.2.2.1 HI.out.2.2.2.1 HI.out.2.2.2.2 (by decide) (.slice sa on sc) on (o.map Value.string) (by simp [Act.eval]) (HO.out.alloc _) ⟨wr.heap.size, 0, none⟩ 1 1 [.string x] (by simp [Act.eval]) rfl HNW.out HOC.out (by unfold maxLen; omega) (by omega) (by simp; omega) ?_))
        intro v' w' ho' hg _
        obtain ⟨ga, ca, hv'⟩ := row_any ho'
        subst hv'
        have HH := hidLL (And.intro ho' hg)
        have HV := hidLL (HO.out.lt)
        clear ho' hg
        go_wp2
        go_roundw
        case rel =>
          refine ⟨i + 1, o ++ [x], ⟨#[]⟩, by omega, by go_num, rfl, ?_, HSn.out, ?_, fun _ => .inr ⟨by simpa using hin, HC.out⟩, by rw [List.length_append, HOn.out]; simp; omega, by show (0 : Nat) ≤ _; omega⟩
          · have := HH.out.1
            rw [List.length_append, List.length_singleton, HOn.out, List.map_append]
            exact this
          · exact (HB.out.alloc HB.out.size _).grown HH.out.2 (by simp; omega) (fun k hk => (HV.out k hk).1)
        case measure => simp [RowKit.intOf]; omega
      · have hcz : (((s[i].toNat : Nat) : Int) == 10) = false := by
          rw [beq_eq_false_iff_ne]
          intro e
          exact hc (UInt8.toNat_inj.1 (by show s[i].toNat = 10; omega))
        have HSn : Hid (rowsA [] (bl s) = o.map bl ++ rowsA (bl (x ++ s.extract i (i + 1))) ((bl s).drop (i + 1))) := by
          show _ = _
          rw [HS.out, bl_at s i hin, rowsA, if_neg hc, bl_cat, bl_one s i hin]
        have hiz2 : (i : Int) + 1 ≤ s.size := by omega
        have hiz3 : (0 : Int) ≤ (i : Int) + 1 := by omega
        have hiz4 : (i : Int) ≤ (i : Int) + 1 := by omega
        have hiz5 : ((i : Int) + 1).toNat = i + 1 := by omega
        have hiz6 : (x.size : Int) + 1 ≤ 9223372036854775807 := by omega
        have HXs : Hid ((x ++ s.extract i (i + 1)).size = x.size + 1) := by
          show _ = _
          rw [← size_bl, bl_cat, bl_one s i hin, List.length_append, size_bl]
          rfl
        clear hc
        go_wp2
        go_roundw
        case rel => exact ⟨i + 1, o, _, by omega, by go_num, rfl, by rw [HOn.out]; exact HO.out, HSn.out, HB.out, fun e => by rw [HXs.out] at e; omega, by rw [HOn.out]; omega, by rw [HXs.out]; omega⟩
        case measure => simp [RowKit.intOf]; omega
    · obtain rfl : i = s.size := by omega
      have HSa : Hid (rowsA [] (bl s) = o.map bl ++ rowsA (bl x) []) := by
        have := HS.out
        rw [List.drop_of_length_le (by rw [size_bl]; omega)] at this
        exact this
      have hE := empty_is x
      by_cases hx : x.size = 0
      · rw [show decide (x.size = 0) = true by simpa using hx] at hE
        have hxl : bl x = [] := List.eq_nil_of_length_eq_zero (by rw [size_bl]; exact hx)
        have HRo : Hid (o.map bl = rowsA [] (bl s)) := by
          show _ = _
          rw [HSa.out, hxl, rowsA, if_pos rfl, List.append_nil]
        rcases Nat.eq_zero_or_pos s.size with hs0 | hs0
        · have h0e : decide ((0 : Int) < (s.size : Int)) = false := decide_eq_false (by omega)
          clear hxl hx
          go_wp2
          go_ret
          exact ⟨⟨_, o, rfl, by rw [HOn.out]; exact HO.out, HRo.out, by rw [HOn.out]; omega⟩, HB.out⟩
        · have h0e : decide ((0 : Int) < (s.size : Int)) = true := decide_eq_true (by omega)
          have hsub : (s.size : Int) - 1 = ((s.size - 1 : Nat) : Int) := by omega
          have hlt : s.size - 1 < s.size := by omega
          have hltz : ((s.size - 1 : Nat) : Int) < (s.size : Int) := by omega
          have hlast10 : s[s.size - 1] = 10 := by
            rcases H7.out hx with e | ⟨_, e⟩
            · omega
            · exact e
          have hcz : (((s[s.size - 1].toNat : Nat) : Int) != 10) = false := by rw [hlast10]; rfl
          clear hxl hx hlast10
          go_wp2
          go_ret
          exact ⟨⟨_, o, rfl, by rw [HOn.out]; exact HO.out, HRo.out, by rw [HOn.out]; omega⟩, HB.out⟩
      · rw [show decide (x.size = 0) = false by simpa using hx] at hE
        have hxl : bl x ≠ [] := fun h => hx (by rw [← size_bl, h]; rfl)
        have HRo : Hid ((o ++ [x]).map bl = rowsA [] (bl s)) := by
          show _ = _
          rw [HSa.out, rowsA, if_neg hxl, List.map_append]
          rfl
        have HNW := hidLL (oneNews wr x)
        have HOC : Hid (∀ u ∈ [Value.string x], u.oneCell' = true) := by intro u hu; simp at hu; subst hu; rfl
        clear hxl hx
        go_wp2_with (at_builtin; go_loud (refine wpList_append_own _ rfl (.tmp 42) (.tmp 44) 23 rfl w.heap.size 9 i0 iz 1 16 Tryd.underlying23 HI.out.1 HI.out.2.1 HI.out.2.2.1 HI.out.2.2.2.1 HI.out.2.2.2.2 (by decide) (.slice sa on sc) on (o.map Value.string) (by simp [Act.eval]) (HO.out.alloc _) ⟨wr.heap.size, 0, none⟩ 1 1 [.string x] (by simp [Act.eval]) rfl HNW.out HOC.out (by unfold maxLen; omega) (by omega) (by simp; omega) ?_))
        intro v' w' ho' hg _
        obtain ⟨ga, ca, hv'⟩ := row_any ho'
        subst hv'
        have HH := hidLL (And.intro ho' hg)
        have HV := hidLL (HO.out.lt)
        clear ho' hg
        go_wp2
        go_ret
        refine ⟨⟨_, o ++ [x], rfl, ?_, HRo.out, by rw [List.length_append, HOn.out]; simp; omega⟩, (HB.out.alloc HB.out.size _).grown HH.out.2 (by simp; omega) (fun k hk => (HV.out k hk).1)⟩
        rw [List.length_append, List.length_singleton, HOn.out, List.map_append]
        exact HH.out.1
end Go.Proofs.YtfnlcblalieolaaDoor

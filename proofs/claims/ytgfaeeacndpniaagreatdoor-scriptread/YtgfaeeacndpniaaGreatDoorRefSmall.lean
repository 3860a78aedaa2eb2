/-
  The reference: Printed, blankRow, LineError, behind.
-/
import Derived.Test.YtgfaeeacndpniaaGreatDoorReadTextP
namespace Go.Proofs.YtgfaeeacndpniaaGreatDoor
open Go.RowKit Go.Extern.Stop Go.Stop Go.Extern

theorem plainB_true {s : ByteArray} (h : AllP okN s 0 s.size) : plainB s = true := by unfold plainB; exact @decide_eq_true _ (Classical.propDecidable _) h
theorem plainB_false {s : ByteArray} (i : Nat) (hi : i < s.size) (h : okN s[i].toNat = false) : plainB s = false := by
  unfold plainB
  refine @decide_eq_false _ (Classical.propDecidable _) fun ha => ?_
  have := ha i hi (by omega) hi
  rw [h] at this
  cases this
set_option maxHeartbeats 1000000 in
theorem printed_any (s : ByteArray) (hs : s.size ≤ 100000) (w : World) : Calls Tryz.prog 30 #[.string s] w fun e w' => e = .returned (.bool (plainB s)) ∧ w' = w := by
  go_enter Tryz.func30, Tryz.ntmps30
  go_wp2_with fail
  go_loop [3] (fun t => ∃ i : Nat, i ≤ s.size ∧ t = .int .i64 i ∧ Hid (AllP okN s 0 i)) (fun t => (s.size - RowKit.intOf t).toNat)
  case atStart => exact ⟨0, by omega, rfl, fun i _ _ h => by omega⟩
  case round =>
    obtain ⟨i, hi, rfl, HA⟩ := hrel
    by_cases hin : i < s.size
    · have hiz : (i : Int) < s.size := by omega
      cases ho : okN s[i].toNat
      · have HP := hidLL (plainB_false i hin ho)
        rcases Nat.lt_or_ge s[i].toNat 32 with h1 | h1
        · have h1z : ((s[i].toNat : Nat) : Int) < 32 := by omega
          have h1d : decide (((s[i].toNat : Nat) : Int) < 32) = true := by simpa using h1z
          clear h1z
          clear ho
          go_wp2
          go_ret
          exact ⟨ret_b HP.out.symm, rfl⟩
        · have h2 : 126 < s[i].toNat := by
            rcases Nat.lt_or_ge 126 s[i].toNat with h | h
            · exact h
            · rw [okN_iff.2 ⟨h1, h⟩] at ho; cases ho
          have h1d : decide (((s[i].toNat : Nat) : Int) < 32) = false := by simp; omega
          have h2z : (126 : Int) < ((s[i].toNat : Nat) : Int) := by omega
          clear ho
          go_wp2
          go_ret
          exact ⟨ret_b HP.out.symm, rfl⟩
      · obtain ⟨h1, h2⟩ := okN_iff.1 ho
        have h1d : decide (((s[i].toNat : Nat) : Int) < 32) = false := by simp; omega
        have h2z : ((s[i].toNat : Nat) : Int) ≤ 126 := by omega
        have HA2 : Hid (AllP okN s 0 (i + 1)) := HA.out.snoc hin ho
        clear ho
        go_wp2
        go_round
        case rel => exact ⟨i + 1, by omega, by go_num, HA2⟩
        case measure => simp [RowKit.intOf]; omega
    · obtain rfl : i = s.size := by omega
      go_wp2
      go_ret
      exact ⟨ret_b (plainB_true HA.out).symm, rfl⟩
theorem blN_iff (x : Nat) : blN x = true ↔ x = 32 := by unfold blN; simp
set_option maxHeartbeats 1000000 in
theorem blankRow_any (s : ByteArray) (hs : s.size ≤ 100000) (w : World) : Calls Tryz.prog 28 #[.string s] w fun e w' => e = .returned (.bool (blankB s)) ∧ w' = w := by
  go_enter Tryz.func28, Tryz.ntmps28
  go_wp2_with fail
  go_loop [3] (fun t => ∃ i : Nat, i ≤ s.size ∧ t = .int .i64 i ∧ Hid (AllP blN s 0 i)) (fun t => (s.size - RowKit.intOf t).toNat)
  case atStart => exact ⟨0, by omega, rfl, fun i _ _ h => by omega⟩
  case round =>
    obtain ⟨i, hi, rfl, HA⟩ := hrel
    by_cases hin : i < s.size
    · have hiz : (i : Int) < s.size := by omega
      cases ho : blN s[i].toNat
      · have HP : Hid (blankB s = false) := by
          show _ = _
          unfold blankB
          rw [runP_eq hi HA.out (fun _ => ho)]
          simp; omega
        have hne : (((s[i].toNat : Nat) : Int) != 32) = true := by
          simp
          intro e
          have : s[i].toNat = 32 := by omega
          rw [(blN_iff _).2 this] at ho; cases ho
        clear ho
        go_wp2
        go_ret
        exact ⟨ret_b HP.out.symm, rfl⟩
      · have h1 := (blN_iff _).1 ho
        have hne : (((s[i].toNat : Nat) : Int) != 32) = false := by rw [h1]; rfl
        have HA2 : Hid (AllP blN s 0 (i + 1)) := HA.out.snoc hin ho
        clear ho h1
        go_wp2
        go_round
        case rel => exact ⟨i + 1, by omega, by go_num, HA2⟩
        case measure => simp [RowKit.intOf]; omega
    · obtain rfl : i = s.size := by omega
      have HP : Hid (blankB s = true) := by
        show _ = _
        unfold blankB
        rw [runP_eq hi HA.out (fun h => absurd h (by omega))]
        simp
      go_wp2
      go_ret
      exact ⟨ret_b HP.out.symm, rfl⟩
/-- A line's error. -/
noncomputable def leB (s : ByteArray) : Nat := if 300 < s.size then 2 else if lineB s = true then 0 else 1
theorem edge_ends {s : ByteArray} (h0 : 0 < s.size) : edgeB s = (!(s[0].toNat == 32) && !(s[s.size - 1].toNat == 32)) := by
  rw [Bool.eq_iff_iff, edgeB_iff]
  unfold Edge
  have h1 : (bl s).head? = some s[0] := by rw [List.head?_eq_getElem?]; exact bl_get s 0 h0
  have h2 : (bl s).reverse.head? = some s[s.size - 1] := by
    rw [List.head?_reverse, List.getLast?_eq_getElem?, size_bl]; exact bl_get s (s.size - 1) (by omega)
  rw [h1, h2]
  simp only [Option.some.injEq, forall_eq', Bool.and_eq_true, Bool.not_eq_true', beq_eq_false_iff_ne, ne_eq]
  constructor
  · rintro ⟨a, b⟩
    exact ⟨fun e => a (UInt8.toNat_inj.1 e), fun e => b (UInt8.toNat_inj.1 e)⟩
  · rintro ⟨a, b⟩
    exact ⟨fun e => a (by rw [e]; rfl), fun e => b (by rw [e]; rfl)⟩
theorem edge_nil {s : ByteArray} (h0 : s.size = 0) : edgeB s = true := by
  rw [edgeB_iff]
  have : bl s = [] := List.eq_nil_of_length_eq_zero (by rw [size_bl]; exact h0)
  unfold Edge
  rw [this]
  simp
theorem leB_cases {s : ByteArray} (h : s.size ≤ 300) : leB s = if (plainB s && edgeB s) = true then 0 else 1 := by
  unfold leB lineB
  rw [if_neg (by omega)]
  simp [h]
theorem ret_n {a b : Int} (h : a = b) : Ending.returned (.int .i64 a) = .returned (.int .i64 b) := by rw [h]
set_option maxHeartbeats 1000000 in
theorem lineError_any (s : ByteArray) (hs : s.size ≤ 100000) (w : World) : Calls Tryz.prog 43 #[.string s] w fun e w' => e = .returned (.int .i64 (leB s)) ∧ w' = w := by
  have HPr := hidLL (fun w => printed_any s hs w)
  by_cases hl : 300 < s.size
  · have hlz : (300 : Int) < s.size := by omega
    have HV : Hid (leB s = 2) := by show _ = _; unfold leB; rw [if_pos hl]
    go_enter Tryz.func43, Tryz.ntmps43
    go_wp2
    go_ret
    exact ⟨ret_n (by rw [HV.out]; rfl), rfl⟩
  have hlz : (s.size : Int) ≤ 300 := by omega
  have HV := hidLL (leB_cases (s := s) (by omega))
  cases hp : plainB s
  · rw [hp] at HPr HV
    have HV2 : Hid (leB s = 1) := HV.out
    clear hp HV
    go_enter Tryz.func43, Tryz.ntmps43
    go_wp2_with fail
    refine (HPr.out _).mono ?_
    rintro e w1 ⟨rfl, ew⟩
    subst w1
    go_wp2
    go_ret
    exact ⟨ret_n (by rw [HV2.out]; rfl), rfl⟩
  · rw [hp] at HPr HV
    clear hp
    by_cases h0 : s.size = 0
    · have HV2 : Hid (leB s = 0) := by show _ = _; rw [HV.out, edge_nil h0]; rfl
      have h0e : decide ((0 : Int) < (s.size : Int)) = false := decide_eq_false (by omega)
      clear HV
      go_enter Tryz.func43, Tryz.ntmps43
      go_wp2_with fail
      refine (HPr.out _).mono ?_
      rintro e w1 ⟨rfl, ew⟩
      subst w1
      go_wp2
      go_ret
      exact ⟨ret_n (by rw [HV2.out]; rfl), rfl⟩
    · have h0p : 0 < s.size := by omega
      have h0d : decide ((0 : Int) < (s.size : Int)) = true := by simp; omega
      have hsub : (s.size : Int) - 1 = ((s.size - 1 : Nat) : Int) := by omega
      have hlt : s.size - 1 < s.size := by omega
      have hltz : ((s.size - 1 : Nat) : Int) < (s.size : Int) := by omega
      have he := edge_ends h0p
      cases h1 : (s[0].toNat == 32)
      · cases h2 : (s[s.size - 1].toNat == 32)
        · have HV2 : Hid (leB s = 0) := by show _ = _; rw [HV.out, he, h1, h2]; rfl
          have h1z : (((s[0].toNat : Nat) : Int) == 32) = false := by simp at h1 ⊢; omega
          have h2z : (((s[s.size - 1].toNat : Nat) : Int) == 32) = false := by simp at h2 ⊢; omega
          clear HV he h1 h2 h0
          go_enter Tryz.func43, Tryz.ntmps43
          go_wp2_with fail
          refine (HPr.out _).mono ?_
          rintro e w1 ⟨rfl, ew⟩
          subst w1
          go_wp2
          go_ret
          exact ⟨ret_n (by rw [HV2.out]; rfl), rfl⟩
        · have HV2 : Hid (leB s = 1) := by show _ = _; rw [HV.out, he, h1, h2]; rfl
          have h1z : (((s[0].toNat : Nat) : Int) == 32) = false := by simp at h1 ⊢; omega
          have h2z : (((s[s.size - 1].toNat : Nat) : Int) == 32) = true := by simp at h2 ⊢; omega
          clear HV he h1 h2 h0
          go_enter Tryz.func43, Tryz.ntmps43
          go_wp2_with fail
          refine (HPr.out _).mono ?_
          rintro e w1 ⟨rfl, ew⟩
          subst w1
          go_wp2
          go_ret
          exact ⟨ret_n (by rw [HV2.out]; rfl), rfl⟩
      · have HV2 : Hid (leB s = 1) := by show _ = _; rw [HV.out, he, h1]; rfl
        have h1z : (((s[0].toNat : Nat) : Int) == 32) = true := by simp at h1 ⊢; omega
        clear HV he h1 h0
        go_enter Tryz.func43, Tryz.ntmps43
        go_wp2_with fail
        refine (HPr.out _).mono ?_
        rintro e w1 ⟨rfl, ew⟩
        subst w1
        go_wp2
        go_ret
        exact ⟨ret_n (by rw [HV2.out]; rfl), rfl⟩
/-- What 'behind' tells, beside readText's. -/
structure BH (r : ByteArray) (t : ByteArray) (c : Nat) : Prop where
  zero : c = 0 ↔ (rt r).1 = 0
  text : c = 0 → t = (rt r).2
  long : 300 < t.size ↔ (rt r).1 = 2
  code : (rt r).1 ≠ 2 → c = (rt r).1
  mark : startsAt r 32 = true → c = (rt r).1
  bare : r.size ≠ 0 → startsAt r 32 = false → c = 1
  size : t.size ≤ r.size
theorem BH.of {r t x : ByteArray} {c k : Nat} (e : rt r = (k, x)) (h1 : c = 0 ↔ k = 0) (h2 : c = 0 → t = x) (h3 : 300 < t.size ↔ k = 2) (h4 : k ≠ 2 → c = k) (h5 : startsAt r 32 = true → c = k) (h6 : r.size ≠ 0 → startsAt r 32 = false → c = 1) (h7 : t.size ≤ r.size) : BH r t c := by
  have e1 : (rt r).1 = k := by rw [e]
  have e2 : (rt r).2 = x := by rw [e]
  exact ⟨by rw [e1]; exact h1, by rw [e2]; exact h2, by rw [e1]; exact h3, by rw [e1]; exact h4, by rw [e1]; exact h5, h6, h7⟩
theorem e_size : (⟨#[]⟩ : ByteArray).size = 0 := rfl
theorem BH.nil {r : ByteArray} (h : r.size = 0) : BH r ⟨#[]⟩ 0 :=
  .of (rt_nil h) (by omega) (fun _ => rfl) (by rw [e_size]; omega) (by omega) (by omega) (fun h2 => absurd h h2) (by rw [e_size]; omega)
theorem no_both {b : Bool} {P : Prop} (h : b = true) (h2 : b = false) : P := by rw [h] at h2; cases h2
theorem BH.bareC {r : ByteArray} (h : r.size ≠ 0) (h1 : startsAt r 32 = false) : BH r r 1 := by
  have e : tx r = r := by unfold tx; rw [if_neg (by rw [h1]; decide)]
  by_cases hl : 300 < r.size
  · exact .of (rt_long h (by rw [e]; exact hl)) (by omega) (by omega) (by omega) (by omega) (fun h2 => no_both h2 h1) (fun _ _ => rfl) (Nat.le_refl _)
  · exact .of (rt_bad h (by rw [e]; omega) (.inl h1)) (by omega) (by omega) (by omega) (by omega) (by omega) (fun _ _ => rfl) (Nat.le_refl _)
theorem BH.blank {r : ByteArray} (h : r.size = 1) (h1 : startsAt r 32 = true) : BH r r 1 := by
  have e : (tx r).size = 0 := by unfold tx; rw [if_pos h1, ByteArray.size_extract]; omega
  exact .of (rt_bad (by omega : r.size ≠ 0) (by omega) (.inr (.inl e))) (by omega) (by omega) (by omega) (by omega) (by omega) (fun _ _ => rfl) (Nat.le_refl _)
theorem BH.rest {r : ByteArray} (h : 1 < r.size) (h1 : startsAt r 32 = true) : BH r (r.extract 1 r.size) (leB (r.extract 1 r.size)) := by
  have e : tx r = r.extract 1 r.size := by unfold tx; rw [if_pos h1]
  have hs : (r.extract 1 r.size).size ≤ r.size := by rw [ByteArray.size_extract]; omega
  have h0 : (tx r).size ≠ 0 := by rw [e, ByteArray.size_extract]; omega
  unfold leB
  by_cases hl : 300 < (r.extract 1 r.size).size
  · rw [if_pos hl]
    exact .of (rt_long (by omega : r.size ≠ 0) (by rw [e]; exact hl)) (by omega) (by omega) (by omega) (by omega) (by omega) (fun _ h2 => no_both h1 h2) hs
  · rw [if_neg hl]
    cases hb : lineB (r.extract 1 r.size)
    · rw [if_neg (by decide)]
      exact .of (rt_bad (by omega : r.size ≠ 0) (by rw [e]; omega) (.inr (.inr (by rw [e]; exact hb)))) (by omega) (by omega) (by omega) (by omega) (by omega) (fun _ h2 => no_both h1 h2) hs
    · rw [if_pos rfl]
      exact .of (rt_good (by omega : r.size ≠ 0) h1 (by rw [e]; omega) h0 (by rw [e]; exact hb)) (by omega) (fun _ => e.symm) (by omega) (by omega) (by omega) (fun _ h2 => no_both h1 h2) hs
set_option maxHeartbeats 1000000 in
theorem behind_any (r : ByteArray) (hr : r.size ≤ 100000) (w : World) : Calls Tryz.prog 31 #[.string r] w fun e w' => (∃ t c, e = .returned (.tuple #[.string t, .int .i64 ((c : Nat) : Int)]) ∧ BH r t c) ∧ ∃ q, w' = w.drewN q := by
  have hEs := empty_is r
  by_cases h0 : r.size = 0
  · have HB := hidLL (BH.nil h0)
    rw [show decide (r.size = 0) = true by simpa using h0] at hEs
    clear h0
    go_enter Tryz.func31, Tryz.ntmps31
    go_wp2
    go_ret2
    exact ⟨⟨_, 0, rfl, HB.out⟩, 0, rfl⟩
  rw [show decide (r.size = 0) = false by simpa using h0] at hEs
  have h0p : 0 < r.size := by omega
  have h0z : (0 : Int) < (r.size : Int) := by omega
  have hst := startsAt_get h0 32
  cases hb : (r[0].toNat == 32)
  · rw [hb] at hst
    have HB := hidLL (BH.bareC h0 hst)
    have hz : (((r[0].toNat : Nat) : Int) != 32) = true := by simp at hb ⊢; omega
    clear hst hb h0
    go_enter Tryz.func31, Tryz.ntmps31
    go_wp2
    go_ret2
    exact ⟨⟨_, 1, rfl, HB.out⟩, 0, rfl⟩
  · rw [hb] at hst
    have hz : (((r[0].toNat : Nat) : Int) != 32) = false := by simp at hb ⊢; omega
    by_cases h1 : r.size = 1
    · have HB := hidLL (BH.blank h1 hst)
      have h1z : ((r.size : Int) == 1) = true := by simp; omega
      clear hst hb h0 h1
      go_enter Tryz.func31, Tryz.ntmps31
      go_wp2
      go_ret2
      exact ⟨⟨_, 1, rfl, HB.out⟩, 0, rfl⟩
    · have HB := hidLL (BH.rest (by omega) hst)
      have h1z : ((r.size : Int) == 1) = false := by simp; omega
      have h2z : (1 : Int) ≤ (r.size : Int) := by omega
      have HLE := hidLL (fun w => lineError_any (r.extract 1 r.size) (by rw [ByteArray.size_extract]; omega) w)
      generalize leB (r.extract 1 r.size) = c at *
      clear hst hb h0 h1
      go_enter Tryz.func31, Tryz.ntmps31
      go_wp2_with fail
      go_quiet (first | (go_at_call 43; exact Calls.quiet_of_same (HLE.out _)))
      go_wp2
      go_ret2
      exact ⟨⟨_, c, rfl, HB.out⟩, _, rfl⟩
end Go.Proofs.YtgfaeeacndpniaaGreatDoor

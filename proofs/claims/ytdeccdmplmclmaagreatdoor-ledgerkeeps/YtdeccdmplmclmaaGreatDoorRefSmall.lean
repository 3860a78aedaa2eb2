/-
  The reference: Printed, LineError (out of RefSmall).
-/
import Derived.Test.YtdeccdmplmclmaaGreatDoorPlainB
import Derived.Test.YtdeccdmplmclmaaGreatDoorLkWord
namespace Go.Proofs.YtdeccdmplmclmaaGreatDoor
open Go.RowKit Go.Extern.Stop Go.Stop Go.Extern

set_option maxHeartbeats 1000000 in
theorem printed_any (s : ByteArray) (hs : s.size ≤ 100000) (w : World) : Calls Tryz.prog 38 #[.string s] w fun e w' => e = .returned (.bool (plainB s)) ∧ w' = w := by
  go_enter Tryz.func38, Tryz.ntmps38
  go_wp2_with fail
  go_loop [3] (fun t => ∃ i : Nat, i ≤ s.size ∧ t = .int .i64 i ∧ Hid (AllP okN s 0 i)) (fun t => (s.size - RowKit.intOf t).toNat)
  case atStart => exact ⟨0, by omega, rfl, fun i _ _ h => by omega⟩
  case round =>
    obtain ⟨i, hi, rfl, HA⟩ := hrel
    by_cases hin : i < s.size
    · have hiz : (i : Int) < s.size := by omega
      cases ho : okN s[i].toNat
      · have HP := hidLL (plainB_false i hin ho)
        rcases Nat.lt_or_ge s[i].toNat 32 with h1 | h1
        · have h1z : ((s[i].toNat : Nat) : Int) < 32 := by omega
          have h1d : decide (((s[i].toNat : Nat) : Int) < 32) = true := by simpa using h1z
          clear h1z
          clear ho
          go_wp2
          go_ret
          exact ⟨ret_b HP.out.symm, rfl⟩
        · have h2 : 126 < s[i].toNat := by
            rcases Nat.lt_or_ge 126 s[i].toNat with h | h
            · exact h
            · rw [okN_iff.2 ⟨h1, h⟩] at ho; cases ho
          have h1d : decide (((s[i].toNat : Nat) : Int) < 32) = false := by simp; omega
          have h2z : (126 : Int) < ((s[i].toNat : Nat) : Int) := by omega
          clear ho
          go_wp2
          go_ret
          exact ⟨ret_b HP.out.symm, rfl⟩
      · obtain ⟨h1, h2⟩ := okN_iff.1 ho
        have h1d : decide (((s[i].toNat : Nat) : Int) < 32) = false := by simp; omega
        have h2z : ((s[i].toNat : Nat) : Int) ≤ 126 := by omega
        have HA2 : Hid (AllP okN s 0 (i + 1)) := HA.out.snoc hin ho
        clear ho
        go_wp2
        go_round
        case rel => exact ⟨i + 1, by omega, by go_num, HA2⟩
        case measure => simp [RowKit.intOf]; omega
    · obtain rfl : i = s.size := by omega
      go_wp2
      go_ret
      exact ⟨ret_b (plainB_true HA.out).symm, rfl⟩
/-- A line's error. -/
noncomputable def leB (s : ByteArray) : Nat := if 300 < s.size then 2 else if lineB s = true then 0 else 1
theorem edge_ends {s : ByteArray} (h0 : 0 < s.size) : edgeB s = (!(s[0].toNat == 32) && !(s[s.size - 1].toNat == 32)) := by
  rw [Bool.eq_iff_iff, edgeB_iff]
  unfold Edge
  have h1 : (bl s).head? = some s[0] := by rw [List.head?_eq_getElem?]; exact bl_get s 0 h0
  have h2 : (bl s).reverse.head? = some s[s.size - 1] := by
    rw [List.head?_reverse, List.getLast?_eq_getElem?, size_bl]; exact bl_get s (s.size - 1) (by omega)
  rw [h1, h2]
  simp only [Option.some.injEq, forall_eq', Bool.and_eq_true, Bool.not_eq_true', beq_eq_false_iff_ne, ne_eq]
  constructor
  · rintro ⟨a, b⟩
    exact ⟨fun e => a (UInt8.toNat_inj.1 e), fun e => b (UInt8.toNat_inj.1 e)⟩
  · rintro ⟨a, b⟩
    exact ⟨fun e => a (by rw [e]; rfl), fun e => b (by rw [e]; rfl)⟩
theorem edge_nil {s : ByteArray} (h0 : s.size = 0) : edgeB s = true := by
  rw [edgeB_iff]
  have : bl s = [] := List.eq_nil_of_length_eq_zero (by rw [size_bl]; exact h0)
  unfold Edge
  rw [this]
  simp
theorem leB_cases {s : ByteArray} (h : s.size ≤ 300) : leB s = if (plainB s && edgeB s) = true then 0 else 1 := by
  unfold leB lineB
  rw [if_neg (by omega)]
  simp [h]
theorem ret_n {a b : Int} (h : a = b) : Ending.returned (.int .i64 a) = .returned (.int .i64 b) := by rw [h]
set_option maxHeartbeats 1000000 in
theorem lineError_any (s : ByteArray) (hs : s.size ≤ 100000) (w : World) : Calls Tryz.prog 21 #[.string s] w fun e w' => e = .returned (.int .i64 (leB s)) ∧ w' = w := by
  have HPr := hidLL (fun w => printed_any s hs w)
  by_cases hl : 300 < s.size
  · have hlz : (300 : Int) < s.size := by omega
    have HV : Hid (leB s = 2) := by show _ = _; unfold leB; rw [if_pos hl]
    go_enter Tryz.func21, Tryz.ntmps21
    go_wp2
    go_ret
    exact ⟨ret_n (by rw [HV.out]; rfl), rfl⟩
  have hlz : (s.size : Int) ≤ 300 := by omega
  have HV := hidLL (leB_cases (s := s) (by omega))
  cases hp : plainB s
  · rw [hp] at HPr HV
    have HV2 : Hid (leB s = 1) := HV.out
    clear hp HV
    go_enter Tryz.func21, Tryz.ntmps21
    go_wp2_with fail
    refine (HPr.out _).mono ?_
    rintro e w1 ⟨rfl, ew⟩
    subst w1
    go_wp2
    go_ret
    exact ⟨ret_n (by rw [HV2.out]; rfl), rfl⟩
  · rw [hp] at HPr HV
    clear hp
    by_cases h0 : s.size = 0
    · have HV2 : Hid (leB s = 0) := by show _ = _; rw [HV.out, edge_nil h0]; rfl
      have h0e : decide ((0 : Int) < (s.size : Int)) = false := decide_eq_false (by omega)
      clear HV
      go_enter Tryz.func21, Tryz.ntmps21
      go_wp2_with fail
      refine (HPr.out _).mono ?_
      rintro e w1 ⟨rfl, ew⟩
      subst w1
      go_wp2
      go_ret
      exact ⟨ret_n (by rw [HV2.out]; rfl), rfl⟩
    · have h0p : 0 < s.size := by omega
      have h0d : decide ((0 : Int) < (s.size : Int)) = true := by simp; omega
      have hsub : (s.size : Int) - 1 = ((s.size - 1 : Nat) : Int) := by omega
      have hlt : s.size - 1 < s.size := by omega
      have hltz : ((s.size - 1 : Nat) : Int) < (s.size : Int) := by omega
      have he := edge_ends h0p
      cases h1 : (s[0].toNat == 32)
      · cases h2 : (s[s.size - 1].toNat == 32)
        · have HV2 : Hid (leB s = 0) := by show _ = _; rw [HV.out, he, h1, h2]; rfl
          have h1z : (((s[0].toNat : Nat) : Int) == 32) = false := by simp at h1 ⊢; omega
          have h2z : (((s[s.size - 1].toNat : Nat) : Int) == 32) = false := by simp at h2 ⊢; omega
          clear HV he h1 h2 h0
          go_enter Tryz.func21, Tryz.ntmps21
          go_wp2_with fail
          refine (HPr.out _).mono ?_
          rintro e w1 ⟨rfl, ew⟩
          subst w1
          go_wp2
          go_ret
          exact ⟨ret_n (by rw [HV2.out]; rfl), rfl⟩
        · have HV2 : Hid (leB s = 1) := by show _ = _; rw [HV.out, he, h1, h2]; rfl
          have h1z : (((s[0].toNat : Nat) : Int) == 32) = false := by simp at h1 ⊢; omega
          have h2z : (((s[s.size - 1].toNat : Nat) : Int) == 32) = true := by simp at h2 ⊢; omega
          clear HV he h1 h2 h0
          go_enter Tryz.func21, Tryz.ntmps21
          go_wp2_with fail
          refine (HPr.out _).mono ?_
          rintro e w1 ⟨rfl, ew⟩
          subst w1
          go_wp2
          go_ret
          exact ⟨ret_n (by rw [HV2.out]; rfl), rfl⟩
      · have HV2 : Hid (leB s = 1) := by show _ = _; rw [HV.out, he, h1]; rfl
        have h1z : (((s[0].toNat : Nat) : Int) == 32) = true := by simp at h1 ⊢; omega
        clear HV he h1 h0
        go_enter Tryz.func21, Tryz.ntmps21
        go_wp2_with fail
        refine (HPr.out _).mono ?_
        rintro e w1 ⟨rfl, ew⟩
        subst w1
        go_wp2
        go_ret
        exact ⟨ret_n (by rw [HV2.out]; rfl), rfl⟩
end Go.Proofs.YtdeccdmplmclmaaGreatDoor

/-
  Package script: readText.
-/
import Derived.Test.YtgfaeeacndpniaaDoorPlains2
import Derived.Test.YtgfaeeacndpniaaDoorShelves2
import Derived.Test.YtgfaeeacndpniaaDoorCoded
import Derived.Test.YtgfaeeacndpniaaDoorMemBase
namespace Go.Proofs.YtgfaeeacndpniaaDoor
open Go.RowKit Go.Extern.Stop Go.Stop Go.Extern

def errI (a : Addr) : Value := .iface 129 (.pointer (some a))
/-- What stands behind the mark of a blank. -/
noncomputable def tx (r : ByteArray) : ByteArray := if startsAt r 32 = true then r.extract 1 r.size else r
theorem startsAt_get {r : ByteArray} (h : r.size ≠ 0) (c : Nat) : startsAt r c = (r[0].toNat == c) := by unfold startsAt; rw [dif_pos (by omega)]
theorem rt_nil {r : ByteArray} (h : r.size = 0) : rt r = (0, ⟨#[]⟩) := by unfold rt; rw [dif_pos h]
theorem rt_long {r : ByteArray} (h : r.size ≠ 0) (h2 : 300 < (tx r).size) : rt r = (2, ⟨#[]⟩) := by
  unfold rt tx at *
  rw [startsAt_get h] at h2
  rw [dif_neg h]
  by_cases h1 : r[0].toNat = 32
  · rw [if_pos (by simpa using h1)] at h2; rw [if_pos h1, if_pos h2]
  · rw [if_neg (by simpa using h1)] at h2; rw [if_neg h1, if_pos h2]
theorem rt_bad {r : ByteArray} (h : r.size ≠ 0) (h2 : (tx r).size ≤ 300) (h3 : startsAt r 32 = false ∨ (tx r).size = 0 ∨ lineB (tx r) = false) : rt r = (1, ⟨#[]⟩) := by
  unfold rt tx at *
  rw [startsAt_get h] at h2 h3
  rw [dif_neg h]
  by_cases h1 : r[0].toNat = 32
  · have h1' : (r[0].toNat == 32) = true := by simpa using h1
    rw [if_pos h1'] at h2 h3; rw [if_pos h1, if_neg (by omega), if_pos (by rcases h3 with h3 | h3; rw [h1'] at h3; cases h3; exact h3)]
  · rw [if_neg (by simpa using h1)] at h2; rw [if_neg h1, if_neg (by omega)]
theorem rt_good {r : ByteArray} (h : r.size ≠ 0) (h1 : startsAt r 32 = true) (h2 : (tx r).size ≤ 300) (h3 : (tx r).size ≠ 0) (h4 : lineB (tx r) = true) : rt r = (0, tx r) := by
  unfold rt tx at *
  rw [if_pos h1] at h2 h3 h4 ⊢
  rw [startsAt_get h] at h1
  have h1' : r[0].toNat = 32 := by simpa using h1
  rw [dif_neg h, if_pos h1', if_neg (by omega), if_neg (by rw [h4]; simpa using h3)]
theorem tx_cut (r : ByteArray) : (⟨(Lib.trimPrefix r.data.toList [32]).toArray⟩ : ByteArray) = tx r := by
  unfold tx
  have e : Lib.hasPrefix r.data.toList [32] = startsAt r 32 := starts_pre r 32
  cases hb : startsAt r 32
  · rw [if_neg (by decide)]; exact cutP_no r [32] (by rw [e, hb])
  · rw [if_pos rfl]; exact cutP_yes r [32] (by rw [e, hb])
theorem tx_le (r : ByteArray) : (tx r).size ≤ r.size := by
  unfold tx
  split
  · rw [ByteArray.size_extract]; omega
  · omega
theorem empty_str (r : ByteArray) : (r.toList == (⟨#[]⟩ : ByteArray).toList) = decide (r.size = 0) := by
  rw [Bool.eq_iff_iff, beq_iff_eq, decide_eq_true_eq, Lib.toList_data, Lib.toList_data]
  constructor
  · intro h; rw [← size_bl]; show r.data.toList.length = 0; rw [h]; rfl
  · intro h; exact List.eq_nil_of_length_eq_zero (by rw [← size_bl] at h; exact h)
theorem empty_is (r : ByteArray) : r.toList.isEmpty = decide (r.size = 0) := by
  rw [Bool.eq_iff_iff, List.isEmpty_iff, decide_eq_true_eq, Lib.toList_data]
  constructor
  · intro h; rw [← size_bl]; show r.data.toList.length = 0; rw [h]; rfl
  · intro h; exact List.eq_nil_of_length_eq_zero (by rw [← size_bl] at h; exact h)
/-- What readText tells. -/
def RT (p : Nat → Addr) (e : Ending) (c : Nat) (t : ByteArray) : Prop := (c = 0 ∧ e = .returned (.tuple #[.string t, .nilIface])) ∨ (∃ k, c = k + 1 ∧ k < 11 ∧ e = .returned (.tuple #[.string ⟨#[]⟩, errI (p k)]))
set_option maxHeartbeats 2000000 in
theorem readText_any (r : ByteArray) (p : Nat → Addr) (w : World) (L : Laid w p) (hr : r.size ≤ 30000) :
    Calls Tryd.prog 72 #[.string r] w fun e w' => RT p e (rt r).1 (rt r).2 ∧ Below w.heap.size w w' := by
  have hEs := empty_is r
  by_cases h0 : r.size = 0
  · rw [rt_nil h0]
    rw [show decide (r.size = 0) = true by simpa using h0] at hEs
    clear h0 L
    go_enter Tryd.func72, Tryd.ntmps72
    go_wp2
    go_ret2
    exact ⟨.inl ⟨rfl, rfl⟩, Below.refl _ _⟩
  rw [show decide (r.size = 0) = false by simpa using h0] at hEs
  have HCP := hidLL (fun w => Go.Proofs.Tryd.strings_CutPrefix r ⟨#[32]⟩ w)
  have e1 : (⟨(Lib.trimPrefix r.data.toList (⟨#[32]⟩ : ByteArray).data.toList).toArray⟩ : ByteArray) = tx r := tx_cut r
  have e2 : Lib.hasPrefix r.data.toList (⟨#[32]⟩ : ByteArray).data.toList = startsAt r 32 := starts_pre r 32
  rw [e1, e2] at HCP
  have htl := tx_le r
  have HEt := hidLL (empty_is (tx r))
  have HTL := hidLL (fun w => isTooLong_any (tx r) w)
  have HIL := hidLL (fun w => isLine_any (tx r) (by omega) w)
  have HL := hidLL L
  have H0 := hidLL h0
  clear L h0 e1 e2
  by_cases hlong : 300 < (tx r).size
  · have HR := hidLL (rt_long H0.out hlong)
    rw [show decide (((tx r).size : Int) > 300) = true by simp; omega] at HTL
    rw [HR.out]
    generalize startsAt r 32 = b at *
    generalize tx r = t at *
    have c1 : w.cell? ⟨0, 0, none⟩ = some (.iface 129 (.pointer (some (p 1)))) := HL.out.cell 1 (by omega)
    clear HIL HEt HR hlong
    go_enter Tryd.func72, Tryd.ntmps72
    go_wp2_with fail
    refine (HCP.out _).mono ?_
    rintro e w1 ⟨rfl, ew⟩
    subst w1
    go_wp2_with fail
    refine (HTL.out _).mono ?_
    rintro e w1 ⟨rfl, ew⟩
    subst w1
    go_wp2_with fail
    go_quiet (fail)
    go_wp2
    go_ret2
    exact ⟨.inr ⟨1, rfl, by omega, rfl⟩, bdrewN (Below.refl _ _) _⟩
  · rw [show decide (((tx r).size : Int) > 300) = false by simp; omega] at HTL
    have hle : (tx r).size ≤ 300 := by omega
    clear hlong
    cases hb : startsAt r 32
    · have HR := hidLL (rt_bad H0.out hle (.inl hb))
      rw [HR.out]
      rw [hb] at HCP
      generalize tx r = t at *
      have c0 : w.cell? ⟨1, 0, none⟩ = some (.iface 129 (.pointer (some (p 0)))) := HL.out.cell 0 (by omega)
      clear HIL HEt HR hb
      go_enter Tryd.func72, Tryd.ntmps72
      go_wp2_with fail
      refine (HCP.out _).mono ?_
      rintro e w1 ⟨rfl, ew⟩
      subst w1
      go_wp2_with fail
      refine (HTL.out _).mono ?_
      rintro e w1 ⟨rfl, ew⟩
      subst w1
      go_wp2_with fail
      go_quiet (fail)
      go_wp2
      go_ret2
      exact ⟨.inr ⟨0, rfl, by omega, rfl⟩, bdrewN (Below.refl _ _) _⟩
    · rw [hb] at HCP
      by_cases ht0 : (tx r).size = 0
      · have HR := hidLL (rt_bad H0.out hle (.inr (.inl ht0)))
        rw [HR.out]
        have hEt := HEt.out
        rw [show decide ((tx r).size = 0) = true by simpa using ht0] at hEt
        clear hb ht0
        generalize tx r = t at *
        have c0 : w.cell? ⟨1, 0, none⟩ = some (.iface 129 (.pointer (some (p 0)))) := HL.out.cell 0 (by omega)
        clear HIL HEt HR
        go_enter Tryd.func72, Tryd.ntmps72
        go_wp2_with fail
        refine (HCP.out _).mono ?_
        rintro e w1 ⟨rfl, ew⟩
        subst w1
        go_wp2_with fail
        refine (HTL.out _).mono ?_
        rintro e w1 ⟨rfl, ew⟩
        subst w1
        go_wp2_with fail
        go_quiet (fail)
        go_wp2
        go_ret2
        exact ⟨.inr ⟨0, rfl, by omega, rfl⟩, bdrewN (Below.refl _ _) _⟩
      · have hEt := HEt.out
        rw [show decide ((tx r).size = 0) = false by simpa using ht0] at hEt
        cases hl : lineB (tx r)
        · have HR := hidLL (rt_bad H0.out hle (.inr (.inr hl)))
          rw [HR.out]
          rw [hl] at HIL
          clear hb ht0 hl
          generalize tx r = t at *
          clear HEt HR
          go_enter Tryd.func72, Tryd.ntmps72
          go_wp2_with fail
          refine (HCP.out _).mono ?_
          rintro e w1 ⟨rfl, ew⟩
          subst w1
          go_wp2_with fail
          refine (HTL.out _).mono ?_
          rintro e w1 ⟨rfl, ew⟩
          subst w1
          go_wp2_with fail
          refine (HIL.out _).mono ?_
          rintro e w1 ⟨rfl, hb1⟩
          have HB := hidLL hb1
          have c0 : w1.cell? ⟨1, 0, none⟩ = some (.iface 129 (.pointer (some (p 0)))) := (HL.out.below hb1).cell 0 (by omega)
          clear hb1
          go_wp2_with fail
          go_quiet (fail)
          go_wp2
          go_ret2
          exact ⟨.inr ⟨0, rfl, by omega, rfl⟩, bdrewN HB.out _⟩
        · have HR := hidLL (rt_good H0.out hb hle ht0 hl)
          rw [HR.out]
          rw [hl] at HIL
          clear hb ht0 hl
          generalize tx r = t at *
          clear HEt HR
          go_enter Tryd.func72, Tryd.ntmps72
          go_wp2_with fail
          refine (HCP.out _).mono ?_
          rintro e w1 ⟨rfl, ew⟩
          subst w1
          go_wp2_with fail
          refine (HTL.out _).mono ?_
          rintro e w1 ⟨rfl, ew⟩
          subst w1
          go_wp2_with fail
          refine (HIL.out _).mono ?_
          rintro e w1 ⟨rfl, hb1⟩
          have HB := hidLL hb1
          clear hb1
          go_wp2
          go_ret2
          exact ⟨.inl ⟨rfl, rfl⟩, HB.out⟩
end Go.Proofs.YtgfaeeacndpniaaDoor

/-
  Package script: isLine.
-/
import Derived.Test.YtdeccdmplmclmaaGreatDoorLinePlain
import Derived.Test.YtdeccdmplmclmaaGreatDoorShelfT
namespace Go.Proofs.YtdeccdmplmclmaaGreatDoor
open Go.RowKit Go.Extern.Stop Go.Stop Go.Extern

theorem dw_len (p : UInt8 → Bool) (l : List UInt8) : (l.dropWhile p).length ≤ l.length := (List.dropWhile_sublist p).length_le
theorem dw_id {p : UInt8 → Bool} {l : List UInt8} (h : ∀ b, l.head? = some b → p b = false) : l.dropWhile p = l := by
  cases l with
  | nil => rfl
  | cons a t => rw [List.dropWhile_cons_of_neg (by simp [h a rfl])]
theorem dw_lt {p : UInt8 → Bool} {l : List UInt8} {b : UInt8} (h : l.head? = some b) (hb : p b = true) : (l.dropWhile p).length < l.length := by
  cases l with
  | nil => cases h
  | cons a t =>
    have : a = b := by simpa using h
    subst this
    rw [List.dropWhile_cons_of_pos hb]
    have := dw_len p t
    simp
    omega
/-- Neither begins nor ends with a byte. -/
def Edge (l : List UInt8) (c : UInt8) : Prop := (∀ b, l.head? = some b → b ≠ c) ∧ (∀ b, l.reverse.head? = some b → b ≠ c)
theorem trimB_id (l : List UInt8) (c : UInt8) : Lib.trimB l c = l ↔ Edge l c := by
  unfold Lib.trimB Lib.trimLeftB Lib.trimRightB
  constructor
  · intro h
    have h2 : ∀ b, l.reverse.head? = some b → b ≠ c := fun b hb e => by
      have h1 := dw_lt (p := (· == c)) hb (by simp [e])
      have h3 := dw_len (· == c) (l.reverse.dropWhile (· == c)).reverse
      rw [h] at h3
      simp at h1 h3
      omega
    refine ⟨fun b hb e => ?_, h2⟩
    rw [dw_id (l := l.reverse) (fun b hb => by simpa using h2 b hb), List.reverse_reverse] at h
    have h1 := dw_lt (p := (· == c)) hb (by simp [e])
    rw [h] at h1
    omega
  · rintro ⟨h1, h2⟩
    rw [dw_id (l := l.reverse) (fun b hb => by simpa using h2 b hb), List.reverse_reverse]
    exact dw_id (fun b hb => by simpa using h1 b hb)
noncomputable def edgeB (s : ByteArray) : Bool := open Classical in decide (Edge (bl s) 32)
theorem edgeB_iff (s : ByteArray) : edgeB s = true ↔ Edge (bl s) 32 := by unfold edgeB; simp
/-- A line, a heading, a title. -/
noncomputable def lineB (s : ByteArray) : Bool := decide (s.size ≤ 300) && plainB s && edgeB s
theorem trim_eq (s : ByteArray) : ((⟨(Lib.trimB s.data.toList 32).toArray⟩ : ByteArray).toList == s.toList) = edgeB s := by
  rw [Bool.eq_iff_iff, beq_iff_eq, edgeB_iff, Lib.toList_data, Lib.toList_data, ← trimB_id]
set_option maxHeartbeats 1000000 in
theorem isLine_any (s : ByteArray) (hs : s.size ≤ 9223372036854775807) (w : World) : Calls Tryz.prog 32 #[.string s] w fun e w' => e = .returned (.bool (lineB s)) ∧ Below w.heap.size w w' := by
  have HP := hidL (isPlain_any s w)
  have HT := hidL (fun W => Go.Proofs.Tryz.strings_Trim_one s 32 (by decide) W hs)
  have HE := hidL (trim_eq s)
  have HL : Hid (lineB s = (decide (s.size ≤ 300) && plainB s && edgeB s)) := rfl
  rw [← HE.out] at HL
  generalize (⟨(Lib.trimB s.data.toList 32).toArray⟩ : ByteArray) = t at *
  clear HE
  by_cases h : s.size ≤ 300
  · have h' : (s.size : Int) ≤ 300 := by omega
    rw [show decide (s.size ≤ 300) = true by simpa using h] at HL
    cases hp : plainB s
    · rw [hp] at HL HP
      have HL2 : Hid (lineB s = false) := HL.out
      clear hp
      go_enter Tryz.func32, Tryz.ntmps32
      go_wp2_with fail
      refine HP.out.mono ?_
      rintro e W ⟨rfl, hb⟩
      go_wp2
      go_ret
      exact ⟨ret_b HL2.out.symm, hb⟩
    · rw [hp] at HL HP
      have HL2 : Hid (lineB s = (t.toList == s.toList)) := HL.out
      clear hp
      go_enter Tryz.func32, Tryz.ntmps32
      go_wp2_with fail
      refine HP.out.mono ?_
      rintro e W ⟨rfl, hb⟩
      have HB := hidL hb
      clear hb
      go_wp2_with fail
      refine (HT.out _).mono ?_
      rintro e W2 ⟨rfl, hw⟩
      have HB2 : Hid (Below w.heap.size w W2) := by
        show Below _ _ _
        rcases hw with rfl | rfl
        · exact HB.out
        · exact HB.out.drew
      clear hw
      go_wp2
      go_ret
      exact ⟨ret_b HL2.out.symm, HB2.out⟩
  · have h' : decide ((s.size : Int) ≤ 300) = false := by simp; omega
    rw [show decide (s.size ≤ 300) = false by simpa using h] at HL
    have HL2 : Hid (lineB s = false) := HL.out
    go_enter Tryz.func32, Tryz.ntmps32
    go_wp2
    go_ret
    exact ⟨ret_b HL2.out.symm, Below.refl _ _⟩
end Go.Proofs.YtdeccdmplmclmaaGreatDoor

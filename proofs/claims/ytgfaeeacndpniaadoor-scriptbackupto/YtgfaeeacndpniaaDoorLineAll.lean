/-
  Lines: whether all bytes of a text are such as lines have, to the program and to the reference.
-/
import Derived.Test.YtgfaeeacndpniaaDoorLabP0
import Derived.Test.YtgfaeeacndpniaaDoorShelves2
namespace Go.Proofs.YtgfaeeacndpniaaDoor
open Go.RowKit Go.Extern.Stop Go.Stop Go.Extern

def okN (x : Nat) : Bool := decide (32 ≤ x) && decide (x ≤ 126)
theorem okN_iff {x : Nat} : okN x = true ↔ 32 ≤ x ∧ x ≤ 126 := by unfold okN; simp
theorem okN_hi : ∀ x, 128 ≤ x → okN x = false := fun x h => by
  cases e : okN x
  · rfl
  · have := okN_iff.1 e
    omega
theorem idx_turn (p : Nat → Bool) (s : ByteArray) : ∀ (f pos : Nat), Lib.idxFuncFrom (fun x => !p x) true s f pos = Lib.idxFuncFrom p false s f pos
  | 0, _ => rfl
  | f + 1, pos => by
    unfold Lib.idxFuncFrom
    simp only [Bool.not_eq_true']
    rw [idx_turn p s f]
/-- Are all bytes such? -/
noncomputable def plainB (s : ByteArray) : Bool := open Classical in decide (AllP okN s 0 s.size)
theorem plain_idx (s : ByteArray) : decide (0 ≤ Lib.idxFunc (fun x => !okN x) true s) = !plainB s := by
  have e : Lib.idxFunc (fun x => !okN x) true s = Lib.idxFunc okN false s := idx_turn okN s _ _
  rw [e]
  unfold plainB
  by_cases h : AllP okN s 0 s.size
  · have := idx_all okN_hi s s.size 0 h
    unfold Lib.idxFunc
    rw [this]
    simp [h]
  · have hn : Lib.idxFunc okN false s ≠ -1 := fun e => h (idx_none okN_hi s s.size 0 (by omega) e)
    obtain ⟨j, _, hj, _⟩ := idx_some okN_hi s s.size 0 _ rfl hn
    have hj' : Lib.idxFunc okN false s = j := hj
    rw [hj']
    simp [h]
theorem okN_raw (x : Nat) : (!okN x) = (decide ((x : Int) < 32) || decide ((x : Int) > 126)) := by
  rw [Bool.eq_iff_iff]
  simp only [Bool.not_eq_true', Bool.or_eq_true, decide_eq_true_eq]
  constructor
  · intro h
    by_cases c : 32 ≤ x ∧ x ≤ 126
    · rw [okN_iff.2 c] at h; cases h
    · omega
  · intro h
    cases e : okN x
    · rfl
    · have := okN_iff.1 e
      omega
theorem isPlain1_any (x : Nat) (w : World) : Calls Tryd.prog 70 #[.int .i32 x] w fun e w' => e = .returned (.bool (!okN x)) ∧ w' = w := by
  rw [okN_raw]
  cases h1 : decide ((x : Int) < 32)
  all_goals
    go_enter Tryd.func70, Tryd.ntmps70
    go_wp2
    go_ret
    exact ⟨rfl, rfl⟩
theorem en_plain : ∀ args w, (callFunc 70 args).run Tryd.prog w = .ok (.enter 70 args) w := Go.Proofs.enters_of Tryd.func70 (by kernel_rfl) rfl
theorem isPlain_any (s : ByteArray) (w : World) : Calls Tryd.prog 47 #[.string s] w fun e w' => e = .returned (.bool (plainB s)) ∧ Below w.heap.size w w' := by
  have HC := hidL (Go.Proofs.Tryd.strings_ContainsFunc 70 #[] en_plain (fun x => !okN x) s w (fun W x _ => (isPlain1_any x W).mono fun _ _ h => ⟨h.1, 0, h.2⟩))
  rw [plain_idx] at HC
  generalize plainB s = b at *
  go_enter Tryd.func47, Tryd.ntmps47
  go_wp2_with fail
  refine HC.out.mono ?_
  rintro e W ⟨rfl, hb⟩
  go_wp2
  go_ret
  exact ⟨ret_b (by simp), hb⟩
theorem isTooLong_any (s : ByteArray) (w : World) : Calls Tryd.prog 81 #[.string s] w fun e w' => e = .returned (.bool (decide ((s.size : Int) > 300))) ∧ w' = w := by
  go_enter Tryd.func81, Tryd.ntmps81
  go_wp2
  go_ret
  exact ⟨rfl, rfl⟩
end Go.Proofs.YtgfaeeacndpniaaDoor
namespace Go.Proofs.YtgfaeeacndpniaaDoor
open Go.RowKit Go.Extern.Stop Go.Stop Go.Extern

theorem dw_len (p : UInt8 → Bool) (l : List UInt8) : (l.dropWhile p).length ≤ l.length := (List.dropWhile_sublist p).length_le
theorem dw_id {p : UInt8 → Bool} {l : List UInt8} (h : ∀ b, l.head? = some b → p b = false) : l.dropWhile p = l := by
  cases l with
  | nil => rfl
  | cons a t => rw [List.dropWhile_cons_of_neg (by simp [h a rfl])]
theorem dw_lt {p : UInt8 → Bool} {l : List UInt8} {b : UInt8} (h : l.head? = some b) (hb : p b = true) : (l.dropWhile p).length < l.length := by
  cases l with
  | nil => cases h
  | cons a t =>
    have : a = b := by simpa using h
    subst this
    rw [List.dropWhile_cons_of_pos hb]
    have := dw_len p t
    simp
    omega
/-- Neither begins nor ends with a byte. -/
def Edge (l : List UInt8) (c : UInt8) : Prop := (∀ b, l.head? = some b → b ≠ c) ∧ (∀ b, l.reverse.head? = some b → b ≠ c)
theorem trimB_id (l : List UInt8) (c : UInt8) : Lib.trimB l c = l ↔ Edge l c := by
  unfold Lib.trimB Lib.trimLeftB Lib.trimRightB
  constructor
  · intro h
    have h2 : ∀ b, l.reverse.head? = some b → b ≠ c := fun b hb e => by
      have h1 := dw_lt (p := (· == c)) hb (by simp [e])
      have h3 := dw_len (· == c) (l.reverse.dropWhile (· == c)).reverse
      rw [h] at h3
      simp at h1 h3
      omega
    refine ⟨fun b hb e => ?_, h2⟩
    rw [dw_id (l := l.reverse) (fun b hb => by simpa using h2 b hb), List.reverse_reverse] at h
    have h1 := dw_lt (p := (· == c)) hb (by simp [e])
    rw [h] at h1
    omega
  · rintro ⟨h1, h2⟩
    rw [dw_id (l := l.reverse) (fun b hb => by simpa using h2 b hb), List.reverse_reverse]
    exact dw_id (fun b hb => by simpa using h1 b hb)
noncomputable def edgeB (s : ByteArray) : Bool := open Classical in decide (Edge (bl s) 32)
theorem edgeB_iff (s : ByteArray) : edgeB s = true ↔ Edge (bl s) 32 := by unfold edgeB; simp
/-- A line, a heading, a title. -/
noncomputable def lineB (s : ByteArray) : Bool := decide (s.size ≤ 300) && plainB s && edgeB s
theorem trim_eq (s : ByteArray) : ((⟨(Lib.trimB s.data.toList 32).toArray⟩ : ByteArray).toList == s.toList) = edgeB s := by
  rw [Bool.eq_iff_iff, beq_iff_eq, edgeB_iff, Lib.toList_data, Lib.toList_data, ← trimB_id]
set_option maxHeartbeats 1000000 in
theorem isLine_any (s : ByteArray) (hs : s.size ≤ 9223372036854775807) (w : World) : Calls Tryd.prog 61 #[.string s] w fun e w' => e = .returned (.bool (lineB s)) ∧ Below w.heap.size w w' := by
  have HP := hidL (isPlain_any s w)
  have HT := hidL (fun W => Go.Proofs.Tryd.strings_Trim_one s 32 (by decide) W hs)
  have HE := hidL (trim_eq s)
  have HL : Hid (lineB s = (decide (s.size ≤ 300) && plainB s && edgeB s)) := rfl
  rw [← HE.out] at HL
  generalize (⟨(Lib.trimB s.data.toList 32).toArray⟩ : ByteArray) = t at *
  clear HE
  by_cases h : s.size ≤ 300
  · have h' : (s.size : Int) ≤ 300 := by omega
    rw [show decide (s.size ≤ 300) = true by simpa using h] at HL
    cases hp : plainB s
    · rw [hp] at HL HP
      have HL2 : Hid (lineB s = false) := HL.out
      clear hp
      go_enter Tryd.func61, Tryd.ntmps61
      go_wp2_with fail
      refine HP.out.mono ?_
      rintro e W ⟨rfl, hb⟩
      go_wp2
      go_ret
      exact ⟨ret_b HL2.out.symm, hb⟩
    · rw [hp] at HL HP
      have HL2 : Hid (lineB s = (t.toList == s.toList)) := HL.out
      clear hp
      go_enter Tryd.func61, Tryd.ntmps61
      go_wp2_with fail
      refine HP.out.mono ?_
      rintro e W ⟨rfl, hb⟩
      have HB := hidL hb
      clear hb
      go_wp2_with fail
      refine (HT.out _).mono ?_
      rintro e W2 ⟨rfl, hw⟩
      have HB2 : Hid (Below w.heap.size w W2) := by
        show Below _ _ _
        rcases hw with rfl | rfl
        · exact HB.out
        · exact HB.out.drew
      clear hw
      go_wp2
      go_ret
      exact ⟨ret_b HL2.out.symm, HB2.out⟩
  · have h' : decide ((s.size : Int) ≤ 300) = false := by simp; omega
    rw [show decide (s.size ≤ 300) = false by simpa using h] at HL
    have HL2 : Hid (lineB s = false) := HL.out
    go_enter Tryd.func61, Tryd.ntmps61
    go_wp2
    go_ret
    exact ⟨ret_b HL2.out.symm, Below.refl _ _⟩
end Go.Proofs.YtgfaeeacndpniaaDoor

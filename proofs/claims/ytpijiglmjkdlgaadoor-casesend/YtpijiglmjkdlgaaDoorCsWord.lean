/-
  Words, to the program and to the reference (out of FTok).
-/
import Derived.Test.YtpijiglmjkdlgaaDoorCsMem
import Derived.Lib.Bytes
import Derived.BigQuiet
import Derived.Deep.LoopGhost
namespace Go.Proofs.YtpijiglmjkdlgaaDoor
open Go.RowKit Go.Extern.Stop Go.Stop Go.Extern

def lowC (c : UInt8) : Bool := decide (97 ≤ c.toNat) && decide (c.toNat ≤ 122)
def numC (c : UInt8) : Bool := decide (48 ≤ c.toNat) && decide (c.toNat ≤ 57)
def wordC (c : UInt8) : Bool := lowC c || numC c || decide (c.toNat = 95)
def isWordB (s : ByteArray) : Bool := decide (0 < s.size) && decide (s.size ≤ 24) && (match s.data.toList with | [] => false | c :: r => lowC c && r.all wordC)
theorem retB {a b : Bool} (h : a = b) : Ending.returned (.bool a) = .returned (.bool b) := by rw [h]
theorem retIQ {a b : Int} (h : a = b) : Ending.returned (.int .i64 a) = .returned (.int .i64 b) := by rw [h]
theorem drop_get (s : ByteArray) (i : Nat) (h : i < s.size) : s.data.toList.drop i = s[i] :: s.data.toList.drop (i + 1) := by
  have h1 : i < s.data.toList.length := by simpa using h
  rw [List.drop_eq_getElem_cons h1]
  congr 1
theorem isLetter_q (c : UInt8) (w : World) : Calls Tryd.prog 51 #[.int .u8 c.toNat] w fun e w' => e = .returned (.bool (lowC c)) ∧ w' = w := by
  have hO : Hid (lowC c = (decide (97 ≤ c.toNat) && decide (c.toNat ≤ 122))) := rfl
  generalize lowC c = O at *
  by_cases h1 : 97 ≤ c.toNat
  · go_enter Tryd.func51, Tryd.ntmps51
    go_wp2
    go_ret
    exact ⟨retB (by rw [hO.out, Bool.eq_iff_iff]; simp; try omega), rfl⟩
  · go_enter Tryd.func51, Tryd.ntmps51
    go_wp2
    go_ret
    exact ⟨retB (by rw [hO.out, Bool.eq_iff_iff]; simp; try omega), rfl⟩
theorem isDigit_q (c : UInt8) (w : World) : Calls Tryd.prog 62 #[.int .u8 c.toNat] w fun e w' => e = .returned (.bool (numC c)) ∧ w' = w := by
  have hO : Hid (numC c = (decide (48 ≤ c.toNat) && decide (c.toNat ≤ 57))) := rfl
  generalize numC c = O at *
  by_cases h1 : 48 ≤ c.toNat
  · go_enter Tryd.func62, Tryd.ntmps62
    go_wp2
    go_ret
    exact ⟨retB (by rw [hO.out, Bool.eq_iff_iff]; simp; try omega), rfl⟩
  · go_enter Tryd.func62, Tryd.ntmps62
    go_wp2
    go_ret
    exact ⟨retB (by rw [hO.out, Bool.eq_iff_iff]; simp; try omega), rfl⟩
theorem isInner_q (c : UInt8) (w : World) : Calls Tryd.prog 53 #[.int .u8 c.toNat] w fun e w' => e = .returned (.bool (wordC c)) ∧ w' = w := by
  have hO : Hid (wordC c = (lowC c || numC c || decide (c.toNat = 95))) := rfl
  have HL := hidLL (isLetter_q c)
  have HD := hidLL (isDigit_q c)
  generalize wordC c = O at *
  generalize lowC c = A at *
  generalize numC c = D at *
  cases A
  all_goals cases D
  all_goals (
    go_enter Tryd.func53, Tryd.ntmps53
    go_wp2_with (first | (go_at_call 51; refine (HL.out _).mono ?_; rintro e w' ⟨rfl, rfl⟩) | (go_at_call 62; refine (HD.out _).mono ?_; rintro e w' ⟨rfl, rfl⟩))
    go_ret
    exact ⟨retB (by rw [hO.out, Bool.eq_iff_iff]; simp; try omega), rfl⟩)
set_option maxHeartbeats 1000000 in
theorem countInner_q (s : ByteArray) (hs : s.size ≤ 100000) (w : World) :
    Calls Tryd.prog 52 #[.string s, .func (.func 53) #[] #[]] w fun e w' => e = .returned (.int .i64 (s.data.toList.takeWhile wordC).length) ∧ w' = w := by
  have HF := hidLL isInner_q
  go_enter Tryd.func52, Tryd.ntmps52
  go_wp2_with fail
  go_loopw [8] (fun t wr => ∃ i : Nat, i ≤ s.size ∧ t = .int .i64 i ∧ wr = w ∧ ((s.data.toList.takeWhile wordC).length = i + ((s.data.toList.drop i).takeWhile wordC).length)) (fun t _ => (s.size - RowKit.intOf t).toNat)
  case atStart => exact ⟨0, by omega, rfl, rfl, by simp⟩
  case round =>
    obtain ⟨i, hi, rfl, rfl, hno⟩ := hrel
    have HN := hidLL hno
    clear hno
    by_cases hin : i < s.size
    · have hiz : (i : Int) < s.size := by omega
      have HG := hidLL (drop_get s i hin)
      cases hp : wordC s[i]
      · have HC := hidLL (HF.out s[i] wr)
        rw [hp] at HC
        have HE : Hid ((s.data.toList.takeWhile wordC).length = i) := by show _ = _; rw [HN.out, HG.out, List.takeWhile_cons_of_neg (by rw [hp]; simp)]; rfl
        clear hp
        go_wp2_with fail
        refine HC.out.mono ?_
        rintro e w' ⟨rfl, rfl⟩
        go_wp2
        go_ret
        exact ⟨retIQ (by rw [HE.out]), rfl⟩
      · have HC := hidLL (HF.out s[i] wr)
        rw [hp] at HC
        have HE : Hid ((s.data.toList.takeWhile wordC).length = i + 1 + ((s.data.toList.drop (i + 1)).takeWhile wordC).length) := by show _ = _; rw [HN.out, HG.out, List.takeWhile_cons_of_pos hp, List.length_cons]; omega
        clear hp
        go_wp2_with fail
        refine HC.out.mono ?_
        rintro e w' ⟨rfl, rfl⟩
        go_wp2
        go_roundw
        case rel => exact ⟨i + 1, by omega, by go_num, trivial, HE.out⟩
        case measure => simp [RowKit.intOf]; omega
    · obtain rfl : i = s.size := by omega
      have HE : Hid ((s.data.toList.takeWhile wordC).length = s.size) := by show _ = _; rw [HN.out, List.drop_eq_nil_of_le (by rw [Array.length_toList]; exact Nat.le_refl _)]; rfl
      go_wp2
      go_ret
      exact ⟨retIQ (by rw [HE.out]), rfl⟩
theorem empty_is (r : ByteArray) : r.toList.isEmpty = decide (r.size = 0) := by
  rw [Bool.eq_iff_iff, List.isEmpty_iff, decide_eq_true_eq, Lib.toList_data]
  have hl : r.data.toList.length = r.size := by simp
  constructor
  · intro h; rw [← hl, h]; rfl
  · intro h; exact List.eq_nil_of_length_eq_zero (by omega)
theorem take_all (p : UInt8 → Bool) : ∀ r : List UInt8, r.all p = true ↔ (r.takeWhile p).length = r.length
  | [] => by simp
  | c :: r => by
    cases h : p c
    · rw [List.takeWhile_cons_of_neg (by rw [h]; simp), List.all_cons, h]; simp
    · rw [List.takeWhile_cons_of_pos h, List.all_cons, h, List.length_cons, List.length_cons, Nat.add_right_cancel_iff, Bool.true_and]
      exact take_all p r
theorem isWord_eq (s : ByteArray) : isWordB s = (decide (0 < s.size) && decide (s.size ≤ 24) && (match s.data.toList with | [] => false | c :: _ => lowC c) && decide ((s.data.toList.takeWhile wordC).length = s.size)) := by
  unfold isWordB
  have hl : s.data.toList.length = s.size := by simp
  cases hd : s.data.toList with
  | nil => simp
  | cons c r =>
    rw [hd] at hl
    cases hc : lowC c
    · show (_ && (lowC c && _)) = (_ && lowC c && _)
      rw [hc]; simp
    · have hw : wordC c = true := by unfold wordC; rw [hc]; rfl
      have e : (r.all wordC) = decide ((List.takeWhile wordC (c :: r)).length = s.size) := by
        rw [List.takeWhile_cons_of_pos hw, ← hl, List.length_cons, List.length_cons, Bool.eq_iff_iff, decide_eq_true_eq, Nat.add_right_cancel_iff]
        exact take_all wordC r
      show (_ && (lowC c && _)) = (_ && lowC c && _)
      rw [e, hc, Bool.true_and, Bool.and_true]
theorem first_low (s : ByteArray) (h : 0 < s.size) : (match s.data.toList with | [] => false | c :: _ => lowC c) = lowC s[0] := by
  have := drop_get s 0 h
  rw [List.drop_zero] at this
  rw [this]
set_option maxHeartbeats 1000000 in
theorem isWord_f (s : ByteArray) (hs : s.size ≤ 100000) (w : World) : Calls Tryd.prog 40 #[.string s] w fun e w' => e = .returned (.bool (isWordB s)) ∧ w' = w := by
  have hE := isWord_eq s
  have HC := hidLL (countInner_q s hs w)
  by_cases h0 : 0 < s.size
  · have e0 : ¬ s = ByteArray.empty := by intro h; subst h; exact absurd h0 (by decide)
    have e1 : s.toList.isEmpty = false := by rw [empty_is]; simpa using (by omega : ¬ s.size = 0)
    have HL := hidLL (isLetter_q s[0] w)
    rw [first_low s h0, decide_eq_true h0] at hE
    generalize hA : lowC s[0] = A at *
    have HE := hidLL hE
    clear hE hA
    generalize (s.data.toList.takeWhile wordC).length = m at *
    generalize isWordB s = O at *
    have hz : (0 : Int) < s.size := by omega
    by_cases h24 : s.size ≤ 24
    · have hz2 : (s.size : Int) ≤ 24 := by omega
      cases A
      all_goals (
        go_enter Tryd.func40, Tryd.ntmps40
        go_wp2_with (first | (go_at_call 51; refine HL.out.mono ?_; rintro e w' ⟨rfl, rfl⟩) | (go_at_call 52; refine HC.out.mono ?_; rintro e w' ⟨rfl, rfl⟩))
        go_ret
        exact ⟨retB (by rw [HE.out, Bool.eq_iff_iff]; simp; try omega), rfl⟩)
    · have hz2 : ¬ (s.size : Int) ≤ 24 := by omega
      go_enter Tryd.func40, Tryd.ntmps40
      go_wp2
      go_ret
      exact ⟨retB (by rw [HE.out, Bool.eq_iff_iff]; simp; try omega), rfl⟩
  · obtain rfl : s = ByteArray.empty := by
      apply ByteArray.ext
      exact Array.eq_empty_of_size_eq_zero (by have : s.data.size = s.size := rfl; omega)
    have HE := hidLL hE
    clear hE
    generalize isWordB ByteArray.empty = O at *
    go_enter Tryd.func40, Tryd.ntmps40
    go_wp2
    go_ret
    exact ⟨retB (by rw [HE.out]; rfl), rfl⟩
set_option maxHeartbeats 1000000 in
theorem isWord_c (s : ByteArray) (w : World) : Calls Tryd.prog 40 #[.string s] w fun e w' => e = .returned (.bool (isWordB s)) ∧ w' = w := by
  by_cases hs : s.size ≤ 100000
  · exact isWord_f s hs w
  · have h1 : isWordB s = false := by
      unfold isWordB
      rw [decide_eq_false (show ¬ s.size ≤ 24 by omega)]
      simp
    rw [h1]
    have e0 : ¬ s = ByteArray.empty := by intro h; subst h; exact absurd hs (by decide)
    have e1 : s.toList.isEmpty = false := by rw [empty_is]; simpa using (by omega : ¬ s.size = 0)
    have hz : (0 : Int) < s.size := by omega
    have hz2 : ¬ (s.size : Int) ≤ 24 := by omega
    go_enter Tryd.func40, Tryd.ntmps40
    go_wp2
    go_ret
    exact ⟨rfl, rfl⟩
end Go.Proofs.YtpijiglmjkdlgaaDoor

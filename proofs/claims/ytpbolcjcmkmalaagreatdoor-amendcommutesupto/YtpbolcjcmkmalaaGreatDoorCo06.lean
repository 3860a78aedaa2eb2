/-
  Lines: whether all bytes of a text are such as lines have, to the program and to the reference.
-/
import Derived.Test.YtpbolcjcmkmalaaGreatDoorCo04
import Derived.Test.YtpbolcjcmkmalaaGreatDoorShelfC
namespace Go.Proofs.YtpbolcjcmkmalaaGreatDoor
open Go.RowKit Go.Extern.Stop Go.Stop Go.Extern

def okN (x : Nat) : Bool := decide (32 ≤ x) && decide (x ≤ 126)
theorem okN_iff {x : Nat} : okN x = true ↔ 32 ≤ x ∧ x ≤ 126 := by unfold okN; simp
theorem okN_hi : ∀ x, 128 ≤ x → okN x = false := fun x h => by
  cases e : okN x
  · rfl
  · have := okN_iff.1 e
    omega
theorem idx_turn (p : Nat → Bool) (s : ByteArray) : ∀ (f pos : Nat), Lib.idxFuncFrom (fun x => !p x) true s f pos = Lib.idxFuncFrom p false s f pos
  | 0, _ => rfl
  | f + 1, pos => by
    unfold Lib.idxFuncFrom
    simp only [Bool.not_eq_true']
    rw [idx_turn p s f]
/-- Are all bytes such? -/
noncomputable def plainB (s : ByteArray) : Bool := open Classical in decide (AllP okN s 0 s.size)
theorem plain_idx (s : ByteArray) : decide (0 ≤ Lib.idxFunc (fun x => !okN x) true s) = !plainB s := by
  have e : Lib.idxFunc (fun x => !okN x) true s = Lib.idxFunc okN false s := idx_turn okN s _ _
  rw [e]
  unfold plainB
  by_cases h : AllP okN s 0 s.size
  · have := idx_all okN_hi s s.size 0 h
    unfold Lib.idxFunc
    rw [this]
    simp [h]
  · have hn : Lib.idxFunc okN false s ≠ -1 := fun e => h (idx_none okN_hi s s.size 0 (by omega) e)
    obtain ⟨j, _, hj, _⟩ := idx_some okN_hi s s.size 0 _ rfl hn
    have hj' : Lib.idxFunc okN false s = j := hj
    rw [hj']
    simp [h]
theorem okN_raw (x : Nat) : (!okN x) = (decide ((x : Int) < 32) || decide ((x : Int) > 126)) := by
  rw [Bool.eq_iff_iff]
  simp only [Bool.not_eq_true', Bool.or_eq_true, decide_eq_true_eq]
  constructor
  · intro h
    by_cases c : 32 ≤ x ∧ x ≤ 126
    · rw [okN_iff.2 c] at h; cases h
    · omega
  · intro h
    cases e : okN x
    · rfl
    · have := okN_iff.1 e
      omega
theorem isPlain1_any (x : Nat) (w : World) : Calls Tryz.prog 124 #[.int .i32 x] w fun e w' => e = .returned (.bool (!okN x)) ∧ w' = w := by
  rw [okN_raw]
  cases h1 : decide ((x : Int) < 32)
  all_goals
    go_enter Tryz.func124, Tryz.ntmps124
    go_wp2
    go_ret
    exact ⟨rfl, rfl⟩
theorem en_plain : ∀ args w, (callFunc 124 args).run Tryz.prog w = .ok (.enter 124 args) w := Go.Proofs.enters_of Tryz.func124 (by kernel_rfl) rfl
theorem isPlain_any (s : ByteArray) (w : World) : Calls Tryz.prog 100 #[.string s] w fun e w' => e = .returned (.bool (plainB s)) ∧ Below w.heap.size w w' := by
  have HC := hidL (Go.Proofs.Tryz.strings_ContainsFunc 124 #[] en_plain (fun x => !okN x) s w (fun W x _ => (isPlain1_any x W).mono fun _ _ h => ⟨h.1, 0, h.2⟩))
  rw [plain_idx] at HC
  generalize plainB s = b at *
  go_enter Tryz.func100, Tryz.ntmps100
  go_wp2_with fail
  refine HC.out.mono ?_
  rintro e W ⟨rfl, hb⟩
  go_wp2
  go_ret
  exact ⟨ret_b (by simp), hb⟩
theorem isTooLong_any (s : ByteArray) (w : World) : Calls Tryz.prog 97 #[.string s] w fun e w' => e = .returned (.bool (decide ((s.size : Int) > 300))) ∧ w' = w := by
  go_enter Tryz.func97, Tryz.ntmps97
  go_wp2
  go_ret
  exact ⟨rfl, rfl⟩
end Go.Proofs.YtpbolcjcmkmalaaGreatDoor

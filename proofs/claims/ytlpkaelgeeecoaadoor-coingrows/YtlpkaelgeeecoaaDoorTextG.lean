/-
  Reading: strings.CutPrefix at a hyphen; the runs of characters that fit.
-/
import Derived.Test.YtlpkaelgeeecoaaDoorRound
import Derived.Test.YtlpkaelgeeecoaaDoorPlain
import Derived.Shelf.Abstract
import Derived.Laws.RangeAny
import Derived.Lib.Strings
import Derived.Lib.Split
namespace Go.Proofs.YtlpkaelgeeecoaaDoor
open Go.RowKit Go.Extern.Stop Go.Stop Go.Extern

/-- What a rune is to the two functions that are handed on. -/
def dgR (r : Int) : Bool := decide (48 ≤ r ∧ r ≤ 57)
def wR (r : Int) : Bool := dgR r || r == 44

theorem isDigit_any (r : Int) (w : World) : Calls Tryd.prog 53 #[.int .i32 r] w fun e w' => e = .returned (.bool (dgR r)) ∧ w' = w := by
  by_cases h0 : 48 ≤ r
  · have HE : Hid (dgR r = decide (r ≤ 57)) := by show _ = _; simp [dgR, h0]
    have hd : decide (48 ≤ r) = true := by simpa using h0
    go_enter Tryd.func53, Tryd.ntmps53
    go_wp2
    go_ret
    exact ⟨ret_bool HE.out.symm, rfl⟩
  · have HE : Hid (dgR r = false) := by show _ = _; simp [dgR, h0]
    have hd : decide (48 ≤ r) = false := by simpa using h0
    go_enter Tryd.func53, Tryd.ntmps53
    go_wp2
    go_ret
    exact ⟨ret_bool HE.out.symm, rfl⟩

theorem wFit_any (r : Int) (w : World) : Calls Tryd.prog 52 #[.int .i32 r] w fun e w' => e = .returned (.bool (wR r)) ∧ w' = w := by
  cases hd : dgR r
  · have HE : Hid (wR r = (r == 44)) := by show _ = _; simp [wR, hd]
    go_enter Tryd.func52, Tryd.ntmps52
    go_wp2_with (go_at_call 53; refine (isDigit_any _ _).mono ?_; rintro e w' ⟨rfl, rfl⟩)
    go_ret
    exact ⟨ret_bool HE.out.symm, rfl⟩
  · have HE : Hid (wR r = true) := by show _ = _; simp [wR, hd]
    go_enter Tryd.func52, Tryd.ntmps52
    go_wp2_with (go_at_call 53; refine (isDigit_any _ _).mono ?_; rintro e w' ⟨rfl, rfl⟩)
    go_ret
    exact ⟨ret_bool HE.out.symm, rfl⟩

/-- A function value that tells of a rune what 'fr' tells, and of a byte what 'fb' tells. -/
structure Fits (g : Nat) (fr : Int → Bool) (fb : UInt8 → Bool) : Prop where
  calls : ∀ r w, Calls Tryd.prog g #[.int .i32 r] w fun e w' => e = .returned (.bool (fr r)) ∧ w' = w
  low : ∀ c : UInt8, c.toNat < 128 → fr c.toNat = fb c
  high : ∀ r : Int, 128 ≤ r → fr r = false
  byte : ∀ c : UInt8, 128 ≤ c.toNat → fb c = false

theorem dg_low (c : UInt8) : dgR c.toNat = isDg c := by
  unfold dgR isDg
  rw [Bool.eq_iff_iff]; simp [UInt8.le_iff_toNat_le]; omega
theorem w_low (c : UInt8) : wR c.toNat = isW c := by
  unfold wR isW
  rw [dg_low]
  congr 1
  rw [Bool.eq_iff_iff]; simp [← UInt8.toNat_inj]; omega
theorem fits50 : Fits 53 dgR isDg := ⟨isDigit_any, fun c _ => dg_low c, fun r h => by simp [dgR]; omega, fun c h => by rw [← dg_low]; simp [dgR]; omega⟩
theorem fits49 : Fits 52 wR isW := ⟨wFit_any, fun c _ => w_low c, fun r h => by simp [wR, dgR]; omega, fun c h => by rw [← w_low]; simp [wR, dgR]; omega⟩

abbrev bl (s : ByteArray) : List UInt8 := s.data.toList

theorem head_raw (s : ByteArray) : ((s.extract 0 1).toList == [45]) = decide ((bl s).head? = some 45) := by
  rw [Lib.extract_toList, Bool.eq_iff_iff]
  show _ ↔ _
  cases h : s.data.toList with
  | nil => simp [bl, h]
  | cons c r => simp [bl, h]
theorem size_bl (s : ByteArray) : (bl s).length = s.size := by simp [bl]

theorem cut_no (s : ByteArray) (w : World) (h : (bl s).head? ≠ some 45) : Calls Tryd.prog 24 #[.string s, .string ⟨#[45]⟩] w fun e w' => e = .returned (.tuple #[.string s, .bool false]) ∧ w' = w := by
  have h1 : ((s.extract 0 1).toList == [45]) = false := by rw [head_raw]; simpa using h
  clear h
  go_enter Tryd.func24, Tryd.ntmps24
  go_wp2
  all_goals
    go_ret2
    exact ⟨rfl, rfl⟩
theorem cut_yes (s : ByteArray) (w : World) (h : (bl s).head? = some 45) : Calls Tryd.prog 24 #[.string s, .string ⟨#[45]⟩] w fun e w' => e = .returned (.tuple #[.string (s.extract 1 s.size), .bool true]) ∧ w' = w := by
  have h1 : ((s.extract 0 1).toList == [45]) = true := by rw [head_raw]; simpa using h
  have h2 : 1 ≤ s.size := by
    rw [← size_bl]
    cases e : bl s with
    | nil => rw [e] at h; cases h
    | cons c r => simp
  clear h
  go_enter Tryd.func24, Tryd.ntmps24
  go_wp2
  go_ret2
  exact ⟨rfl, rfl⟩

theorem bl_get (s : ByteArray) (k : Nat) (h : k < s.size) : (bl s)[k]? = some s[k] := by
  rw [List.getElem?_eq_getElem (by rw [size_bl]; exact h)]; rfl

theorem runLen_stop (fb : UInt8 → Bool) : ∀ (l : List UInt8) (k : Nat) (c : UInt8), (∀ j, j < k → ∀ d, l[j]? = some d → fb d = true) → l[k]? = some c → fb c = false → runLen fb l = k
  | [], k, c, _, h, _ => by simp at h
  | x :: l, 0, c, _, h, hc => by
    simp at h; subst h; simp [runLen, hc]
  | x :: l, k + 1, c, ha, h, hc => by
    have hx : fb x = true := ha 0 (by omega) x (by simp)
    have := runLen_stop fb l k c (fun j hj d hd => ha (j + 1) (by omega) d (by simpa using hd)) (by simpa using h) hc
    unfold runLen at this ⊢
    rw [List.takeWhile_cons_of_pos hx, List.length_cons, this]
theorem runLen_all (fb : UInt8 → Bool) (l : List UInt8) (ha : ∀ (j : Nat) d, l[j]? = some d → fb d = true) : runLen fb l = l.length := by
  induction l with
  | nil => rfl
  | cons x l ih =>
    have := ih (fun j d h => ha (j + 1) d (by simpa using h))
    unfold runLen at this ⊢
    rw [List.takeWhile_cons_of_pos (ha 0 x (by simp)), List.length_cons, this, List.length_cons]

theorem below_iter (w : World) (s : ByteArray) (pos : Nat) : Below w.heap.size w (w.iter s pos) := (Below.refl _ _).alloc (Nat.le_refl _) _

set_option maxHeartbeats 1000000 in
theorem count_any (g : Nat) (fr : Int → Bool) (fb : UInt8 → Bool) (F : Fits g fr fb) (hen : ∀ args w, (callFunc g args).run Tryd.prog w = .ok (.enter g args) w) (s : ByteArray) (w : World) :
    Calls Tryd.prog 51 #[.string s, .func (.func g) #[] #[]] w fun e w' => e = .returned (.int .i64 (runLen fb (bl s))) ∧ Below w.heap.size w w' := by
  have HF := (show Hid _ from F)
  clear F
  go_enter Tryd.func51, Tryd.ntmps51
  go_wp2_with fail
  go_loopw [] (fun w' => ∃ pos : Nat, w' = w.iter s pos ∧ pos ≤ s.size ∧ ∀ j, j < pos → ∀ d, (bl s)[j]? = some d → fb d = true) (fun w' => s.size - w'.iterPos w.heap.size)
  case atStart => exact ⟨0, rfl, Nat.zero_le _, by intro j h; omega⟩
  case round =>
    obtain ⟨pos, rfl, hle, hall⟩ := hrel
    have HA := (show Hid _ from hall)
    clear hall
    by_cases hp : pos < s.size
    · by_cases ha : (s[pos]'hp).toNat < 128
      · have hnx : ∀ ty, (Instr.next (.pointer (some ⟨w.heap.size, 0, none⟩)) true ty).run Tryd.prog (w.iter s pos) = _ := fun ty => run_next_ascii w s pos ty hp ha
        cases hb : fb (s[pos]'hp)
        · have HE : Hid (runLen fb (bl s) = pos) := runLen_stop fb (bl s) pos _ HA.out (bl_get s pos hp) hb
          have hr : fr (s[pos]'hp).toNat = false := (HF.out.low _ ha).trans hb
          go_wp2_with fail
          refine (HF.out.calls _ _).mono ?_
          rintro e w' ⟨rfl, rfl⟩
          go_wp2
          go_ret
          exact ⟨ret_int (by rw [HE.out]), below_iter _ _ _⟩
        · have hr : fr (s[pos]'hp).toNat = true := (HF.out.low _ ha).trans hb
          have HN : Hid (∀ j, j < pos + 1 → ∀ d, (bl s)[j]? = some d → fb d = true) := fun j hj d hd => by
            rcases Nat.lt_or_ge j pos with h | h
            · exact HA.out j h d hd
            · obtain rfl : j = pos := by omega
              rw [bl_get s j hp] at hd
              obtain rfl := Option.some.inj hd
              exact hb
          clear hb
          go_wp2_with fail
          refine (HF.out.calls _ _).mono ?_
          rintro e w' ⟨rfl, rfl⟩
          go_wp2
          go_roundw
          case rel => exact ⟨pos + 1, rfl, by omega, HN.out⟩
          case measure => simp; omega
      · have hh := decode_high s pos hp (by omega)
        have hnx : ∀ ty, (Instr.next (.pointer (some ⟨w.heap.size, 0, none⟩)) true ty).run Tryd.prog (w.iter s pos) = _ := fun ty => run_next_any w s pos ty hp
        have hr : fr (Utf8.decode s pos).1 = false := HF.out.high _ (by omega)
        have HE : Hid (runLen fb (bl s) = pos) := runLen_stop fb (bl s) pos _ HA.out (bl_get s pos hp) (HF.out.byte _ (by omega))
        clear hh
        go_wp2_with fail
        refine (HF.out.calls _ _).mono ?_
        rintro e w' ⟨rfl, rfl⟩
        go_wp2
        go_ret
        exact ⟨ret_int (by rw [HE.out]), below_iter _ _ _⟩
    · have hnx : ∀ ty, (Instr.next (.pointer (some ⟨w.heap.size, 0, none⟩)) true ty).run Tryd.prog (w.iter s pos) = _ := fun ty => run_next_end w s pos ty hp
      have HE : Hid (runLen fb (bl s) = s.size) := (runLen_all fb (bl s) (fun j d hd => HA.out j (by
        rcases Nat.lt_or_ge j pos with h | h
        · exact h
        · rw [List.getElem?_eq_none (by rw [size_bl]; omega)] at hd; cases hd) d hd)).trans (size_bl s)
      go_wp2
      go_ret
      exact ⟨ret_int (by rw [HE.out]), below_iter _ _ _⟩

theorem en49 : ∀ args w, (callFunc 52 args).run Tryd.prog w = .ok (.enter 52 args) w := Go.Proofs.enters_of Tryd.func52 (by kernel_rfl) rfl
theorem en50 : ∀ args w, (callFunc 53 args).run Tryd.prog w = .ok (.enter 53 args) w := Go.Proofs.enters_of Tryd.func53 (by kernel_rfl) rfl

theorem wholeEnd_any (s : ByteArray) (w : World) : Calls Tryd.prog 25 #[.string s] w fun e w' => e = .returned (.int .i64 (runLen isW (bl s))) ∧ Below w.heap.size w w' := by
  go_enter Tryd.func25, Tryd.ntmps25
  go_wp2_with fail
  refine (count_any 52 wR isW fits49 en49 s _).mono ?_
  rintro e w' ⟨rfl, hb⟩
  go_wp2
  go_ret
  exact ⟨rfl, hb⟩
end Go.Proofs.YtlpkaelgeeecoaaDoor

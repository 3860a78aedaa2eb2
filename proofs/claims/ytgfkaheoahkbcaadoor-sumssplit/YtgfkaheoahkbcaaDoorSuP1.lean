/-
  Package sums, coin, day: the small functions.
-/
import Derived.Test.YtgfkaheoahkbcaaDoorSuMem
import Derived.Test.YtgfkaheoahkbcaaDoorParts
import Derived.Test.YtgfkaheoahkbcaaDoorRd28
import Derived.Test.YtgfkaheoahkbcaaDoorRd29
import Derived.Test.YtgfkaheoahkbcaaDoorRd30
import Derived.Test.YtgfkaheoahkbcaaDoorRd31
namespace Go.Proofs.YtgfkaheoahkbcaaDoor
open Go.RowKit Go.Extern.Stop Go.Stop Go.Extern

/-- Is a number of at most that size? -/
def szB (n m : Int) : Bool := decide (-m ≤ n ∧ n ≤ m)
theorem szB_iff {n m : Int} : szB n m = true ↔ -m ≤ n ∧ n ≤ m := by simp [szB]
/-- Is there such a way? -/
def wyB (n : Int) : Bool := decide (0 ≤ n ∧ n ≤ 5)
theorem wyB_iff {n : Int} : wyB n = true ↔ 0 ≤ n ∧ n ≤ 5 := by simp [wyB]

theorem isWay_p (n : Int) (w : World) : Calls Tryd.prog 15 #[.int .i64 n] w fun e w' => e = .returned (.bool (wyB n)) ∧ w' = w := by
  by_cases h0 : 0 ≤ n
  · have HE : Hid (wyB n = decide (n ≤ 5)) := by show _ = _; simp [wyB, h0]
    have hd : decide (0 ≤ n) = true := by simpa using h0
    go_enter Tryd.func15, Tryd.ntmps15
    go_wp2
    go_ret
    exact ⟨ret_bool HE.out.symm, rfl⟩
  · have HE : Hid (wyB n = false) := by show _ = _; simp [wyB, h0]
    have hd : decide (0 ≤ n) = false := by simpa using h0
    go_enter Tryd.func15, Tryd.ntmps15
    go_wp2
    go_ret
    exact ⟨ret_bool HE.out.symm, rfl⟩
theorem sized_p (n m : Int) (w : World) (h1 : 0 ≤ m) (h2 : m ≤ 1000000000000000000) : Calls Tryd.prog 30 #[.int .i64 n, .int .i64 m] w fun e w' => e = .returned (.bool (szB n m)) ∧ w' = w := by
  by_cases h0 : -m ≤ n
  · have HE : Hid (szB n m = decide (n ≤ m)) := by show _ = _; simp [szB, h0]
    have hd : decide (-m ≤ n) = true := by simpa using h0
    go_enter Tryd.func30, Tryd.ntmps30
    go_wp2
    go_ret
    exact ⟨ret_bool HE.out.symm, rfl⟩
  · have HE : Hid (szB n m = false) := by show _ = _; simp [szB, h0]
    have hd : decide (-m ≤ n) = false := by simpa using h0
    go_enter Tryd.func30, Tryd.ntmps30
    go_wp2
    go_ret
    exact ⟨ret_bool HE.out.symm, rfl⟩
theorem isAmount_p (n : Int) (w : World) : Calls Tryd.prog 14 #[.int .i64 n] w fun e w' => e = .returned (.bool (szB n 1000000000000)) ∧ w' = w := by
  have H := hidIt (fun w => sized_p n 1000000000000 w (by omega) (by omega))
  generalize szB n 1000000000000 = b at *
  go_enter Tryd.func14, Tryd.ntmps14
  go_wp2_with (go_at_call 30; refine (H.out _).mono ?_; rintro e w' ⟨rfl, rfl⟩)
  go_ret
  exact ⟨rfl, rfl⟩
theorem tooGreat_p (n : Int) (w : World) : Calls Tryd.prog 13 #[.int .i64 n] w fun e w' => e = .returned (.bool (!szB n 1000000000000)) ∧ w' = w := by
  have H := hidIt (fun w => isAmount_p n w)
  generalize szB n 1000000000000 = b at *
  go_enter Tryd.func13, Tryd.ntmps13
  go_wp2_with (go_at_call 14; refine (H.out _).mono ?_; rintro e w' ⟨rfl, rfl⟩)
  go_ret
  exact ⟨rfl, rfl⟩
theorem areDays_p (f : Int) (n : Nat) (w : World) (hn : n ≤ 17592186044416) : Calls Tryd.prog 16 #[.int .i64 f, .int .i64 n] w fun e w' => e = .returned (.bool (decide (n = 0 ∨ 1 ≤ f ∧ f + n - 1 ≤ 3652059))) ∧ w' = w := by
  by_cases h0 : n = 0
  · subst h0
    go_enter Tryd.func16, Tryd.ntmps16
    go_wp2
    go_ret
    exact ⟨rfl, rfl⟩
  · have e0 : ((n : Int) == 0) = false := by simp; omega
    have H1 := hidIt (fun w => isDay_any f w)
    cases h1 : isDayB f
    · have HE : Hid (decide (n = 0 ∨ 1 ≤ f ∧ f + n - 1 ≤ 3652059) = false) := by
        have := isDayB_f.1 h1
        show _ = _
        rw [decide_eq_false_iff_not]
        omega
      rw [h1] at H1
      clear h0 h1
      go_enter Tryd.func16, Tryd.ntmps16
      go_wp2_with (go_at_call 28; refine (H1.out _).mono ?_; rintro e w' ⟨rfl, rfl⟩)
      go_ret
      exact ⟨ret_bool HE.out.symm, rfl⟩
    · have hf := isDayB_iff.1 h1
      have HE : Hid (isDayB (f + n - 1) = decide (n = 0 ∨ 1 ≤ f ∧ f + n - 1 ≤ 3652059)) := by
        show _ = _
        rw [Bool.eq_iff_iff, isDayB_iff, decide_eq_true_eq]
        omega
      have H2 := hidIt (fun w => isDay_any (f + n - 1) w)
      rw [h1] at H1
      generalize isDayB (f + n - 1) = b at *
      clear h0 h1
      go_enter Tryd.func16, Tryd.ntmps16
      go_wp2_with fail
      refine (H1.out _).mono ?_
      rintro e w' ⟨rfl, rfl⟩
      clear H1
      go_wp2_with (go_at_call 28; refine (H2.out _).mono ?_; rintro e w' ⟨rfl, rfl⟩)
      go_ret
      exact ⟨ret_bool HE.out, rfl⟩
set_option maxHeartbeats 1000000 in
theorem monthEnd_p (y m d : Int) (w : World) (h : Date y m d) : Calls Tryd.prog 32 #[.int .i64 (dof y m d)] w fun e w' => e = .returned (.int .i64 (dof y m d - d + mlen y m)) ∧ w' = w := by
  have hi := h.isDay
  have HD := hidIt (fun w => isDay_any (dof y m d) w)
  rw [isDayB_iff.2 hi] at HD
  have HP := hidIt (fun w => parts_ok y m d w h)
  have y1 := h.y1
  have HM := hidIt (fun w => monthLength_any y m w (by omega))
  have hb := mlen_bd y m
  have d1 := h.d1
  have d2 := h.d2
  clear h
  generalize dof y m d = n at *
  generalize mlen y m = l at *
  go_enter Tryd.func32, Tryd.ntmps32
  go_wp2_with (first | (go_at_call 28; refine (HD.out _).mono ?_; rintro e w' ⟨rfl, rfl⟩) | (go_at_call 29; refine (HP.out _).mono ?_; rintro e w' ⟨rfl, rfl⟩) | (go_at_call 25; refine (HM.out _).mono ?_; rintro e w' ⟨rfl, rfl⟩))
  go_ret
  exact ⟨rfl, rfl⟩
theorem rounded_p (n P way : Int) (w : World) (hP : P = 28 ∨ P = 29 ∨ P = 30 ∨ P = 31) (h1 : -1000000000000000000 ≤ n) (h2 : n ≤ 1000000000000000000) (hw0 : 0 ≤ way) (hw5 : way ≤ 5) :
    Calls Tryd.prog 43 #[.int .i64 n, .int .i64 P, .int .i64 way] w fun e w' => e = .returned (.int .i64 (rnd n P way)) ∧ ∃ k, w' = w.drewN k := by
  rcases hP with rfl | rfl | rfl | rfl
  · exact rounded_any28 n way w h1 h2 hw0 hw5
  · exact rounded_any29 n way w h1 h2 hw0 hw5
  · exact rounded_any30 n way w h1 h2 hw0 hw5
  · exact rounded_any31 n way w h1 h2 hw0 hw5
theorem round_r (n P way : Int) (w : World) (hP : P = 28 ∨ P = 29 ∨ P = 30 ∨ P = 31) (h1 : -1000000000000000000 ≤ n) (h2 : n ≤ 1000000000000000000) (hw0 : 0 ≤ way) (hw5 : way ≤ 5) :
    Calls Tryd.prog 23 #[.int .i64 n, .int .i64 P, .int .i64 way] w fun e w' => e = .returned (.int .i64 (rnd n P way)) ∧ w' = w := by
  rcases hP with rfl | rfl | rfl | rfl
  · exact round_any28 n way w h1 h2 hw0 hw5
  · exact round_any29 n way w h1 h2 hw0 hw5
  · exact round_any30 n way w h1 h2 hw0 hw5
  · exact round_any31 n way w h1 h2 hw0 hw5
/-- What a month comes to. -/
theorem over_p (n P way : Int) (w : World) (hP : P = 28 ∨ P = 29 ∨ P = 30 ∨ P = 31) (h1 : -1000000000000000000 ≤ n) (h2 : n ≤ 1000000000000000000) (hw : wyB way = true) (hr : szB (rnd n P way) 1000000000000 = true) :
    Calls Tryd.prog 33 #[.int .i64 n, .int .i64 P, .int .i64 way] w fun e w' => e = .returned (.tuple #[.int .i64 (rnd n P way), .nilIface]) ∧ ∃ k, w' = w.drewN k := by
  have ⟨a7, a8⟩ := wyB_iff.1 hw
  have H1 := hidIt (fun w => rounded_p n P way w hP h1 h2 a7 a8)
  have H2 := hidIt (fun w => isWay_p way w)
  have H3 := hidIt (fun w => isAmount_p (rnd n P way) w)
  rw [hw] at H2
  rw [hr] at H3
  have hP1 : 1 ≤ P := by omega
  clear hw hr hP
  generalize rnd n P way = r at *
  go_enter Tryd.func33, Tryd.ntmps33
  go_wp2_with (first | (go_at_call 15; refine (H2.out _).mono ?_; rintro e w' ⟨rfl, rfl⟩) | (go_at_call 43; refine (H1.out _).mono ?_; rintro e w' ⟨rfl, nk, rfl⟩) | (go_at_call 14; refine (H3.out _).mono ?_; rintro e w' ⟨rfl, rfl⟩))
  go_ret2
  exact ⟨rfl, _, rfl⟩
set_option maxHeartbeats 1000000 in
theorem together_p {B n c : Nat} {a : Option Addr} {l : List Int} {w : World} (h : IRd w B (.slice a n c) l) (hn : n = l.length) (hl : ∀ x, x ∈ l → -1000000000000 ≤ x ∧ x ≤ 1000000000000) (hlen : n ≤ 4000) :
    Calls Tryd.prog 34 #[.slice a n c] w fun e w' => e = .returned (.int .i64 l.sum) ∧ w' = w := by
  have HR := hidIt h
  have HT : Hid (∀ i, -4000000000000000 ≤ (l.take i).sum ∧ (l.take i).sum ≤ 4000000000000000) := fun i => by
    have := sum_abs 1000000000000 (by decide) (l.take i) (fun x hx => hl x (List.mem_of_mem_take hx))
    have hl : (l.take i).length ≤ 4000 := by rw [List.length_take]; omega
    omega
  have HL := hidIt hn
  clear h hl hn
  go_enter Tryd.func34, Tryd.ntmps34
  go_wp2_with fail
  go_loop [3, 8] (fun s t => ∃ i : Nat, i ≤ n ∧ t = .int .i64 i ∧ s = .int .i64 (l.take i).sum) (fun _ t => n - (RowKit.intOf t).toNat)
  case atStart => exact ⟨0, by omega, rfl, by simp⟩
  case round =>
    obtain ⟨i, hi, rfl, rfl⟩ := hrel
    by_cases hlt : i < n
    · have c0 : decide ((i : Int) < n) = true := by simp; omega
      have hL := HL.out
      obtain ⟨x, hx⟩ : ∃ x, l[i]? = some x := ⟨_, List.getElem?_eq_getElem (by omega)⟩
      obtain ⟨g, o, rfl, hg, cx⟩ := HR.out.at hx
      have HS := hidIt (sum_snoc l i x hx)
      obtain ⟨s0, s1⟩ := HT.out i
      obtain ⟨s2, s3⟩ := HT.out (i + 1)
      rw [HS.out] at s2 s3
      have hiz : (i : Int) < n := by omega
      clear hx hL
      generalize (l.take i).sum = s at *
      go_wp2
      go_round
      case rel => exact ⟨i + 1, by omega, by go_num, by rw [HS.out]⟩
      case measure => simp [RowKit.intOf]; omega
    · have c0 : decide ((i : Int) < n) = false := by simp; omega
      have HE : Hid ((l.take i).sum = l.sum) := by
        show _ = _
        rw [List.take_of_length_le (by have := HL.out; omega)]
      rw [HE.out]
      go_wp2
      go_ret
      exact ⟨rfl, rfl⟩
/-- Is one of them no amount? -/
def badA (l : List Int) : Bool := l.any (fun x => !szB x 1000000000000)
set_option maxHeartbeats 1000000 in
theorem index_p {B n c : Nat} {a : Option Addr} {l : List Int} {w : World} (h : IRd w B (.slice a n c) l) (hn : n = l.length) (hlen : n ≤ 4000) :
    Calls Tryd.prog 31 #[.slice a n c, .func (.func 13) #[] #[]] w fun e w' => (∃ j : Int, e = .returned (.int .i64 j) ∧ decide (0 ≤ j) = badA l) ∧ w' = w := by
  have HR := hidIt h
  have HL := hidIt hn
  clear h hn
  go_enter Tryd.func31, Tryd.ntmps31
  go_wp2_with fail
  go_loop [8] (fun t => ∃ i : Nat, i ≤ n ∧ t = .int .i64 i ∧ ∀ j x, j < i → l[j]? = some x → szB x 1000000000000 = true) (fun t => n - (RowKit.intOf t).toNat)
  case atStart => exact ⟨0, by omega, rfl, by intro j x h; omega⟩
  case round =>
    obtain ⟨i, hi, rfl, hall⟩ := hrel
    have HA := hidIt hall
    clear hall
    by_cases hlt : i < n
    · have c0 : decide ((i : Int) < n) = true := by simp; omega
      have hL := HL.out
      obtain ⟨x, hx⟩ : ∃ x, l[i]? = some x := ⟨_, List.getElem?_eq_getElem (by omega)⟩
      obtain ⟨g, o, rfl, hg, cx⟩ := HR.out.at hx
      have HX := hidIt hx
      have hiz : (i : Int) < n := by omega
      have HC := hidIt (fun w => tooGreat_p x w)
      clear hx hL
      cases hb : szB x 1000000000000
      · rw [hb] at HC
        go_wp2_with fail
        refine (HC.out _).mono ?_
        rintro e w' ⟨rfl, rfl⟩
        have HE : Hid (badA l = true) := List.any_eq_true.2 ⟨x, List.mem_of_getElem? HX.out, by rw [hb]; rfl⟩
        clear hb
        go_wp2
        go_ret
        exact ⟨⟨_, rfl, by rw [HE.out]; simp⟩, rfl⟩
      · rw [hb] at HC
        go_wp2_with fail
        refine (HC.out _).mono ?_
        rintro e w' ⟨rfl, rfl⟩
        have HN : Hid (∀ j y, j < i + 1 → l[j]? = some y → szB y 1000000000000 = true) := fun j y hj hy => by
          rcases Nat.lt_or_ge j i with h | h
          · exact HA.out j y h hy
          · obtain rfl : j = i := by omega
            rw [HX.out] at hy
            obtain rfl := Option.some.inj hy
            exact hb
        clear hb
        go_wp2
        go_round
        case rel => exact ⟨i + 1, by omega, by go_num, HN.out⟩
        case measure => simp [RowKit.intOf]; omega
    · have c0 : decide ((i : Int) < n) = false := by simp; omega
      have HE : Hid (badA l = false) := by
        show _ = _
        unfold badA
        rw [List.any_eq_false]
        intro x hx
        obtain ⟨j, hj⟩ := List.getElem?_of_mem hx
        have := HA.out j x (by
          have h1 := (List.getElem?_eq_some_iff.1 hj).1
          have := HL.out
          omega) hj
        rw [this]; decide
      go_wp2
      go_ret
      exact ⟨⟨_, rfl, by rw [HE.out]; decide⟩, rfl⟩
theorem contains_p {B n c : Nat} {a : Option Addr} {l : List Int} {w : World} (h : IRd w B (.slice a n c) l) (hn : n = l.length) (hlen : n ≤ 4000) :
    Calls Tryd.prog 17 #[.slice a n c, .func (.func 13) #[] #[]] w fun e w' => e = .returned (.bool (badA l)) ∧ w' = w := by
  have H := hidIt (index_p h hn hlen)
  generalize badA l = b at *
  clear h hn hlen
  go_enter Tryd.func17, Tryd.ntmps17
  go_wp2_with fail
  refine H.out.mono ?_
  rintro e w' ⟨⟨j, rfl, hj⟩, rfl⟩
  go_wp2
  go_ret
  exact ⟨rfl, rfl⟩
end Go.Proofs.YtgfkaheoahkbcaaDoor

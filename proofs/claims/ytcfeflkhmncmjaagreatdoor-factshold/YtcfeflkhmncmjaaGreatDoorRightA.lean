/-
  Kinds of nodes: the program's functions of them.
-/
import Derived.Test.YtcfeflkhmncmjaaGreatDoorPlainA
import Derived.WalkKit
import Derived.Below
import Derived.Outline
import Derived.Deep.QuietTactic
import Derived.BigQuiet
import Derived.Test.YtcfeflkhmncmjaaGreatDoorMemA
import Derived.Test.YtcfeflkhmncmjaaGreatDoorFTok
import Derived.Test.YtcfeflkhmncmjaaGreatDoorBel1
namespace Go.Proofs.YtcfeflkhmncmjaaGreatDoor
open Go.RowKit

/-- A kind's bytes. -/
def kdB : Kd → List UInt8
  | .or => [111, 114]
  | .and => [97, 110, 100]
  | .not => [110, 111, 116]
  | .some => [115, 111, 109, 101]
  | .every => [101, 118, 101, 114, 121]
  | .name => [110, 97, 109, 101]
  | .lt => [60]
  | .le => [60, 61]
  | .eq => [61]
  | .ne => [60, 62]
  | .ge => [62, 61]
  | .gt => [62]
  | .number => [110, 117, 109, 98, 101, 114]
  | .count => [99, 111, 117, 110, 116]
  | .total => [116, 111, 116, 97, 108]
  | .plus => [43]
  | .minus => [45]
  | .times => [42]
  | .max => [109, 97, 120]
  | .min => [109, 105, 110]
  | .bad => []
theorem kd_cases (s : ByteArray) : (kdOf s ≠ .bad ∧ s.toList = kdB (kdOf s)) ∨ (kdOf s = .bad ∧ ∀ p ∈ kinds, (s.toList == p.1) = false) := by
  unfold kdOf
  cases h : kinds.find? fun p => p.1 == s.toList with
  | none =>
    refine .inr ⟨rfl, fun p hp => ?_⟩
    have := List.find?_eq_none.1 h p hp
    simp only [beq_iff_eq] at this
    simpa using fun e => this e.symm
  | some p =>
    have h1 := List.find?_some h
    have h2 := List.mem_of_find?_eq_some h
    simp only [beq_iff_eq] at h1
    left
    rw [Option.map_some, Option.getD_some, ← h1]
    simp only [kinds, List.mem_cons, List.not_mem_nil, or_false] at h2
    rcases h2 with rfl | rfl | rfl | rfl | rfl | rfl | rfl | rfl | rfl | rfl | rfl | rfl | rfl | rfl | rfl | rfl | rfl | rfl | rfl | rfl <;> exact ⟨by decide, rfl⟩
/-- What a test of a kind says. -/
theorem kd_eq (s : ByteArray) (k : Kd) (hk : k ≠ .bad) : (s.toList == kdB k) = decide (kdOf s = k) := by
  rcases kd_cases s with ⟨h1, h2⟩ | ⟨h1, h2⟩
  · rw [h2]
    cases e : kdOf s <;> cases k <;> first | rfl | exact absurd e h1 | exact absurd rfl hk
  · rw [h1]
    have : ∃ p ∈ kinds, p.1 = kdB k := by
      refine ⟨(kdB k, k), ?_, rfl⟩
      cases k <;> first | exact absurd rfl hk | simp [kinds, kdB]
    obtain ⟨p, hp, e⟩ := this
    rw [← e, h2 p hp]
    cases k <;> first | rfl | exact absurd rfl hk
theorem kq_or (s : ByteArray) : (s.toList == [111, 114]) = decide (kdOf s = .or) := kd_eq s .or (by decide)
theorem kq_and (s : ByteArray) : (s.toList == [97, 110, 100]) = decide (kdOf s = .and) := kd_eq s .and (by decide)
theorem kq_not (s : ByteArray) : (s.toList == [110, 111, 116]) = decide (kdOf s = .not) := kd_eq s .not (by decide)
theorem kq_some (s : ByteArray) : (s.toList == [115, 111, 109, 101]) = decide (kdOf s = .some) := kd_eq s .some (by decide)
theorem kq_every (s : ByteArray) : (s.toList == [101, 118, 101, 114, 121]) = decide (kdOf s = .every) := kd_eq s .every (by decide)
theorem kq_name (s : ByteArray) : (s.toList == [110, 97, 109, 101]) = decide (kdOf s = .name) := kd_eq s .name (by decide)
theorem kq_lt (s : ByteArray) : (s.toList == [60]) = decide (kdOf s = .lt) := kd_eq s .lt (by decide)
theorem kq_le (s : ByteArray) : (s.toList == [60, 61]) = decide (kdOf s = .le) := kd_eq s .le (by decide)
theorem kq_eq (s : ByteArray) : (s.toList == [61]) = decide (kdOf s = .eq) := kd_eq s .eq (by decide)
theorem kq_ne (s : ByteArray) : (s.toList == [60, 62]) = decide (kdOf s = .ne) := kd_eq s .ne (by decide)
theorem kq_ge (s : ByteArray) : (s.toList == [62, 61]) = decide (kdOf s = .ge) := kd_eq s .ge (by decide)
theorem kq_gt (s : ByteArray) : (s.toList == [62]) = decide (kdOf s = .gt) := kd_eq s .gt (by decide)
theorem kq_number (s : ByteArray) : (s.toList == [110, 117, 109, 98, 101, 114]) = decide (kdOf s = .number) := kd_eq s .number (by decide)
theorem kq_count (s : ByteArray) : (s.toList == [99, 111, 117, 110, 116]) = decide (kdOf s = .count) := kd_eq s .count (by decide)
theorem kq_total (s : ByteArray) : (s.toList == [116, 111, 116, 97, 108]) = decide (kdOf s = .total) := kd_eq s .total (by decide)
theorem kq_plus (s : ByteArray) : (s.toList == [43]) = decide (kdOf s = .plus) := kd_eq s .plus (by decide)
theorem kq_minus (s : ByteArray) : (s.toList == [45]) = decide (kdOf s = .minus) := kd_eq s .minus (by decide)
theorem kq_times (s : ByteArray) : (s.toList == [42]) = decide (kdOf s = .times) := kd_eq s .times (by decide)
theorem kq_max (s : ByteArray) : (s.toList == [109, 97, 120]) = decide (kdOf s = .max) := kd_eq s .max (by decide)
theorem kq_min (s : ByteArray) : (s.toList == [109, 105, 110]) = decide (kdOf s = .min) := kd_eq s .min (by decide)
theorem retI {a b : Int} (h : a = b) : Ending.returned (.int .i64 a) = .returned (.int .i64 b) := by rw [h]
theorem retBo {a b : Bool} (h : a = b) : Ending.returned (.bool a) = .returned (.bool b) := by rw [h]
def kNum : Option Nat → Int | some n => n | none => -1
set_option maxHeartbeats 4000000 in
set_option maxRecDepth 20000 in
theorem isOrder_f (s : ByteArray) (w : World) : Calls Tryz.prog 80 #[.string s] w fun e w' => e = .returned (.bool (kdOf s).isOrd) ∧ w' = w := by
  have q0 := kq_or s
  have q1 := kq_and s
  have q2 := kq_not s
  have q3 := kq_some s
  have q4 := kq_every s
  have q5 := kq_name s
  have q6 := kq_lt s
  have q7 := kq_le s
  have q8 := kq_eq s
  have q9 := kq_ne s
  have q10 := kq_ge s
  have q11 := kq_gt s
  have q12 := kq_number s
  have q13 := kq_count s
  have q14 := kq_total s
  have q15 := kq_plus s
  have q16 := kq_minus s
  have q17 := kq_times s
  have q18 := kq_max s
  have q19 := kq_min s
  cases hk : kdOf s <;> rw [hk] at q0 q1 q2 q3 q4 q5 q6 q7 q8 q9 q10 q11 q12 q13 q14 q15 q16 q17 q18 q19 <;> clear hk <;> simp only [reduceCtorEq, decide_false, decide_true] at q0 q1 q2 q3 q4 q5 q6 q7 q8 q9 q10 q11 q12 q13 q14 q15 q16 q17 q18 q19
  all_goals go_enter Tryz.func80, Tryz.ntmps80
  all_goals go_wp2
  all_goals go_ret
  all_goals exact ⟨rfl, rfl⟩
set_option maxHeartbeats 4000000 in
set_option maxRecDepth 20000 in
theorem hasWord_f (s : ByteArray) (w : World) : Calls Tryz.prog 77 #[.string s] w fun e w' => e = .returned (.bool (kdOf s).hasW) ∧ w' = w := by
  have q0 := kq_or s
  have q1 := kq_and s
  have q2 := kq_not s
  have q3 := kq_some s
  have q4 := kq_every s
  have q5 := kq_name s
  have q6 := kq_lt s
  have q7 := kq_le s
  have q8 := kq_eq s
  have q9 := kq_ne s
  have q10 := kq_ge s
  have q11 := kq_gt s
  have q12 := kq_number s
  have q13 := kq_count s
  have q14 := kq_total s
  have q15 := kq_plus s
  have q16 := kq_minus s
  have q17 := kq_times s
  have q18 := kq_max s
  have q19 := kq_min s
  cases hk : kdOf s <;> rw [hk] at q0 q1 q2 q3 q4 q5 q6 q7 q8 q9 q10 q11 q12 q13 q14 q15 q16 q17 q18 q19 <;> clear hk <;> simp only [reduceCtorEq, decide_false, decide_true] at q0 q1 q2 q3 q4 q5 q6 q7 q8 q9 q10 q11 q12 q13 q14 q15 q16 q17 q18 q19
  all_goals go_enter Tryz.func77, Tryz.ntmps77
  all_goals go_wp2
  all_goals go_ret
  all_goals exact ⟨rfl, rfl⟩
set_option maxHeartbeats 4000000 in
set_option maxRecDepth 20000 in
theorem kidsS_f (s : ByteArray) (w : World) : Calls Tryz.prog 76 #[.string s] w fun e w' => e = .returned (.int .i64 (kNum (kidsS (kdOf s)))) ∧ w' = w := by
  have q0 := kq_or s
  have q1 := kq_and s
  have q2 := kq_not s
  have q3 := kq_some s
  have q4 := kq_every s
  have q5 := kq_name s
  have q6 := kq_lt s
  have q7 := kq_le s
  have q8 := kq_eq s
  have q9 := kq_ne s
  have q10 := kq_ge s
  have q11 := kq_gt s
  have q12 := kq_number s
  have q13 := kq_count s
  have q14 := kq_total s
  have q15 := kq_plus s
  have q16 := kq_minus s
  have q17 := kq_times s
  have q18 := kq_max s
  have q19 := kq_min s
  cases hk : kdOf s <;> rw [hk] at q0 q1 q2 q3 q4 q5 q6 q7 q8 q9 q10 q11 q12 q13 q14 q15 q16 q17 q18 q19 <;> clear hk <;> simp only [reduceCtorEq, decide_false, decide_true] at q0 q1 q2 q3 q4 q5 q6 q7 q8 q9 q10 q11 q12 q13 q14 q15 q16 q17 q18 q19
  all_goals go_enter Tryz.func76, Tryz.ntmps76
  all_goals go_wp2
  all_goals go_ret
  all_goals exact ⟨rfl, rfl⟩
end Go.Proofs.YtcfeflkhmncmjaaGreatDoor
namespace Go.Proofs.YtcfeflkhmncmjaaGreatDoor
open Go.RowKit

set_option maxHeartbeats 4000000 in
set_option maxRecDepth 20000 in
theorem kidsC_f (s : ByteArray) (w : World) : Calls Tryz.prog 75 #[.string s] w fun e w' => e = .returned (.int .i64 (kNum (kidsC (kdOf s)))) ∧ w' = w := by
  have HO := hidLL (isOrder_f s)
  have q0 := kq_or s
  have q1 := kq_and s
  have q2 := kq_not s
  have q3 := kq_some s
  have q4 := kq_every s
  have q5 := kq_name s
  have q6 := kq_lt s
  have q7 := kq_le s
  have q8 := kq_eq s
  have q9 := kq_ne s
  have q10 := kq_ge s
  have q11 := kq_gt s
  have q12 := kq_number s
  have q13 := kq_count s
  have q14 := kq_total s
  have q15 := kq_plus s
  have q16 := kq_minus s
  have q17 := kq_times s
  have q18 := kq_max s
  have q19 := kq_min s
  cases hk : kdOf s <;> rw [hk] at q0 q1 q2 q3 q4 q5 q6 q7 q8 q9 q10 q11 q12 q13 q14 q15 q16 q17 q18 q19 HO <;> clear hk <;> simp only [reduceCtorEq, decide_false, decide_true, Kd.isOrd] at q0 q1 q2 q3 q4 q5 q6 q7 q8 q9 q10 q11 q12 q13 q14 q15 q16 q17 q18 q19 HO
  all_goals go_enter Tryz.func75, Tryz.ntmps75
  all_goals go_wp2_with (go_at_call 80; refine (HO.out _).mono ?_; rintro e w' ⟨rfl, rfl⟩)
  all_goals go_ret
  all_goals exact ⟨rfl, rfl⟩

/-- What can be read of a node, in words of the walk. -/
theorem kNum_ne {o : Option Nat} (h : o ≠ none) : kNum o ≠ -1 := by
  cases o with
  | none => exact absurd rfl h
  | some m => unfold kNum; simp only; omega
theorem kidsN_le (s : Bool) (k : Kd) (m : Nat) (h : kidsN s k = some m) : m ≤ 2 := by
  unfold kidsN at h
  cases s <;> cases k <;> simp [kidsS, kidsC] at h <;> omega

set_option maxHeartbeats 8000000 in
set_option maxRecDepth 20000 in
theorem isRight_nt {w : World} {S : Nat → Prop} {a : Addr} {t : Tr} (h : NdAt w S a t) (who : Int) (sum : Bool) (hT : kdOf t.kind ≠ .total) :
    Calls Tryz.prog 64 #[.agg #[.pointer (some a), .int .i64 who, .bool sum]] w fun e w' => e = .returned (.bool (rightB sum t)) ∧ Below w.heap.size w w' := by
  obtain ⟨b, o, ka, kc, rfl, hnd⟩ := h.is
  clear h
  have h := hnd
  have c0 := cellA h.h0 (.cells #[.pointer (some ⟨b, o, none⟩), .int .i64 who, .bool sum] 88)
  have c1 := cellA h.h1 (.cells #[.pointer (some ⟨b, o, none⟩), .int .i64 who, .bool sum] 88)
  have c2 := cellA h.h2 (.cells #[.pointer (some ⟨b, o, none⟩), .int .i64 who, .bool sum] 88)
  have c3 := cellA h.h3 (.cells #[.pointer (some ⟨b, o, none⟩), .int .i64 who, .bool sum] 88)
  have hne : ¬ b = w.heap.size := by have := h.lt; omega
  have z0 := h.h0
  have z1 := h.h1
  have z2 := h.h2
  have z3 := h.h3
  have HC := hidLL (kidsC_f t.kind)
  have HS := hidLL (kidsS_f t.kind)
  have HH := hidLL (hasWord_f t.kind)
  have HW := hidLL (isWord_f t.word h.hw)
  have qn := kq_number t.kind
  have qt := kq_total t.kind
  obtain ⟨RR, hRR⟩ : ∃ RR, RR = rightB sum t := ⟨_, rfl⟩
  rw [← hRR]
  have hR2 := hRR
  unfold rightB restB at hR2
  have hkd : t.kd = kdOf t.kind := rfl
  rw [hkd] at hR2
  obtain ⟨n, hn⟩ : ∃ n, n = t.kids.length := ⟨_, rfl⟩
  rw [← hn] at c3 z3 hR2
  obtain ⟨cc, hcc⟩ : ∃ cc, cc = kNum (kidsC (kdOf t.kind)) := ⟨_, rfl⟩
  obtain ⟨cs, hcs⟩ : ∃ cs, cs = kNum (kidsS (kdOf t.kind)) := ⟨_, rfl⟩
  rw [← hcc] at HC
  rw [← hcs] at HS
  obtain ⟨hw, hhw⟩ : ∃ hw, hw = (kdOf t.kind).hasW := ⟨_, rfl⟩
  obtain ⟨iw, hiw⟩ : ∃ iw, iw = isWordB t.word := ⟨_, rfl⟩
  rw [← hhw] at HH hR2
  rw [← hiw] at HW hR2
  have HHH := hidLL h
  have HNN := hidLL hn
  cases sum
  · simp only [kidsN, Bool.false_eq_true, if_false] at hR2
    cases hk : kidsC (kdOf t.kind) with
    | none =>
      rw [hk] at hR2 hcc
      simp only at hR2
      have hb1 : (cc == (-1 : Int)) = true := by rw [hcc]; rfl
      subst hR2
      clear hk hcc hRR hn h hhw hiw hkd hT
      go_enter Tryz.func64, Tryz.ntmps64
      go_wp2_with (first | (go_at_call 75; refine (HC.out _).mono ?_; rintro e w' ⟨rfl, rfl⟩) | (go_at_call 76; refine (HS.out _).mono ?_; rintro e w' ⟨rfl, rfl⟩) | (go_at_call 77; refine (HH.out _).mono ?_; rintro e w' ⟨rfl, rfl⟩) | (go_at_call 35; refine (HW.out _).mono ?_; rintro e w' ⟨rfl, rfl⟩))
      go_ret
      exact ⟨rfl, Below.alloc (Below.refl _ _) (Nat.le_refl _) _⟩
    | some m =>
      rw [hk] at hR2 hcc
      simp only at hR2
      have hb1 : (cc == (-1 : Int)) = false := by rw [hcc]; first | (simp [kNum]; done) | (simp [kNum]; omega)
      by_cases hnm : n = m
      · have hb2 : ((n : Int) != cc) = false := by rw [hcc, hnm]; simp [kNum]
        rw [decide_eq_true hnm, Bool.true_and] at hR2
        cases hw with
        | true =>
          cases iw with
          | false =>
            simp only [Bool.not_true, Bool.false_or, Bool.false_and] at hR2
            subst hR2
            clear hk hcc hRR hn h hhw hiw hkd hT hnm
            go_enter Tryz.func64, Tryz.ntmps64
            go_wp2_with (first | (go_at_call 75; refine (HC.out _).mono ?_; rintro e w' ⟨rfl, rfl⟩) | (go_at_call 76; refine (HS.out _).mono ?_; rintro e w' ⟨rfl, rfl⟩) | (go_at_call 77; refine (HH.out _).mono ?_; rintro e w' ⟨rfl, rfl⟩) | (go_at_call 35; refine (HW.out _).mono ?_; rintro e w' ⟨rfl, rfl⟩))
            go_ret
            exact ⟨rfl, Below.alloc (Below.refl _ _) (Nat.le_refl _) _⟩
          | true =>
            simp only [Bool.not_true, Bool.false_or, Bool.true_and] at hR2
            cases hq : decide (kdOf t.kind = .number) with
            | true =>
              rw [hq] at qn
              rw [of_decide_eq_true hq] at hR2 qt
              simp only [reduceCtorEq, decide_false] at hR2 qt
              by_cases g1 : 0 ≤ t.num
              · by_cases g2 : t.num ≤ 1000000000000
                · rw [decide_eq_true g1, decide_eq_true g2] at hR2
                  simp only [Bool.and_true] at hR2
                  subst hR2
                  clear hk hcc hRR hn h hhw hiw hkd hT hnm hq
                  go_enter Tryz.func64, Tryz.ntmps64
                  go_wp2_with (first | (go_at_call 75; refine (HC.out _).mono ?_; rintro e w' ⟨rfl, rfl⟩) | (go_at_call 76; refine (HS.out _).mono ?_; rintro e w' ⟨rfl, rfl⟩) | (go_at_call 77; refine (HH.out _).mono ?_; rintro e w' ⟨rfl, rfl⟩) | (go_at_call 35; refine (HW.out _).mono ?_; rintro e w' ⟨rfl, rfl⟩))
                  go_ret
                  exact ⟨by first | rfl | exact retBo (decide_eq_true (by omega)), Below.alloc (Below.refl _ _) (Nat.le_refl _) _⟩
                · rw [decide_eq_true g1, decide_eq_false g2] at hR2
                  simp only [Bool.and_false] at hR2
                  subst hR2
                  clear hk hcc hRR hn h hhw hiw hkd hT hnm hq
                  go_enter Tryz.func64, Tryz.ntmps64
                  go_wp2_with (first | (go_at_call 75; refine (HC.out _).mono ?_; rintro e w' ⟨rfl, rfl⟩) | (go_at_call 76; refine (HS.out _).mono ?_; rintro e w' ⟨rfl, rfl⟩) | (go_at_call 77; refine (HH.out _).mono ?_; rintro e w' ⟨rfl, rfl⟩) | (go_at_call 35; refine (HW.out _).mono ?_; rintro e w' ⟨rfl, rfl⟩))
                  go_ret
                  exact ⟨retBo (decide_eq_false (by omega)), Below.alloc (Below.refl _ _) (Nat.le_refl _) _⟩
              · rw [decide_eq_false g1] at hR2
                simp only [Bool.false_and] at hR2
                subst hR2
                clear hk hcc hRR hn h hhw hiw hkd hT hnm hq
                go_enter Tryz.func64, Tryz.ntmps64
                go_wp2_with (first | (go_at_call 75; refine (HC.out _).mono ?_; rintro e w' ⟨rfl, rfl⟩) | (go_at_call 76; refine (HS.out _).mono ?_; rintro e w' ⟨rfl, rfl⟩) | (go_at_call 77; refine (HH.out _).mono ?_; rintro e w' ⟨rfl, rfl⟩) | (go_at_call 35; refine (HW.out _).mono ?_; rintro e w' ⟨rfl, rfl⟩))
                go_ret
                exact ⟨rfl, Below.alloc (Below.refl _ _) (Nat.le_refl _) _⟩
            | false =>
              rw [hq] at qn
              rw [decide_eq_false hT] at qt
              have hR3 : RR = true := by
                rw [hR2]
                split
                · rename_i e; exact absurd e (of_decide_eq_false hq)
                · rename_i e; exact absurd e hT
                · rfl
              subst hR3
              clear hk hcc hRR hn h hhw hiw hkd hT hnm hq hR2
              go_enter Tryz.func64, Tryz.ntmps64
              go_wp2_with (first | (go_at_call 75; refine (HC.out _).mono ?_; rintro e w' ⟨rfl, rfl⟩) | (go_at_call 76; refine (HS.out _).mono ?_; rintro e w' ⟨rfl, rfl⟩) | (go_at_call 77; refine (HH.out _).mono ?_; rintro e w' ⟨rfl, rfl⟩) | (go_at_call 35; refine (HW.out _).mono ?_; rintro e w' ⟨rfl, rfl⟩))
              go_ret
              exact ⟨rfl, Below.alloc (Below.refl _ _) (Nat.le_refl _) _⟩
        | false =>
          simp only [Bool.not_false, Bool.true_or, Bool.true_and] at hR2
          cases hq : decide (kdOf t.kind = .number) with
          | true =>
            rw [hq] at qn
            rw [of_decide_eq_true hq] at hR2 qt
            simp only [reduceCtorEq, decide_false] at hR2 qt
            by_cases g1 : 0 ≤ t.num
            · by_cases g2 : t.num ≤ 1000000000000
              · rw [decide_eq_true g1, decide_eq_true g2] at hR2
                simp only [Bool.and_true] at hR2
                subst hR2
                clear hk hcc hRR hn h hhw hiw hkd hT hnm hq
                go_enter Tryz.func64, Tryz.ntmps64
                go_wp2_with (first | (go_at_call 75; refine (HC.out _).mono ?_; rintro e w' ⟨rfl, rfl⟩) | (go_at_call 76; refine (HS.out _).mono ?_; rintro e w' ⟨rfl, rfl⟩) | (go_at_call 77; refine (HH.out _).mono ?_; rintro e w' ⟨rfl, rfl⟩) | (go_at_call 35; refine (HW.out _).mono ?_; rintro e w' ⟨rfl, rfl⟩))
                go_ret
                exact ⟨by first | rfl | exact retBo (decide_eq_true (by omega)), Below.alloc (Below.refl _ _) (Nat.le_refl _) _⟩
              · rw [decide_eq_true g1, decide_eq_false g2] at hR2
                simp only [Bool.and_false] at hR2
                subst hR2
                clear hk hcc hRR hn h hhw hiw hkd hT hnm hq
                go_enter Tryz.func64, Tryz.ntmps64
                go_wp2_with (first | (go_at_call 75; refine (HC.out _).mono ?_; rintro e w' ⟨rfl, rfl⟩) | (go_at_call 76; refine (HS.out _).mono ?_; rintro e w' ⟨rfl, rfl⟩) | (go_at_call 77; refine (HH.out _).mono ?_; rintro e w' ⟨rfl, rfl⟩) | (go_at_call 35; refine (HW.out _).mono ?_; rintro e w' ⟨rfl, rfl⟩))
                go_ret
                exact ⟨retBo (decide_eq_false (by omega)), Below.alloc (Below.refl _ _) (Nat.le_refl _) _⟩
            · rw [decide_eq_false g1] at hR2
              simp only [Bool.false_and] at hR2
              subst hR2
              clear hk hcc hRR hn h hhw hiw hkd hT hnm hq
              go_enter Tryz.func64, Tryz.ntmps64
              go_wp2_with (first | (go_at_call 75; refine (HC.out _).mono ?_; rintro e w' ⟨rfl, rfl⟩) | (go_at_call 76; refine (HS.out _).mono ?_; rintro e w' ⟨rfl, rfl⟩) | (go_at_call 77; refine (HH.out _).mono ?_; rintro e w' ⟨rfl, rfl⟩) | (go_at_call 35; refine (HW.out _).mono ?_; rintro e w' ⟨rfl, rfl⟩))
              go_ret
              exact ⟨rfl, Below.alloc (Below.refl _ _) (Nat.le_refl _) _⟩
          | false =>
            rw [hq] at qn
            rw [decide_eq_false hT] at qt
            have hR3 : RR = true := by
              rw [hR2]
              split
              · rename_i e; exact absurd e (of_decide_eq_false hq)
              · rename_i e; exact absurd e hT
              · rfl
            subst hR3
            clear hk hcc hRR hn h hhw hiw hkd hT hnm hq hR2
            go_enter Tryz.func64, Tryz.ntmps64
            go_wp2_with (first | (go_at_call 75; refine (HC.out _).mono ?_; rintro e w' ⟨rfl, rfl⟩) | (go_at_call 76; refine (HS.out _).mono ?_; rintro e w' ⟨rfl, rfl⟩) | (go_at_call 77; refine (HH.out _).mono ?_; rintro e w' ⟨rfl, rfl⟩) | (go_at_call 35; refine (HW.out _).mono ?_; rintro e w' ⟨rfl, rfl⟩))
            go_ret
            exact ⟨rfl, Below.alloc (Below.refl _ _) (Nat.le_refl _) _⟩
      · have hb2 : ((n : Int) != cc) = true := by rw [hcc]; first | (simp [kNum]; done) | (simp [kNum]; omega)
        rw [decide_eq_false hnm] at hR2
        simp only [Bool.false_and] at hR2
        subst hR2
        clear hk hcc hRR hn h hhw hiw hkd hT hnm
        go_enter Tryz.func64, Tryz.ntmps64
        go_wp2_with (first | (go_at_call 75; refine (HC.out _).mono ?_; rintro e w' ⟨rfl, rfl⟩) | (go_at_call 76; refine (HS.out _).mono ?_; rintro e w' ⟨rfl, rfl⟩) | (go_at_call 77; refine (HH.out _).mono ?_; rintro e w' ⟨rfl, rfl⟩) | (go_at_call 35; refine (HW.out _).mono ?_; rintro e w' ⟨rfl, rfl⟩))
        go_ret
        exact ⟨rfl, Below.alloc (Below.refl _ _) (Nat.le_refl _) _⟩
  · simp only [kidsN, if_true] at hR2
    cases hk : kidsS (kdOf t.kind) with
    | none =>
      rw [hk] at hR2 hcs
      simp only at hR2
      have hb1 : (cs == (-1 : Int)) = true := by rw [hcs]; rfl
      subst hR2
      clear hk hcs hRR hn h hhw hiw hkd hT
      go_enter Tryz.func64, Tryz.ntmps64
      go_wp2_with (first | (go_at_call 75; refine (HC.out _).mono ?_; rintro e w' ⟨rfl, rfl⟩) | (go_at_call 76; refine (HS.out _).mono ?_; rintro e w' ⟨rfl, rfl⟩) | (go_at_call 77; refine (HH.out _).mono ?_; rintro e w' ⟨rfl, rfl⟩) | (go_at_call 35; refine (HW.out _).mono ?_; rintro e w' ⟨rfl, rfl⟩))
      go_ret
      exact ⟨rfl, Below.alloc (Below.refl _ _) (Nat.le_refl _) _⟩
    | some m =>
      rw [hk] at hR2 hcs
      simp only at hR2
      have hb1 : (cs == (-1 : Int)) = false := by rw [hcs]; first | (simp [kNum]; done) | (simp [kNum]; omega)
      by_cases hnm : n = m
      · have hb2 : ((n : Int) != cs) = false := by rw [hcs, hnm]; simp [kNum]
        rw [decide_eq_true hnm, Bool.true_and] at hR2
        cases hw with
        | true =>
          cases iw with
          | false =>
            simp only [Bool.not_true, Bool.false_or, Bool.false_and] at hR2
            subst hR2
            clear hk hcs hRR hn h hhw hiw hkd hT hnm
            go_enter Tryz.func64, Tryz.ntmps64
            go_wp2_with (first | (go_at_call 75; refine (HC.out _).mono ?_; rintro e w' ⟨rfl, rfl⟩) | (go_at_call 76; refine (HS.out _).mono ?_; rintro e w' ⟨rfl, rfl⟩) | (go_at_call 77; refine (HH.out _).mono ?_; rintro e w' ⟨rfl, rfl⟩) | (go_at_call 35; refine (HW.out _).mono ?_; rintro e w' ⟨rfl, rfl⟩))
            go_ret
            exact ⟨rfl, Below.alloc (Below.refl _ _) (Nat.le_refl _) _⟩
          | true =>
            simp only [Bool.not_true, Bool.false_or, Bool.true_and] at hR2
            cases hq : decide (kdOf t.kind = .number) with
            | true =>
              rw [hq] at qn
              rw [of_decide_eq_true hq] at hR2 qt
              simp only [reduceCtorEq, decide_false] at hR2 qt
              by_cases g1 : 0 ≤ t.num
              · by_cases g2 : t.num ≤ 1000000000000
                · rw [decide_eq_true g1, decide_eq_true g2] at hR2
                  simp only [Bool.and_true] at hR2
                  subst hR2
                  clear hk hcs hRR hn h hhw hiw hkd hT hnm hq
                  go_enter Tryz.func64, Tryz.ntmps64
                  go_wp2_with (first | (go_at_call 75; refine (HC.out _).mono ?_; rintro e w' ⟨rfl, rfl⟩) | (go_at_call 76; refine (HS.out _).mono ?_; rintro e w' ⟨rfl, rfl⟩) | (go_at_call 77; refine (HH.out _).mono ?_; rintro e w' ⟨rfl, rfl⟩) | (go_at_call 35; refine (HW.out _).mono ?_; rintro e w' ⟨rfl, rfl⟩))
                  go_ret
                  exact ⟨by first | rfl | exact retBo (decide_eq_true (by omega)), Below.alloc (Below.refl _ _) (Nat.le_refl _) _⟩
                · rw [decide_eq_true g1, decide_eq_false g2] at hR2
                  simp only [Bool.and_false] at hR2
                  subst hR2
                  clear hk hcs hRR hn h hhw hiw hkd hT hnm hq
                  go_enter Tryz.func64, Tryz.ntmps64
                  go_wp2_with (first | (go_at_call 75; refine (HC.out _).mono ?_; rintro e w' ⟨rfl, rfl⟩) | (go_at_call 76; refine (HS.out _).mono ?_; rintro e w' ⟨rfl, rfl⟩) | (go_at_call 77; refine (HH.out _).mono ?_; rintro e w' ⟨rfl, rfl⟩) | (go_at_call 35; refine (HW.out _).mono ?_; rintro e w' ⟨rfl, rfl⟩))
                  go_ret
                  exact ⟨retBo (decide_eq_false (by omega)), Below.alloc (Below.refl _ _) (Nat.le_refl _) _⟩
              · rw [decide_eq_false g1] at hR2
                simp only [Bool.false_and] at hR2
                subst hR2
                clear hk hcs hRR hn h hhw hiw hkd hT hnm hq
                go_enter Tryz.func64, Tryz.ntmps64
                go_wp2_with (first | (go_at_call 75; refine (HC.out _).mono ?_; rintro e w' ⟨rfl, rfl⟩) | (go_at_call 76; refine (HS.out _).mono ?_; rintro e w' ⟨rfl, rfl⟩) | (go_at_call 77; refine (HH.out _).mono ?_; rintro e w' ⟨rfl, rfl⟩) | (go_at_call 35; refine (HW.out _).mono ?_; rintro e w' ⟨rfl, rfl⟩))
                go_ret
                exact ⟨rfl, Below.alloc (Below.refl _ _) (Nat.le_refl _) _⟩
            | false =>
              rw [hq] at qn
              rw [decide_eq_false hT] at qt
              have hR3 : RR = true := by
                rw [hR2]
                split
                · rename_i e; exact absurd e (of_decide_eq_false hq)
                · rename_i e; exact absurd e hT
                · rfl
              subst hR3
              clear hk hcs hRR hn h hhw hiw hkd hT hnm hq hR2
              go_enter Tryz.func64, Tryz.ntmps64
              go_wp2_with (first | (go_at_call 75; refine (HC.out _).mono ?_; rintro e w' ⟨rfl, rfl⟩) | (go_at_call 76; refine (HS.out _).mono ?_; rintro e w' ⟨rfl, rfl⟩) | (go_at_call 77; refine (HH.out _).mono ?_; rintro e w' ⟨rfl, rfl⟩) | (go_at_call 35; refine (HW.out _).mono ?_; rintro e w' ⟨rfl, rfl⟩))
              go_ret
              exact ⟨rfl, Below.alloc (Below.refl _ _) (Nat.le_refl _) _⟩
        | false =>
          simp only [Bool.not_false, Bool.true_or, Bool.true_and] at hR2
          cases hq : decide (kdOf t.kind = .number) with
          | true =>
            rw [hq] at qn
            rw [of_decide_eq_true hq] at hR2 qt
            simp only [reduceCtorEq, decide_false] at hR2 qt
            by_cases g1 : 0 ≤ t.num
            · by_cases g2 : t.num ≤ 1000000000000
              · rw [decide_eq_true g1, decide_eq_true g2] at hR2
                simp only [Bool.and_true] at hR2
                subst hR2
                clear hk hcs hRR hn h hhw hiw hkd hT hnm hq
                go_enter Tryz.func64, Tryz.ntmps64
                go_wp2_with (first | (go_at_call 75; refine (HC.out _).mono ?_; rintro e w' ⟨rfl, rfl⟩) | (go_at_call 76; refine (HS.out _).mono ?_; rintro e w' ⟨rfl, rfl⟩) | (go_at_call 77; refine (HH.out _).mono ?_; rintro e w' ⟨rfl, rfl⟩) | (go_at_call 35; refine (HW.out _).mono ?_; rintro e w' ⟨rfl, rfl⟩))
                go_ret
                exact ⟨by first | rfl | exact retBo (decide_eq_true (by omega)), Below.alloc (Below.refl _ _) (Nat.le_refl _) _⟩
              · rw [decide_eq_true g1, decide_eq_false g2] at hR2
                simp only [Bool.and_false] at hR2
                subst hR2
                clear hk hcs hRR hn h hhw hiw hkd hT hnm hq
                go_enter Tryz.func64, Tryz.ntmps64
                go_wp2_with (first | (go_at_call 75; refine (HC.out _).mono ?_; rintro e w' ⟨rfl, rfl⟩) | (go_at_call 76; refine (HS.out _).mono ?_; rintro e w' ⟨rfl, rfl⟩) | (go_at_call 77; refine (HH.out _).mono ?_; rintro e w' ⟨rfl, rfl⟩) | (go_at_call 35; refine (HW.out _).mono ?_; rintro e w' ⟨rfl, rfl⟩))
                go_ret
                exact ⟨retBo (decide_eq_false (by omega)), Below.alloc (Below.refl _ _) (Nat.le_refl _) _⟩
            · rw [decide_eq_false g1] at hR2
              simp only [Bool.false_and] at hR2
              subst hR2
              clear hk hcs hRR hn h hhw hiw hkd hT hnm hq
              go_enter Tryz.func64, Tryz.ntmps64
              go_wp2_with (first | (go_at_call 75; refine (HC.out _).mono ?_; rintro e w' ⟨rfl, rfl⟩) | (go_at_call 76; refine (HS.out _).mono ?_; rintro e w' ⟨rfl, rfl⟩) | (go_at_call 77; refine (HH.out _).mono ?_; rintro e w' ⟨rfl, rfl⟩) | (go_at_call 35; refine (HW.out _).mono ?_; rintro e w' ⟨rfl, rfl⟩))
              go_ret
              exact ⟨rfl, Below.alloc (Below.refl _ _) (Nat.le_refl _) _⟩
          | false =>
            rw [hq] at qn
            rw [decide_eq_false hT] at qt
            have hR3 : RR = true := by
              rw [hR2]
              split
              · rename_i e; exact absurd e (of_decide_eq_false hq)
              · rename_i e; exact absurd e hT
              · rfl
            subst hR3
            clear hk hcs hRR hn h hhw hiw hkd hT hnm hq hR2
            go_enter Tryz.func64, Tryz.ntmps64
            go_wp2_with (first | (go_at_call 75; refine (HC.out _).mono ?_; rintro e w' ⟨rfl, rfl⟩) | (go_at_call 76; refine (HS.out _).mono ?_; rintro e w' ⟨rfl, rfl⟩) | (go_at_call 77; refine (HH.out _).mono ?_; rintro e w' ⟨rfl, rfl⟩) | (go_at_call 35; refine (HW.out _).mono ?_; rintro e w' ⟨rfl, rfl⟩))
            go_ret
            exact ⟨rfl, Below.alloc (Below.refl _ _) (Nat.le_refl _) _⟩
      · have hb2 : ((n : Int) != cs) = true := by rw [hcs]; first | (simp [kNum]; done) | (simp [kNum]; omega)
        rw [decide_eq_false hnm] at hR2
        simp only [Bool.false_and] at hR2
        subst hR2
        clear hk hcs hRR hn h hhw hiw hkd hT hnm
        go_enter Tryz.func64, Tryz.ntmps64
        go_wp2_with (first | (go_at_call 75; refine (HC.out _).mono ?_; rintro e w' ⟨rfl, rfl⟩) | (go_at_call 76; refine (HS.out _).mono ?_; rintro e w' ⟨rfl, rfl⟩) | (go_at_call 77; refine (HH.out _).mono ?_; rintro e w' ⟨rfl, rfl⟩) | (go_at_call 35; refine (HW.out _).mono ?_; rintro e w' ⟨rfl, rfl⟩))
        go_ret
        exact ⟨rfl, Below.alloc (Below.refl _ _) (Nat.le_refl _) _⟩
end Go.Proofs.YtcfeflkhmncmjaaGreatDoor
namespace Go.Proofs.YtcfeflkhmncmjaaGreatDoor
open Go.RowKit

set_option maxHeartbeats 8000000 in
set_option maxRecDepth 20000 in
theorem isRight_p {w : World} {S : Nat → Prop} {a : Addr} {t : Tr} (hN : NdAt w S a t) (who : Int) (sum : Bool) :
    Calls Tryz.prog 64 #[.agg #[.pointer (some a), .int .i64 who, .bool sum]] w fun e w' => e = .returned (.bool (rightB sum t)) ∧ Below w.heap.size w w' := by
  by_cases hT : kdOf t.kind ≠ .total
  · exact isRight_nt hN who sum hT
  have hT : kdOf t.kind = .total := Classical.byContradiction hT
  obtain ⟨b, o, ka, kc, rfl, h⟩ := hN.is
  have hne : ¬ b = w.heap.size := by have := h.lt; omega
  have z0 := h.h0
  have z1 := h.h1
  have z2 := h.h2
  have z3 := h.h3
  have qn := kq_number t.kind
  have qt := kq_total t.kind
  rw [hT] at qn qt
  simp only [reduceCtorEq, decide_false, decide_true] at qn qt
  have HC := hidLL (kidsC_f t.kind)
  have HS := hidLL (kidsS_f t.kind)
  have HH := hidLL (hasWord_f t.kind)
  rw [hT, show kNum (kidsC .total) = -1 from rfl] at HC
  rw [hT, show kNum (kidsS .total) = 1 from rfl] at HS
  rw [hT, show Kd.total.hasW = true from rfl] at HH
  have HW := hidLL (isWord_f t.word h.hw)
  obtain ⟨iw, hiw⟩ : ∃ iw, iw = isWordB t.word := ⟨_, rfl⟩
  rw [← hiw] at HW
  have hkd : t.kd = .total := hT
  obtain ⟨n, hn⟩ : ∃ n, n = t.kids.length := ⟨_, rfl⟩
  rw [← hn] at z3
  have c0 := cellA z0
  have c1 := cellA z1
  have c2 := cellA z2
  have c3 := cellA z3
  cases sum with
  | false =>
    have hR : rightB false t = false := by unfold rightB kidsN; rw [hkd]; rfl
    rw [hR]
    clear hR hkd hn hiw h hN hT
    go_enter Tryz.func64, Tryz.ntmps64
    go_wp2_with (first | (go_at_call 75; refine (HC.out _).mono ?_; rintro e w' ⟨rfl, rfl⟩) | (go_at_call 76; refine (HS.out _).mono ?_; rintro e w' ⟨rfl, rfl⟩) | (go_at_call 77; refine (HH.out _).mono ?_; rintro e w' ⟨rfl, rfl⟩) | (go_at_call 35; refine (HW.out _).mono ?_; rintro e w' ⟨rfl, rfl⟩))
    go_ret
    exact ⟨rfl, Below.alloc (Below.refl _ _) (Nat.le_refl _) _⟩
  | true =>
    by_cases h1 : n = 1
    · obtain ⟨u, hu⟩ : ∃ u, t.kids = [u] := List.length_eq_one_iff.1 (by omega)
      obtain ⟨g, p, rfl⟩ := h.hk (by omega)
      have hU := h.hr 0 u (by rw [hu]; rfl)
      have hU' : NdAt w S ⟨g, p, none⟩ u := by simpa [kadr] using hU
      subst h1
      have hR : rightB true t = (iw && nameB u) := by
        unfold rightB kidsN restB
        rw [hkd, hu, hiw]
        simp [kidsS, Kd.hasW]
      rw [hR]
      cases iw with
      | false =>
        rw [Bool.false_and]
        clear hR hkd hn hiw h hN hT hu hU hU'
        go_enter Tryz.func64, Tryz.ntmps64
        go_wp2_with (first | (go_at_call 75; refine (HC.out _).mono ?_; rintro e w' ⟨rfl, rfl⟩) | (go_at_call 76; refine (HS.out _).mono ?_; rintro e w' ⟨rfl, rfl⟩) | (go_at_call 77; refine (HH.out _).mono ?_; rintro e w' ⟨rfl, rfl⟩) | (go_at_call 35; refine (HW.out _).mono ?_; rintro e w' ⟨rfl, rfl⟩))
        go_ret
        exact ⟨rfl, Below.alloc (Below.refl _ _) (Nat.le_refl _) _⟩
      | true =>
        rw [Bool.true_and]
        obtain ⟨b', o', ka', kc', e', hu'⟩ := hU'.is
        injection e' with e1 e2
        subst e1 e2
        have y0 := hu'.h0
        have y1 := cellA y0
        have y2 := fun o => cellA (cellA y0 o)
        have gne : ¬ g = w.heap.size := by have := hu'.lt; omega
        have gne2 : ¬ g = w.heap.size + 1 := by have := hu'.lt; omega
        have qk := kq_name u.kind
        by_cases hun : kdOf u.kind = .name
        · rw [decide_eq_true hun] at qk
          have hR2 : nameB u = rightB true u := by
            unfold nameB rightB kidsN restB
            have : u.kd = .name := hun
            rw [this]
            simp [kidsS, Kd.hasW]
          rw [hR2]
          have HR := hidLL (fun (W : World) (hb : Below w.heap.size w W) => isRight_nt (hU'.step (w' := W) (S' := S) fun k hk hs => ⟨hb.block k hk, hs⟩) 0 true (by rw [hun]; decide))
          obtain ⟨RU, hRU⟩ : ∃ RU, RU = rightB true u := ⟨_, rfl⟩
          rw [← hRU] at HR ⊢
          clear hR2 hR hkd hn hiw h hN hT hu hU hU' hun hRU hu'
          go_enter Tryz.func64, Tryz.ntmps64
          go_wp2_with (first | (go_at_call 75; refine (HC.out _).mono ?_; rintro e w' ⟨rfl, rfl⟩) | (go_at_call 76; refine (HS.out _).mono ?_; rintro e w' ⟨rfl, rfl⟩) | (go_at_call 77; refine (HH.out _).mono ?_; rintro e w' ⟨rfl, rfl⟩) | (go_at_call 35; refine (HW.out _).mono ?_; rintro e w' ⟨rfl, rfl⟩) | (go_at_call 64; refine (HR.out _ (((Below.refl _ _).alloc (Nat.le_refl _) _).alloc (by simp) _)).mono ?_; rintro e w9 ⟨rfl, hb9⟩; (have HB9 := hidLL ((((Below.refl w.heap.size w).alloc (Nat.le_refl _) _).alloc (by simp) _).trans (hb9.mono (by first | (simp; done) | (simp; omega))))); clear hb9))
          go_ret
          exact ⟨rfl, HB9.out⟩
        · rw [decide_eq_false hun] at qk
          have hR2 : nameB u = false := by
            unfold nameB
            rw [decide_eq_false (show ¬ u.kd = .name from hun)]
            rfl
          rw [hR2]
          clear hR2 hR hkd hn hiw h hN hT hu hU hU' hun hu'
          go_enter Tryz.func64, Tryz.ntmps64
          go_wp2_with (first | (go_at_call 75; refine (HC.out _).mono ?_; rintro e w' ⟨rfl, rfl⟩) | (go_at_call 76; refine (HS.out _).mono ?_; rintro e w' ⟨rfl, rfl⟩) | (go_at_call 77; refine (HH.out _).mono ?_; rintro e w' ⟨rfl, rfl⟩) | (go_at_call 35; refine (HW.out _).mono ?_; rintro e w' ⟨rfl, rfl⟩))
          go_ret
          exact ⟨rfl, ((Below.refl _ _).alloc (Nat.le_refl _) _).alloc (by simp) _⟩
    · have hR : rightB true t = false := by
        unfold rightB kidsN
        rw [hkd]
        simp only [kidsS, if_true]
        rw [decide_eq_false (by omega)]
        rfl
      rw [hR]
      have hb2 : ((n : Int) != 1) = true := by first | (simp; done) | (simp; omega)
      clear hR hkd hn hiw h hN hT h1
      go_enter Tryz.func64, Tryz.ntmps64
      go_wp2_with (first | (go_at_call 75; refine (HC.out _).mono ?_; rintro e w' ⟨rfl, rfl⟩) | (go_at_call 76; refine (HS.out _).mono ?_; rintro e w' ⟨rfl, rfl⟩) | (go_at_call 77; refine (HH.out _).mono ?_; rintro e w' ⟨rfl, rfl⟩) | (go_at_call 35; refine (HW.out _).mono ?_; rintro e w' ⟨rfl, rfl⟩))
      go_ret
      exact ⟨rfl, Below.alloc (Below.refl _ _) (Nat.le_refl _) _⟩
end Go.Proofs.YtcfeflkhmncmjaaGreatDoor

/-
  coin.Part, the reference's Part, and the walk of CoinPart.
-/
import Derived.Test.YtcfeflkhmncmjaaGreatDoorRoundA
import Derived.Test.YtcfeflkhmncmjaaGreatDoorCodeAll
import Derived.Test.YtcfeflkhmncmjaaGreatDoorRightA
import Derived.Test.YtcfeflkhmncmjaaGreatDoorMemA
import Derived.Test.YtcfeflkhmncmjaaGreatDoorFTok
namespace Go.Proofs.YtcfeflkhmncmjaaGreatDoor
open Go.RowKit Go.Extern.Stop Go.Stop Go.Extern

/-- Is a number of at most that size? -/
def szB (n m : Int) : Bool := decide (-m ≤ n ∧ n ≤ m)
theorem szB_t {n m : Int} (h1 : -m ≤ n) (h2 : n ≤ m) : szB n m = true := by simp [szB, h1, h2]
theorem szB_f {n m : Int} (h : ¬ (-m ≤ n ∧ n ≤ m)) : szB n m = false := by simp only [szB, decide_eq_false_iff_not]; exact h
theorem szB_iff {n m : Int} : szB n m = true ↔ -m ≤ n ∧ n ≤ m := by simp [szB]
/-- Is there such a way? -/
def wyB (n : Int) : Bool := decide (0 ≤ n ∧ n ≤ 5)

theorem mul_bd (a b : Int) (h1 : -1000000000000 ≤ a) (h2 : a ≤ 1000000000000) (h3 : -1000000 ≤ b) (h4 : b ≤ 1000000) : -1000000000000000000 ≤ a * b ∧ a * b ≤ 1000000000000000000 := by
  have h5 : a.natAbs ≤ 1000000000000 := by omega
  have h6 : b.natAbs ≤ 1000000 := by omega
  have h7 : (a * b).natAbs ≤ 1000000000000 * 1000000 := by rw [Int.natAbs_mul]; exact Nat.mul_le_mul h5 h6
  omega

set_option maxHeartbeats 1000000 in
theorem isWay_any (n : Int) (w : World) : Calls Tryz.prog 93 #[.int .i64 n] w fun e w' => e = .returned (.bool (wyB n)) ∧ w' = w := by
  by_cases h0 : 0 ≤ n
  · have HE : Hid (wyB n = decide (n ≤ 5)) := by show _ = _; simp [wyB, h0]
    have hd : decide (0 ≤ n) = true := by simpa using h0
    go_enter Tryz.func93, Tryz.ntmps93
    go_wp2
    go_ret
    exact ⟨ret_bool HE.out.symm, rfl⟩
  · have HE : Hid (wyB n = false) := by show _ = _; simp [wyB, h0]
    have hd : decide (0 ≤ n) = false := by simpa using h0
    go_enter Tryz.func93, Tryz.ntmps93
    go_wp2
    go_ret
    exact ⟨ret_bool HE.out.symm, rfl⟩

set_option maxHeartbeats 1000000 in
theorem sized_any (n m : Int) (w : World) (hm0 : 0 ≤ m) (hm : m ≤ 1000000000000) : Calls Tryz.prog 95 #[.int .i64 n, .int .i64 m] w fun e w' => e = .returned (.bool (szB n m)) ∧ w' = w := by
  by_cases h0 : -m ≤ n
  · have HE : Hid (szB n m = decide (n ≤ m)) := by show _ = _; simp [szB, h0]
    have hd : decide (-m ≤ n) = true := by simpa using h0
    go_enter Tryz.func95, Tryz.ntmps95
    go_wp2
    go_ret
    exact ⟨ret_bool HE.out.symm, rfl⟩
  · have HE : Hid (szB n m = false) := by show _ = _; simp [szB, h0]
    have hd : decide (-m ≤ n) = false := by simpa using h0
    go_enter Tryz.func95, Tryz.ntmps95
    go_wp2
    go_ret
    exact ⟨ret_bool HE.out.symm, rfl⟩

theorem isAmount_any (n : Int) (w : World) : Calls Tryz.prog 94 #[.int .i64 n] w fun e w' => e = .returned (.bool (szB n 1000000000000)) ∧ w' = w := by
  have H := hidIt (fun w => sized_any n 1000000000000 w (by omega) (by omega))
  generalize szB n 1000000000000 = b at *
  go_enter Tryz.func94, Tryz.ntmps94
  go_wp2_with (go_at_call 95; refine (H.out _).mono ?_; rintro e w' ⟨rfl, rfl⟩)
  go_ret
  exact ⟨rfl, rfl⟩
set_option maxHeartbeats 1000000 in
theorem small_any (n : Int) (w : World) : Calls Tryz.prog 29 #[.int .i64 n] w fun e w' => e = .returned (.bool (szB n 1000000000000)) ∧ w' = w := by
  by_cases h0 : n ≤ 1000000000000
  · have HE : Hid (szB n 1000000000000 = decide (-1000000000000 ≤ n)) := by show _ = _; simp [szB, h0]
    have hd : decide (n ≤ 1000000000000) = true := by simpa using h0
    go_enter Tryz.func29, Tryz.ntmps29
    go_wp2
    go_ret
    exact ⟨ret_bool HE.out.symm, rfl⟩
  · have HE : Hid (szB n 1000000000000 = false) := by show _ = _; simp [szB, h0]
    have hd : decide (n ≤ 1000000000000) = false := by simpa using h0
    go_enter Tryz.func29, Tryz.ntmps29
    go_wp2
    go_ret
    exact ⟨ret_bool HE.out.symm, rfl⟩

set_option maxHeartbeats 2000000 in
theorem refIsWay_any (n : Int) (w : World) : Calls Tryz.prog 46 #[.int .i64 n] w fun e w' => e = .returned (.bool (wyB n)) ∧ w' = w := by
  by_cases h : 0 ≤ n ∧ n ≤ 5
  · rcases lz_way h.1 h.2 with rfl | rfl | rfl | rfl | rfl | rfl
    all_goals
      go_enter Tryz.func46, Tryz.ntmps46
      go_wp2
      go_ret
      exact ⟨rfl, rfl⟩
  · have HE : Hid (wyB n = false) := by show _ = _; simp only [wyB, decide_eq_false_iff_not]; exact h
    have e0 : (n == 0) = false := by simp; omega
    have e1 : (n == 1) = false := by simp; omega
    have e2 : (n == 2) = false := by simp; omega
    have e3 : (n == 3) = false := by simp; omega
    have e4 : (n == 4) = false := by simp; omega
    have e5 : (n == 5) = false := by simp; omega
    clear h
    go_enter Tryz.func46, Tryz.ntmps46
    go_wp2
    go_ret
    exact ⟨ret_bool HE.out.symm, rfl⟩

set_option maxHeartbeats 2000000 in
theorem part_kind (amount rate way : Int) (a : Addr) (w : World) (hc : w.cell? ⟨2, 0, none⟩ = some (.iface 193 (.pointer (some a)))) (hw : wyB way = false) :
    Calls Tryz.prog 87 #[.int .i64 amount, .int .i64 rate, .int .i64 way] w fun e w' => e = .returned (.tuple #[.int .i64 0, .iface 193 (.pointer (some a))]) ∧ ∃ k, w' = w.drewN k := by
  go_enter Tryz.func87, Tryz.ntmps87
  go_wp2_with (first | (go_at_call 93; refine (isWay_any _ _).mono ?_; rintro e w' ⟨rfl, rfl⟩) | (go_at_call 94; refine (isAmount_any _ _).mono ?_; rintro e w' ⟨rfl, rfl⟩) | (go_at_call 95; refine (sized_any _ _ _ (by omega) (by omega)).mono ?_; rintro e w' ⟨rfl, rfl⟩) | (go_at_call 96; refine (rounded_any _ _ _ (by omega) (by omega) (by omega) (by omega)).mono ?_; rintro e w' ⟨rfl, nk, rfl⟩))
  go_quiet (fail)
  go_wp2
  go_ret2
  exact ⟨rfl, _, rfl⟩

set_option maxHeartbeats 2000000 in
theorem part_great (amount rate way : Int) (a : Addr) (w : World) (hc : w.cell? ⟨3, 0, none⟩ = some (.iface 193 (.pointer (some a)))) (hw : wyB way = true) (hs : szB amount 1000000000000 = false ∨ szB amount 1000000000000 = true ∧ szB rate 1000000 = false) :
    Calls Tryz.prog 87 #[.int .i64 amount, .int .i64 rate, .int .i64 way] w fun e w' => e = .returned (.tuple #[.int .i64 0, .iface 193 (.pointer (some a))]) ∧ ∃ k, w' = w.drewN k := by
  rcases hs with hs | ⟨hs, hr⟩
  all_goals
    go_enter Tryz.func87, Tryz.ntmps87
    go_wp2_with (first | (go_at_call 93; refine (isWay_any _ _).mono ?_; rintro e w' ⟨rfl, rfl⟩) | (go_at_call 94; refine (isAmount_any _ _).mono ?_; rintro e w' ⟨rfl, rfl⟩) | (go_at_call 95; refine (sized_any _ _ _ (by omega) (by omega)).mono ?_; rintro e w' ⟨rfl, rfl⟩) | (go_at_call 96; refine (rounded_any _ _ _ (by omega) (by omega) (by omega) (by omega)).mono ?_; rintro e w' ⟨rfl, nk, rfl⟩))
    go_quiet (fail)
    go_wp2
    go_ret2
    exact ⟨rfl, _, rfl⟩

set_option maxHeartbeats 2000000 in
theorem part_over (amount rate way : Int) (a : Addr) (w : World) (hc : w.cell? ⟨3, 0, none⟩ = some (.iface 193 (.pointer (some a)))) (hw : wyB way = true) (hs : szB amount 1000000000000 = true) (hr : szB rate 1000000 = true) (hn : szB (rnd (amount * rate) way) 1000000000000 = false) :
    Calls Tryz.prog 87 #[.int .i64 amount, .int .i64 rate, .int .i64 way] w fun e w' => e = .returned (.tuple #[.int .i64 0, .iface 193 (.pointer (some a))]) ∧ ∃ k, w' = w.drewN k := by
  have ⟨a1, a2⟩ := szB_iff.1 hs
  have ⟨a3, a4⟩ := szB_iff.1 hr
  have ⟨a5, a6⟩ := mul_bd amount rate (by omega) a2 (by omega) a4
  have ⟨a7, a8⟩ : 0 ≤ way ∧ way ≤ 5 := by simpa [wyB] using hw
  go_enter Tryz.func87, Tryz.ntmps87
  go_wp2_with (first | (go_at_call 93; refine (isWay_any _ _).mono ?_; rintro e w' ⟨rfl, rfl⟩) | (go_at_call 94; refine (isAmount_any _ _).mono ?_; rintro e w' ⟨rfl, rfl⟩) | (go_at_call 95; refine (sized_any _ _ _ (by omega) (by omega)).mono ?_; rintro e w' ⟨rfl, rfl⟩) | (go_at_call 96; refine (rounded_any _ _ _ (by omega) (by omega) (by omega) (by omega)).mono ?_; rintro e w' ⟨rfl, nk, rfl⟩))
  go_quiet (fail)
  go_wp2
  go_ret2
  exact ⟨rfl, _, World.drewN_drewN _ _ _⟩

set_option maxHeartbeats 2000000 in
theorem part_ok (amount rate way : Int) (w : World) (hw : wyB way = true) (hs : szB amount 1000000000000 = true) (hr : szB rate 1000000 = true) (hn : szB (rnd (amount * rate) way) 1000000000000 = true) :
    Calls Tryz.prog 87 #[.int .i64 amount, .int .i64 rate, .int .i64 way] w fun e w' => e = .returned (.tuple #[.int .i64 (rnd (amount * rate) way), .nilIface]) ∧ ∃ k, w' = w.drewN k := by
  have ⟨a1, a2⟩ := szB_iff.1 hs
  have ⟨a3, a4⟩ := szB_iff.1 hr
  have ⟨a5, a6⟩ := mul_bd amount rate (by omega) a2 (by omega) a4
  have ⟨a7, a8⟩ : 0 ≤ way ∧ way ≤ 5 := by simpa [wyB] using hw
  go_enter Tryz.func87, Tryz.ntmps87
  go_wp2_with (first | (go_at_call 93; refine (isWay_any _ _).mono ?_; rintro e w' ⟨rfl, rfl⟩) | (go_at_call 94; refine (isAmount_any _ _).mono ?_; rintro e w' ⟨rfl, rfl⟩) | (go_at_call 95; refine (sized_any _ _ _ (by omega) (by omega)).mono ?_; rintro e w' ⟨rfl, rfl⟩) | (go_at_call 96; refine (rounded_any _ _ _ (by omega) (by omega) (by omega) (by omega)).mono ?_; rintro e w' ⟨rfl, nk, rfl⟩))
  go_ret2
  exact ⟨rfl, _, rfl⟩

set_option maxHeartbeats 2000000 in
theorem refPart_kind (amount rate way : Int) (w : World) (hw : wyB way = false) :
    Calls Tryz.prog 33 #[.int .i64 amount, .int .i64 rate, .int .i64 way] w fun e w' => e = .returned (.tuple #[.int .i64 0, .int .i64 9]) ∧ w' = w := by
  go_enter Tryz.func33, Tryz.ntmps33
  go_wp2_with (first | (go_at_call 46; refine (refIsWay_any _ _).mono ?_; rintro e w' ⟨rfl, rfl⟩) | (go_at_call 29; refine (small_any _ _).mono ?_; rintro e w' ⟨rfl, rfl⟩) | (go_at_call 47; refine (round_any _ _ _ (by omega) (by omega) (by omega) (by omega)).mono ?_; rintro e w' ⟨rfl, rfl⟩))
  go_ret2
  exact ⟨rfl, rfl⟩

set_option maxHeartbeats 2000000 in
theorem refPart_great (amount rate way : Int) (w : World) (hw : wyB way = true) (hs : szB amount 1000000000000 = false ∨ szB amount 1000000000000 = true ∧ szB rate 1000000 = false) :
    Calls Tryz.prog 33 #[.int .i64 amount, .int .i64 rate, .int .i64 way] w fun e w' => e = .returned (.tuple #[.int .i64 0, .int .i64 3]) ∧ w' = w := by
  rcases hs with hs | ⟨hs, hr⟩
  · go_enter Tryz.func33, Tryz.ntmps33
    go_wp2_with (first | (go_at_call 46; refine (refIsWay_any _ _).mono ?_; rintro e w' ⟨rfl, rfl⟩) | (go_at_call 29; refine (small_any _ _).mono ?_; rintro e w' ⟨rfl, rfl⟩) | (go_at_call 47; refine (round_any _ _ _ (by omega) (by omega) (by omega) (by omega)).mono ?_; rintro e w' ⟨rfl, rfl⟩))
    go_ret2
    exact ⟨rfl, rfl⟩
  · by_cases hg : 1000000 < rate
    · clear hr
      have hd : decide (1000000 < rate) = true := by simpa using hg
      go_enter Tryz.func33, Tryz.ntmps33
      go_wp2_with (first | (go_at_call 46; refine (refIsWay_any _ _).mono ?_; rintro e w' ⟨rfl, rfl⟩) | (go_at_call 29; refine (small_any _ _).mono ?_; rintro e w' ⟨rfl, rfl⟩) | (go_at_call 47; refine (round_any _ _ _ (by omega) (by omega) (by omega) (by omega)).mono ?_; rintro e w' ⟨rfl, rfl⟩))
      go_ret2
      exact ⟨rfl, rfl⟩
    · have hl : rate < -1000000 := by
        have h3 : ¬ (-1000000 ≤ rate ∧ rate ≤ 1000000) := fun h => by rw [szB_t h.1 h.2] at hr; cases hr
        omega
      have hd : decide (1000000 < rate) = false := by simpa using hg
      have hd2 : decide (rate < -1000000) = true := by simpa using hl
      clear hr
      go_enter Tryz.func33, Tryz.ntmps33
      go_wp2_with (first | (go_at_call 46; refine (refIsWay_any _ _).mono ?_; rintro e w' ⟨rfl, rfl⟩) | (go_at_call 29; refine (small_any _ _).mono ?_; rintro e w' ⟨rfl, rfl⟩) | (go_at_call 47; refine (round_any _ _ _ (by omega) (by omega) (by omega) (by omega)).mono ?_; rintro e w' ⟨rfl, rfl⟩))
      go_ret2
      exact ⟨rfl, rfl⟩

set_option maxHeartbeats 2000000 in
theorem refPart_over (amount rate way : Int) (w : World) (hw : wyB way = true) (hs : szB amount 1000000000000 = true) (hr : szB rate 1000000 = true) (hn : szB (rnd (amount * rate) way) 1000000000000 = false) :
    Calls Tryz.prog 33 #[.int .i64 amount, .int .i64 rate, .int .i64 way] w fun e w' => e = .returned (.tuple #[.int .i64 0, .int .i64 3]) ∧ w' = w := by
  have ⟨a1, a2⟩ := szB_iff.1 hs
  have ⟨a3, a4⟩ := szB_iff.1 hr
  have ⟨a5, a6⟩ := mul_bd amount rate (by omega) a2 (by omega) a4
  have ⟨a7, a8⟩ : 0 ≤ way ∧ way ≤ 5 := by simpa [wyB] using hw
  have d1 : decide (1000000 < rate) = false := by simp; omega
  have d2 : decide (rate < -1000000) = false := by simp; omega
  go_enter Tryz.func33, Tryz.ntmps33
  go_wp2_with (first | (go_at_call 46; refine (refIsWay_any _ _).mono ?_; rintro e w' ⟨rfl, rfl⟩) | (go_at_call 29; refine (small_any _ _).mono ?_; rintro e w' ⟨rfl, rfl⟩) | (go_at_call 47; refine (round_any _ _ _ (by omega) (by omega) (by omega) (by omega)).mono ?_; rintro e w' ⟨rfl, rfl⟩))
  go_ret2
  exact ⟨rfl, rfl⟩

set_option maxHeartbeats 2000000 in
theorem refPart_ok (amount rate way : Int) (w : World) (hw : wyB way = true) (hs : szB amount 1000000000000 = true) (hr : szB rate 1000000 = true) (hn : szB (rnd (amount * rate) way) 1000000000000 = true) :
    Calls Tryz.prog 33 #[.int .i64 amount, .int .i64 rate, .int .i64 way] w fun e w' => e = .returned (.tuple #[.int .i64 (rnd (amount * rate) way), .int .i64 0]) ∧ w' = w := by
  have ⟨a1, a2⟩ := szB_iff.1 hs
  have ⟨a3, a4⟩ := szB_iff.1 hr
  have ⟨a5, a6⟩ := mul_bd amount rate (by omega) a2 (by omega) a4
  have ⟨a7, a8⟩ : 0 ≤ way ∧ way ≤ 5 := by simpa [wyB] using hw
  have d1 : decide (1000000 < rate) = false := by simp; omega
  have d2 : decide (rate < -1000000) = false := by simp; omega
  go_enter Tryz.func33, Tryz.ntmps33
  go_wp2_with (first | (go_at_call 46; refine (refIsWay_any _ _).mono ?_; rintro e w' ⟨rfl, rfl⟩) | (go_at_call 29; refine (small_any _ _).mono ?_; rintro e w' ⟨rfl, rfl⟩) | (go_at_call 47; refine (round_any _ _ _ (by omega) (by omega) (by omega) (by omega)).mono ?_; rintro e w' ⟨rfl, rfl⟩))
  go_ret2
  exact ⟨rfl, rfl⟩

end Go.Proofs.YtcfeflkhmncmjaaGreatDoor
namespace Go.Proofs.YtcfeflkhmncmjaaGreatDoor
open Go.RowKit

def errV (p : Nat → Addr) (c : Nat) : Value := .iface 193 (.pointer (some (p (c - 1))))
theorem val_sz (x : Int) : valB x = szB x 1000000000000 := by
  unfold valB szB
  by_cases h1 : -1000000000000 ≤ x <;> by_cases h2 : x ≤ 1000000000000 <;> simp [h1, h2]
set_option maxHeartbeats 4000000 in
set_option maxRecDepth 20000 in
theorem isOrdered_f (s : ByteArray) (a b : Int) (w : World) : Calls Tryz.prog 88 #[.string s, .int .i64 a, .int .i64 b] w fun e w' => e = .returned (.bool (ordI (kdOf s) a b)) ∧ w' = w := by
  have q0 := kq_lt s
  have q1 := kq_le s
  have q2 := kq_eq s
  have q3 := kq_ne s
  have q4 := kq_ge s
  cases hk : kdOf s <;> rw [hk] at q0 q1 q2 q3 q4 <;> clear hk <;> simp only [reduceCtorEq, decide_false, decide_true] at q0 q1 q2 q3 q4
  all_goals go_enter Tryz.func88, Tryz.ntmps88
  all_goals go_wp2
  all_goals go_ret
  all_goals first
    | exact ⟨rfl, rfl⟩
    | (refine ⟨retBo ?_, rfl⟩; simp [ordI]; done)
    | (refine ⟨retBo ?_, rfl⟩; unfold ordI; by_cases h : a = b <;> simp [h])
/-- A question in a row. -/
structure QA (w : World) (g o : Nat) (cs : Array Value) (a : Addr) (who : Int) (sum : Bool) (sv : Value) (h x : Int) : Prop where
  blk : w.heap[g]? = some (.cells cs 129 (0, 0))
  sz : o + 5 < cs.size
  c0 : cs[o]? = some (.pointer (some a))
  c1 : cs[o + 1]? = some (.int .i64 who)
  c2 : cs[o + 2]? = some (.bool sum)
  c3 : cs[o + 3]? = some sv
  c4 : cs[o + 4]? = some (.int .i64 h)
  c5 : cs[o + 5]? = some (.int .i64 x)
section
variable {w : World} {g o : Nat} {cs : Array Value} {a : Addr} {who : Int} {sum : Bool} {sv : Value} {h x : Int}
theorem QA.cell (q : QA w g o cs a who sum sv h x) {i : Nat} {v : Value} (hi : cs[i]? = some v) : w.cell? ⟨g, i, none⟩ = some v := by rw [cell_of_row _ g i _ _ _ q.blk]; exact hi
theorem QA.frz (q : QA w g o cs a who sum sv h x) (i : Nat) : w.frozen? ⟨g, i, none⟩ = false := by simp [World.frozen?, q.blk]
theorem QA.set4 (q : QA w g o cs a who sum sv h x) (h' : Int) : QA (w.setCell ⟨g, o + 4, none⟩ (.int .i64 h')) g o (cs.setIfInBounds (o + 4) (.int .i64 h')) a who sum sv h' x := by
  have := q.sz
  refine ⟨heap_setCell_same _ _ _ _ _ _ q.blk, by simpa using q.sz, ?_, ?_, ?_, ?_, ?_, ?_⟩
  all_goals rw [Array.getElem?_setIfInBounds]
  · rw [if_neg (by omega)]; exact q.c0
  · rw [if_neg (by omega)]; exact q.c1
  · rw [if_neg (by omega)]; exact q.c2
  · rw [if_neg (by omega)]; exact q.c3
  · rw [if_pos rfl, if_pos (by omega)]
  · rw [if_neg (by omega)]; exact q.c5
theorem QA.set5 (q : QA w g o cs a who sum sv h x) (x' : Int) : QA (w.setCell ⟨g, o + 5, none⟩ (.int .i64 x')) g o (cs.setIfInBounds (o + 5) (.int .i64 x')) a who sum sv h x' := by
  have := q.sz
  refine ⟨heap_setCell_same _ _ _ _ _ _ q.blk, by simpa using q.sz, ?_, ?_, ?_, ?_, ?_, ?_⟩
  all_goals rw [Array.getElem?_setIfInBounds]
  · rw [if_neg (by omega)]; exact q.c0
  · rw [if_neg (by omega)]; exact q.c1
  · rw [if_neg (by omega)]; exact q.c2
  · rw [if_neg (by omega)]; exact q.c3
  · rw [if_neg (by omega)]; exact q.c4
  · rw [if_pos rfl, if_pos (by omega)]
theorem QA.on {w' : World} (q : QA w g o cs a who sum sv h x) (hb : w'.heap[g]? = w.heap[g]?) : QA w' g o cs a who sum sv h x := ⟨hb.trans q.blk, q.sz, q.c0, q.c1, q.c2, q.c3, q.c4, q.c5⟩
end
def chkE (p : Nat → Addr) (x : Int) : Value := if valB x then .nilIface else errV p 3
theorem checkSize_f {w : World} {g o : Nat} {x : Int} {p : Nat → Addr} (hc : w.cell? ⟨g, o + 5, none⟩ = some (.int .i64 x)) (hL : w.cell? ⟨3, 0, none⟩ = some (errV p 3)) :
    Calls Tryz.prog 68 #[.pointer (some ⟨g, o, none⟩)] w fun e w' => e = .returned (chkE p x) ∧ w' = w := by
  have HV := hidLL (isValue_f x)
  unfold errV at hL
  unfold chkE errV
  cases hv : valB x
  all_goals rw [hv] at HV
  all_goals go_enter Tryz.func68, Tryz.ntmps68
  all_goals go_wp2_with (go_at_call 37; refine (HV.out _).mono ?_; rintro e w' ⟨rfl, rfl⟩)
  all_goals go_ret
  all_goals exact ⟨rfl, rfl⟩
theorem truth_g (b : Bool) (w : World) : Calls Tryz.prog 78 #[.bool b] w fun e w' => e = .returned (.int .i64 (trI b)) ∧ w' = w := by
  cases b
  all_goals go_enter Tryz.func78, Tryz.ntmps78
  all_goals go_wp2
  all_goals go_ret
  all_goals exact ⟨rfl, rfl⟩
/-- What a hearing of one of two leaves. -/
def oneV (k : Kd) (h x v : Int) : Int := if h = 1 then v else two k x v
set_option maxHeartbeats 8000000 in
set_option maxRecDepth 20000 in
theorem hearOne_f {w : World} {S : Nat → Prop} {g o : Nat} {cs : Array Value} {a : Addr} {who : Int} {sum : Bool} {sv : Value} {h x : Int} {t : Tr} (q : QA w g o cs a who sum sv h x) (hN : NdAt w S a t) (v : Int) (hx : -1000000000000 ≤ x ∧ x ≤ 1000000000000) (hv : -1000000000000 ≤ v ∧ v ≤ 1000000000000) :
    Calls Tryz.prog 82 #[.pointer (some ⟨g, o, none⟩), .int .i64 v] w fun e w' => e = .returned (.tuple #[]) ∧ w' = w.setCell ⟨g, o + 5, none⟩ (.int .i64 (oneV (kdOf t.kind) h x v)) := by
  obtain ⟨b, bo, ka, kc, rfl, hn⟩ := hN.is
  have z0 := hn.h0
  have d0 := q.cell q.c0
  have d4 := q.cell q.c4
  have d5 := q.cell q.c5
  have df := q.frz (o + 5)
  obtain ⟨hx1, hx2⟩ := hx
  obtain ⟨hv1, hv2⟩ := hv
  have HO := hidLL (isOrdered_f t.kind x v)
  have HT := hidLL truth_g
  have q0 := kq_plus t.kind
  have q1 := kq_minus t.kind
  have q2 := kq_max t.kind
  have q3 := kq_min t.kind
  clear hN hn q
  unfold oneV
  by_cases h1 : h = 1
  · subst h1
    rw [if_pos rfl]
    go_enter Tryz.func82, Tryz.ntmps82
    go_wp2
    refine bodyPost_ret (results_none rfl _ _ _) rfl ?_
    exact ⟨rfl, rfl⟩
  · rw [if_neg h1]
    have hb : (h == (1 : Int)) = false := by simpa using h1
    clear h1
    have w1 : IntKind.i64.wrap (x + v) = x + v := by rw [IntKind.wrap_i64]; omega
    have w2 : IntKind.i64.wrap (x - v) = x - v := by rw [IntKind.wrap_i64]; omega
    rcases Int.le_total v x with hvx | hvx
    · have m1 : max x v = x := Int.max_eq_left hvx
      have m2 : min x v = v := Int.min_eq_right hvx
      cases hk : kdOf t.kind <;> rw [hk] at q0 q1 q2 q3 HO <;> clear hk <;> simp only [reduceCtorEq, decide_false, decide_true] at q0 q1 q2 q3 <;> unfold two <;> simp only [m1, m2]
      all_goals go_enter Tryz.func82, Tryz.ntmps82
      all_goals go_wp2_with (first | (go_at_call 88; refine (HO.out _).mono ?_; rintro e w' ⟨rfl, rfl⟩) | (go_at_call 78; refine (HT.out _ _).mono ?_; rintro e w' ⟨rfl, rfl⟩))
      all_goals first | (go_end0; exact ⟨rfl, rfl⟩) | (go_end0; (have hxv : x = v := (by omega)); exact ⟨rfl, by rw [hxv]⟩)
    · have m1 : max x v = v := Int.max_eq_right hvx
      have m2 : min x v = x := Int.min_eq_left hvx
      cases hk : kdOf t.kind <;> rw [hk] at q0 q1 q2 q3 HO <;> clear hk <;> simp only [reduceCtorEq, decide_false, decide_true] at q0 q1 q2 q3 <;> unfold two <;> simp only [m1, m2]
      all_goals go_enter Tryz.func82, Tryz.ntmps82
      all_goals go_wp2_with (first | (go_at_call 88; refine (HO.out _).mono ?_; rintro e w' ⟨rfl, rfl⟩) | (go_at_call 78; refine (HT.out _ _).mono ?_; rintro e w' ⟨rfl, rfl⟩))
      all_goals first | (go_end0; exact ⟨rfl, rfl⟩) | (go_end0; (have hxv : x = v := (by omega)); exact ⟨rfl, by rw [hxv]⟩)
set_option maxHeartbeats 8000000 in
set_option maxRecDepth 20000 in
theorem hearTimes_f {w : World} {S : Nat → Prop} {g o : Nat} {cs : Array Value} {a : Addr} {who : Int} {sum : Bool} {sv : Value} {h x : Int} {t : Tr} {p : Nat → Addr} (q : QA w g o cs a who sum sv h x) (hN : NdAt w S a t) (v : Int) (hv : -1000000000000 ≤ v ∧ v ≤ 1000000000000) (hL : Laid w p) :
    Calls Tryz.prog 81 #[.pointer (some ⟨g, o, none⟩), .int .i64 v, .int .i64 4] w fun e w' => match hearP .times t.num 0 x v with
      | .err c => e = .returned (errV p c) ∧ FrX (· = g) w w'
      | .ok x' => e = .returned .nilIface ∧ ∃ k, w' = (w.drewN k).setCell ⟨g, o + 5, none⟩ (.int .i64 x') := by
  obtain ⟨b, bo, ka, kc, rfl, hn⟩ := hN.is
  have z2 := hn.h2
  have d0 := q.cell q.c0
  have d5 := q.cell q.c5
  have df := q.frz (o + 5)
  have g8 : w.cell? ⟨2, 0, none⟩ = some (.iface 193 (.pointer (some (p 8)))) := hL.cell 8 (by decide)
  have g2 : w.cell? ⟨3, 0, none⟩ = some (.iface 193 (.pointer (some (p 2)))) := hL.cell 2 (by decide)
  have hs : szB v 1000000000000 = true := by rw [szB_iff]; exact hv
  clear hN hn hL
  unfold hearP
  by_cases h1 : t.num < 0
  · simp only [h1, true_or, if_true]
    clear q
    go_enter Tryz.func81, Tryz.ntmps81
    go_wp2
    go_ret
    exact ⟨rfl, FrX.refl _ _⟩
  · by_cases h2 : 1000000 < t.num
    · simp only [h2, or_true, if_true]
      clear q
      go_enter Tryz.func81, Tryz.ntmps81
      go_wp2
      go_ret
      exact ⟨rfl, FrX.refl _ _⟩
    · simp only [h1, h2, or_self, if_false]
      have hr : szB t.num 1000000 = true := by rw [szB_iff]; omega
      unfold chk
      rw [val_sz]
      cases hz : szB (rnd (v * t.num) 4) 1000000000000
      · have HP := hidLL (part_over v t.num 4 (p 2) w g2 (by decide) hs hr hz)
        simp only [Bool.false_eq_true, if_false]
        clear q hz
        go_enter Tryz.func81, Tryz.ntmps81
        go_wp2_with fail
        refine HP.out.mono ?_
        rintro e w' ⟨rfl, k, rfl⟩
        go_wp2
        go_ret
        exact ⟨rfl, (FrX.refl (· = g) w |>.drewN k).setCell rfl _⟩
      · have HP := hidLL (part_ok v t.num 4 w (by decide) hs hr hz)
        simp only [if_true]
        clear q hz
        go_enter Tryz.func81, Tryz.ntmps81
        go_wp2_with fail
        refine HP.out.mono ?_
        rintro e w' ⟨rfl, k, rfl⟩
        go_wp2
        go_ret
        exact ⟨rfl, k, rfl⟩
end Go.Proofs.YtcfeflkhmncmjaaGreatDoor
namespace Go.Proofs.YtcfeflkhmncmjaaGreatDoor
open Go.RowKit

/-- What is left of the other questions. -/
structure QK (w w' : World) (g o : Nat) (cs : Array Value) (a : Addr) (who : Int) (sum : Bool) (sv : Value) (h x : Int) : Prop where
  fr : FrX (· = g) w w'
  qa : ∃ cs', QA w' g o cs' a who sum sv h x ∧ cs'.size = cs.size ∧ ∀ j, j < o ∨ o + 5 < j → cs'[j]? = cs[j]?
theorem QA.both {w : World} {g o : Nat} {cs : Array Value} {a : Addr} {who : Int} {sum : Bool} {sv : Value} {h x : Int} (q : QA w g o cs a who sum sv h x) (h' x' : Int) (n : Nat) : QK w (((w.setCell ⟨g, o + 4, none⟩ (.int .i64 h')).drewN n).setCell ⟨g, o + 5, none⟩ (.int .i64 x')) g o cs a who sum sv h' x' := by
  refine ⟨(((FrX.refl (· = g) w).setCell rfl _).drewN n).setCell rfl _, _, ((q.set4 h').on (w' := (w.setCell ⟨g, o + 4, none⟩ (.int .i64 h')).drewN n) rfl).set5 x', by simp, fun j hj => ?_⟩
  rw [Array.getElem?_setIfInBounds, if_neg (by omega), Array.getElem?_setIfInBounds, if_neg (by omega)]
def HearIs (w : World) (g o : Nat) (cs : Array Value) (a : Addr) (who : Int) (sum : Bool) (sv : Value) (h : Nat) (p : Nat → Addr) (r : Rs) (e : Ending) (w' : World) : Prop :=
  match r with
  | .err c => e = .returned (errV p c) ∧ FrX (· = g) w w'
  | .ok x' => e = .returned .nilIface ∧ QK w w' g o cs a who sum sv (h + 1) x'
theorem hear_chk {w : World} {g o : Nat} {cs : Array Value} {a : Addr} {who : Int} {sum : Bool} {sv : Value} {h : Nat} {x : Int} {p : Nat → Addr} (q : QA w g o cs a who sum sv h x) (x' : Int) : HearIs w g o cs a who sum sv h p (chk x') (.returned (chkE p x')) ((w.setCell ⟨g, o + 4, none⟩ (.int .i64 (h + 1))).setCell ⟨g, o + 5, none⟩ (.int .i64 x')) := by
  have hb := q.both ((h : Int) + 1) x' 0
  unfold chk chkE
  cases valB x'
  · exact ⟨rfl, hb.fr⟩
  · exact ⟨rfl, hb⟩

set_option maxHeartbeats 8000000 in
set_option maxRecDepth 20000 in
theorem hear_p {w : World} {S : Nat → Prop} {g o : Nat} {cs : Array Value} {a : Addr} {who : Int} {sum : Bool} {sv : Value} {h : Nat} {x : Int} {t : Tr} {p : Nat → Addr} (q : QA w g o cs a who sum sv h x) (hN : NdAt w S a t) (hS : ∀ k, S k → k ≠ g) (v : Int) (hx : -1000000000000 ≤ x ∧ x ≤ 1000000000000) (hv : -1000000000000 ≤ v ∧ v ≤ 1000000000000) (hL : ∀ w', FrX (· = g) w w' → Laid w' p) (hh : h ≤ 1000) :
    Calls Tryz.prog 70 #[.pointer (some ⟨g, o, none⟩), .int .i64 v, .int .i64 4] w (HearIs w g o cs a who sum sv h p (hearP (kdOf t.kind) t.num h x v)) := by
  obtain ⟨W, hW⟩ : ∃ W, W = w.setCell ⟨g, o + 4, none⟩ (.int .i64 ((h : Int) + 1)) := ⟨_, rfl⟩
  have hFW : FrX (· = g) w W := by rw [hW]; exact (FrX.refl (· = g) w).setCell rfl _
  have hNW : NdAt W S a t := hN.step fun k hk hs => ⟨hFW.block k hk (hS k hs), hs⟩
  have hqW : QA W g o (cs.setIfInBounds (o + 4) (.int .i64 ((h : Int) + 1))) a who sum sv ((h : Int) + 1) x := by rw [hW]; exact q.set4 _
  have HTi := hidLL (hearTimes_f hqW hNW v hv (hL W hFW))
  have HOn := hidLL (hearOne_f hqW hNW v hx hv)
  have HCk : Hid (∀ x', Calls Tryz.prog 68 #[.pointer (some ⟨g, o, none⟩)] (W.setCell ⟨g, o + 5, none⟩ (.int .i64 x')) fun e w' => e = .returned (chkE p x') ∧ w' = W.setCell ⟨g, o + 5, none⟩ (.int .i64 x')) := fun x' => by
    have h1 := hqW.set5 x'
    exact checkSize_f (h1.cell h1.c5) ((hL _ (hFW.setCell rfl _)).cell 2 (by decide))
  obtain ⟨b, bo, ka, kc, rfl, hn⟩ := hNW.is
  have z0 := hn.h0
  have d0 := q.cell q.c0
  have d4 := q.cell q.c4
  have df := q.frz (o + 4)
  have e0 := hqW.cell hqW.c0
  have e5 := hqW.cell hqW.c5
  have ef := hqW.frz (o + 5)
  have hwr : IntKind.i64.wrap ((h : Int) + 1) = (h : Int) + 1 := by rw [IntKind.wrap_i64]; omega
  have hws : IntKind.i64.wrap (1 - v) = 1 - v := by rw [IntKind.wrap_i64]; omega
  have HW := hidLL hW
  have HQ := hidLL q
  have q0 := kq_or t.kind
  have q1 := kq_some t.kind
  have q2 := kq_and t.kind
  have q3 := kq_every t.kind
  have q4 := kq_not t.kind
  have q5 := kq_times t.kind
  have HChk : Hid (∀ x', HearIs w g o cs ⟨b, bo, none⟩ who sum sv h p (chk x') (.returned (chkE p x')) (W.setCell ⟨g, o + 5, none⟩ (.int .i64 x'))) := fun x' => by
    rw [hW]
    exact hear_chk q x'
  have HBoth : Hid (∀ x' n, QK w ((W.drewN n).setCell ⟨g, o + 5, none⟩ (.int .i64 x')) g o cs ⟨b, bo, none⟩ who sum sv ((h : Int) + 1) x') := fun x' n => by
    rw [hW]
    exact q.both _ x' n
  have HFW := hidLL hFW
  have hone : oneV (kdOf t.kind) ((h : Int) + 1) x v = if h = 0 then v else two (kdOf t.kind) x v := by
    unfold oneV
    by_cases h0 : h = 0
    · rw [if_pos h0, if_pos (by omega)]
    · rw [if_neg h0, if_neg (by omega)]
  rw [hone] at HOn
  clear hone q hN hS hL hFW hNW hqW hn hW
  cases hk : kdOf t.kind <;> rw [hk] at q0 q1 q2 q3 q4 q5 HOn <;> clear hk <;> simp only [reduceCtorEq, decide_false, decide_true] at q0 q1 q2 q3 q4 q5
  · show Calls Tryz.prog _ _ w (HearIs w g o cs ⟨b, bo, none⟩ who sum sv h p (chk (max x v)))
    rcases Int.le_total v x with hvx | hvx
    · rw [Int.max_eq_left hvx]
      go_enter Tryz.func70, Tryz.ntmps70
      go_upto_region 2 with fail
      rw [← HW.out]
      go_wp2_with (go_at_call 68; refine (HCk.out _).mono ?_; rintro e w' ⟨rfl, rfl⟩)
      all_goals (go_ret; first | exact HChk.out _ | (rw [show x = v by omega]; exact HChk.out _))
    · rw [Int.max_eq_right hvx]
      go_enter Tryz.func70, Tryz.ntmps70
      go_upto_region 2 with fail
      rw [← HW.out]
      go_wp2_with (go_at_call 68; refine (HCk.out _).mono ?_; rintro e w' ⟨rfl, rfl⟩)
      all_goals (go_ret; first | exact HChk.out _ | (rw [show x = v by omega]; exact HChk.out _))
  · show Calls Tryz.prog _ _ w (HearIs w g o cs ⟨b, bo, none⟩ who sum sv h p (chk (min x v)))
    rcases Int.le_total v x with hvx | hvx
    · rw [Int.min_eq_right hvx]
      go_enter Tryz.func70, Tryz.ntmps70
      go_upto_region 2 with fail
      rw [← HW.out]
      go_wp2_with (go_at_call 68; refine (HCk.out _).mono ?_; rintro e w' ⟨rfl, rfl⟩)
      all_goals (go_ret; first | exact HChk.out _ | (rw [show x = v by omega]; exact HChk.out _))
    · rw [Int.min_eq_left hvx]
      go_enter Tryz.func70, Tryz.ntmps70
      go_upto_region 2 with fail
      rw [← HW.out]
      go_wp2_with (go_at_call 68; refine (HCk.out _).mono ?_; rintro e w' ⟨rfl, rfl⟩)
      all_goals (go_ret; first | exact HChk.out _ | (rw [show x = v by omega]; exact HChk.out _))
  · show Calls Tryz.prog _ _ w (HearIs w g o cs ⟨b, bo, none⟩ who sum sv h p (chk (1 - v)))
    go_enter Tryz.func70, Tryz.ntmps70
    go_upto_region 2 with fail
    rw [← HW.out]
    go_wp2_with (go_at_call 68; refine (HCk.out _).mono ?_; rintro e w' ⟨rfl, rfl⟩)
    go_ret
    exact HChk.out _
  · show Calls Tryz.prog _ _ w (HearIs w g o cs ⟨b, bo, none⟩ who sum sv h p (chk (max x v)))
    rcases Int.le_total v x with hvx | hvx
    · rw [Int.max_eq_left hvx]
      go_enter Tryz.func70, Tryz.ntmps70
      go_upto_region 2 with fail
      rw [← HW.out]
      go_wp2_with (go_at_call 68; refine (HCk.out _).mono ?_; rintro e w' ⟨rfl, rfl⟩)
      all_goals (go_ret; first | exact HChk.out _ | (rw [show x = v by omega]; exact HChk.out _))
    · rw [Int.max_eq_right hvx]
      go_enter Tryz.func70, Tryz.ntmps70
      go_upto_region 2 with fail
      rw [← HW.out]
      go_wp2_with (go_at_call 68; refine (HCk.out _).mono ?_; rintro e w' ⟨rfl, rfl⟩)
      all_goals (go_ret; first | exact HChk.out _ | (rw [show x = v by omega]; exact HChk.out _))
  · show Calls Tryz.prog _ _ w (HearIs w g o cs ⟨b, bo, none⟩ who sum sv h p (chk (min x v)))
    rcases Int.le_total v x with hvx | hvx
    · rw [Int.min_eq_right hvx]
      go_enter Tryz.func70, Tryz.ntmps70
      go_upto_region 2 with fail
      rw [← HW.out]
      go_wp2_with (go_at_call 68; refine (HCk.out _).mono ?_; rintro e w' ⟨rfl, rfl⟩)
      all_goals (go_ret; first | exact HChk.out _ | (rw [show x = v by omega]; exact HChk.out _))
    · rw [Int.min_eq_left hvx]
      go_enter Tryz.func70, Tryz.ntmps70
      go_upto_region 2 with fail
      rw [← HW.out]
      go_wp2_with (go_at_call 68; refine (HCk.out _).mono ?_; rintro e w' ⟨rfl, rfl⟩)
      all_goals (go_ret; first | exact HChk.out _ | (rw [show x = v by omega]; exact HChk.out _))
  · by_cases h0 : h = 0
    · have hp : hearP .name t.num h x v = chk v := by unfold hearP; simp only [h0, if_true]
      rw [hp]
      rw [if_pos h0] at HOn
      clear hp h0
      go_enter Tryz.func70, Tryz.ntmps70
      go_upto_region 2 with fail
      rw [← HW.out]
      go_wp2_with (first | (go_at_call 82; refine HOn.out.mono ?_; rintro e w' ⟨rfl, rfl⟩) | (go_at_call 68; refine (HCk.out _).mono ?_; rintro e w' ⟨rfl, rfl⟩))
      go_ret
      exact HChk.out _
    · have hp : hearP .name t.num h x v = chk (two .name x v) := by unfold hearP; simp only [h0, if_false]
      rw [hp]
      rw [if_neg h0] at HOn
      obtain ⟨TT, hTT⟩ : ∃ TT, TT = two .name x v := ⟨_, rfl⟩
      rw [← hTT] at HOn ⊢
      clear hp h0 hTT
      go_enter Tryz.func70, Tryz.ntmps70
      go_upto_region 2 with fail
      rw [← HW.out]
      go_wp2_with (first | (go_at_call 82; refine HOn.out.mono ?_; rintro e w' ⟨rfl, rfl⟩) | (go_at_call 68; refine (HCk.out _).mono ?_; rintro e w' ⟨rfl, rfl⟩))
      go_ret
      exact HChk.out _
  · by_cases h0 : h = 0
    · have hp : hearP .lt t.num h x v = chk v := by unfold hearP; simp only [h0, if_true]
      rw [hp]
      rw [if_pos h0] at HOn
      clear hp h0
      go_enter Tryz.func70, Tryz.ntmps70
      go_upto_region 2 with fail
      rw [← HW.out]
      go_wp2_with (first | (go_at_call 82; refine HOn.out.mono ?_; rintro e w' ⟨rfl, rfl⟩) | (go_at_call 68; refine (HCk.out _).mono ?_; rintro e w' ⟨rfl, rfl⟩))
      go_ret
      exact HChk.out _
    · have hp : hearP .lt t.num h x v = chk (two .lt x v) := by unfold hearP; simp only [h0, if_false]
      rw [hp]
      rw [if_neg h0] at HOn
      obtain ⟨TT, hTT⟩ : ∃ TT, TT = two .lt x v := ⟨_, rfl⟩
      rw [← hTT] at HOn ⊢
      clear hp h0 hTT
      go_enter Tryz.func70, Tryz.ntmps70
      go_upto_region 2 with fail
      rw [← HW.out]
      go_wp2_with (first | (go_at_call 82; refine HOn.out.mono ?_; rintro e w' ⟨rfl, rfl⟩) | (go_at_call 68; refine (HCk.out _).mono ?_; rintro e w' ⟨rfl, rfl⟩))
      go_ret
      exact HChk.out _
  · by_cases h0 : h = 0
    · have hp : hearP .le t.num h x v = chk v := by unfold hearP; simp only [h0, if_true]
      rw [hp]
      rw [if_pos h0] at HOn
      clear hp h0
      go_enter Tryz.func70, Tryz.ntmps70
      go_upto_region 2 with fail
      rw [← HW.out]
      go_wp2_with (first | (go_at_call 82; refine HOn.out.mono ?_; rintro e w' ⟨rfl, rfl⟩) | (go_at_call 68; refine (HCk.out _).mono ?_; rintro e w' ⟨rfl, rfl⟩))
      go_ret
      exact HChk.out _
    · have hp : hearP .le t.num h x v = chk (two .le x v) := by unfold hearP; simp only [h0, if_false]
      rw [hp]
      rw [if_neg h0] at HOn
      obtain ⟨TT, hTT⟩ : ∃ TT, TT = two .le x v := ⟨_, rfl⟩
      rw [← hTT] at HOn ⊢
      clear hp h0 hTT
      go_enter Tryz.func70, Tryz.ntmps70
      go_upto_region 2 with fail
      rw [← HW.out]
      go_wp2_with (first | (go_at_call 82; refine HOn.out.mono ?_; rintro e w' ⟨rfl, rfl⟩) | (go_at_call 68; refine (HCk.out _).mono ?_; rintro e w' ⟨rfl, rfl⟩))
      go_ret
      exact HChk.out _
  · by_cases h0 : h = 0
    · have hp : hearP .eq t.num h x v = chk v := by unfold hearP; simp only [h0, if_true]
      rw [hp]
      rw [if_pos h0] at HOn
      clear hp h0
      go_enter Tryz.func70, Tryz.ntmps70
      go_upto_region 2 with fail
      rw [← HW.out]
      go_wp2_with (first | (go_at_call 82; refine HOn.out.mono ?_; rintro e w' ⟨rfl, rfl⟩) | (go_at_call 68; refine (HCk.out _).mono ?_; rintro e w' ⟨rfl, rfl⟩))
      go_ret
      exact HChk.out _
    · have hp : hearP .eq t.num h x v = chk (two .eq x v) := by unfold hearP; simp only [h0, if_false]
      rw [hp]
      rw [if_neg h0] at HOn
      obtain ⟨TT, hTT⟩ : ∃ TT, TT = two .eq x v := ⟨_, rfl⟩
      rw [← hTT] at HOn ⊢
      clear hp h0 hTT
      go_enter Tryz.func70, Tryz.ntmps70
      go_upto_region 2 with fail
      rw [← HW.out]
      go_wp2_with (first | (go_at_call 82; refine HOn.out.mono ?_; rintro e w' ⟨rfl, rfl⟩) | (go_at_call 68; refine (HCk.out _).mono ?_; rintro e w' ⟨rfl, rfl⟩))
      go_ret
      exact HChk.out _
  · by_cases h0 : h = 0
    · have hp : hearP .ne t.num h x v = chk v := by unfold hearP; simp only [h0, if_true]
      rw [hp]
      rw [if_pos h0] at HOn
      clear hp h0
      go_enter Tryz.func70, Tryz.ntmps70
      go_upto_region 2 with fail
      rw [← HW.out]
      go_wp2_with (first | (go_at_call 82; refine HOn.out.mono ?_; rintro e w' ⟨rfl, rfl⟩) | (go_at_call 68; refine (HCk.out _).mono ?_; rintro e w' ⟨rfl, rfl⟩))
      go_ret
      exact HChk.out _
    · have hp : hearP .ne t.num h x v = chk (two .ne x v) := by unfold hearP; simp only [h0, if_false]
      rw [hp]
      rw [if_neg h0] at HOn
      obtain ⟨TT, hTT⟩ : ∃ TT, TT = two .ne x v := ⟨_, rfl⟩
      rw [← hTT] at HOn ⊢
      clear hp h0 hTT
      go_enter Tryz.func70, Tryz.ntmps70
      go_upto_region 2 with fail
      rw [← HW.out]
      go_wp2_with (first | (go_at_call 82; refine HOn.out.mono ?_; rintro e w' ⟨rfl, rfl⟩) | (go_at_call 68; refine (HCk.out _).mono ?_; rintro e w' ⟨rfl, rfl⟩))
      go_ret
      exact HChk.out _
  · by_cases h0 : h = 0
    · have hp : hearP .ge t.num h x v = chk v := by unfold hearP; simp only [h0, if_true]
      rw [hp]
      rw [if_pos h0] at HOn
      clear hp h0
      go_enter Tryz.func70, Tryz.ntmps70
      go_upto_region 2 with fail
      rw [← HW.out]
      go_wp2_with (first | (go_at_call 82; refine HOn.out.mono ?_; rintro e w' ⟨rfl, rfl⟩) | (go_at_call 68; refine (HCk.out _).mono ?_; rintro e w' ⟨rfl, rfl⟩))
      go_ret
      exact HChk.out _
    · have hp : hearP .ge t.num h x v = chk (two .ge x v) := by unfold hearP; simp only [h0, if_false]
      rw [hp]
      rw [if_neg h0] at HOn
      obtain ⟨TT, hTT⟩ : ∃ TT, TT = two .ge x v := ⟨_, rfl⟩
      rw [← hTT] at HOn ⊢
      clear hp h0 hTT
      go_enter Tryz.func70, Tryz.ntmps70
      go_upto_region 2 with fail
      rw [← HW.out]
      go_wp2_with (first | (go_at_call 82; refine HOn.out.mono ?_; rintro e w' ⟨rfl, rfl⟩) | (go_at_call 68; refine (HCk.out _).mono ?_; rintro e w' ⟨rfl, rfl⟩))
      go_ret
      exact HChk.out _
  · by_cases h0 : h = 0
    · have hp : hearP .gt t.num h x v = chk v := by unfold hearP; simp only [h0, if_true]
      rw [hp]
      rw [if_pos h0] at HOn
      clear hp h0
      go_enter Tryz.func70, Tryz.ntmps70
      go_upto_region 2 with fail
      rw [← HW.out]
      go_wp2_with (first | (go_at_call 82; refine HOn.out.mono ?_; rintro e w' ⟨rfl, rfl⟩) | (go_at_call 68; refine (HCk.out _).mono ?_; rintro e w' ⟨rfl, rfl⟩))
      go_ret
      exact HChk.out _
    · have hp : hearP .gt t.num h x v = chk (two .gt x v) := by unfold hearP; simp only [h0, if_false]
      rw [hp]
      rw [if_neg h0] at HOn
      obtain ⟨TT, hTT⟩ : ∃ TT, TT = two .gt x v := ⟨_, rfl⟩
      rw [← hTT] at HOn ⊢
      clear hp h0 hTT
      go_enter Tryz.func70, Tryz.ntmps70
      go_upto_region 2 with fail
      rw [← HW.out]
      go_wp2_with (first | (go_at_call 82; refine HOn.out.mono ?_; rintro e w' ⟨rfl, rfl⟩) | (go_at_call 68; refine (HCk.out _).mono ?_; rintro e w' ⟨rfl, rfl⟩))
      go_ret
      exact HChk.out _
  · by_cases h0 : h = 0
    · have hp : hearP .number t.num h x v = chk v := by unfold hearP; simp only [h0, if_true]
      rw [hp]
      rw [if_pos h0] at HOn
      clear hp h0
      go_enter Tryz.func70, Tryz.ntmps70
      go_upto_region 2 with fail
      rw [← HW.out]
      go_wp2_with (first | (go_at_call 82; refine HOn.out.mono ?_; rintro e w' ⟨rfl, rfl⟩) | (go_at_call 68; refine (HCk.out _).mono ?_; rintro e w' ⟨rfl, rfl⟩))
      go_ret
      exact HChk.out _
    · have hp : hearP .number t.num h x v = chk (two .number x v) := by unfold hearP; simp only [h0, if_false]
      rw [hp]
      rw [if_neg h0] at HOn
      obtain ⟨TT, hTT⟩ : ∃ TT, TT = two .number x v := ⟨_, rfl⟩
      rw [← hTT] at HOn ⊢
      clear hp h0 hTT
      go_enter Tryz.func70, Tryz.ntmps70
      go_upto_region 2 with fail
      rw [← HW.out]
      go_wp2_with (first | (go_at_call 82; refine HOn.out.mono ?_; rintro e w' ⟨rfl, rfl⟩) | (go_at_call 68; refine (HCk.out _).mono ?_; rintro e w' ⟨rfl, rfl⟩))
      go_ret
      exact HChk.out _
  · by_cases h0 : h = 0
    · have hp : hearP .count t.num h x v = chk v := by unfold hearP; simp only [h0, if_true]
      rw [hp]
      rw [if_pos h0] at HOn
      clear hp h0
      go_enter Tryz.func70, Tryz.ntmps70
      go_upto_region 2 with fail
      rw [← HW.out]
      go_wp2_with (first | (go_at_call 82; refine HOn.out.mono ?_; rintro e w' ⟨rfl, rfl⟩) | (go_at_call 68; refine (HCk.out _).mono ?_; rintro e w' ⟨rfl, rfl⟩))
      go_ret
      exact HChk.out _
    · have hp : hearP .count t.num h x v = chk (two .count x v) := by unfold hearP; simp only [h0, if_false]
      rw [hp]
      rw [if_neg h0] at HOn
      obtain ⟨TT, hTT⟩ : ∃ TT, TT = two .count x v := ⟨_, rfl⟩
      rw [← hTT] at HOn ⊢
      clear hp h0 hTT
      go_enter Tryz.func70, Tryz.ntmps70
      go_upto_region 2 with fail
      rw [← HW.out]
      go_wp2_with (first | (go_at_call 82; refine HOn.out.mono ?_; rintro e w' ⟨rfl, rfl⟩) | (go_at_call 68; refine (HCk.out _).mono ?_; rintro e w' ⟨rfl, rfl⟩))
      go_ret
      exact HChk.out _
  · by_cases h0 : h = 0
    · have hp : hearP .total t.num h x v = chk v := by unfold hearP; simp only [h0, if_true]
      rw [hp]
      rw [if_pos h0] at HOn
      clear hp h0
      go_enter Tryz.func70, Tryz.ntmps70
      go_upto_region 2 with fail
      rw [← HW.out]
      go_wp2_with (first | (go_at_call 82; refine HOn.out.mono ?_; rintro e w' ⟨rfl, rfl⟩) | (go_at_call 68; refine (HCk.out _).mono ?_; rintro e w' ⟨rfl, rfl⟩))
      go_ret
      exact HChk.out _
    · have hp : hearP .total t.num h x v = chk (two .total x v) := by unfold hearP; simp only [h0, if_false]
      rw [hp]
      rw [if_neg h0] at HOn
      obtain ⟨TT, hTT⟩ : ∃ TT, TT = two .total x v := ⟨_, rfl⟩
      rw [← hTT] at HOn ⊢
      clear hp h0 hTT
      go_enter Tryz.func70, Tryz.ntmps70
      go_upto_region 2 with fail
      rw [← HW.out]
      go_wp2_with (first | (go_at_call 82; refine HOn.out.mono ?_; rintro e w' ⟨rfl, rfl⟩) | (go_at_call 68; refine (HCk.out _).mono ?_; rintro e w' ⟨rfl, rfl⟩))
      go_ret
      exact HChk.out _
  · by_cases h0 : h = 0
    · have hp : hearP .plus t.num h x v = chk v := by unfold hearP; simp only [h0, if_true]
      rw [hp]
      rw [if_pos h0] at HOn
      clear hp h0
      go_enter Tryz.func70, Tryz.ntmps70
      go_upto_region 2 with fail
      rw [← HW.out]
      go_wp2_with (first | (go_at_call 82; refine HOn.out.mono ?_; rintro e w' ⟨rfl, rfl⟩) | (go_at_call 68; refine (HCk.out _).mono ?_; rintro e w' ⟨rfl, rfl⟩))
      go_ret
      exact HChk.out _
    · have hp : hearP .plus t.num h x v = chk (two .plus x v) := by unfold hearP; simp only [h0, if_false]
      rw [hp]
      rw [if_neg h0] at HOn
      obtain ⟨TT, hTT⟩ : ∃ TT, TT = two .plus x v := ⟨_, rfl⟩
      rw [← hTT] at HOn ⊢
      clear hp h0 hTT
      go_enter Tryz.func70, Tryz.ntmps70
      go_upto_region 2 with fail
      rw [← HW.out]
      go_wp2_with (first | (go_at_call 82; refine HOn.out.mono ?_; rintro e w' ⟨rfl, rfl⟩) | (go_at_call 68; refine (HCk.out _).mono ?_; rintro e w' ⟨rfl, rfl⟩))
      go_ret
      exact HChk.out _
  · by_cases h0 : h = 0
    · have hp : hearP .minus t.num h x v = chk v := by unfold hearP; simp only [h0, if_true]
      rw [hp]
      rw [if_pos h0] at HOn
      clear hp h0
      go_enter Tryz.func70, Tryz.ntmps70
      go_upto_region 2 with fail
      rw [← HW.out]
      go_wp2_with (first | (go_at_call 82; refine HOn.out.mono ?_; rintro e w' ⟨rfl, rfl⟩) | (go_at_call 68; refine (HCk.out _).mono ?_; rintro e w' ⟨rfl, rfl⟩))
      go_ret
      exact HChk.out _
    · have hp : hearP .minus t.num h x v = chk (two .minus x v) := by unfold hearP; simp only [h0, if_false]
      rw [hp]
      rw [if_neg h0] at HOn
      obtain ⟨TT, hTT⟩ : ∃ TT, TT = two .minus x v := ⟨_, rfl⟩
      rw [← hTT] at HOn ⊢
      clear hp h0 hTT
      go_enter Tryz.func70, Tryz.ntmps70
      go_upto_region 2 with fail
      rw [← HW.out]
      go_wp2_with (first | (go_at_call 82; refine HOn.out.mono ?_; rintro e w' ⟨rfl, rfl⟩) | (go_at_call 68; refine (HCk.out _).mono ?_; rintro e w' ⟨rfl, rfl⟩))
      go_ret
      exact HChk.out _
  · have hcase : hearP .times t.num h x v = hearP .times t.num 0 x v := rfl
    rw [hcase]
    obtain ⟨RR, hRR⟩ : ∃ RR, RR = hearP .times t.num 0 x v := ⟨_, rfl⟩
    rw [← hRR] at HTi ⊢
    clear hRR hcase
    cases RR with
    | err c =>
      go_enter Tryz.func70, Tryz.ntmps70
      go_upto_region 2 with fail
      rw [← HW.out]
      go_wp2_with fail
      refine HTi.out.mono ?_
      rintro e w' ⟨rfl, hf⟩
      have HF := hidLL (HFW.out.trans hf)
      clear hf
      unfold errV
      go_wp2
      go_ret
      exact ⟨rfl, HF.out⟩
    | ok x' =>
      go_enter Tryz.func70, Tryz.ntmps70
      go_upto_region 2 with fail
      rw [← HW.out]
      go_wp2_with fail
      refine HTi.out.mono ?_
      rintro e w' ⟨rfl, k, rfl⟩
      go_wp2
      go_ret
      exact ⟨rfl, HBoth.out x' k⟩
  · by_cases h0 : h = 0
    · have hp : hearP .max t.num h x v = chk v := by unfold hearP; simp only [h0, if_true]
      rw [hp]
      rw [if_pos h0] at HOn
      clear hp h0
      go_enter Tryz.func70, Tryz.ntmps70
      go_upto_region 2 with fail
      rw [← HW.out]
      go_wp2_with (first | (go_at_call 82; refine HOn.out.mono ?_; rintro e w' ⟨rfl, rfl⟩) | (go_at_call 68; refine (HCk.out _).mono ?_; rintro e w' ⟨rfl, rfl⟩))
      go_ret
      exact HChk.out _
    · have hp : hearP .max t.num h x v = chk (two .max x v) := by unfold hearP; simp only [h0, if_false]
      rw [hp]
      rw [if_neg h0] at HOn
      obtain ⟨TT, hTT⟩ : ∃ TT, TT = two .max x v := ⟨_, rfl⟩
      rw [← hTT] at HOn ⊢
      clear hp h0 hTT
      go_enter Tryz.func70, Tryz.ntmps70
      go_upto_region 2 with fail
      rw [← HW.out]
      go_wp2_with (first | (go_at_call 82; refine HOn.out.mono ?_; rintro e w' ⟨rfl, rfl⟩) | (go_at_call 68; refine (HCk.out _).mono ?_; rintro e w' ⟨rfl, rfl⟩))
      go_ret
      exact HChk.out _
  · by_cases h0 : h = 0
    · have hp : hearP .min t.num h x v = chk v := by unfold hearP; simp only [h0, if_true]
      rw [hp]
      rw [if_pos h0] at HOn
      clear hp h0
      go_enter Tryz.func70, Tryz.ntmps70
      go_upto_region 2 with fail
      rw [← HW.out]
      go_wp2_with (first | (go_at_call 82; refine HOn.out.mono ?_; rintro e w' ⟨rfl, rfl⟩) | (go_at_call 68; refine (HCk.out _).mono ?_; rintro e w' ⟨rfl, rfl⟩))
      go_ret
      exact HChk.out _
    · have hp : hearP .min t.num h x v = chk (two .min x v) := by unfold hearP; simp only [h0, if_false]
      rw [hp]
      rw [if_neg h0] at HOn
      obtain ⟨TT, hTT⟩ : ∃ TT, TT = two .min x v := ⟨_, rfl⟩
      rw [← hTT] at HOn ⊢
      clear hp h0 hTT
      go_enter Tryz.func70, Tryz.ntmps70
      go_upto_region 2 with fail
      rw [← HW.out]
      go_wp2_with (first | (go_at_call 82; refine HOn.out.mono ?_; rintro e w' ⟨rfl, rfl⟩) | (go_at_call 68; refine (HCk.out _).mono ?_; rintro e w' ⟨rfl, rfl⟩))
      go_ret
      exact HChk.out _
  · by_cases h0 : h = 0
    · have hp : hearP .bad t.num h x v = chk v := by unfold hearP; simp only [h0, if_true]
      rw [hp]
      rw [if_pos h0] at HOn
      clear hp h0
      go_enter Tryz.func70, Tryz.ntmps70
      go_upto_region 2 with fail
      rw [← HW.out]
      go_wp2_with (first | (go_at_call 82; refine HOn.out.mono ?_; rintro e w' ⟨rfl, rfl⟩) | (go_at_call 68; refine (HCk.out _).mono ?_; rintro e w' ⟨rfl, rfl⟩))
      go_ret
      exact HChk.out _
    · have hp : hearP .bad t.num h x v = chk (two .bad x v) := by unfold hearP; simp only [h0, if_false]
      rw [hp]
      rw [if_neg h0] at HOn
      obtain ⟨TT, hTT⟩ : ∃ TT, TT = two .bad x v := ⟨_, rfl⟩
      rw [← hTT] at HOn ⊢
      clear hp h0 hTT
      go_enter Tryz.func70, Tryz.ntmps70
      go_upto_region 2 with fail
      rw [← HW.out]
      go_wp2_with (first | (go_at_call 82; refine HOn.out.mono ?_; rintro e w' ⟨rfl, rfl⟩) | (go_at_call 68; refine (HCk.out _).mono ?_; rintro e w' ⟨rfl, rfl⟩))
      go_ret
      exact HChk.out _
end Go.Proofs.YtcfeflkhmncmjaaGreatDoor

/-
  Ledgers: small functions of both sides; ContainsFunc of lines (written by tools/genlks.py).
-/
import Derived.Test.YtdeccdmplmclmaaGreatDoorLkMem
import Derived.Test.YtdeccdmplmclmaaGreatDoorBel1
namespace Go.Proofs.YtdeccdmplmclmaaGreatDoor
open Go.RowKit Go.Extern.Stop Go.Stop Go.Extern

theorem isDay_any (n : Int) (w : World) : Calls Tryz.prog 30 #[.int .i64 n] w fun e w' => e = .returned (.bool (isDayB n)) ∧ w' = w := by
  unfold isDayB
  cases h1 : decide (1 ≤ n)
  · go_enter Tryz.func30, Tryz.ntmps30
    go_wp2
    go_ret
    exact ⟨rfl, rfl⟩
  · go_enter Tryz.func30, Tryz.ntmps30
    go_wp2
    go_ret
    exact ⟨rfl, rfl⟩
theorem rIsDay_any (n : Int) (w : World) : Calls Tryz.prog 20 #[.int .i64 n] w fun e w' => e = .returned (.bool (isDayB n)) ∧ w' = w := by
  by_cases h1 : 0 < n
  · have hE : isDayB n = decide (n ≤ 3652059) := by unfold isDayB; rw [show decide (1 ≤ n) = true by simpa using (by omega : 1 ≤ n)]; simp
    rw [hE]
    clear hE
    go_enter Tryz.func20, Tryz.ntmps20
    go_wp2
    go_ret
    exact ⟨rfl, rfl⟩
  · have hE : isDayB n = false := by unfold isDayB; rw [show decide (1 ≤ n) = false by simpa using (by omega : n < 1)]; simp
    rw [hE]
    clear hE
    have h2 : ¬ (0 : Int) < n := h1
    go_enter Tryz.func20, Tryz.ntmps20
    go_wp2
    go_ret
    exact ⟨rfl, rfl⟩
set_option maxHeartbeats 1000000 in
theorem sized_any (n m : Int) (w : World) (hm0 : 0 ≤ m) (hm : m ≤ 1000000000000) : Calls Tryz.prog 50 #[.int .i64 n, .int .i64 m] w fun e w' => e = .returned (.bool (szB n m)) ∧ w' = w := by
  by_cases h0 : -m ≤ n
  · have HE : Hid (szB n m = decide (n ≤ m)) := by show _ = _; simp [szB, h0]
    have hd : decide (-m ≤ n) = true := by simpa using h0
    go_enter Tryz.func50, Tryz.ntmps50
    go_wp2
    go_ret
    exact ⟨retB HE.out.symm, rfl⟩
  · have HE : Hid (szB n m = false) := by show _ = _; simp [szB, h0]
    have hd : decide (-m ≤ n) = false := by simpa using h0
    go_enter Tryz.func50, Tryz.ntmps50
    go_wp2
    go_ret
    exact ⟨retB HE.out.symm, rfl⟩
theorem amount_any (n : Int) (w : World) : Calls Tryz.prog 35 #[.int .i64 n] w fun e w' => e = .returned (.bool (okC n)) ∧ w' = w := by
  have H := hidLL (fun w => sized_any n 1000000000000 w (by omega) (by omega))
  unfold okC
  generalize szB n 1000000000000 = b at *
  go_enter Tryz.func35, Tryz.ntmps35
  go_wp2_with (go_at_call 50; refine (H.out _).mono ?_; rintro e w' ⟨rfl, rfl⟩)
  go_ret
  exact ⟨rfl, rfl⟩
set_option maxHeartbeats 1000000 in
theorem rSmall_any (n : Int) (w : World) : Calls Tryz.prog 23 #[.int .i64 n] w fun e w' => e = .returned (.bool (okC n)) ∧ w' = w := by
  unfold okC
  by_cases h0 : n ≤ 1000000000000
  · have HE : Hid (szB n 1000000000000 = decide (-1000000000000 ≤ n)) := by show _ = _; simp [szB, h0]
    have hd : decide (n ≤ 1000000000000) = true := by simpa using h0
    go_enter Tryz.func23, Tryz.ntmps23
    go_wp2
    go_ret
    exact ⟨retB HE.out.symm, rfl⟩
  · have HE : Hid (szB n 1000000000000 = false) := by show _ = _; simp [szB, h0]
    have hd : decide (n ≤ 1000000000000) = false := by simpa using h0
    go_enter Tryz.func23, Tryz.ntmps23
    go_wp2
    go_ret
    exact ⟨retB HE.out.symm, rfl⟩
theorem any_drop {α : Type} (f : α → Bool) {l : List α} {i : Nat} {x : α} (h : l.drop i = x :: l.drop (i + 1)) : (l.drop i).any f = (f x || (l.drop (i + 1)).any f) := by rw [h, List.any_cons]
theorem take_succ' {α : Type} {l : List α} {i : Nat} {x : α} (h : l[i]? = some x) : l.take (i + 1) = l.take i ++ [x] := by
  rw [List.take_add_one, h]; rfl
theorem there_on {w w' : World} {b o n : Nat} (h : w.there b o n) (hb : w'.heap[b]? = w.heap[b]?) : w'.there b o n := fun j hj => by
  rw [World.cell?_of_block (a := ⟨b, o + j, none⟩) hb, World.frozen?_of_block (a := ⟨b, o + j, none⟩) hb]
  exact h j hj
def badW (x : Ln) : Bool := !isWordB x.acc
def badC (x : Ln) : Bool := !okC x.cents
theorem badW_p (x : Ln) (w : World) : Calls Tryz.prog 28 #[.agg (lnE.f x).toArray] w fun e w' => e = .returned (.bool (badW x)) ∧ Below w.heap.size w w' := by
  obtain ⟨xa, xc⟩ := x
  have HX := hidLL (fun w => isWord_w xa w)
  have HE : Hid (badW ⟨xa, xc⟩ = !isWordB xa) := rfl
  rw [HE.out]
  clear HE
  generalize isWordB xa = b at *
  show Calls Tryz.prog 28 #[.agg #[.string xa, .int .i64 xc]] w _
  go_enter Tryz.func28, Tryz.ntmps28
  go_wp2_with (go_at_call 29; refine (HX.out _).mono ?_; rintro e w' ⟨rfl, rfl⟩)
  go_ret
  exact ⟨rfl, bel1 _ _⟩
theorem badC_p (x : Ln) (w : World) : Calls Tryz.prog 34 #[.agg (lnE.f x).toArray] w fun e w' => e = .returned (.bool (badC x)) ∧ Below w.heap.size w w' := by
  obtain ⟨xa, xc⟩ := x
  have HX := hidLL (fun w => amount_any xc w)
  have HE : Hid (badC ⟨xa, xc⟩ = !okC xc) := rfl
  rw [HE.out]
  clear HE
  generalize okC xc = b at *
  show Calls Tryz.prog 34 #[.agg #[.string xa, .int .i64 xc]] w _
  go_enter Tryz.func34, Tryz.ntmps34
  go_wp2_with (go_at_call 35; refine (HX.out _).mono ?_; rintro e w' ⟨rfl, rfl⟩)
  go_ret
  exact ⟨rfl, bel1 _ _⟩
set_option maxHeartbeats 1000000 in
theorem index_w {B n c : Nat} {a : Option Addr} {l : List Ln} {w : World} (h : RdS lnE w (· < B) (.slice a n c) l) (hB : B ≤ w.heap.size) :
    Calls Tryz.prog 49 #[.slice a n c, .func (.func 28) #[] #[]] w fun e w' => (∃ r : Int, e = .returned (.int .i64 r) ∧ decide (0 ≤ r) = l.any badW) ∧ Below w.heap.size w w' := by
  obtain ⟨hn, hbig⟩ := h.len
  have HR := hidLL (And.intro h hn)
  have HW := hidLL (fun x w => badW_p x w)
  clear h hn
  go_enter Tryz.func49, Tryz.ntmps49
  go_wp2_with fail
  go_loopw [8] (fun t wr => ∃ i : Nat, i ≤ n ∧ t = .int .i64 i ∧ (l.drop i).any badW = l.any badW ∧ Below w.heap.size w wr) (fun t _ => n - (RowKit.intOf t).toNat)
  case atStart => exact ⟨0, by omega, rfl, rfl, Below.refl _ _⟩
  case round =>
    obtain ⟨i, hi, rfl, hA, hb⟩ := hrel
    have HA := hidLL hA
    have HB := hidLL hb
    clear hA hb
    by_cases hlt : i < n
    · have c0 : decide ((i : Int) < n) = true := by simp; omega
      obtain ⟨e, he, hdr⟩ := get_in (l := l) (i := i) (by have := HR.out.2; omega)
      obtain ⟨g, o, rfl, hg, hrg⟩ := HR.out.1.at he
      obtain ⟨q0, q1⟩ := ln_cells (range_bel hrg (HB.out.mono hB) hg)
      have hk : lnE.k = 2 := rfl
      rw [hk] at q0 q1
      clear hk
      have HD := hidLL (any_drop badW hdr)
      have hiz : (i : Int) < n := by omega
      have HWx : Hid (∀ W, Calls Tryz.prog 28 #[.agg #[.string e.acc, .int .i64 e.cents]] W fun x w' => x = .returned (.bool (badW e)) ∧ Below W.heap.size W w') := fun W => HW.out e W
      clear hrg he hdr hg
      generalize badW e = q at *
      cases q
      · go_wp2_with fail
        refine (HWx.out _).mono ?_
        rintro x w1 ⟨rfl, hb1⟩
        have HB1 := hidLL (HB.out.trans (hb1.mono HB.out.size))
        clear hb1
        go_wp2
        go_roundw
        case rel => exact ⟨i + 1, by omega, by go_num, by rw [← HA.out, HD.out]; rfl, HB1.out⟩
        case measure => simp [RowKit.intOf]; omega
      · go_wp2_with fail
        refine (HWx.out _).mono ?_
        rintro x w1 ⟨rfl, hb1⟩
        have HB1 := hidLL (HB.out.trans (hb1.mono HB.out.size))
        clear hb1
        go_wp2
        go_ret
        exact ⟨⟨_, rfl, by rw [← HA.out, HD.out]; simp⟩, HB1.out⟩
    · have c0 : decide ((i : Int) < n) = false := by simp; omega
      have HD : Hid (l.drop i = []) := List.drop_eq_nil_of_le (by have := HR.out.2; omega)
      go_wp2
      go_ret
      exact ⟨⟨_, rfl, by rw [← HA.out, HD.out]; rfl⟩, HB.out⟩
theorem contains_w {B n c : Nat} {a : Option Addr} {l : List Ln} {w : World} (h : RdS lnE w (· < B) (.slice a n c) l) (hB : B ≤ w.heap.size) :
    Calls Tryz.prog 33 #[.slice a n c, .func (.func 28) #[] #[]] w fun e w' => e = .returned (.bool (l.any badW)) ∧ Below w.heap.size w w' := by
  have HI := hidLL (index_w h hB)
  clear h
  generalize l.any badW = q at *
  go_enter Tryz.func33, Tryz.ntmps33
  go_wp2_with fail
  refine HI.out.mono ?_
  rintro e w1 ⟨⟨r, rfl, hq⟩, hb⟩
  have HQ := hidLL hq
  have HB := hidLL hb
  clear hq hb
  go_wp2
  go_ret
  exact ⟨retB HQ.out, HB.out⟩
set_option maxHeartbeats 1000000 in
theorem index_c {B n c : Nat} {a : Option Addr} {l : List Ln} {w : World} (h : RdS lnE w (· < B) (.slice a n c) l) (hB : B ≤ w.heap.size) :
    Calls Tryz.prog 49 #[.slice a n c, .func (.func 34) #[] #[]] w fun e w' => (∃ r : Int, e = .returned (.int .i64 r) ∧ decide (0 ≤ r) = l.any badC) ∧ Below w.heap.size w w' := by
  obtain ⟨hn, hbig⟩ := h.len
  have HR := hidLL (And.intro h hn)
  have HW := hidLL (fun x w => badC_p x w)
  clear h hn
  go_enter Tryz.func49, Tryz.ntmps49
  go_wp2_with fail
  go_loopw [8] (fun t wr => ∃ i : Nat, i ≤ n ∧ t = .int .i64 i ∧ (l.drop i).any badC = l.any badC ∧ Below w.heap.size w wr) (fun t _ => n - (RowKit.intOf t).toNat)
  case atStart => exact ⟨0, by omega, rfl, rfl, Below.refl _ _⟩
  case round =>
    obtain ⟨i, hi, rfl, hA, hb⟩ := hrel
    have HA := hidLL hA
    have HB := hidLL hb
    clear hA hb
    by_cases hlt : i < n
    · have c0 : decide ((i : Int) < n) = true := by simp; omega
      obtain ⟨e, he, hdr⟩ := get_in (l := l) (i := i) (by have := HR.out.2; omega)
      obtain ⟨g, o, rfl, hg, hrg⟩ := HR.out.1.at he
      obtain ⟨q0, q1⟩ := ln_cells (range_bel hrg (HB.out.mono hB) hg)
      have hk : lnE.k = 2 := rfl
      rw [hk] at q0 q1
      clear hk
      have HD := hidLL (any_drop badC hdr)
      have hiz : (i : Int) < n := by omega
      have HWx : Hid (∀ W, Calls Tryz.prog 34 #[.agg #[.string e.acc, .int .i64 e.cents]] W fun x w' => x = .returned (.bool (badC e)) ∧ Below W.heap.size W w') := fun W => HW.out e W
      clear hrg he hdr hg
      generalize badC e = q at *
      cases q
      · go_wp2_with fail
        refine (HWx.out _).mono ?_
        rintro x w1 ⟨rfl, hb1⟩
        have HB1 := hidLL (HB.out.trans (hb1.mono HB.out.size))
        clear hb1
        go_wp2
        go_roundw
        case rel => exact ⟨i + 1, by omega, by go_num, by rw [← HA.out, HD.out]; rfl, HB1.out⟩
        case measure => simp [RowKit.intOf]; omega
      · go_wp2_with fail
        refine (HWx.out _).mono ?_
        rintro x w1 ⟨rfl, hb1⟩
        have HB1 := hidLL (HB.out.trans (hb1.mono HB.out.size))
        clear hb1
        go_wp2
        go_ret
        exact ⟨⟨_, rfl, by rw [← HA.out, HD.out]; simp⟩, HB1.out⟩
    · have c0 : decide ((i : Int) < n) = false := by simp; omega
      have HD : Hid (l.drop i = []) := List.drop_eq_nil_of_le (by have := HR.out.2; omega)
      go_wp2
      go_ret
      exact ⟨⟨_, rfl, by rw [← HA.out, HD.out]; rfl⟩, HB.out⟩
theorem contains_c {B n c : Nat} {a : Option Addr} {l : List Ln} {w : World} (h : RdS lnE w (· < B) (.slice a n c) l) (hB : B ≤ w.heap.size) :
    Calls Tryz.prog 33 #[.slice a n c, .func (.func 34) #[] #[]] w fun e w' => e = .returned (.bool (l.any badC)) ∧ Below w.heap.size w w' := by
  have HI := hidLL (index_c h hB)
  clear h
  generalize l.any badC = q at *
  go_enter Tryz.func33, Tryz.ntmps33
  go_wp2_with fail
  refine HI.out.mono ?_
  rintro e w1 ⟨⟨r, rfl, hq⟩, hb⟩
  have HQ := hidLL hq
  have HB := hidLL hb
  clear hq hb
  go_wp2
  go_ret
  exact ⟨retB HQ.out, HB.out⟩
end Go.Proofs.YtdeccdmplmclmaaGreatDoor

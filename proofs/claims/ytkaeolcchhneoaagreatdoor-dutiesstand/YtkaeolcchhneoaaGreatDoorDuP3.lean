/-
  Duties, the program: what is asked is valid (written by tools/gendup3.py).
-/
import Derived.Test.YtkaeolcchhneoaaGreatDoorDuP2
import Derived.Test.YtkaeolcchhneoaaGreatDoorDay
namespace Go.Proofs.YtkaeolcchhneoaaGreatDoor
open Go.RowKit

def wrongB (d : Du) : Bool := !isDayB d.frm || !isDayB d.til || decide (d.til < d.frm)
def neverB (e : Ev) : Bool := !isDayB e.day
theorem retB {a b : Bool} (h : a = b) : Ending.returned (.bool a) = .returned (.bool b) := by rw [h]
set_option maxHeartbeats 1000000 in
theorem wrong_p (d : Du) (w : World) : Calls Tryz.prog 26 #[.agg (duE.f d).toArray] w fun e w' => e = .returned (.bool (wrongB d)) ∧ Below w.heap.size w w' := by
  obtain ⟨dn, dw, df, dt, de, dN, dU, dR⟩ := d
  have HD := hidIt (fun n w => isDay_any n w)
  have HE : Hid (wrongB ⟨dn, dw, df, dt, de, dN, dU, dR⟩ = (!isDayB df || !isDayB dt || decide (dt < df))) := rfl
  rw [HE.out]
  clear HE
  show Calls Tryz.prog 26 #[.agg #[.string dn, .string dw, .int .i64 df, .int .i64 dt, .string de, .int .i64 dN, .int .i64 dU, .int .i64 dR]] w _
  obtain ⟨x, hx⟩ : ∃ x, x = isDayB df := ⟨_, rfl⟩
  obtain ⟨y, hy⟩ : ∃ y, y = isDayB dt := ⟨_, rfl⟩
  rw [← hx, ← hy]
  have HX := hidIt (fun w => HD.out df w)
  have HY := hidIt (fun w => HD.out dt w)
  rw [← hx] at HX
  rw [← hy] at HY
  clear hx hy HD
  cases x
  · go_enter Tryz.func26, Tryz.ntmps26
    go_wp2_with (go_at_call 21; refine (HX.out _).mono ?_; rintro e w' ⟨rfl, rfl⟩)
    go_ret
    exact ⟨rfl, bel1 _ _⟩
  · cases y
    · go_enter Tryz.func26, Tryz.ntmps26
      go_wp2_with fail
      refine (HX.out _).mono ?_
      rintro e w' ⟨rfl, ew⟩
      subst w'
      go_wp2_with fail
      refine (HY.out _).mono ?_
      rintro e w' ⟨rfl, ew⟩
      subst w'
      go_wp2
      go_ret
      exact ⟨rfl, bel1 _ _⟩
    · go_enter Tryz.func26, Tryz.ntmps26
      go_wp2_with fail
      refine (HX.out _).mono ?_
      rintro e w' ⟨rfl, ew⟩
      subst w'
      go_wp2_with fail
      refine (HY.out _).mono ?_
      rintro e w' ⟨rfl, ew⟩
      subst w'
      go_wp2
      go_ret
      exact ⟨rfl, bel1 _ _⟩
theorem never_p (e : Ev) (w : World) : Calls Tryz.prog 27 #[.agg (evE.f e).toArray] w fun x w' => x = .returned (.bool (neverB e)) ∧ Below w.heap.size w w' := by
  obtain ⟨ed, en, ew, ev⟩ := e
  have HX := hidIt (fun w => isDay_any ed w)
  have HE : Hid (neverB ⟨ed, en, ew, ev⟩ = !isDayB ed) := rfl
  rw [HE.out]
  clear HE
  generalize isDayB ed = x at *
  show Calls Tryz.prog 27 #[.agg #[.int .i64 ed, .string en, .string ew, .bool ev]] w _
  go_enter Tryz.func27, Tryz.ntmps27
  go_wp2_with (go_at_call 21; refine (HX.out _).mono ?_; rintro e w' ⟨rfl, rfl⟩)
  go_ret
  exact ⟨rfl, bel1 _ _⟩
theorem any_drop {α : Type} (f : α → Bool) {l : List α} {i : Nat} {x : α} (h : l.drop i = x :: l.drop (i + 1)) : (l.drop i).any f = (f x || (l.drop (i + 1)).any f) := by rw [h, List.any_cons]
set_option maxHeartbeats 1000000 in
theorem index_d {B n c : Nat} {a : Option Addr} {l : List Du} {w : World} (h : RdG duE w B (.slice a n c) l) (hB : B ≤ w.heap.size) :
    Calls Tryz.prog 38 #[.slice a n c, .func (.func 26) #[] #[]] w fun e w' => (∃ r : Int, e = .returned (.int .i64 r) ∧ decide (0 ≤ r) = l.any wrongB) ∧ Below w.heap.size w w' := by
  obtain ⟨hn, hbig⟩ := h.len
  have HR := hidIt (And.intro h hn)
  have HW := hidIt (fun x w => wrong_p x w)
  clear h hn
  go_enter Tryz.func38, Tryz.ntmps38
  go_wp2_with fail
  go_loopw [8] (fun t wr => ∃ i : Nat, i ≤ n ∧ t = .int .i64 i ∧ (l.drop i).any wrongB = l.any wrongB ∧ Below w.heap.size w wr) (fun t _ => n - (RowKit.intOf t).toNat)
  case atStart => exact ⟨0, by omega, rfl, rfl, Below.refl _ _⟩
  case round =>
    obtain ⟨i, hi, rfl, hA, hb⟩ := hrel
    have HA := hidIt hA
    have HB := hidIt hb
    clear hA hb
    by_cases hlt : i < n
    · have c0 : decide ((i : Int) < n) = true := by simp; omega
      obtain ⟨e, he, hdr⟩ := get_in (l := l) (i := i) (by have := HR.out.2; omega)
      obtain ⟨g, o, rfl, hg, hrg⟩ := HR.out.1.at he
      obtain ⟨q0, q1, q2, q3, q4, q5, q6, q7⟩ := du_cells (range_bel hrg (HB.out.mono hB) hg)
      have hk : duE.k = 8 := rfl
      rw [hk] at q0 q1 q2 q3 q4 q5 q6 q7
      clear hk
      have HD := hidIt (any_drop wrongB hdr)
      have hiz : (i : Int) < n := by omega
      have HWx : Hid (∀ W, Calls Tryz.prog 26 #[.agg #[.string e.nm, .string e.who, .int .i64 e.frm, .int .i64 e.til, .string e.els, .int .i64 e.n, .int .i64 e.u, .int .i64 e.r]] W fun x w' => x = .returned (.bool (wrongB e)) ∧ Below W.heap.size W w') := fun W => HW.out e W
      clear hrg he hdr hg
      generalize wrongB e = q at *
      cases q
      · go_wp2_with fail
        refine (HWx.out _).mono ?_
        rintro x w1 ⟨rfl, hb1⟩
        have HB1 := hidIt (HB.out.trans (hb1.mono HB.out.size))
        clear hb1
        go_wp2
        go_roundw
        case rel => exact ⟨i + 1, by omega, by go_num, by rw [← HA.out, HD.out]; rfl, HB1.out⟩
        case measure => simp [RowKit.intOf]; omega
      · go_wp2_with fail
        refine (HWx.out _).mono ?_
        rintro x w1 ⟨rfl, hb1⟩
        have HB1 := hidIt (HB.out.trans (hb1.mono HB.out.size))
        clear hb1
        go_wp2
        go_ret
        exact ⟨⟨_, rfl, by rw [← HA.out, HD.out]; simp⟩, HB1.out⟩
    · have c0 : decide ((i : Int) < n) = false := by simp; omega
      have HD : Hid (l.drop i = []) := List.drop_eq_nil_of_le (by have := HR.out.2; omega)
      go_wp2
      go_ret
      exact ⟨⟨_, rfl, by rw [← HA.out, HD.out]; rfl⟩, HB.out⟩
theorem contains_d {B n c : Nat} {a : Option Addr} {l : List Du} {w : World} (h : RdG duE w B (.slice a n c) l) (hB : B ≤ w.heap.size) :
    Calls Tryz.prog 28 #[.slice a n c, .func (.func 26) #[] #[]] w fun e w' => e = .returned (.bool (l.any wrongB)) ∧ Below w.heap.size w w' := by
  have HI := hidIt (index_d h hB)
  clear h
  generalize l.any wrongB = q at *
  go_enter Tryz.func28, Tryz.ntmps28
  go_wp2_with fail
  refine HI.out.mono ?_
  rintro e w1 ⟨⟨r, rfl, hq⟩, hb⟩
  have HQ := hidIt hq
  have HB := hidIt hb
  clear hq hb
  go_wp2
  go_ret
  exact ⟨retB HQ.out, HB.out⟩
set_option maxHeartbeats 1000000 in
theorem index_e {B n c : Nat} {a : Option Addr} {l : List Ev} {w : World} (h : RdG evE w B (.slice a n c) l) (hB : B ≤ w.heap.size) :
    Calls Tryz.prog 39 #[.slice a n c, .func (.func 27) #[] #[]] w fun e w' => (∃ r : Int, e = .returned (.int .i64 r) ∧ decide (0 ≤ r) = l.any neverB) ∧ Below w.heap.size w w' := by
  obtain ⟨hn, hbig⟩ := h.len
  have HR := hidIt (And.intro h hn)
  have HW := hidIt (fun x w => never_p x w)
  clear h hn
  go_enter Tryz.func39, Tryz.ntmps39
  go_wp2_with fail
  go_loopw [8] (fun t wr => ∃ i : Nat, i ≤ n ∧ t = .int .i64 i ∧ (l.drop i).any neverB = l.any neverB ∧ Below w.heap.size w wr) (fun t _ => n - (RowKit.intOf t).toNat)
  case atStart => exact ⟨0, by omega, rfl, rfl, Below.refl _ _⟩
  case round =>
    obtain ⟨i, hi, rfl, hA, hb⟩ := hrel
    have HA := hidIt hA
    have HB := hidIt hb
    clear hA hb
    by_cases hlt : i < n
    · have c0 : decide ((i : Int) < n) = true := by simp; omega
      obtain ⟨e, he, hdr⟩ := get_in (l := l) (i := i) (by have := HR.out.2; omega)
      obtain ⟨g, o, rfl, hg, hrg⟩ := HR.out.1.at he
      obtain ⟨q0, q1, q2, q3⟩ := ev_cells (range_bel hrg (HB.out.mono hB) hg)
      have hk : evE.k = 4 := rfl
      rw [hk] at q0 q1 q2 q3
      clear hk
      have HD := hidIt (any_drop neverB hdr)
      have hiz : (i : Int) < n := by omega
      have HWx : Hid (∀ W, Calls Tryz.prog 27 #[.agg #[.int .i64 e.day, .string e.nm, .string e.who, .bool e.wv]] W fun x w' => x = .returned (.bool (neverB e)) ∧ Below W.heap.size W w') := fun W => HW.out e W
      clear hrg he hdr hg
      generalize neverB e = q at *
      cases q
      · go_wp2_with fail
        refine (HWx.out _).mono ?_
        rintro x w1 ⟨rfl, hb1⟩
        have HB1 := hidIt (HB.out.trans (hb1.mono HB.out.size))
        clear hb1
        go_wp2
        go_roundw
        case rel => exact ⟨i + 1, by omega, by go_num, by rw [← HA.out, HD.out]; rfl, HB1.out⟩
        case measure => simp [RowKit.intOf]; omega
      · go_wp2_with fail
        refine (HWx.out _).mono ?_
        rintro x w1 ⟨rfl, hb1⟩
        have HB1 := hidIt (HB.out.trans (hb1.mono HB.out.size))
        clear hb1
        go_wp2
        go_ret
        exact ⟨⟨_, rfl, by rw [← HA.out, HD.out]; simp⟩, HB1.out⟩
    · have c0 : decide ((i : Int) < n) = false := by simp; omega
      have HD : Hid (l.drop i = []) := List.drop_eq_nil_of_le (by have := HR.out.2; omega)
      go_wp2
      go_ret
      exact ⟨⟨_, rfl, by rw [← HA.out, HD.out]; rfl⟩, HB.out⟩
theorem contains_e {B n c : Nat} {a : Option Addr} {l : List Ev} {w : World} (h : RdG evE w B (.slice a n c) l) (hB : B ≤ w.heap.size) :
    Calls Tryz.prog 29 #[.slice a n c, .func (.func 27) #[] #[]] w fun e w' => e = .returned (.bool (l.any neverB)) ∧ Below w.heap.size w w' := by
  have HI := hidIt (index_e h hB)
  clear h
  generalize l.any neverB = q at *
  go_enter Tryz.func29, Tryz.ntmps29
  go_wp2_with fail
  refine HI.out.mono ?_
  rintro e w1 ⟨⟨r, rfl, hq⟩, hb⟩
  have HQ := hidIt hq
  have HB := hidIt hb
  clear hq hb
  go_wp2
  go_ret
  exact ⟨retB HQ.out, HB.out⟩
/-- What an error is as a value. -/
def errV (p : Nat → Addr) : Option Nat → Value
  | none => .nilIface
  | some k => .iface 173 (.pointer (some (p k)))
def validK (l : List Du) (ev : List Ev) (on : Int) : Option Nat := if 200 < l.length ∨ 400 < ev.length then some 1 else if (!isDayB on || l.any wrongB || ev.any neverB) = true then some 3 else none
set_option maxHeartbeats 2000000 in
theorem valid_p {B n c m cc : Nat} {a aa : Option Addr} {l : List Du} {ev : List Ev} {on : Int} {p : Nat → Addr} {w : World} (h : RdG duE w B (.slice a n c) l) (he : RdG evE w B (.slice aa m cc) ev) (hB : B ≤ w.heap.size) (L : Laid w p) :
    Calls Tryz.prog 16 #[.slice a n c, .slice aa m cc, .int .i64 on] w fun e w' => e = .returned (errV p (validK l ev on)) ∧ Below w.heap.size w w' := by
  obtain ⟨hn, hnb⟩ := h.len
  obtain ⟨hm, hmb⟩ := he.len
  have HC1 : Hid (∀ W, Below w.heap.size w W → Calls Tryz.prog 28 #[.slice a n c, .func (.func 26) #[] #[]] W fun e w' => e = .returned (.bool (l.any wrongB)) ∧ Below W.heap.size W w') := fun W hW => contains_d (h.below (hW.mono hB)) (Nat.le_trans hB hW.size)
  have HC2 : Hid (∀ W, Below w.heap.size w W → Calls Tryz.prog 29 #[.slice aa m cc, .func (.func 27) #[] #[]] W fun e w' => e = .returned (.bool (ev.any neverB)) ∧ Below W.heap.size W w') := fun W hW => contains_e (he.below (hW.mono hB)) (Nat.le_trans hB hW.size)
  have HD := hidIt (fun w => isDay_any on w)
  have HL := hidIt L
  unfold validK
  rw [← hn, ← hm]
  clear h he hn hm L
  by_cases hbig : 200 < n ∨ 400 < m
  · rw [if_pos hbig]
    have g1 := HL.out.cell 1 (by omega)
    have g1 : w.cell? ⟨0, 0, none⟩ = some (.iface 173 (.pointer (some (p 1)))) := g1
    by_cases h1 : 200 < n
    · have h1z : (200 : Int) < n := by omega
      go_enter Tryz.func16, Tryz.ntmps16
      go_wp2
      go_ret
      exact ⟨rfl, Below.refl _ _⟩
    · have h1z : ¬ (200 : Int) < n := by omega
      have h2z : (400 : Int) < m := by omega
      go_enter Tryz.func16, Tryz.ntmps16
      go_wp2
      go_ret
      exact ⟨rfl, Below.refl _ _⟩
  · rw [if_neg hbig]
    have h1z : ¬ (200 : Int) < n := by omega
    have h2z : ¬ (400 : Int) < m := by omega
    clear hbig
    have HG : Hid (∀ W, Below w.heap.size w W → W.cell? ⟨1, 0, none⟩ = some (.iface 173 (.pointer (some (p 3))))) := fun W hW => (HL.out.below hW).cell 3 (by omega)
    generalize isDayB on = x at *
    generalize l.any wrongB = y at *
    generalize ev.any neverB = z at *
    cases x
    · have g3 := HG.out w (Below.refl _ _)
      go_enter Tryz.func16, Tryz.ntmps16
      go_wp2_with (go_at_call 21; refine (HD.out _).mono ?_; rintro e w' ⟨rfl, rfl⟩)
      go_ret
      exact ⟨rfl, Below.refl _ _⟩
    · cases y
      · go_enter Tryz.func16, Tryz.ntmps16
        go_wp2_with fail
        refine (HD.out _).mono ?_
        rintro e w1 ⟨rfl, ew⟩
        subst w1
        go_wp2_with fail
        refine (HC1.out _ (Below.refl _ _)).mono ?_
        rintro e w1 ⟨rfl, hb1⟩
        have HB1 := hidIt hb1
        clear hb1
        go_wp2_with fail
        refine (HC2.out _ HB1.out).mono ?_
        rintro e w2 ⟨rfl, hb2⟩
        have HB2 := hidIt (HB1.out.trans (hb2.mono HB1.out.size))
        clear hb2
        have g3 := HG.out w2 HB2.out
        cases z
        · go_wp2
          go_ret
          exact ⟨rfl, HB2.out⟩
        · go_wp2
          go_ret
          exact ⟨rfl, HB2.out⟩
      · go_enter Tryz.func16, Tryz.ntmps16
        go_wp2_with fail
        refine (HD.out _).mono ?_
        rintro e w1 ⟨rfl, ew⟩
        subst w1
        go_wp2_with fail
        refine (HC1.out _ (Below.refl _ _)).mono ?_
        rintro e w1 ⟨rfl, hb1⟩
        have HB1 := hidIt hb1
        have g3 := HG.out w1 hb1
        clear hb1
        go_wp2
        go_ret
        exact ⟨rfl, HB1.out⟩
end Go.Proofs.YtkaeolcchhneoaaGreatDoor

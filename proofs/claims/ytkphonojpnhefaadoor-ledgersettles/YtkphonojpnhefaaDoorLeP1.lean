/-
  Claims, the program: what is wrong with them by themselves (written by tools/genlep1.py).
-/
import Derived.Test.YtkphonojpnhefaaDoorLeMem
import Derived.Test.YtkphonojpnhefaaDoorPartL
import Derived.Test.YtkphonojpnhefaaDoorBel1
namespace Go.Proofs.YtkphonojpnhefaaDoor
open Go.RowKit Go.Extern.Stop Go.Stop Go.Extern

theorem isDay_any (n : Int) (w : World) : Calls Tryd.prog 23 #[.int .i64 n] w fun e w' => e = .returned (.bool (isDayB n)) ∧ w' = w := by
  unfold isDayB
  cases h1 : decide (1 ≤ n)
  · go_enter Tryd.func23, Tryd.ntmps23
    go_wp2
    go_ret
    exact ⟨rfl, rfl⟩
  · go_enter Tryd.func23, Tryd.ntmps23
    go_wp2
    go_ret
    exact ⟨rfl, rfl⟩
theorem amount_any (n : Int) (w : World) : Calls Tryd.prog 25 #[.int .i64 n] w fun e w' => e = .returned (.bool (okC n)) ∧ w' = w := isAmount_any n w
theorem retB {a b : Bool} (h : a = b) : Ending.returned (.bool a) = .returned (.bool b) := by rw [h]
theorem any_drop {α : Type} (f : α → Bool) {l : List α} {i : Nat} {x : α} (h : l.drop i = x :: l.drop (i + 1)) : (l.drop i).any f = (f x || (l.drop (i + 1)).any f) := by rw [h, List.any_cons]
/-! The closures. -/
theorem many_p (dy : Int) (sa : Option Addr) (sn sc : Nat) (w : World) (hs : sn ≤ 17592186044416) : Calls Tryd.prog 21 #[.agg #[.int .i64 dy, .slice sa sn sc]] w fun e w' => e = .returned (.bool (decide (400 < sn))) ∧ Below w.heap.size w w' := by
  have HE : Hid (decide ((400 : Int) < (sn : Int)) = decide (400 < sn)) := by show _ = _; congr 1; simp; omega
  go_enter Tryd.func21, Tryd.ntmps21
  go_wp2
  go_ret
  exact ⟨retB HE.out, bel1 _ _⟩
set_option maxHeartbeats 1000000 in
theorem noTime_p (d : Py) (w : World) : Calls Tryd.prog 22 #[.agg (pyE.f d).toArray] w fun e w' => e = .returned (.bool (noTime d)) ∧ Below w.heap.size w w' := by
  obtain ⟨df, dt, dc⟩ := d
  have HD := hidIt (fun n w => isDay_any n w)
  have HE : Hid (noTime ⟨df, dt, dc⟩ = (!isDayB df || !isDayB dt || decide (dt ≤ df))) := rfl
  rw [HE.out]
  clear HE
  show Calls Tryd.prog 22 #[.agg #[.int .i64 df, .int .i64 dt, .int .i64 dc]] w _
  obtain ⟨x, hx⟩ : ∃ x, x = isDayB df := ⟨_, rfl⟩
  obtain ⟨y, hy⟩ : ∃ y, y = isDayB dt := ⟨_, rfl⟩
  rw [← hx, ← hy]
  have HX := hidIt (fun w => HD.out df w)
  have HY := hidIt (fun w => HD.out dt w)
  rw [← hx] at HX
  rw [← hy] at HY
  clear hx hy HD
  cases x
  · go_enter Tryd.func22, Tryd.ntmps22
    go_wp2_with (go_at_call 23; refine (HX.out _).mono ?_; rintro e w' ⟨rfl, rfl⟩)
    go_ret
    exact ⟨rfl, bel1 _ _⟩
  · cases y
    · go_enter Tryd.func22, Tryd.ntmps22
      go_wp2_with fail
      refine (HX.out _).mono ?_
      rintro e w' ⟨rfl, ew⟩
      subst w'
      go_wp2_with fail
      refine (HY.out _).mono ?_
      rintro e w' ⟨rfl, ew⟩
      subst w'
      go_wp2
      go_ret
      exact ⟨rfl, bel1 _ _⟩
    · go_enter Tryd.func22, Tryd.ntmps22
      go_wp2_with fail
      refine (HX.out _).mono ?_
      rintro e w' ⟨rfl, ew⟩
      subst w'
      go_wp2_with fail
      refine (HY.out _).mono ?_
      rintro e w' ⟨rfl, ew⟩
      subst w'
      go_wp2
      go_ret
      exact ⟨rfl, bel1 _ _⟩
theorem great_p (d : Py) (w : World) : Calls Tryd.prog 24 #[.agg (pyE.f d).toArray] w fun x w' => x = .returned (.bool (great d)) ∧ Below w.heap.size w w' := by
  obtain ⟨df, dt, dc⟩ := d
  have HX := hidIt (fun w => amount_any dc w)
  have HE : Hid (great ⟨df, dt, dc⟩ = !okC dc) := rfl
  rw [HE.out]
  clear HE
  generalize okC dc = x at *
  show Calls Tryd.prog 24 #[.agg #[.int .i64 df, .int .i64 dt, .int .i64 dc]] w _
  go_enter Tryd.func24, Tryd.ntmps24
  go_wp2_with (go_at_call 25; refine (HX.out _).mono ?_; rintro e w' ⟨rfl, rfl⟩)
  go_ret
  exact ⟨rfl, bel1 _ _⟩
set_option maxHeartbeats 1000000 in
theorem index_nt {B n c : Nat} {a : Option Addr} {l : List Py} {w : World} (h : RdS pyE w (· < B) (.slice a n c) l) (hB : B ≤ w.heap.size) :
    Calls Tryd.prog 51 #[.slice a n c, .func (.func 22) #[] #[]] w fun e w' => (∃ r : Int, e = .returned (.int .i64 r) ∧ decide (0 ≤ r) = l.any noTime) ∧ Below w.heap.size w w' := by
  obtain ⟨hn, hbig⟩ := h.len
  have HR := hidIt (And.intro h hn)
  have HW := hidIt (fun x w => noTime_p x w)
  clear h hn
  go_enter Tryd.func51, Tryd.ntmps51
  go_wp2_with fail
  go_loopw [8] (fun t wr => ∃ i : Nat, i ≤ n ∧ t = .int .i64 i ∧ (l.drop i).any noTime = l.any noTime ∧ Below w.heap.size w wr) (fun t _ => n - (RowKit.intOf t).toNat)
  case atStart => exact ⟨0, by omega, rfl, rfl, Below.refl _ _⟩
  case round =>
    obtain ⟨i, hi, rfl, hA, hb⟩ := hrel
    have HA := hidIt hA
    have HB := hidIt hb
    clear hA hb
    by_cases hlt : i < n
    · have c0 : decide ((i : Int) < n) = true := by simp; omega
      obtain ⟨e, he, hdr⟩ := get_in (l := l) (i := i) (by have := HR.out.2; omega)
      obtain ⟨g, o, rfl, hg, hrg⟩ := HR.out.1.at he
      obtain ⟨q0, q1, q2⟩ := py_cells (range_bel hrg (HB.out.mono hB) hg)
      have hk : pyE.k = 3 := rfl
      rw [hk] at q0 q1 q2
      clear hk
      have HD := hidIt (any_drop noTime hdr)
      have hiz : (i : Int) < n := by omega
      have HWx : Hid (∀ W, Calls Tryd.prog 22 #[.agg #[.int .i64 e.frm, .int .i64 e.til, .int .i64 e.cents]] W fun x w' => x = .returned (.bool (noTime e)) ∧ Below W.heap.size W w') := fun W => HW.out e W
      clear hrg he hdr hg
      generalize noTime e = q at *
      cases q
      · go_wp2_with fail
        refine (HWx.out _).mono ?_
        rintro x w1 ⟨rfl, hb1⟩
        have HB1 := hidIt (HB.out.trans (hb1.mono HB.out.size))
        clear hb1
        go_wp2
        go_roundw
        case rel => exact ⟨i + 1, by omega, by go_num, by rw [← HA.out, HD.out]; rfl, HB1.out⟩
        case measure => simp [RowKit.intOf]; omega
      · go_wp2_with fail
        refine (HWx.out _).mono ?_
        rintro x w1 ⟨rfl, hb1⟩
        have HB1 := hidIt (HB.out.trans (hb1.mono HB.out.size))
        clear hb1
        go_wp2
        go_ret
        exact ⟨⟨_, rfl, by rw [← HA.out, HD.out]; simp⟩, HB1.out⟩
    · have c0 : decide ((i : Int) < n) = false := by simp; omega
      have HD : Hid (l.drop i = []) := List.drop_eq_nil_of_le (by have := HR.out.2; omega)
      go_wp2
      go_ret
      exact ⟨⟨_, rfl, by rw [← HA.out, HD.out]; rfl⟩, HB.out⟩
theorem contains_nt {B n c : Nat} {a : Option Addr} {l : List Py} {w : World} (h : RdS pyE w (· < B) (.slice a n c) l) (hB : B ≤ w.heap.size) :
    Calls Tryd.prog 40 #[.slice a n c, .func (.func 22) #[] #[]] w fun e w' => e = .returned (.bool (l.any noTime)) ∧ Below w.heap.size w w' := by
  have HI := hidIt (index_nt h hB)
  clear h
  generalize l.any noTime = q at *
  go_enter Tryd.func40, Tryd.ntmps40
  go_wp2_with fail
  refine HI.out.mono ?_
  rintro e w1 ⟨⟨r, rfl, hq⟩, hb⟩
  have HQ := hidIt hq
  have HB := hidIt hb
  clear hq hb
  go_wp2
  go_ret
  exact ⟨retB HQ.out, HB.out⟩
set_option maxHeartbeats 1000000 in
theorem index_gr {B n c : Nat} {a : Option Addr} {l : List Py} {w : World} (h : RdS pyE w (· < B) (.slice a n c) l) (hB : B ≤ w.heap.size) :
    Calls Tryd.prog 51 #[.slice a n c, .func (.func 24) #[] #[]] w fun e w' => (∃ r : Int, e = .returned (.int .i64 r) ∧ decide (0 ≤ r) = l.any great) ∧ Below w.heap.size w w' := by
  obtain ⟨hn, hbig⟩ := h.len
  have HR := hidIt (And.intro h hn)
  have HW := hidIt (fun x w => great_p x w)
  clear h hn
  go_enter Tryd.func51, Tryd.ntmps51
  go_wp2_with fail
  go_loopw [8] (fun t wr => ∃ i : Nat, i ≤ n ∧ t = .int .i64 i ∧ (l.drop i).any great = l.any great ∧ Below w.heap.size w wr) (fun t _ => n - (RowKit.intOf t).toNat)
  case atStart => exact ⟨0, by omega, rfl, rfl, Below.refl _ _⟩
  case round =>
    obtain ⟨i, hi, rfl, hA, hb⟩ := hrel
    have HA := hidIt hA
    have HB := hidIt hb
    clear hA hb
    by_cases hlt : i < n
    · have c0 : decide ((i : Int) < n) = true := by simp; omega
      obtain ⟨e, he, hdr⟩ := get_in (l := l) (i := i) (by have := HR.out.2; omega)
      obtain ⟨g, o, rfl, hg, hrg⟩ := HR.out.1.at he
      obtain ⟨q0, q1, q2⟩ := py_cells (range_bel hrg (HB.out.mono hB) hg)
      have hk : pyE.k = 3 := rfl
      rw [hk] at q0 q1 q2
      clear hk
      have HD := hidIt (any_drop great hdr)
      have hiz : (i : Int) < n := by omega
      have HWx : Hid (∀ W, Calls Tryd.prog 24 #[.agg #[.int .i64 e.frm, .int .i64 e.til, .int .i64 e.cents]] W fun x w' => x = .returned (.bool (great e)) ∧ Below W.heap.size W w') := fun W => HW.out e W
      clear hrg he hdr hg
      generalize great e = q at *
      cases q
      · go_wp2_with fail
        refine (HWx.out _).mono ?_
        rintro x w1 ⟨rfl, hb1⟩
        have HB1 := hidIt (HB.out.trans (hb1.mono HB.out.size))
        clear hb1
        go_wp2
        go_roundw
        case rel => exact ⟨i + 1, by omega, by go_num, by rw [← HA.out, HD.out]; rfl, HB1.out⟩
        case measure => simp [RowKit.intOf]; omega
      · go_wp2_with fail
        refine (HWx.out _).mono ?_
        rintro x w1 ⟨rfl, hb1⟩
        have HB1 := hidIt (HB.out.trans (hb1.mono HB.out.size))
        clear hb1
        go_wp2
        go_ret
        exact ⟨⟨_, rfl, by rw [← HA.out, HD.out]; simp⟩, HB1.out⟩
    · have c0 : decide ((i : Int) < n) = false := by simp; omega
      have HD : Hid (l.drop i = []) := List.drop_eq_nil_of_le (by have := HR.out.2; omega)
      go_wp2
      go_ret
      exact ⟨⟨_, rfl, by rw [← HA.out, HD.out]; rfl⟩, HB.out⟩
theorem contains_gr {B n c : Nat} {a : Option Addr} {l : List Py} {w : World} (h : RdS pyE w (· < B) (.slice a n c) l) (hB : B ≤ w.heap.size) :
    Calls Tryd.prog 40 #[.slice a n c, .func (.func 24) #[] #[]] w fun e w' => e = .returned (.bool (l.any great)) ∧ Below w.heap.size w w' := by
  have HI := hidIt (index_gr h hB)
  clear h
  generalize l.any great = q at *
  go_enter Tryd.func40, Tryd.ntmps40
  go_wp2_with fail
  refine HI.out.mono ?_
  rintro e w1 ⟨⟨r, rfl, hq⟩, hb⟩
  have HQ := hidIt hq
  have HB := hidIt hb
  clear hq hb
  go_wp2
  go_ret
  exact ⟨retB HQ.out, HB.out⟩
set_option maxHeartbeats 1000000 in
theorem index_cm {B n c : Nat} {a : Option Addr} {l : List Cl} {w : World} {P : Cl → Bool} (h : NRd clN w (· < B) (.slice a n c) l) (hB : B ≤ w.heap.size)
    (hP : ∀ (W : World) (x : Cl) (sa : Option Addr) (sn sc : Nat), Below w.heap.size w W → RdS pyE W (· < B) (.slice sa sn sc) x.due → Calls Tryd.prog 21 #[.agg #[.int .i64 x.day, .slice sa sn sc]] W fun e w' => e = .returned (.bool (P x)) ∧ Below W.heap.size W w') :
    Calls Tryd.prog 38 #[.slice a n c, .func (.func 21) #[] #[]] w fun e w' => (∃ r : Int, e = .returned (.int .i64 r) ∧ decide (0 ≤ r) = l.any P) ∧ Below w.heap.size w w' := by
  obtain ⟨hn, hbig⟩ := h.len
  have HR := hidIt (And.intro h hn)
  have HW := hidIt hP
  clear h hn hP
  go_enter Tryd.func38, Tryd.ntmps38
  go_wp2_with fail
  go_loopw [8] (fun t wr => ∃ i : Nat, i ≤ n ∧ t = .int .i64 i ∧ (l.drop i).any P = l.any P ∧ Below w.heap.size w wr) (fun t _ => n - (RowKit.intOf t).toNat)
  case atStart => exact ⟨0, by omega, rfl, rfl, Below.refl _ _⟩
  case round =>
    obtain ⟨i, hi, rfl, hA, hb⟩ := hrel
    have HA := hidIt hA
    have HB := hidIt hb
    clear hA hb
    by_cases hlt : i < n
    · have c0 : decide ((i : Int) < n) = true := by simp; omega
      obtain ⟨e, he, hdr⟩ := get_in (l := l) (i := i) (by have := HR.out.2; omega)
      obtain ⟨g, o, sa, sn, sc, rfl, hg, q0, q1, hdu⟩ := cl_at (HR.out.1.below (HB.out.mono hB)) he
      have HD := hidIt (any_drop P hdr)
      have hiz : (i : Int) < n := by omega
      have HWx := hidIt (HW.out wr e sa sn sc HB.out hdu)
      clear he hdr hg hdu
      generalize P e = q at *
      cases q
      · go_wp2_with fail
        refine HWx.out.mono ?_
        rintro x w1 ⟨rfl, hb1⟩
        have HB1 := hidIt (HB.out.trans (hb1.mono HB.out.size))
        clear hb1
        go_wp2
        go_roundw
        case rel => exact ⟨i + 1, by omega, by go_num, by rw [← HA.out, HD.out]; rfl, HB1.out⟩
        case measure => simp [RowKit.intOf]; omega
      · go_wp2_with fail
        refine HWx.out.mono ?_
        rintro x w1 ⟨rfl, hb1⟩
        have HB1 := hidIt (HB.out.trans (hb1.mono HB.out.size))
        clear hb1
        go_wp2
        go_ret
        exact ⟨⟨_, rfl, by rw [← HA.out, HD.out]; simp⟩, HB1.out⟩
    · have c0 : decide ((i : Int) < n) = false := by simp; omega
      have HD : Hid (l.drop i = []) := List.drop_eq_nil_of_le (by have := HR.out.2; omega)
      go_wp2
      go_ret
      exact ⟨⟨_, rfl, by rw [← HA.out, HD.out]; rfl⟩, HB.out⟩
theorem contains_cm {B n c : Nat} {a : Option Addr} {l : List Cl} {w : World} {P : Cl → Bool} (h : NRd clN w (· < B) (.slice a n c) l) (hB : B ≤ w.heap.size)
    (hP : ∀ (W : World) (x : Cl) (sa : Option Addr) (sn sc : Nat), Below w.heap.size w W → RdS pyE W (· < B) (.slice sa sn sc) x.due → Calls Tryd.prog 21 #[.agg #[.int .i64 x.day, .slice sa sn sc]] W fun e w' => e = .returned (.bool (P x)) ∧ Below W.heap.size W w') :
    Calls Tryd.prog 26 #[.slice a n c, .func (.func 21) #[] #[]] w fun e w' => e = .returned (.bool (l.any P)) ∧ Below w.heap.size w w' := by
  have HI := hidIt (index_cm h hB hP)
  clear h hP
  generalize l.any P = q at *
  go_enter Tryd.func26, Tryd.ntmps26
  go_wp2_with fail
  refine HI.out.mono ?_
  rintro e w1 ⟨⟨r, rfl, hq⟩, hb⟩
  have HQ := hidIt hq
  have HB := hidIt hb
  clear hq hb
  go_wp2
  go_ret
  exact ⟨retB HQ.out, HB.out⟩
set_option maxHeartbeats 1000000 in
theorem index_ch {B n c bx : Nat} {a : Option Addr} {l : List Cl} {w : World} {P : Cl → Bool} (h : NRd clN w (· < B) (.slice a n c) l) (hB : B ≤ w.heap.size)
    (hP : ∀ (W : World) (x : Cl) (sa : Option Addr) (sn sc : Nat), Below w.heap.size w W → RdS pyE W (· < B) (.slice sa sn sc) x.due → Calls Tryd.prog 39 #[.agg #[.int .i64 x.day, .slice sa sn sc], .pointer (some ⟨bx, 0, none⟩)] W fun e w' => e = .returned (.bool (P x)) ∧ Below W.heap.size W w') :
    Calls Tryd.prog 38 #[.slice a n c, .func (.func 39) #[] #[.pointer (some ⟨bx, 0, none⟩)]] w fun e w' => (∃ r : Int, e = .returned (.int .i64 r) ∧ decide (0 ≤ r) = l.any P) ∧ Below w.heap.size w w' := by
  obtain ⟨hn, hbig⟩ := h.len
  have HR := hidIt (And.intro h hn)
  have HW := hidIt hP
  clear h hn hP
  go_enter Tryd.func38, Tryd.ntmps38
  go_wp2_with fail
  go_loopw [8] (fun t wr => ∃ i : Nat, i ≤ n ∧ t = .int .i64 i ∧ (l.drop i).any P = l.any P ∧ Below w.heap.size w wr) (fun t _ => n - (RowKit.intOf t).toNat)
  case atStart => exact ⟨0, by omega, rfl, rfl, Below.refl _ _⟩
  case round =>
    obtain ⟨i, hi, rfl, hA, hb⟩ := hrel
    have HA := hidIt hA
    have HB := hidIt hb
    clear hA hb
    by_cases hlt : i < n
    · have c0 : decide ((i : Int) < n) = true := by simp; omega
      obtain ⟨e, he, hdr⟩ := get_in (l := l) (i := i) (by have := HR.out.2; omega)
      obtain ⟨g, o, sa, sn, sc, rfl, hg, q0, q1, hdu⟩ := cl_at (HR.out.1.below (HB.out.mono hB)) he
      have HD := hidIt (any_drop P hdr)
      have hiz : (i : Int) < n := by omega
      have HWx := hidIt (HW.out wr e sa sn sc HB.out hdu)
      clear he hdr hg hdu
      generalize P e = q at *
      cases q
      · go_wp2_with fail
        refine HWx.out.mono ?_
        rintro x w1 ⟨rfl, hb1⟩
        have HB1 := hidIt (HB.out.trans (hb1.mono HB.out.size))
        clear hb1
        go_wp2
        go_roundw
        case rel => exact ⟨i + 1, by omega, by go_num, by rw [← HA.out, HD.out]; rfl, HB1.out⟩
        case measure => simp [RowKit.intOf]; omega
      · go_wp2_with fail
        refine HWx.out.mono ?_
        rintro x w1 ⟨rfl, hb1⟩
        have HB1 := hidIt (HB.out.trans (hb1.mono HB.out.size))
        clear hb1
        go_wp2
        go_ret
        exact ⟨⟨_, rfl, by rw [← HA.out, HD.out]; simp⟩, HB1.out⟩
    · have c0 : decide ((i : Int) < n) = false := by simp; omega
      have HD : Hid (l.drop i = []) := List.drop_eq_nil_of_le (by have := HR.out.2; omega)
      go_wp2
      go_ret
      exact ⟨⟨_, rfl, by rw [← HA.out, HD.out]; rfl⟩, HB.out⟩
theorem contains_ch {B n c bx : Nat} {a : Option Addr} {l : List Cl} {w : World} {P : Cl → Bool} (h : NRd clN w (· < B) (.slice a n c) l) (hB : B ≤ w.heap.size)
    (hP : ∀ (W : World) (x : Cl) (sa : Option Addr) (sn sc : Nat), Below w.heap.size w W → RdS pyE W (· < B) (.slice sa sn sc) x.due → Calls Tryd.prog 39 #[.agg #[.int .i64 x.day, .slice sa sn sc], .pointer (some ⟨bx, 0, none⟩)] W fun e w' => e = .returned (.bool (P x)) ∧ Below W.heap.size W w') :
    Calls Tryd.prog 26 #[.slice a n c, .func (.func 39) #[] #[.pointer (some ⟨bx, 0, none⟩)]] w fun e w' => e = .returned (.bool (l.any P)) ∧ Below w.heap.size w w' := by
  have HI := hidIt (index_ch h hB hP)
  clear h hP
  generalize l.any P = q at *
  go_enter Tryd.func26, Tryd.ntmps26
  go_wp2_with fail
  refine HI.out.mono ?_
  rintro e w1 ⟨⟨r, rfl, hq⟩, hb⟩
  have HQ := hidIt hq
  have HB := hidIt hb
  clear hq hb
  go_wp2
  go_ret
  exact ⟨retB HQ.out, HB.out⟩
set_option maxHeartbeats 1000000 in
theorem hasOne_nt {B bx sn sc : Nat} {sa : Option Addr} {dy : Int} {l : List Py} {w : World} (h : RdS pyE w (· < B) (.slice sa sn sc) l) (hB : B ≤ w.heap.size) (hc : w.cell? ⟨bx, 0, none⟩ = some (.func (.func 22) #[] #[])) :
    Calls Tryd.prog 39 #[.agg #[.int .i64 dy, .slice sa sn sc], .pointer (some ⟨bx, 0, none⟩)] w fun e w' => e = .returned (.bool (l.any noTime)) ∧ Below w.heap.size w w' := by
  have hlt := cell_lt hc
  have HC : Hid (∀ ob, Calls Tryd.prog 40 #[.slice sa sn sc, .func (.func 22) #[] #[]] (w.alloc ob) fun e w' => e = .returned (.bool (l.any noTime)) ∧ Below (w.alloc ob).heap.size (w.alloc ob) w') := fun ob =>
    contains_nt (h.below ((bel1 w ob).mono hB)) (by simp; omega)
  clear h
  have hne : ¬ bx = w.heap.size := by omega
  go_enter Tryd.func39, Tryd.ntmps39
  go_wp2_with fail
  refine (HC.out _).mono ?_
  rintro e w1 ⟨rfl, hb⟩
  have HB := hidIt ((bel1 w _).trans (hb.mono (bel1 w _).size))
  clear hb
  go_wp2
  go_ret
  exact ⟨rfl, HB.out⟩
set_option maxHeartbeats 1000000 in
theorem hasPay_nt {B n c : Nat} {a : Option Addr} {l : List Cl} {w : World} (h : NRd clN w (· < B) (.slice a n c) l) (hB : B ≤ w.heap.size) :
    Calls Tryd.prog 28 #[.slice a n c, .func (.func 22) #[] #[]] w fun e w' => e = .returned (.bool (l.any fun x => x.due.any noTime)) ∧ Below w.heap.size w w' := by
  have HC : Hid (∀ T, Calls Tryd.prog 26 #[.slice a n c, .func (.func 39) #[] #[.pointer (some ⟨w.heap.size, 0, none⟩)]] (w.alloc (.cells #[.func (.func 22) #[] #[]] T)) fun e w' => e = .returned (.bool (l.any fun x => x.due.any noTime)) ∧ Below (w.alloc (.cells #[.func (.func 22) #[] #[]] T)).heap.size (w.alloc (.cells #[.func (.func 22) #[] #[]] T)) w') := fun T =>
    contains_ch (h.below ((bel1 w _).mono hB)) (by simp; omega) (fun W x sa sn sc hW hr => hasOne_nt hr (by have := hW.size; simp at this; omega) ((hW.cell (p := ⟨w.heap.size, 0, none⟩) (by simp)).trans (by simp)))
  clear h
  generalize (l.any fun x => x.due.any noTime) = q at *
  go_enter Tryd.func28, Tryd.ntmps28
  go_wp2_with fail
  refine (HC.out _).mono ?_
  rintro e w1 ⟨rfl, hb⟩
  have HB := hidIt ((bel1 w _).trans (hb.mono (bel1 w _).size))
  clear hb
  go_wp2
  go_ret
  exact ⟨rfl, HB.out⟩
set_option maxHeartbeats 1000000 in
theorem hasOne_gr {B bx sn sc : Nat} {sa : Option Addr} {dy : Int} {l : List Py} {w : World} (h : RdS pyE w (· < B) (.slice sa sn sc) l) (hB : B ≤ w.heap.size) (hc : w.cell? ⟨bx, 0, none⟩ = some (.func (.func 24) #[] #[])) :
    Calls Tryd.prog 39 #[.agg #[.int .i64 dy, .slice sa sn sc], .pointer (some ⟨bx, 0, none⟩)] w fun e w' => e = .returned (.bool (l.any great)) ∧ Below w.heap.size w w' := by
  have hlt := cell_lt hc
  have HC : Hid (∀ ob, Calls Tryd.prog 40 #[.slice sa sn sc, .func (.func 24) #[] #[]] (w.alloc ob) fun e w' => e = .returned (.bool (l.any great)) ∧ Below (w.alloc ob).heap.size (w.alloc ob) w') := fun ob =>
    contains_gr (h.below ((bel1 w ob).mono hB)) (by simp; omega)
  clear h
  have hne : ¬ bx = w.heap.size := by omega
  go_enter Tryd.func39, Tryd.ntmps39
  go_wp2_with fail
  refine (HC.out _).mono ?_
  rintro e w1 ⟨rfl, hb⟩
  have HB := hidIt ((bel1 w _).trans (hb.mono (bel1 w _).size))
  clear hb
  go_wp2
  go_ret
  exact ⟨rfl, HB.out⟩
set_option maxHeartbeats 1000000 in
theorem hasPay_gr {B n c : Nat} {a : Option Addr} {l : List Cl} {w : World} (h : NRd clN w (· < B) (.slice a n c) l) (hB : B ≤ w.heap.size) :
    Calls Tryd.prog 28 #[.slice a n c, .func (.func 24) #[] #[]] w fun e w' => e = .returned (.bool (l.any fun x => x.due.any great)) ∧ Below w.heap.size w w' := by
  have HC : Hid (∀ T, Calls Tryd.prog 26 #[.slice a n c, .func (.func 39) #[] #[.pointer (some ⟨w.heap.size, 0, none⟩)]] (w.alloc (.cells #[.func (.func 24) #[] #[]] T)) fun e w' => e = .returned (.bool (l.any fun x => x.due.any great)) ∧ Below (w.alloc (.cells #[.func (.func 24) #[] #[]] T)).heap.size (w.alloc (.cells #[.func (.func 24) #[] #[]] T)) w') := fun T =>
    contains_ch (h.below ((bel1 w _).mono hB)) (by simp; omega) (fun W x sa sn sc hW hr => hasOne_gr hr (by have := hW.size; simp at this; omega) ((hW.cell (p := ⟨w.heap.size, 0, none⟩) (by simp)).trans (by simp)))
  clear h
  generalize (l.any fun x => x.due.any great) = q at *
  go_enter Tryd.func28, Tryd.ntmps28
  go_wp2_with fail
  refine (HC.out _).mono ?_
  rintro e w1 ⟨rfl, hb⟩
  have HB := hidIt ((bel1 w _).trans (hb.mono (bel1 w _).size))
  clear hb
  go_wp2
  go_ret
  exact ⟨rfl, HB.out⟩
theorem up_drop {a : Int} {l : List Cl} {i : Nat} {x : Cl} (h : l.drop i = x :: l.drop (i + 1)) : upB a (l.drop i) = (isDayB x.day && decide (a < x.day) && upB x.day (l.drop (i + 1))) := by rw [h, upB]
set_option maxHeartbeats 2000000 in
theorem rising_p {B n c : Nat} {a : Option Addr} {l : List Cl} {w : World} (h : NRd clN w (· < B) (.slice a n c) l) (hB : B ≤ w.heap.size) :
    Calls Tryd.prog 27 #[.slice a n c] w fun e w' => e = .returned (.bool (upB 0 l)) ∧ Below w.heap.size w w' := by
  obtain ⟨hn, hbig⟩ := h.len
  have HR := hidIt (And.intro h hn)
  clear h hn
  go_enter Tryd.func27, Tryd.ntmps27
  go_wp2_with fail
  go_loopw [3, 8] (fun s t wr => ∃ (i : Nat) (y : Int), i ≤ n ∧ s = .int .i64 y ∧ t = .int .i64 i ∧ upB y (l.drop i) = upB 0 l ∧ Below w.heap.size w wr) (fun _ t _ => n - (RowKit.intOf t).toNat)
  case atStart => exact ⟨0, 0, by omega, rfl, rfl, rfl, Below.refl _ _⟩
  case round =>
    obtain ⟨i, y, hi, rfl, rfl, hA, hb⟩ := hrel
    have HA := hidIt hA
    have HB := hidIt hb
    clear hA hb
    by_cases hlt : i < n
    · have c0 : decide ((i : Int) < n) = true := by simp; omega
      obtain ⟨e, he, hdr⟩ := get_in (l := l) (i := i) (by have := HR.out.2; omega)
      obtain ⟨g, o, sa, sn, sc, rfl, hg, q0, q1, hdu⟩ := cl_at (HR.out.1.below (HB.out.mono hB)) he
      have HD := hidIt (up_drop (a := y) hdr)
      have hiz : (i : Int) < n := by omega
      obtain ⟨dy, due⟩ := e
      have HX := hidIt (fun w => isDay_any dy w)
      have HB1 : Hid (∀ ob, Below w.heap.size w (wr.alloc ob)) := fun ob => HB.out.trans ((bel1 wr ob).mono HB.out.size)
      simp only at q0 HD
      clear he hdr hg hdu
      generalize isDayB dy = x at *
      cases x
      · go_wp2_with fail
        refine (HX.out _).mono ?_
        rintro e w1 ⟨rfl, ew⟩
        subst w1
        go_wp2
        go_ret
        exact ⟨retB (by rw [← HA.out, HD.out]; rfl), HB1.out _⟩
      · by_cases hy : dy ≤ y
        · have HQ : Hid (decide (y < dy) = false) := by show _ = _; simp; omega
          go_wp2_with fail
          refine (HX.out _).mono ?_
          rintro e w1 ⟨rfl, ew⟩
          subst w1
          go_wp2
          go_ret
          exact ⟨retB (by rw [← HA.out, HD.out, HQ.out]; rfl), HB1.out _⟩
        · have HQ : Hid (decide (y < dy) = true) := by show _ = _; simp; omega
          go_wp2_with fail
          refine (HX.out _).mono ?_
          rintro e w1 ⟨rfl, ew⟩
          subst w1
          go_wp2
          go_roundw
          case rel => exact ⟨i + 1, dy, by omega, rfl, by go_num, by rw [← HA.out, HD.out, HQ.out]; rfl, HB1.out _⟩
          case measure => simp [RowKit.intOf]; omega
    · have c0 : decide ((i : Int) < n) = false := by simp; omega
      have HD : Hid (l.drop i = []) := List.drop_eq_nil_of_le (by have := HR.out.2; omega)
      go_wp2
      go_ret
      exact ⟨retB (by rw [← HA.out, HD.out]; rfl), HB.out⟩
/-- The sentinels that settling tells. -/
structure Sent (w : World) (p : Nat → Addr) : Prop where
  bound : w.cell? ⟨0, 0, none⟩ = some (.iface 123 (.pointer (some (p 1))))
  coin : w.cell? ⟨2, 0, none⟩ = some (.iface 123 (.pointer (some (p 2))))
  day : w.cell? ⟨1, 0, none⟩ = some (.iface 123 (.pointer (some (p 3))))
theorem Sent.below {w w' : World} {p : Nat → Addr} (h : Sent w p) (hb : Below w.heap.size w w') : Sent w' p :=
  ⟨(hb.cell (p := ⟨0, 0, none⟩) (cell_lt h.bound)).trans h.bound, (hb.cell (p := ⟨2, 0, none⟩) (cell_lt h.coin)).trans h.coin, (hb.cell (p := ⟨1, 0, none⟩) (cell_lt h.day)).trans h.day⟩
/-- What an error is as a value. -/
def errV (p : Nat → Addr) : Option Nat → Value
  | none => .nilIface
  | some k => .iface 123 (.pointer (some (p k)))
set_option maxHeartbeats 2000000 in
theorem check_p {B n c : Nat} {a : Option Addr} {l : List Cl} {rate : Int} {p : Nat → Addr} {w : World} (h : NRd clN w (· < B) (.slice a n c) l) (hB : B ≤ w.heap.size) (hs : Sent w p) :
    Calls Tryd.prog 14 #[.slice a n c, .int .i64 rate] w fun e w' => e = .returned (errV p (claimsK l rate)) ∧ Below w.heap.size w w' := by
  obtain ⟨hn, hbig⟩ := h.len
  have HC1 : Hid (Calls Tryd.prog 26 #[.slice a n c, .func (.func 21) #[] #[]] w fun e w' => e = .returned (.bool (l.any many)) ∧ Below w.heap.size w w') :=
    contains_cm h hB (fun W x sa sn sc hW hr => by
      have hl := hr.len
      have := many_p x.day sa sn sc W hl.2
      unfold many
      rw [← hl.1]
      exact this)
  have HC2 : Hid (∀ W, Below w.heap.size w W → Calls Tryd.prog 27 #[.slice a n c] W fun e w' => e = .returned (.bool (upB 0 l)) ∧ Below W.heap.size W w') := fun W hW => rising_p (h.below (hW.mono hB)) (Nat.le_trans hB hW.size)
  have HC3 : Hid (∀ W, Below w.heap.size w W → Calls Tryd.prog 28 #[.slice a n c, .func (.func 22) #[] #[]] W fun e w' => e = .returned (.bool (l.any fun x => x.due.any noTime)) ∧ Below W.heap.size W w') := fun W hW => hasPay_nt (h.below (hW.mono hB)) (Nat.le_trans hB hW.size)
  have HC4 : Hid (∀ W, Below w.heap.size w W → Calls Tryd.prog 28 #[.slice a n c, .func (.func 24) #[] #[]] W fun e w' => e = .returned (.bool (l.any fun x => x.due.any great)) ∧ Below W.heap.size W w') := fun W hW => hasPay_gr (h.below (hW.mono hB)) (Nat.le_trans hB hW.size)
  have HS := hidIt hs
  have HK : Hid (claimsK l rate = if (decide (400 < n) || l.any many) = true then some 1 else if (!upB 0 l || l.any (fun c => c.due.any noTime)) = true then some 3 else if (l.any (fun c => c.due.any great) || (decide (rate < 0) || decide (10000 < rate))) = true then some 2 else none) := by rw [hn]; rfl
  rw [HK.out]
  clear h hn hs HK
  by_cases hbig4 : 400 < n
  · have h1z : (400 : Int) < n := by omega
    have hd : decide (400 < n) = true := by simpa using hbig4
    rw [hd]
    clear hd hbig4
    have g1 := HS.out.bound
    go_enter Tryd.func14, Tryd.ntmps14
    go_wp2
    go_ret
    exact ⟨rfl, Below.refl _ _⟩
  · have h1z : ¬ (400 : Int) < n := by omega
    have hd : decide (400 < n) = false := by simpa using hbig4
    rw [hd]
    clear hd hbig4
    generalize l.any many = x1 at *
    generalize upB 0 l = x2 at *
    generalize (l.any fun x => x.due.any noTime) = x3 at *
    generalize (l.any fun x => x.due.any great) = x4 at *
    cases x1
    case true =>
      go_enter Tryd.func14, Tryd.ntmps14
      go_wp2_with fail
      refine HC1.out.mono ?_
      rintro e w1 ⟨rfl, hb1⟩
      have g1 := (HS.out.below hb1).bound
      have HB1 := hidIt hb1
      clear hb1
      go_wp2
      go_ret
      exact ⟨rfl, HB1.out⟩
    case false =>
      cases x2
      case false =>
        go_enter Tryd.func14, Tryd.ntmps14
        go_wp2_with fail
        refine HC1.out.mono ?_
        rintro e w1 ⟨rfl, hb1⟩
        have HB1 := hidIt hb1
        clear hb1
        go_wp2_with fail
        refine (HC2.out _ HB1.out).mono ?_
        rintro e w2 ⟨rfl, hb2⟩
        have HB2 := hidIt (HB1.out.trans (hb2.mono HB1.out.size))
        clear hb2
        have g1 := (HS.out.below HB2.out).day
        go_wp2
        go_ret
        exact ⟨rfl, HB2.out⟩
      case true =>
        cases x3
        case true =>
          go_enter Tryd.func14, Tryd.ntmps14
          go_wp2_with fail
          refine HC1.out.mono ?_
          rintro e w1 ⟨rfl, hb1⟩
          have HB1 := hidIt hb1
          clear hb1
          go_wp2_with fail
          refine (HC2.out _ HB1.out).mono ?_
          rintro e w2 ⟨rfl, hb2⟩
          have HB2 := hidIt (HB1.out.trans (hb2.mono HB1.out.size))
          clear hb2
          go_wp2_with fail
          refine (HC3.out _ HB2.out).mono ?_
          rintro e w3 ⟨rfl, hb3⟩
          have HB3 := hidIt (HB2.out.trans (hb3.mono HB2.out.size))
          clear hb3
          have g1 := (HS.out.below HB3.out).day
          go_wp2
          go_ret
          exact ⟨rfl, HB3.out⟩
        case false =>
          cases x4
          case true =>
            go_enter Tryd.func14, Tryd.ntmps14
            go_wp2_with fail
            refine HC1.out.mono ?_
            rintro e w1 ⟨rfl, hb1⟩
            have HB1 := hidIt hb1
            clear hb1
            go_wp2_with fail
            refine (HC2.out _ HB1.out).mono ?_
            rintro e w2 ⟨rfl, hb2⟩
            have HB2 := hidIt (HB1.out.trans (hb2.mono HB1.out.size))
            clear hb2
            go_wp2_with fail
            refine (HC3.out _ HB2.out).mono ?_
            rintro e w3 ⟨rfl, hb3⟩
            have HB3 := hidIt (HB2.out.trans (hb3.mono HB2.out.size))
            clear hb3
            go_wp2_with fail
            refine (HC4.out _ HB3.out).mono ?_
            rintro e w4 ⟨rfl, hb4⟩
            have HB4 := hidIt (HB3.out.trans (hb4.mono HB3.out.size))
            clear hb4
            have g1 := (HS.out.below HB4.out).coin
            go_wp2
            go_ret
            exact ⟨rfl, HB4.out⟩
          case false =>
            have HE : Hid ((if (false || (decide (rate < 0) || decide (10000 < rate))) = true then some 2 else none : Option Nat) = if rate < 0 ∨ 10000 < rate then some 2 else none) := by
              show _ = _
              simp
            rw [show (if (false || false) = true then (some 1 : Option Nat) else if (!true || false) = true then some 3 else if (false || (decide (rate < 0) || decide (10000 < rate))) = true then some 2 else none) = if rate < 0 ∨ 10000 < rate then some 2 else none from HE.out]
            clear HE
            by_cases r1 : rate < 0
            · rw [if_pos (.inl r1)]
              go_enter Tryd.func14, Tryd.ntmps14
              go_wp2_with fail
              refine HC1.out.mono ?_
              rintro e w1 ⟨rfl, hb1⟩
              have HB1 := hidIt hb1
              clear hb1
              go_wp2_with fail
              refine (HC2.out _ HB1.out).mono ?_
              rintro e w2 ⟨rfl, hb2⟩
              have HB2 := hidIt (HB1.out.trans (hb2.mono HB1.out.size))
              clear hb2
              go_wp2_with fail
              refine (HC3.out _ HB2.out).mono ?_
              rintro e w3 ⟨rfl, hb3⟩
              have HB3 := hidIt (HB2.out.trans (hb3.mono HB2.out.size))
              clear hb3
              go_wp2_with fail
              refine (HC4.out _ HB3.out).mono ?_
              rintro e w4 ⟨rfl, hb4⟩
              have HB4 := hidIt (HB3.out.trans (hb4.mono HB3.out.size))
              clear hb4
              have g1 := (HS.out.below HB4.out).coin
              go_wp2
              go_ret
              exact ⟨rfl, HB4.out⟩
            · by_cases r2 : 10000 < rate
              · rw [if_pos (.inr r2)]
                go_enter Tryd.func14, Tryd.ntmps14
                go_wp2_with fail
                refine HC1.out.mono ?_
                rintro e w1 ⟨rfl, hb1⟩
                have HB1 := hidIt hb1
                clear hb1
                go_wp2_with fail
                refine (HC2.out _ HB1.out).mono ?_
                rintro e w2 ⟨rfl, hb2⟩
                have HB2 := hidIt (HB1.out.trans (hb2.mono HB1.out.size))
                clear hb2
                go_wp2_with fail
                refine (HC3.out _ HB2.out).mono ?_
                rintro e w3 ⟨rfl, hb3⟩
                have HB3 := hidIt (HB2.out.trans (hb3.mono HB2.out.size))
                clear hb3
                go_wp2_with fail
                refine (HC4.out _ HB3.out).mono ?_
                rintro e w4 ⟨rfl, hb4⟩
                have HB4 := hidIt (HB3.out.trans (hb4.mono HB3.out.size))
                clear hb4
                have g1 := (HS.out.below HB4.out).coin
                go_wp2
                go_ret
                exact ⟨rfl, HB4.out⟩
              · rw [if_neg (fun q => q.elim r1 r2)]
                go_enter Tryd.func14, Tryd.ntmps14
                go_wp2_with fail
                refine HC1.out.mono ?_
                rintro e w1 ⟨rfl, hb1⟩
                have HB1 := hidIt hb1
                clear hb1
                go_wp2_with fail
                refine (HC2.out _ HB1.out).mono ?_
                rintro e w2 ⟨rfl, hb2⟩
                have HB2 := hidIt (HB1.out.trans (hb2.mono HB1.out.size))
                clear hb2
                go_wp2_with fail
                refine (HC3.out _ HB2.out).mono ?_
                rintro e w3 ⟨rfl, hb3⟩
                have HB3 := hidIt (HB2.out.trans (hb3.mono HB2.out.size))
                clear hb3
                go_wp2_with fail
                refine (HC4.out _ HB3.out).mono ?_
                rintro e w4 ⟨rfl, hb4⟩
                have HB4 := hidIt (HB3.out.trans (hb4.mono HB3.out.size))
                clear hb4
                go_wp2
                go_ret
                exact ⟨rfl, HB4.out⟩
end Go.Proofs.YtkphonojpnhefaaDoor

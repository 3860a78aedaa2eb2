/-
  Claims, the reference: ClaimsValid (written by tools/genler1.py).
-/
import Derived.Test.YtkphonojpnhefaaDoorLeL2
namespace Go.Proofs.YtkphonojpnhefaaDoor
open Go.RowKit Go.Extern.Stop Go.Stop Go.Extern

theorem rIsDay_any (n : Int) (w : World) : Calls Tryd.prog 32 #[.int .i64 n] w fun e w' => e = .returned (.bool (isDayB n)) ∧ w' = w := by
  by_cases h1 : 0 < n
  · have hE : isDayB n = decide (n ≤ 3652059) := by unfold isDayB; rw [show decide (1 ≤ n) = true by simpa using (by omega : 1 ≤ n)]; simp
    rw [hE]
    clear hE
    go_enter Tryd.func32, Tryd.ntmps32
    go_wp2
    go_ret
    exact ⟨rfl, rfl⟩
  · have hE : isDayB n = false := by unfold isDayB; rw [show decide (1 ≤ n) = false by simpa using (by omega : n < 1)]; simp
    rw [hE]
    clear hE
    have h2 : ¬ (0 : Int) < n := h1
    go_enter Tryd.func32, Tryd.ntmps32
    go_wp2
    go_ret
    exact ⟨rfl, rfl⟩
theorem rSmall_any (n : Int) (w : World) : Calls Tryd.prog 18 #[.int .i64 n] w fun e w' => e = .returned (.bool (okC n)) ∧ w' = w := small_any n w
def lastD : Int → List Cl → Int
  | a, [] => a
  | _, c :: l => lastD c.day l
theorem upB_snoc : ∀ (l : List Cl) (a : Int) (x : Cl), upB a (l ++ [x]) = (upB a l && (isDayB x.day && decide (lastD a l < x.day)))
  | [], a, x => by
    show (isDayB x.day && decide (a < x.day) && true) = (true && (isDayB x.day && decide (a < x.day)))
    rw [Bool.and_true, Bool.true_and]
  | c :: l, a, x => by rw [List.cons_append, upB, upB, upB_snoc l c.day x, lastD]; simp [Bool.and_assoc]
theorem lastD_snoc : ∀ (l : List Cl) (a : Int) (x : Cl), lastD a (l ++ [x]) = x.day
  | [], a, x => rfl
  | c :: l, a, x => by rw [List.cons_append, lastD, lastD_snoc l c.day x]
theorem isDayB_pos {n : Int} (h : isDayB n = true) : 0 < n := by
  unfold isDayB at h
  rw [Bool.and_eq_true] at h
  have := of_decide_eq_true h.1
  omega
theorem upB_first (x : Cl) : (isDayB x.day && decide (lastD 0 [] < x.day)) = isDayB x.day := by
  cases h : isDayB x.day
  · rfl
  · rw [Bool.true_and]
    exact decide_eq_true (isDayB_pos h)
def codeK : Option Nat → Int
  | none => 0
  | some k => (k : Int) + 1
/-- What is right with the days, the cents, of the first claims. -/
def dayB (l : List Cl) : Bool := upB 0 l && !l.any (fun c => c.due.any noTime)
def centB (rate : Int) (l : List Cl) : Bool := (decide (0 ≤ rate) && decide (rate ≤ 10000)) && !l.any (fun c => c.due.any great)
theorem claimsK_many {l : List Cl} {rate : Int} {x : Cl} (h : x ∈ l) (hm : 400 < x.due.length) : claimsK l rate = some 1 := by
  unfold claimsK
  have : l.any many = true := List.any_eq_true.2 ⟨x, h, by unfold many; simpa using hm⟩
  rw [this]
  simp
theorem claimsK_long {l : List Cl} {rate : Int} (h : 400 < l.length) : claimsK l rate = some 1 := by
  unfold claimsK
  rw [show decide (400 < l.length) = true by simpa using h]
  simp
theorem claimsK_end {l : List Cl} {rate : Int} (h : ¬ 400 < l.length) (hm : l.any many = false) : claimsK l rate = if dayB l = false then some 3 else if centB rate l = false then some 2 else none := by
  unfold claimsK dayB centB
  rw [show decide (400 < l.length) = false by simpa using h, hm]
  have e1 : (decide (rate < 0) || decide (10000 < rate)) = !(decide (0 ≤ rate) && decide (rate ≤ 10000)) := by
    by_cases r1 : 0 ≤ rate
    · by_cases r2 : rate ≤ 10000
      · rw [show decide (rate < 0) = false by simpa using r1, show decide (10000 < rate) = false by simpa using r2, show decide (0 ≤ rate) = true by simpa using r1, show decide (rate ≤ 10000) = true by simpa using r2]; rfl
      · rw [show decide (10000 < rate) = true by simp; omega, show decide (rate ≤ 10000) = false by simpa using r2]; simp
    · rw [show decide (rate < 0) = true by simp; omega, show decide (0 ≤ rate) = false by simpa using r1]; simp
  rw [e1]
  generalize upB 0 l = a
  generalize (l.any fun c => c.due.any noTime) = b
  generalize (l.any fun c => c.due.any great) = c
  generalize (decide (0 ≤ rate) && decide (rate ≤ 10000)) = d
  cases a <;> cases b <;> cases c <;> cases d <;> rfl
theorem dayB_snoc {l : List Cl} {x : Cl} : dayB (l ++ [x]) = ((dayB l && (isDayB x.day && decide (lastD 0 l < x.day))) && !x.due.any noTime) := by
  unfold dayB
  rw [upB_snoc, List.any_append]
  generalize upB 0 l = a
  generalize (isDayB x.day && decide (lastD 0 l < x.day)) = b
  generalize (l.any fun c => c.due.any noTime) = c
  simp only [List.any_cons, List.any_nil, Bool.or_false]
  generalize (x.due.any noTime) = d
  cases a <;> cases b <;> cases c <;> cases d <;> rfl
theorem centB_snoc {rate : Int} {l : List Cl} {x : Cl} : centB rate (l ++ [x]) = (centB rate l && !x.due.any great) := by
  unfold centB
  rw [List.any_append]
  generalize (decide (0 ≤ rate) && decide (rate ≤ 10000)) = a
  generalize (l.any fun c => c.due.any great) = c
  simp only [List.any_cons, List.any_nil, Bool.or_false]
  generalize (x.due.any great) = d
  cases a <;> cases c <;> cases d <;> rfl
theorem any_snoc {α : Type} (f : α → Bool) {l : List α} {k : Nat} {x : α} (h : l[k]? = some x) (D : Bool) : (D && !(l.take (k + 1)).any f) = ((D && !(l.take k).any f) && !f x) := by
  rw [take_succ' h, List.any_append]
  simp only [List.any_cons, List.any_nil, Bool.or_false]
  cases D <;> cases ((l.take k).any f) <;> cases (f x) <;> rfl
theorem retI {a b : Int} (h : a = b) : Ending.returned (.int .i64 a) = .returned (.int .i64 b) := by rw [h]
set_option maxHeartbeats 4000000 in
set_option maxRecDepth 10000 in
/-- The pays of one claim. -/
theorem valid_p {B n c : Nat} {a : Option Addr} {l : List Cl} {rate : Int} {w : World} (h : NRd clN w (· < B) (.slice a n c) l) (hB : B ≤ w.heap.size) :
    Calls Tryd.prog 17 #[.slice a n c, .int .i64 rate] w fun e w' => e = .returned (.int .i64 (codeK (claimsK l rate))) ∧ Below w.heap.size w w' := by
  obtain ⟨hn, hbig⟩ := h.len
  have HR := hidIt (And.intro h hn)
  have HDay := hidIt (fun n w => rIsDay_any n w)
  have HSm := hidIt (fun n w => rSmall_any n w)
  clear h hn
  by_cases h400 : 400 < n
  · have hz : (400 : Int) < n := by omega
    have HK : Hid (claimsK l rate = some 1) := claimsK_long (by have := HR.out.2; omega)
    rw [HK.out]
    by_cases r1 : 0 ≤ rate
    all_goals
      go_enter Tryd.func17, Tryd.ntmps17
      go_wp2
      go_ret
      exact ⟨rfl, Below.refl _ _⟩
  · have hz : ¬ (400 : Int) < n := by omega
    have HN4 : Hid (¬ 400 < l.length) := by have := HR.out.2; show ¬ _; omega
    obtain ⟨R, hR⟩ : ∃ R, R = (decide (0 ≤ rate) && decide (rate ≤ 10000)) := ⟨_, rfl⟩
    have HRr := hidIt hR
    have HC0 : Hid (R = centB rate []) := by show _ = _; rw [hR]; simp [centB]
    clear hR
    go_enter Tryd.func17, Tryd.ntmps17
    go_upto_region 2 with fail
    go_cut [6] (fun y wx => y = .bool R ∧ wx = w)
    case first =>
      by_cases r1 : 0 ≤ rate
      · have HE : Hid (R = decide (rate ≤ 10000)) := by
          show _ = _
          rw [HRr.out, show decide (0 ≤ rate) = true by simpa using r1, Bool.true_and]
        go_wp2
        go_meet
        exact ⟨by rw [HE.out], rfl⟩
      · have HE : Hid (R = false) := by
          show _ = _
          rw [HRr.out, show decide (0 ≤ rate) = false by simpa using r1, Bool.false_and]
        have r2 : rate < 0 := by omega
        go_wp2
        go_meet
        exact ⟨by rw [HE.out], rfl⟩
    case rest =>
      obtain ⟨h6, ewc⟩ := hcut
      subst h6
      subst wc
      go_wp2_with fail
      go_loopw [5, 6, 7] (fun s u t wr => ∃ (i : Nat) (D C : Bool), i ≤ n ∧ s = .bool D ∧ u = .bool C ∧ t = .int .i64 i ∧ D = dayB (l.take i) ∧ C = centB rate (l.take i) ∧ (l.take i).any many = false ∧ Below w.heap.size w wr) (fun _ _ t _ => n - (RowKit.intOf t).toNat)
      case atStart => exact ⟨0, true, R, by omega, rfl, rfl, rfl, rfl, HC0.out, rfl, Below.refl _ _⟩
      case round =>
        obtain ⟨i, D, C, hi, rfl, rfl, rfl, hD, hC, hM, hb⟩ := hrel
        have HD := hidIt hD
        have HC := hidIt hC
        have HM := hidIt hM
        have HB := hidIt hb
        clear hD hC hM hb
        obtain ⟨w0, hw0⟩ : ∃ w0 : World, w0 = wr := ⟨_, rfl⟩
        subst wr
        by_cases hlt : i < n
        · have c0 : decide ((i : Int) < n) = true := by simp; omega
          have hiz : (i : Int) < n := by omega
          obtain ⟨x, he, hdr⟩ := get_in (l := l) (i := i) (by have := HR.out.2; omega)
          have hRd := HR.out.1.below (HB.out.mono hB)
          obtain ⟨g, o, sa, sn, sc, rfl, hg, q0, q1, hdu⟩ := cl_at hRd he
          obtain ⟨d1, d2⟩ := hdu.len
          by_cases hm : 400 < sn
          · have hmz : (400 : Int) < sn := by omega
            have HK : Hid (claimsK l rate = some 1) := claimsK_many (List.mem_of_getElem? he) (by omega)
            clear hdu hRd he hdr d1
            go_wp2
            go_ret
            exact ⟨retI (by rw [HK.out]; rfl), HB.out⟩
          · have hmz : ¬ (400 : Int) < sn := by omega
            have HM2 : Hid ((l.take (i + 1)).any many = false) := by
              show _ = _
              rw [take_succ' he, List.any_append, HM.out]
              simp [many]
              omega
            have HX1 : Hid (dayB (l.take (i + 1)) = ((dayB (l.take i) && (isDayB x.day && decide (lastD 0 (l.take i) < x.day))) && !x.due.any noTime)) := by
              show _ = _
              rw [take_succ' he]
              exact dayB_snoc
            have HX2 : Hid (centB rate (l.take (i + 1)) = (centB rate (l.take i) && !x.due.any great)) := by
              show _ = _
              rw [take_succ' he]
              exact centB_snoc
            have hDd := HDay.out x.day
            obtain ⟨is, his⟩ : ∃ is, is = isDayB x.day := ⟨_, rfl⟩
            rw [← his] at hDd
            have HDx := hidIt hDd
            obtain ⟨D1, hD1⟩ : ∃ D1, D1 = (D && (isDayB x.day && decide (lastD 0 (l.take i) < x.day))) := ⟨_, rfl⟩
            have HD1 := hidIt hD1
            rw [← his] at hD1
            have HDu := hidIt (And.intro hdu d1)
            have HPrev : Hid (i = 0 ∧ D1 = (D && is) ∨ ∃ (m : Nat) (pd : Int), i = m + 1 ∧ w0.cell? ⟨g, o + m * 2, none⟩ = some (.int .i64 pd) ∧ D1 = (D && (is && decide (pd < x.day)))) := by
              show _ ∨ _
              rcases Nat.eq_zero_or_pos i with e0 | e0
              · left
                refine ⟨e0, ?_⟩
                rw [hD1, his]
                have := upB_first x
                rw [e0, List.take_zero, this]
              · right
                obtain ⟨m, rfl⟩ : ∃ m, i = m + 1 := ⟨i - 1, by omega⟩
                obtain ⟨y, hy, _⟩ := get_in (l := l) (i := m) (by have := HR.out.2; omega)
                obtain ⟨g', o', _, _, _, ee, _, y0, _, _⟩ := cl_at hRd hy
                injection ee with ee
                injection ee with e1 e2 _
                subst e1 e2
                refine ⟨m, y.day, rfl, y0, ?_⟩
                rw [hD1, take_succ' hy, lastD_snoc]
            obtain ⟨dy, due⟩ := x
            simp only at q0 HX1 HX2 HDx HD1 HPrev HDu
            have HQ := hidIt (And.intro q0 q1)
            have hgw : g < w0.heap.size := by have := HB.out.size; omega
            clear hdu hRd he hdr d1 hDd his hD1
            go_wp2_with fail
            refine (HDx.out _).mono ?_
            rintro e w1 ⟨rfl, ew⟩
            subst w1
            go_upto_region 11 with fail
            go_cut [5] (fun y wx => y = .bool D1 ∧ ∃ q, wx = w0.drewN q)
            case first =>
              rcases HPrev.out with ⟨rfl, hD1⟩ | ⟨m, pd, rfl, hpc, hD1⟩
              · have HE := hidIt hD1
                clear hD1
                cases D
                · go_quiet (fail)
                  go_wp2
                  go_meet
                  exact ⟨by rw [HE.out]; rfl, _, rfl⟩
                · cases is
                  · go_quiet (fail)
                    go_wp2
                    go_meet
                    exact ⟨by rw [HE.out]; rfl, _, rfl⟩
                  · go_quiet (fail)
                    go_wp2
                    go_meet
                    exact ⟨by rw [HE.out]; rfl, _, rfl⟩
              · have HE := hidIt hD1
                have hm1 : ((m : Int) + 1 == 0) = false := by simp; omega
                have hm2 : (m : Int) < n := by omega
                clear hD1
                cases D
                · go_quiet (fail)
                  go_wp2
                  go_meet
                  exact ⟨by rw [HE.out]; rfl, _, rfl⟩
                · cases is
                  · go_quiet (fail)
                    go_wp2
                    go_meet
                    exact ⟨by rw [HE.out]; rfl, _, rfl⟩
                  · go_quiet (fail)
                    go_wp2
                    go_meet
                    exact ⟨by rw [HE.out]; rfl, _, rfl⟩
            case rest =>
              obtain ⟨h5, nq, ewc⟩ := hcut
              subst h5
              subst wc
              clear HPrev q0 q1
              go_wp2_with fail
              go_loopw [5, 6, 9] (fun s u t wr => ∃ (k : Nat) (D2 C2 : Bool), k ≤ sn ∧ s = .bool D2 ∧ u = .bool C2 ∧ t = .int .i64 k ∧ D2 = (D1 && !(due.take k).any noTime) ∧ C2 = (C && !(due.take k).any great) ∧ Below w0.heap.size w0 wr) (fun _ _ t _ => sn - (RowKit.intOf t).toNat)
              case atStart => exact ⟨0, D1, C, by omega, rfl, rfl, rfl, by simp, by simp, bdrewN (Below.refl _ _) _⟩
              case round =>
                obtain ⟨k, D2, C2, hk, rfl, rfl, rfl, hD2, hC2, hbk⟩ := hrel
                have q0 : wr.cell? ⟨g, o + i * 2, none⟩ = some (.int .i64 dy) := (hbk.cell (p := ⟨g, o + i * 2, none⟩) hgw).trans HQ.out.1
                have q1 : wr.cell? ⟨g, o + i * 2 + 1, none⟩ = some (.slice sa sn sc) := (hbk.cell (p := ⟨g, o + i * 2 + 1, none⟩) hgw).trans HQ.out.2
                have HD2 := hidIt hD2
                have HC2 := hidIt hC2
                have HBk := hidIt hbk
                clear hD2 hC2 hbk
                by_cases hltk : k < sn
                · have c1 : decide ((k : Int) < sn) = true := by simp; omega
                  have hkz : (k : Int) < sn := by omega
                  obtain ⟨y, hy, _⟩ := get_in (l := due) (i := k) (by have := HDu.out.2; omega)
                  obtain ⟨g2, o2, rfl, hg2, hrg⟩ := (HDu.out.1.below (HBk.out.mono (by have := HB.out.size; omega))).at hy
                  obtain ⟨p0, p1, p2⟩ := py_cells hrg
                  have hk3 : pyE.k = 3 := rfl
                  rw [hk3] at p0 p1 p2
                  have HS1 := hidIt (any_snoc noTime hy D1)
                  have HS2 := hidIt (any_snoc great hy C)
                  rw [← HD2.out] at HS1
                  rw [← HC2.out] at HS2
                  obtain ⟨yf, yt, yc⟩ := y
                  simp only at p0 p1 p2
                  have eN : noTime ⟨yf, yt, yc⟩ = (!isDayB yf || !isDayB yt || decide (yt ≤ yf)) := rfl
                  have eG : great ⟨yf, yt, yc⟩ = !okC yc := rfl
                  rw [eN] at HS1
                  rw [eG] at HS2
                  have H1 := hidIt (fun w => HDay.out yf w)
                  have H2 := hidIt (fun w => HDay.out yt w)
                  have H3 := hidIt (fun w => HSm.out yc w)
                  generalize isDayB yf = b1 at *
                  generalize isDayB yt = b2 at *
                  generalize okC yc = b3 at *
                  have HB1 : Hid (∀ ob, Below w0.heap.size w0 (wr.alloc ob)) := fun ob => HBk.out.trans ((bel1 wr ob).mono HBk.out.size)
                  have hg2w : ¬ g2 = wr.heap.size := by have := HBk.out.size; have := HB.out.size; omega
                  clear hrg hy hk3 eN eG
                  go_wp2_with fail
                  refine (H1.out _).mono ?_
                  rintro e w1 ⟨rfl, ew⟩
                  subst w1
                  go_wp2_with fail
                  refine (H2.out _).mono ?_
                  rintro e w1 ⟨rfl, ew⟩
                  subst w1
                  go_wp2_with fail
                  refine (H3.out _).mono ?_
                  rintro e w1 ⟨rfl, ew⟩
                  subst w1
                  obtain ⟨D3, hD3⟩ : ∃ D3, D3 = (D2 && !(!b1 || !b2 || decide (yt ≤ yf))) := ⟨_, rfl⟩
                  obtain ⟨C3, hC3⟩ : ∃ C3, C3 = (C2 && !!b3) := ⟨_, rfl⟩
                  rw [← hD3] at HS1
                  rw [← hC3] at HS2
                  have HD3 := hidIt hD3
                  have HC3 := hidIt hC3
                  clear hD3 hC3
                  obtain ⟨wp, hwp⟩ : ∃ wp, wp = wr.alloc (.cells #[.int .i64 yf, .int .i64 yt, .int .i64 yc] 62) := ⟨_, rfl⟩
                  have HBp : Hid (Below w0.heap.size w0 wp) := by rw [hwp]; exact HB1.out _
                  rw [← hwp]
                  have z0 : wp.cell? ⟨wr.heap.size, 0, none⟩ = some (.int .i64 yf) := by rw [hwp]; simp
                  have z1 : wp.cell? ⟨wr.heap.size, 1, none⟩ = some (.int .i64 yt) := by rw [hwp]; simp
                  clear hwp HB1
                  generalize wr.heap.size = bz at *
                  go_upto_region 19 with fail
                  go_cut [5] (fun y wx => y = .bool D3 ∧ wx = wp)
                  case first =>
                    cases D2
                    · go_wp2
                      go_meet
                      exact ⟨by rw [HD3.out]; rfl, rfl⟩
                    · cases b1
                      · go_wp2
                        go_meet
                        exact ⟨by rw [HD3.out]; rfl, rfl⟩
                      · cases b2
                        · go_wp2
                          go_meet
                          exact ⟨by rw [HD3.out]; rfl, rfl⟩
                        · have HL : Hid (decide (yf < yt) = !decide (yt ≤ yf)) := by
                            show _ = _
                            by_cases q : yt ≤ yf
                            · rw [show decide (yt ≤ yf) = true by simpa using q, show decide (yf < yt) = false by simp; omega]; rfl
                            · rw [show decide (yt ≤ yf) = false by simpa using q, show decide (yf < yt) = true by simp; omega]; rfl
                          go_wp2
                          go_meet
                          exact ⟨by rw [HD3.out, HL.out]; rfl, rfl⟩
                  case rest =>
                    obtain ⟨h5, ewc⟩ := hcut
                    subst h5
                    subst wc
                    clear HD3
                    cases C2
                    · go_wp2
                      go_roundw
                      case rel => exact ⟨k + 1, D3, C3, hltk, rfl, by rw [HC3.out]; rfl, by go_num, HS1.out.symm, HS2.out.symm, HBp.out⟩
                      case measure => simp [RowKit.intOf]; omega
                    · go_wp2
                      go_roundw
                      case rel => exact ⟨k + 1, D3, C3, hltk, rfl, by rw [HC3.out]; simp, by go_num, HS1.out.symm, HS2.out.symm, HBp.out⟩
                      case measure => simp [RowKit.intOf]; omega
                · have c1 : decide ((k : Int) < sn) = false := by simp; omega
                  have hfull : due.take k = due := List.take_of_length_le (by have := HDu.out.2; omega)
                  have HDn : Hid (D2 = dayB (l.take (i + 1))) := by
                    show _ = _
                    rw [HX1.out, ← HD.out, ← HD1.out, HD2.out, hfull]
                  have HCn : Hid (C2 = centB rate (l.take (i + 1))) := by
                    show _ = _
                    rw [HX2.out, ← HC.out, HC2.out, hfull]
                  clear hfull
                  go_wp2
                  go_roundw
                  case rel => exact ⟨i + 1, D2, C2, hlt, rfl, rfl, by go_num, HDn.out, HCn.out, HM2.out, HB.out.trans (HBk.out.mono HB.out.size)⟩
                  case measure => simp [RowKit.intOf]; omega
        · have c0 : decide ((i : Int) < n) = false := by simp; omega
          have hfull : l.take i = l := List.take_of_length_le (by have := HR.out.2; omega)
          have HE : Hid (claimsK l rate = if D = false then some 3 else if C = false then some 2 else none) := by
            show _ = _
            have hm := HM.out
            rw [hfull] at hm
            rw [claimsK_end HN4.out hm, HD.out, HC.out, hfull]
          clear hfull
          cases D
          · go_wp2
            go_ret
            exact ⟨retI (by rw [HE.out]; rfl), HB.out⟩
          · cases C
            · go_wp2
              go_ret
              exact ⟨retI (by rw [HE.out]; rfl), HB.out⟩
            · go_wp2
              go_ret
              exact ⟨retI (by rw [HE.out]; rfl), HB.out⟩
end Go.Proofs.YtkphonojpnhefaaDoor

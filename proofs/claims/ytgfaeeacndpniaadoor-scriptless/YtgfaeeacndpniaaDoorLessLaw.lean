/-
  The walk of ScriptLess.
-/
import Derived.Test.YtgfaeeacndpniaaDoorLabR3
namespace Go.Proofs.YtgfaeeacndpniaaDoor
open Go.RowKit Go.Extern.Stop Go.Stop Go.Extern

theorem lab_2 : Lab ⟨#[50]⟩ 1 false := by
  refine ⟨by decide, by decide, by decide, by decide, fun i hi a b => ?_, .inl ⟨rfl, fun i hi a b => ?_, fun h => of_decide_eq_true rfl⟩⟩
  · have : i < 1 := hi
    omega
  · obtain rfl : i = 0 := by omega
    rfl
theorem lab_10A : Lab ⟨#[49, 48, 65]⟩ 2 false := by
  refine ⟨by decide, by decide, by decide, by decide, fun i hi a b => ?_, .inl ⟨rfl, fun i hi a b => ?_, fun h => of_decide_eq_true rfl⟩⟩
  · have : i < 3 := hi
    obtain rfl : i = 2 := by omega
    rfl
  · have : i = 0 ∨ i = 1 := by omega
    rcases this with rfl | rfl <;> rfl
theorem less_first : lessB ⟨#[50]⟩ ⟨#[49, 48, 65]⟩ = true := by
  have h := (key_dec lab_2 lab_10A).1 (by decide)
  rw [h]
  decide
theorem less_asym {a b : ByteArray} (h : lessB a b = true) : lessB b a = false := by
  unfold lessB at *
  have := of_decide_eq_true h
  exact decide_eq_false (by omega)
theorem less_trans {a b c : ByteArray} (h : lessB a b = true) (h' : lessB b c = true) : lessB a c = true := by
  unfold lessB at *
  have := of_decide_eq_true h
  have := of_decide_eq_true h'
  exact decide_eq_true (by omega)
theorem less_total {a b : ByteArray} {k k' : Nat} {l l' : Bool} (ha : Lab a k l) (hb : Lab b k' l') (h : lessB a b = false) (h' : lessB b a = false) : a = b := by
  have p : 0 < labK a := by rw [labK_eq ha]; unfold keyOf; omega
  have q : 0 < labK b := by rw [labK_eq hb]; unfold keyOf; omega
  unfold lessB at *
  have := of_decide_eq_false h
  have := of_decide_eq_false h'
  exact labK_inj p q (by omega)

theorem less_self (a : ByteArray) : lessB a a = false := by
  unfold lessB
  exact decide_eq_false (by omega)
theorem labelOf_ok (s : ByteArray) (hs : s.size ≤ 3000) (w : World) : Calls Tryd.prog 7 #[.string s] w fun e w' => ∃ n v1 v2 ok, e = .returned (.tuple #[.agg #[.int .i64 n, .string v1, .string v2], .bool ok]) ∧ (ok = true → ∃ k l, Lab s k l) ∧ Below w.heap.size w w' :=
  (labelOf_any s (by omega) w).mono fun e w' ⟨hb, h⟩ => by
    rcases h with ⟨k, l, hL, rfl⟩ | ⟨hN, n, v1, v2, rfl⟩
    · exact ⟨_, _, _, true, rfl, fun _ => ⟨k, l, hL⟩, hb⟩
    · exact ⟨n, v1, v2, false, rfl, fun h => (by cases h), hb⟩

set_option maxHeartbeats 8000000 in
set_option maxRecDepth 10000 in
theorem scriptLess_walk (a b c : ByteArray) (w : World) (hT : Lib.Utf8Tabs 3 4 w) :
    Calls Tryd.prog 3 #[.string a, .string b, .string c] w fun e w' => e = .returned (.bool true) ∧ Below w.heap.size w w' := by
  have HT := hidL hT
  have H0 := hidL (less_any ⟨#[50]⟩ ⟨#[49, 48, 65]⟩ (by decide) (by decide) w hT)
  rw [less_first] at H0
  clear hT
  go_enter Tryd.func3, Tryd.ntmps3
  go_wp2_with fail
  refine H0.out.mono ?_
  rintro e W0 ⟨rfl, hb0⟩
  have B0 := hidL hb0
  clear hb0
  by_cases la : 3000 < a.size
  · have la' : (3000 : Int) < a.size := by omega
    go_wp2
    go_ret
    exact ⟨rfl, B0.out⟩
  by_cases lb : 3000 < b.size
  · have la' : (a.size : Int) ≤ 3000 := by omega
    have lb' : (3000 : Int) < b.size := by omega
    go_wp2
    go_ret
    exact ⟨rfl, B0.out⟩
  by_cases lc : 3000 < c.size
  · have la' : (a.size : Int) ≤ 3000 := by omega
    have lb' : (b.size : Int) ≤ 3000 := by omega
    have lc' : (3000 : Int) < c.size := by omega
    go_wp2
    go_ret
    exact ⟨rfl, B0.out⟩
  have la' : (a.size : Int) ≤ 3000 := by omega
  have lb' : (b.size : Int) ≤ 3000 := by omega
  have lc' : (c.size : Int) ≤ 3000 := by omega
  have HX := hidL (fun W hT => less_any a b (by omega) (by omega) W hT)
  have HY := hidL (fun W hT => less_any b a (by omega) (by omega) W hT)
  have HZ := hidL (fun W hT => less_any b c (by omega) (by omega) W hT)
  have HV := hidL (fun W hT => less_any a c (by omega) (by omega) W hT)
  have HR := hidL (fun W => lessLabel_any a b (by omega) (by omega) W)
  have HA := hidL (fun W => labelOf_ok a (by omega) W)
  have HB := hidL (fun W => labelOf_ok b (by omega) W)
  have FA := hidL (@less_asym a b)
  have FT := hidL (@less_trans a b c)
  have FE : Hid ((∃ k l, Lab a k l) → (∃ k l, Lab b k l) → lessB a b = false → lessB b a = false → a = b) := fun ⟨k, l, h⟩ ⟨k', l', h'⟩ => less_total h h'
  have FS : Hid (a = b → lessB a b = false) := fun h => by rw [h]; exact less_self b
  generalize lessB a b = x at *
  generalize lessB b a = y at *
  generalize lessB b c = z at *
  generalize lessB a c = v at *
  go_wp2_with fail
  refine (HX.out _ (tabs_below HT.out B0.out)).mono ?_
  rintro e W1 ⟨rfl, hb1⟩
  have B1 := hidL (B0.out.trans (hb1.mono B0.out.size))
  clear hb1
  go_wp2_with fail
  refine (HY.out _ (tabs_below HT.out B1.out)).mono ?_
  rintro e W2 ⟨rfl, hb2⟩
  have B2 := hidL (B1.out.trans (hb2.mono B1.out.size))
  clear hb2
  go_wp2_with fail
  refine (HZ.out _ (tabs_below HT.out B2.out)).mono ?_
  rintro e W3 ⟨rfl, hb3⟩
  have B3 := hidL (B2.out.trans (hb3.mono B2.out.size))
  clear hb3
  go_wp2_with fail
  refine (HV.out _ (tabs_below HT.out B3.out)).mono ?_
  rintro e W4 ⟨rfl, hb4⟩
  have B4 := hidL (B3.out.trans (hb4.mono B3.out.size))
  clear hb4
  go_wp2_with fail
  refine (HR.out _).mono ?_
  rintro e W5 ⟨rfl, hb5⟩
  have B5 := hidL (B4.out.trans (hb5.mono B4.out.size))
  clear hb5 HX HY HZ HV HR
  have HAB : Hid ((a.toList == b.toList) = true ∧ a = b ∨ (a.toList == b.toList) = false ∧ ¬ a = b) := by
    by_cases h : a = b
    · exact .inl ⟨by rw [h]; simp, h⟩
    · refine .inr ⟨?_, h⟩
      rw [Bool.eq_false_iff]
      intro e
      have e' : a.toList = b.toList := by simpa using e
      rw [Lib.toList_data, Lib.toList_data] at e'
      exact h (ByteArray.ext (Array.toList_inj.1 e'))
  generalize heq : (a.toList == b.toList) = q at *
  have HQ : Hid (x = false ∨ (x = true ∧ y = false ∧ q = false ∧ (z = false ∨ z = true ∧ v = true))) := by
    cases hx : x
    · exact .inl rfl
    · refine .inr ⟨rfl, FA.out hx, ?_, ?_⟩
      · rcases HAB.out with ⟨_, h⟩ | ⟨h, _⟩
        · have := FS.out h; rw [hx] at this; cases this
        · exact h
      · cases hz : z
        · exact .inl rfl
        · exact .inr ⟨rfl, FT.out hx hz⟩
  have HE := hidL heq
  have FQ : Hid ((∃ k l, Lab a k l) → (∃ k l, Lab b k l) → x = false → q = true ∨ y = true) := fun h1 h2 h3 => by
    cases hy : y
    · left
      rcases HAB.out with ⟨h, _⟩ | ⟨_, h⟩
      · exact h
      · exact absurd (FE.out h1 h2 h3 hy) h
    · exact .inr rfl
  clear FA FT FE FS HAB
  rcases HQ.out with rfl | ⟨rfl, rfl, rfl, rfl | ⟨rfl, rfl⟩⟩
  all_goals
    clear HQ
    go_wp2_with fail
    refine (HA.out _).mono ?_
    rintro e W6 ⟨n1, v1, v2, ok, rfl, hok, hb6⟩
    have B6 := hidL (B5.out.trans (hb6.mono B5.out.size))
    have HK1 := hidL hok
    clear hb6 hok
    go_wp2_with fail
    refine (HB.out _).mono ?_
    rintro e W7 ⟨n2, u1, u2, also, rfl, hok, hb7⟩
    have B7 := hidL ((B6.out.trans ((belA W6 (.cells #[.int .i64 n1, .string v1, .string v2] 24)).mono B6.out.size)).trans (hb7.mono (B6.out.trans ((belA W6 (.cells #[.int .i64 n1, .string v1, .string v2] 24)).mono B6.out.size)).size))
    have HK2 := hidL hok
    have B8 := hidL (B7.out.trans ((belA W7 (.cells #[.int .i64 n2, .string u1, .string u2] 24)).mono B7.out.size))
    clear hb7 hok
    cases ok
    · go_wp2
      go_ret
      exact ⟨rfl, B8.out⟩
    cases also
    · go_wp2
      go_ret
      exact ⟨rfl, B8.out⟩
  · have hqy := FQ.out (HK1.out rfl) (HK2.out rfl) (by first | rfl | trivial)
    clear HK1 HK2 FQ
    rcases hqy with rfl | rfl
    · go_wp2
      go_ret
      exact ⟨rfl, B8.out⟩
    · cases q
      · go_wp2
        go_ret
        exact ⟨rfl, B8.out⟩
      · go_wp2
        go_ret
        exact ⟨rfl, B8.out⟩
  · go_wp2
    go_ret
    exact ⟨rfl, B8.out⟩
  · go_wp2
    go_ret
    exact ⟨rfl, B8.out⟩
end Go.Proofs.YtgfaeeacndpniaaDoor

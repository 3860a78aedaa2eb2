/-
  Package reason: what is read of literals and standings (written by tools/genrsp1.py).
-/
import Derived.Test.YtklognfecjffeaaDoorRsMem
namespace Go.Proofs.YtklognfecjffeaaDoor
open Go.RowKit

theorem place_p (q : Int) (h0 : q ≠ 0) (h1 : -1000000 ≤ q) (h2 : q ≤ 1000000) (w : World) : Calls Tryd.prog 19 #[.int .i64 q] w fun e w' => e = .returned (.int .i64 (pl q)) ∧ w' = w := by
  by_cases hq : q < 0
  · have HP : Hid ((pl q : Int) = 2 * (-q - 1) + 1) := by
      show _ = _
      unfold pl; rw [if_pos hq]; omega
    generalize pl q = P at *
    go_enter Tryd.func19, Tryd.ntmps19
    go_wp2
    go_ret
    exact ⟨retI HP.out.symm, rfl⟩
  · have HP : Hid ((pl q : Int) = 2 * (q - 1)) := by
      show _ = _
      unfold pl; rw [if_neg hq]; omega
    generalize pl q = P at *
    go_enter Tryd.func19, Tryd.ntmps19
    go_wp2
    go_ret
    exact ⟨retI HP.out.symm, rfl⟩
def ansOf (b : Bool) : Int := if b then 1 else 2
theorem answer_p (a b : Bool) (q : Int) (w : World) : Calls Tryd.prog 18 #[.agg #[.bool a, .bool b, .int .i64 q]] w fun e w' => e = .returned (.int .i64 (ansOf b)) ∧ w' = w.alloc (.cells #[.bool a, .bool b, .int .i64 q] 52) := by
  cases b
  all_goals
    go_enter Tryd.func18, Tryd.ntmps18
    go_wp2
    go_ret
    exact ⟨rfl, rfl⟩
variable {w : World} {bL bR hi : Nat} {H : Sh} {V : Vs} {s : St}
theorem settled_p (h : Net w bL bR hi H V s) {p : Nat} (hp : p < 2 * H.N) (b : Bool) : Calls Tryd.prog 35 #[.pointer (some ⟨bL, p * 5, none⟩), .bool b] w fun e w' => e = .returned (.bool (!((if b then s.su p else s.ho p) == 0))) ∧ w' = w := by
  obtain ⟨x0, x1, x2, x3, x4, xf⟩ := h.lit hp
  generalize s.su p = a1 at *
  generalize s.ho p = a2 at *
  generalize V.r p = a3 at *
  generalize V.w p = a4 at *
  clear h xf x0 x1 x2
  generalize p * 5 = X at *
  cases b
  all_goals
    go_enter Tryd.func35, Tryd.ntmps35
    go_wp2
    go_ret
    exact ⟨by first | rfl | (refine retB ?_; simp), rfl⟩

def bSure (H : Sh) (s : St) (i : Nat) : Bool := H.kd i == 0 && s.us i == 0
theorem sure1_p (h : Net w bL bR hi H V s) {i : Nat} (hp : i < H.R) : Calls Tryd.prog 71 #[.pointer (some ⟨bR, i * 6, none⟩)] w fun e w' => e = .returned (.bool (bSure H s i)) ∧ w' = w := by
  obtain ⟨x0, x1, x2, x3, x4, x5, xf⟩ := h.std hp
  have HD : Hid (bSure H s i = (H.kd i == 0 && s.us i == 0)) := rfl
  generalize bSure H s i = O at *
  generalize H.kd i = k at *
  generalize s.us i = a1 at *
  generalize s.uh i = a2 at *
  generalize s.ns i = a3 at *
  generalize s.fa i = a4 at *
  clear xf
  clear h
  generalize i * 6 = X at *
  by_cases hk : k = 0
  all_goals
    go_enter Tryd.func71, Tryd.ntmps71
    go_wp2
    go_ret
    exact ⟨retB (by rw [HD.out]; first | (simp [hk]; done) | rfl), rfl⟩
def bNot (H : Sh) (s : St) (i : Nat) : Bool := H.kd i == 0 && !s.ns i
theorem not1_p (h : Net w bL bR hi H V s) {i : Nat} (hp : i < H.R) : Calls Tryd.prog 72 #[.pointer (some ⟨bR, i * 6, none⟩)] w fun e w' => e = .returned (.bool (bNot H s i)) ∧ w' = w := by
  obtain ⟨x0, x1, x2, x3, x4, x5, xf⟩ := h.std hp
  have HD : Hid (bNot H s i = (H.kd i == 0 && !s.ns i)) := rfl
  generalize bNot H s i = O at *
  generalize H.kd i = k at *
  generalize s.us i = a1 at *
  generalize s.uh i = a2 at *
  generalize s.ns i = a3 at *
  generalize s.fa i = a4 at *
  clear xf
  clear h
  generalize i * 6 = X at *
  by_cases hk : k = 0
  all_goals
    go_enter Tryd.func72, Tryd.ntmps72
    go_wp2
    go_ret
    exact ⟨retB (by rw [HD.out]; first | (simp [hk]; done) | rfl), rfl⟩
def bCar (H : Sh) (s : St) (i : Nat) : Bool := !(H.kd i == 2) && s.uh i == 0
theorem car_p (h : Net w bL bR hi H V s) {i : Nat} (hp : i < H.R) : Calls Tryd.prog 74 #[.pointer (some ⟨bR, i * 6, none⟩)] w fun e w' => e = .returned (.bool (bCar H s i)) ∧ w' = w := by
  obtain ⟨x0, x1, x2, x3, x4, x5, xf⟩ := h.std hp
  have HD : Hid (bCar H s i = (!(H.kd i == 2) && s.uh i == 0)) := rfl
  generalize bCar H s i = O at *
  generalize H.kd i = k at *
  generalize s.us i = a1 at *
  generalize s.uh i = a2 at *
  generalize s.ns i = a3 at *
  generalize s.fa i = a4 at *
  clear xf
  clear h
  generalize i * 6 = X at *
  by_cases hk : k = 2
  all_goals
    go_enter Tryd.func74, Tryd.ntmps74
    go_wp2
    go_ret
    exact ⟨retB (by rw [HD.out]; first | (simp [hk]; done) | rfl), rfl⟩
def bMay (H : Sh) (s : St) (i : Nat) : Bool := !(H.kd i == 2) && !s.fa i
theorem may_p (h : Net w bL bR hi H V s) {i : Nat} (hp : i < H.R) : Calls Tryd.prog 76 #[.pointer (some ⟨bR, i * 6, none⟩)] w fun e w' => e = .returned (.bool (bMay H s i)) ∧ w' = w := by
  obtain ⟨x0, x1, x2, x3, x4, x5, xf⟩ := h.std hp
  have HD : Hid (bMay H s i = (!(H.kd i == 2) && !s.fa i)) := rfl
  generalize bMay H s i = O at *
  generalize H.kd i = k at *
  generalize s.us i = a1 at *
  generalize s.uh i = a2 at *
  generalize s.ns i = a3 at *
  generalize s.fa i = a4 at *
  clear xf
  clear h
  generalize i * 6 = X at *
  by_cases hk : k = 2
  all_goals
    go_enter Tryd.func76, Tryd.ntmps76
    go_wp2
    go_ret
    exact ⟨retB (by rw [HD.out]; first | (simp [hk]; done) | rfl), rfl⟩
set_option maxHeartbeats 1000000 in
theorem ix_sure (h : Net w bL bR hi H V s) {v : Value} {l : List Nat} (hv : PRow w bR hi H.R v l) : Calls Tryd.prog 80 #[v, .func (.func 71) #[] #[]] w fun e w' => (∃ j : Int, e = .returned (.int .i64 j) ∧ decide (0 ≤ j) = l.any (bSure H s)) ∧ w' = w := by
  obtain ⟨a, c, rfl, hl, hx⟩ := hv
  have HX := hidLL hx
  have HN := hidLL h
  clear hx h
  obtain ⟨n, hn⟩ : ∃ n, n = l.length := ⟨_, rfl⟩
  rw [← hn] at hl ⊢
  have HL := hidLL hn
  clear hn
  go_enter Tryd.func80, Tryd.ntmps80
  go_wp2_with fail
  go_loop [8] (fun t => ∃ i : Nat, i ≤ n ∧ t = .int .i64 i ∧ ∀ j x, j < i → l[j]? = some x → bSure H s x = false) (fun t => n - (RowKit.intOf t).toNat)
  case atStart => exact ⟨0, by omega, rfl, by intro j x h; omega⟩
  case round =>
    obtain ⟨i, hi, rfl, hall⟩ := hrel
    have HA := hidLL hall
    clear hall
    by_cases hlt : i < n
    · obtain ⟨x, hx⟩ : ∃ x, l[i]? = some x := ⟨_, List.getElem?_eq_getElem (by have := HL.out; omega)⟩
      obtain ⟨hR, g, rfl, _, _, cx⟩ := HX.out i x hx
      have HY := hidLL hx
      have hiz : (i : Int) < n := by omega
      have HC := hidLL (sure1_p HN.out hR)
      clear hx
      cases hb : bSure H s x
      · rw [hb] at HC
        go_wp2_with fail
        refine HC.out.mono ?_
        rintro e w' ⟨rfl, ew⟩
        subst w'
        have HM : Hid (∀ j y, j < i + 1 → l[j]? = some y → bSure H s y = false) := fun j y hj hy => by
          rcases Nat.lt_or_ge j i with h | h
          · exact HA.out j y h hy
          · obtain rfl : j = i := by omega
            rw [HY.out] at hy
            obtain rfl := Option.some.inj hy
            exact hb
        clear hb
        go_wp2
        go_round
        case rel => exact ⟨i + 1, by omega, by go_num, HM.out⟩
        case measure => simp [RowKit.intOf]; omega
      · rw [hb] at HC
        go_wp2_with fail
        refine HC.out.mono ?_
        rintro e w' ⟨rfl, ew⟩
        subst w'
        have HE : Hid (l.any (bSure H s) = true) := List.any_eq_true.2 ⟨x, List.mem_of_getElem? HY.out, hb⟩
        clear hb
        go_wp2
        go_ret
        exact ⟨⟨_, rfl, by rw [HE.out]; simp⟩, rfl⟩
    · have HE : Hid (l.any (bSure H s) = false) := by
        show _ = _
        rw [List.any_eq_false]
        intro x hx
        obtain ⟨j, hj⟩ := List.getElem?_of_mem hx
        have := HA.out j x (by
          have h1 := (List.getElem?_eq_some_iff.1 hj).1
          have := HL.out
          omega) hj
        rw [this]; decide
      have hge : ¬ (i : Int) < n := by omega
      go_wp2
      go_ret
      exact ⟨⟨_, rfl, by rw [HE.out]; decide⟩, rfl⟩
theorem has_sure (h : Net w bL bR hi H V s) {v : Value} {l : List Nat} (hv : PRow w bR hi H.R v l) : Calls Tryd.prog 70 #[v, .func (.func 71) #[] #[]] w fun e w' => e = .returned (.bool (l.any (bSure H s))) ∧ w' = w := by
  have HI := hidLL (ix_sure h hv)
  generalize l.any (bSure H s) = c at *
  obtain ⟨a, cc, rfl, _, _⟩ := hv
  clear h
  go_enter Tryd.func70, Tryd.ntmps70
  go_wp2_with fail
  refine HI.out.mono ?_
  rintro e w' ⟨⟨j, rfl, hj⟩, ew⟩
  subst w'
  go_wp2
  go_ret
  exact ⟨rfl, rfl⟩
set_option maxHeartbeats 1000000 in
theorem ix_not (h : Net w bL bR hi H V s) {v : Value} {l : List Nat} (hv : PRow w bR hi H.R v l) : Calls Tryd.prog 80 #[v, .func (.func 72) #[] #[]] w fun e w' => (∃ j : Int, e = .returned (.int .i64 j) ∧ decide (0 ≤ j) = l.any (bNot H s)) ∧ w' = w := by
  obtain ⟨a, c, rfl, hl, hx⟩ := hv
  have HX := hidLL hx
  have HN := hidLL h
  clear hx h
  obtain ⟨n, hn⟩ : ∃ n, n = l.length := ⟨_, rfl⟩
  rw [← hn] at hl ⊢
  have HL := hidLL hn
  clear hn
  go_enter Tryd.func80, Tryd.ntmps80
  go_wp2_with fail
  go_loop [8] (fun t => ∃ i : Nat, i ≤ n ∧ t = .int .i64 i ∧ ∀ j x, j < i → l[j]? = some x → bNot H s x = false) (fun t => n - (RowKit.intOf t).toNat)
  case atStart => exact ⟨0, by omega, rfl, by intro j x h; omega⟩
  case round =>
    obtain ⟨i, hi, rfl, hall⟩ := hrel
    have HA := hidLL hall
    clear hall
    by_cases hlt : i < n
    · obtain ⟨x, hx⟩ : ∃ x, l[i]? = some x := ⟨_, List.getElem?_eq_getElem (by have := HL.out; omega)⟩
      obtain ⟨hR, g, rfl, _, _, cx⟩ := HX.out i x hx
      have HY := hidLL hx
      have hiz : (i : Int) < n := by omega
      have HC := hidLL (not1_p HN.out hR)
      clear hx
      cases hb : bNot H s x
      · rw [hb] at HC
        go_wp2_with fail
        refine HC.out.mono ?_
        rintro e w' ⟨rfl, ew⟩
        subst w'
        have HM : Hid (∀ j y, j < i + 1 → l[j]? = some y → bNot H s y = false) := fun j y hj hy => by
          rcases Nat.lt_or_ge j i with h | h
          · exact HA.out j y h hy
          · obtain rfl : j = i := by omega
            rw [HY.out] at hy
            obtain rfl := Option.some.inj hy
            exact hb
        clear hb
        go_wp2
        go_round
        case rel => exact ⟨i + 1, by omega, by go_num, HM.out⟩
        case measure => simp [RowKit.intOf]; omega
      · rw [hb] at HC
        go_wp2_with fail
        refine HC.out.mono ?_
        rintro e w' ⟨rfl, ew⟩
        subst w'
        have HE : Hid (l.any (bNot H s) = true) := List.any_eq_true.2 ⟨x, List.mem_of_getElem? HY.out, hb⟩
        clear hb
        go_wp2
        go_ret
        exact ⟨⟨_, rfl, by rw [HE.out]; simp⟩, rfl⟩
    · have HE : Hid (l.any (bNot H s) = false) := by
        show _ = _
        rw [List.any_eq_false]
        intro x hx
        obtain ⟨j, hj⟩ := List.getElem?_of_mem hx
        have := HA.out j x (by
          have h1 := (List.getElem?_eq_some_iff.1 hj).1
          have := HL.out
          omega) hj
        rw [this]; decide
      have hge : ¬ (i : Int) < n := by omega
      go_wp2
      go_ret
      exact ⟨⟨_, rfl, by rw [HE.out]; decide⟩, rfl⟩
theorem has_not (h : Net w bL bR hi H V s) {v : Value} {l : List Nat} (hv : PRow w bR hi H.R v l) : Calls Tryd.prog 70 #[v, .func (.func 72) #[] #[]] w fun e w' => e = .returned (.bool (l.any (bNot H s))) ∧ w' = w := by
  have HI := hidLL (ix_not h hv)
  generalize l.any (bNot H s) = c at *
  obtain ⟨a, cc, rfl, _, _⟩ := hv
  clear h
  go_enter Tryd.func70, Tryd.ntmps70
  go_wp2_with fail
  refine HI.out.mono ?_
  rintro e w' ⟨⟨j, rfl, hj⟩, ew⟩
  subst w'
  go_wp2
  go_ret
  exact ⟨rfl, rfl⟩
set_option maxHeartbeats 1000000 in
theorem ix_car (h : Net w bL bR hi H V s) {v : Value} {l : List Nat} (hv : PRow w bR hi H.R v l) : Calls Tryd.prog 80 #[v, .func (.func 74) #[] #[]] w fun e w' => (∃ j : Int, e = .returned (.int .i64 j) ∧ decide (0 ≤ j) = l.any (bCar H s)) ∧ w' = w := by
  obtain ⟨a, c, rfl, hl, hx⟩ := hv
  have HX := hidLL hx
  have HN := hidLL h
  clear hx h
  obtain ⟨n, hn⟩ : ∃ n, n = l.length := ⟨_, rfl⟩
  rw [← hn] at hl ⊢
  have HL := hidLL hn
  clear hn
  go_enter Tryd.func80, Tryd.ntmps80
  go_wp2_with fail
  go_loop [8] (fun t => ∃ i : Nat, i ≤ n ∧ t = .int .i64 i ∧ ∀ j x, j < i → l[j]? = some x → bCar H s x = false) (fun t => n - (RowKit.intOf t).toNat)
  case atStart => exact ⟨0, by omega, rfl, by intro j x h; omega⟩
  case round =>
    obtain ⟨i, hi, rfl, hall⟩ := hrel
    have HA := hidLL hall
    clear hall
    by_cases hlt : i < n
    · obtain ⟨x, hx⟩ : ∃ x, l[i]? = some x := ⟨_, List.getElem?_eq_getElem (by have := HL.out; omega)⟩
      obtain ⟨hR, g, rfl, _, _, cx⟩ := HX.out i x hx
      have HY := hidLL hx
      have hiz : (i : Int) < n := by omega
      have HC := hidLL (car_p HN.out hR)
      clear hx
      cases hb : bCar H s x
      · rw [hb] at HC
        go_wp2_with fail
        refine HC.out.mono ?_
        rintro e w' ⟨rfl, ew⟩
        subst w'
        have HM : Hid (∀ j y, j < i + 1 → l[j]? = some y → bCar H s y = false) := fun j y hj hy => by
          rcases Nat.lt_or_ge j i with h | h
          · exact HA.out j y h hy
          · obtain rfl : j = i := by omega
            rw [HY.out] at hy
            obtain rfl := Option.some.inj hy
            exact hb
        clear hb
        go_wp2
        go_round
        case rel => exact ⟨i + 1, by omega, by go_num, HM.out⟩
        case measure => simp [RowKit.intOf]; omega
      · rw [hb] at HC
        go_wp2_with fail
        refine HC.out.mono ?_
        rintro e w' ⟨rfl, ew⟩
        subst w'
        have HE : Hid (l.any (bCar H s) = true) := List.any_eq_true.2 ⟨x, List.mem_of_getElem? HY.out, hb⟩
        clear hb
        go_wp2
        go_ret
        exact ⟨⟨_, rfl, by rw [HE.out]; simp⟩, rfl⟩
    · have HE : Hid (l.any (bCar H s) = false) := by
        show _ = _
        rw [List.any_eq_false]
        intro x hx
        obtain ⟨j, hj⟩ := List.getElem?_of_mem hx
        have := HA.out j x (by
          have h1 := (List.getElem?_eq_some_iff.1 hj).1
          have := HL.out
          omega) hj
        rw [this]; decide
      have hge : ¬ (i : Int) < n := by omega
      go_wp2
      go_ret
      exact ⟨⟨_, rfl, by rw [HE.out]; decide⟩, rfl⟩
theorem has_car (h : Net w bL bR hi H V s) {v : Value} {l : List Nat} (hv : PRow w bR hi H.R v l) : Calls Tryd.prog 70 #[v, .func (.func 74) #[] #[]] w fun e w' => e = .returned (.bool (l.any (bCar H s))) ∧ w' = w := by
  have HI := hidLL (ix_car h hv)
  generalize l.any (bCar H s) = c at *
  obtain ⟨a, cc, rfl, _, _⟩ := hv
  clear h
  go_enter Tryd.func70, Tryd.ntmps70
  go_wp2_with fail
  refine HI.out.mono ?_
  rintro e w' ⟨⟨j, rfl, hj⟩, ew⟩
  subst w'
  go_wp2
  go_ret
  exact ⟨rfl, rfl⟩
set_option maxHeartbeats 1000000 in
theorem ix_may (h : Net w bL bR hi H V s) {v : Value} {l : List Nat} (hv : PRow w bR hi H.R v l) : Calls Tryd.prog 80 #[v, .func (.func 76) #[] #[]] w fun e w' => (∃ j : Int, e = .returned (.int .i64 j) ∧ decide (0 ≤ j) = l.any (bMay H s)) ∧ w' = w := by
  obtain ⟨a, c, rfl, hl, hx⟩ := hv
  have HX := hidLL hx
  have HN := hidLL h
  clear hx h
  obtain ⟨n, hn⟩ : ∃ n, n = l.length := ⟨_, rfl⟩
  rw [← hn] at hl ⊢
  have HL := hidLL hn
  clear hn
  go_enter Tryd.func80, Tryd.ntmps80
  go_wp2_with fail
  go_loop [8] (fun t => ∃ i : Nat, i ≤ n ∧ t = .int .i64 i ∧ ∀ j x, j < i → l[j]? = some x → bMay H s x = false) (fun t => n - (RowKit.intOf t).toNat)
  case atStart => exact ⟨0, by omega, rfl, by intro j x h; omega⟩
  case round =>
    obtain ⟨i, hi, rfl, hall⟩ := hrel
    have HA := hidLL hall
    clear hall
    by_cases hlt : i < n
    · obtain ⟨x, hx⟩ : ∃ x, l[i]? = some x := ⟨_, List.getElem?_eq_getElem (by have := HL.out; omega)⟩
      obtain ⟨hR, g, rfl, _, _, cx⟩ := HX.out i x hx
      have HY := hidLL hx
      have hiz : (i : Int) < n := by omega
      have HC := hidLL (may_p HN.out hR)
      clear hx
      cases hb : bMay H s x
      · rw [hb] at HC
        go_wp2_with fail
        refine HC.out.mono ?_
        rintro e w' ⟨rfl, ew⟩
        subst w'
        have HM : Hid (∀ j y, j < i + 1 → l[j]? = some y → bMay H s y = false) := fun j y hj hy => by
          rcases Nat.lt_or_ge j i with h | h
          · exact HA.out j y h hy
          · obtain rfl : j = i := by omega
            rw [HY.out] at hy
            obtain rfl := Option.some.inj hy
            exact hb
        clear hb
        go_wp2
        go_round
        case rel => exact ⟨i + 1, by omega, by go_num, HM.out⟩
        case measure => simp [RowKit.intOf]; omega
      · rw [hb] at HC
        go_wp2_with fail
        refine HC.out.mono ?_
        rintro e w' ⟨rfl, ew⟩
        subst w'
        have HE : Hid (l.any (bMay H s) = true) := List.any_eq_true.2 ⟨x, List.mem_of_getElem? HY.out, hb⟩
        clear hb
        go_wp2
        go_ret
        exact ⟨⟨_, rfl, by rw [HE.out]; simp⟩, rfl⟩
    · have HE : Hid (l.any (bMay H s) = false) := by
        show _ = _
        rw [List.any_eq_false]
        intro x hx
        obtain ⟨j, hj⟩ := List.getElem?_of_mem hx
        have := HA.out j x (by
          have h1 := (List.getElem?_eq_some_iff.1 hj).1
          have := HL.out
          omega) hj
        rw [this]; decide
      have hge : ¬ (i : Int) < n := by omega
      go_wp2
      go_ret
      exact ⟨⟨_, rfl, by rw [HE.out]; decide⟩, rfl⟩
theorem has_may (h : Net w bL bR hi H V s) {v : Value} {l : List Nat} (hv : PRow w bR hi H.R v l) : Calls Tryd.prog 70 #[v, .func (.func 76) #[] #[]] w fun e w' => e = .returned (.bool (l.any (bMay H s))) ∧ w' = w := by
  have HI := hidLL (ix_may h hv)
  generalize l.any (bMay H s) = c at *
  obtain ⟨a, cc, rfl, _, _⟩ := hv
  clear h
  go_enter Tryd.func70, Tryd.ntmps70
  go_wp2_with fail
  refine HI.out.mono ?_
  rintro e w' ⟨⟨j, rfl, hj⟩, ew⟩
  subst w'
  go_wp2
  go_ret
  exact ⟨rfl, rfl⟩
def bWay (H : Sh) (s : St) (i : Nat) : Bool := !s.fa i && !(H.ab i).any (bCar H s)
theorem way_p (h : Net w bL bR hi H V s) {i : Nat} (hp : i < H.R) : Calls Tryd.prog 73 #[.pointer (some ⟨bR, i * 6, none⟩)] w fun e w' => e = .returned (.bool (bWay H s i)) ∧ w' = w := by
  have HC := hidLL (has_car h (h.ab i hp))
  obtain ⟨x0, x1, x2, x3, x4, x5, xf⟩ := h.std hp
  have HD : Hid (bWay H s i = (!s.fa i && !(H.ab i).any (bCar H s))) := rfl
  generalize bWay H s i = O at *
  generalize H.kd i = k at *
  generalize s.us i = a1 at *
  generalize s.uh i = a2 at *
  generalize s.ns i = a3 at *
  generalize s.fa i = a4 at *
  clear xf
  obtain ⟨aa, ac, e1, _, _⟩ := h.ab i hp
  rw [e1] at x1 HC
  generalize (H.ab i).any (bCar H s) = C at *
  clear h e1
  generalize i * 6 = X at *
  cases a4
  all_goals
    go_enter Tryd.func73, Tryd.ntmps73
    go_wp2_with (go_at_call 70; refine HC.out.mono ?_; rintro e w' ⟨rfl, ew⟩; subst w')
    go_ret
    exact ⟨retB (by rw [HD.out]; simp []), rfl⟩
def bStop (H : Sh) (s : St) (i : Nat) : Bool := s.uh i == 0 && !(H.ab i).any (bMay H s)
theorem stop_p (h : Net w bL bR hi H V s) {i : Nat} (hp : i < H.R) : Calls Tryd.prog 75 #[.pointer (some ⟨bR, i * 6, none⟩)] w fun e w' => e = .returned (.bool (bStop H s i)) ∧ w' = w := by
  have HC := hidLL (has_may h (h.ab i hp))
  obtain ⟨x0, x1, x2, x3, x4, x5, xf⟩ := h.std hp
  have HD : Hid (bStop H s i = (s.uh i == 0 && !(H.ab i).any (bMay H s))) := rfl
  generalize bStop H s i = O at *
  generalize H.kd i = k at *
  generalize s.us i = a1 at *
  generalize s.uh i = a2 at *
  generalize s.ns i = a3 at *
  generalize s.fa i = a4 at *
  clear xf
  obtain ⟨aa, ac, e1, _, _⟩ := h.ab i hp
  rw [e1] at x1 HC
  generalize (H.ab i).any (bMay H s) = C at *
  clear h e1
  generalize i * 6 = X at *
  by_cases hk : a2 = 0
  all_goals
    go_enter Tryd.func75, Tryd.ntmps75
    go_wp2_with (go_at_call 70; refine HC.out.mono ?_; rintro e w' ⟨rfl, ew⟩; subst w')
    go_ret
    exact ⟨retB (by rw [HD.out]; simp [hk]), rfl⟩
set_option maxHeartbeats 1000000 in
theorem ix_way (h : Net w bL bR hi H V s) {v : Value} {l : List Nat} (hv : PRow w bR hi H.R v l) : Calls Tryd.prog 80 #[v, .func (.func 73) #[] #[]] w fun e w' => (∃ j : Int, e = .returned (.int .i64 j) ∧ decide (0 ≤ j) = l.any (bWay H s)) ∧ w' = w := by
  obtain ⟨a, c, rfl, hl, hx⟩ := hv
  have HX := hidLL hx
  have HN := hidLL h
  clear hx h
  obtain ⟨n, hn⟩ : ∃ n, n = l.length := ⟨_, rfl⟩
  rw [← hn] at hl ⊢
  have HL := hidLL hn
  clear hn
  go_enter Tryd.func80, Tryd.ntmps80
  go_wp2_with fail
  go_loop [8] (fun t => ∃ i : Nat, i ≤ n ∧ t = .int .i64 i ∧ ∀ j x, j < i → l[j]? = some x → bWay H s x = false) (fun t => n - (RowKit.intOf t).toNat)
  case atStart => exact ⟨0, by omega, rfl, by intro j x h; omega⟩
  case round =>
    obtain ⟨i, hi, rfl, hall⟩ := hrel
    have HA := hidLL hall
    clear hall
    by_cases hlt : i < n
    · obtain ⟨x, hx⟩ : ∃ x, l[i]? = some x := ⟨_, List.getElem?_eq_getElem (by have := HL.out; omega)⟩
      obtain ⟨hR, g, rfl, _, _, cx⟩ := HX.out i x hx
      have HY := hidLL hx
      have hiz : (i : Int) < n := by omega
      have HC := hidLL (way_p HN.out hR)
      clear hx
      cases hb : bWay H s x
      · rw [hb] at HC
        go_wp2_with fail
        refine HC.out.mono ?_
        rintro e w' ⟨rfl, ew⟩
        subst w'
        have HM : Hid (∀ j y, j < i + 1 → l[j]? = some y → bWay H s y = false) := fun j y hj hy => by
          rcases Nat.lt_or_ge j i with h | h
          · exact HA.out j y h hy
          · obtain rfl : j = i := by omega
            rw [HY.out] at hy
            obtain rfl := Option.some.inj hy
            exact hb
        clear hb
        go_wp2
        go_round
        case rel => exact ⟨i + 1, by omega, by go_num, HM.out⟩
        case measure => simp [RowKit.intOf]; omega
      · rw [hb] at HC
        go_wp2_with fail
        refine HC.out.mono ?_
        rintro e w' ⟨rfl, ew⟩
        subst w'
        have HE : Hid (l.any (bWay H s) = true) := List.any_eq_true.2 ⟨x, List.mem_of_getElem? HY.out, hb⟩
        clear hb
        go_wp2
        go_ret
        exact ⟨⟨_, rfl, by rw [HE.out]; simp⟩, rfl⟩
    · have HE : Hid (l.any (bWay H s) = false) := by
        show _ = _
        rw [List.any_eq_false]
        intro x hx
        obtain ⟨j, hj⟩ := List.getElem?_of_mem hx
        have := HA.out j x (by
          have h1 := (List.getElem?_eq_some_iff.1 hj).1
          have := HL.out
          omega) hj
        rw [this]; decide
      have hge : ¬ (i : Int) < n := by omega
      go_wp2
      go_ret
      exact ⟨⟨_, rfl, by rw [HE.out]; decide⟩, rfl⟩
theorem has_way (h : Net w bL bR hi H V s) {v : Value} {l : List Nat} (hv : PRow w bR hi H.R v l) : Calls Tryd.prog 70 #[v, .func (.func 73) #[] #[]] w fun e w' => e = .returned (.bool (l.any (bWay H s))) ∧ w' = w := by
  have HI := hidLL (ix_way h hv)
  generalize l.any (bWay H s) = c at *
  obtain ⟨a, cc, rfl, _, _⟩ := hv
  clear h
  go_enter Tryd.func70, Tryd.ntmps70
  go_wp2_with fail
  refine HI.out.mono ?_
  rintro e w' ⟨⟨j, rfl, hj⟩, ew⟩
  subst w'
  go_wp2
  go_ret
  exact ⟨rfl, rfl⟩
set_option maxHeartbeats 1000000 in
theorem ix_stop (h : Net w bL bR hi H V s) {v : Value} {l : List Nat} (hv : PRow w bR hi H.R v l) : Calls Tryd.prog 80 #[v, .func (.func 75) #[] #[]] w fun e w' => (∃ j : Int, e = .returned (.int .i64 j) ∧ decide (0 ≤ j) = l.any (bStop H s)) ∧ w' = w := by
  obtain ⟨a, c, rfl, hl, hx⟩ := hv
  have HX := hidLL hx
  have HN := hidLL h
  clear hx h
  obtain ⟨n, hn⟩ : ∃ n, n = l.length := ⟨_, rfl⟩
  rw [← hn] at hl ⊢
  have HL := hidLL hn
  clear hn
  go_enter Tryd.func80, Tryd.ntmps80
  go_wp2_with fail
  go_loop [8] (fun t => ∃ i : Nat, i ≤ n ∧ t = .int .i64 i ∧ ∀ j x, j < i → l[j]? = some x → bStop H s x = false) (fun t => n - (RowKit.intOf t).toNat)
  case atStart => exact ⟨0, by omega, rfl, by intro j x h; omega⟩
  case round =>
    obtain ⟨i, hi, rfl, hall⟩ := hrel
    have HA := hidLL hall
    clear hall
    by_cases hlt : i < n
    · obtain ⟨x, hx⟩ : ∃ x, l[i]? = some x := ⟨_, List.getElem?_eq_getElem (by have := HL.out; omega)⟩
      obtain ⟨hR, g, rfl, _, _, cx⟩ := HX.out i x hx
      have HY := hidLL hx
      have hiz : (i : Int) < n := by omega
      have HC := hidLL (stop_p HN.out hR)
      clear hx
      cases hb : bStop H s x
      · rw [hb] at HC
        go_wp2_with fail
        refine HC.out.mono ?_
        rintro e w' ⟨rfl, ew⟩
        subst w'
        have HM : Hid (∀ j y, j < i + 1 → l[j]? = some y → bStop H s y = false) := fun j y hj hy => by
          rcases Nat.lt_or_ge j i with h | h
          · exact HA.out j y h hy
          · obtain rfl : j = i := by omega
            rw [HY.out] at hy
            obtain rfl := Option.some.inj hy
            exact hb
        clear hb
        go_wp2
        go_round
        case rel => exact ⟨i + 1, by omega, by go_num, HM.out⟩
        case measure => simp [RowKit.intOf]; omega
      · rw [hb] at HC
        go_wp2_with fail
        refine HC.out.mono ?_
        rintro e w' ⟨rfl, ew⟩
        subst w'
        have HE : Hid (l.any (bStop H s) = true) := List.any_eq_true.2 ⟨x, List.mem_of_getElem? HY.out, hb⟩
        clear hb
        go_wp2
        go_ret
        exact ⟨⟨_, rfl, by rw [HE.out]; simp⟩, rfl⟩
    · have HE : Hid (l.any (bStop H s) = false) := by
        show _ = _
        rw [List.any_eq_false]
        intro x hx
        obtain ⟨j, hj⟩ := List.getElem?_of_mem hx
        have := HA.out j x (by
          have h1 := (List.getElem?_eq_some_iff.1 hj).1
          have := HL.out
          omega) hj
        rw [this]; decide
      have hge : ¬ (i : Int) < n := by omega
      go_wp2
      go_ret
      exact ⟨⟨_, rfl, by rw [HE.out]; decide⟩, rfl⟩
theorem has_stop (h : Net w bL bR hi H V s) {v : Value} {l : List Nat} (hv : PRow w bR hi H.R v l) : Calls Tryd.prog 70 #[v, .func (.func 75) #[] #[]] w fun e w' => e = .returned (.bool (l.any (bStop H s))) ∧ w' = w := by
  have HI := hidLL (ix_stop h hv)
  generalize l.any (bStop H s) = c at *
  obtain ⟨a, cc, rfl, _, _⟩ := hv
  clear h
  go_enter Tryd.func70, Tryd.ntmps70
  go_wp2_with fail
  refine HI.out.mono ?_
  rintro e w' ⟨⟨j, rfl, hj⟩, ew⟩
  subst w'
  go_wp2
  go_ret
  exact ⟨rfl, rfl⟩
end Go.Proofs.YtklognfecjffeaaDoor

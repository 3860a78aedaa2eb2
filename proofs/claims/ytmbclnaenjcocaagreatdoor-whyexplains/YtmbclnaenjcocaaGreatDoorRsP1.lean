/-
  Package reason: what is read of literals and standings (written by tools/genrsp1b.py).
-/
import Derived.Test.YtmbclnaenjcocaaGreatDoorRsMem
namespace Go.Proofs.YtmbclnaenjcocaaGreatDoor
open Go.RowKit

theorem place_p (q : Int) (h0 : q ≠ 0) (h1 : -1000000 ≤ q) (h2 : q ≤ 1000000) (w : World) : Calls Tryz.prog 40 #[.int .i64 q] w fun e w' => e = .returned (.int .i64 (pl q)) ∧ w' = w := by
  by_cases hq : q < 0
  · have HP : Hid ((pl q : Int) = 2 * (-q - 1) + 1) := by
      show _ = _
      unfold pl; rw [if_pos hq]; omega
    generalize pl q = P at *
    go_enter Tryz.func40, Tryz.ntmps40
    go_wp2
    go_ret
    exact ⟨retI HP.out.symm, rfl⟩
  · have HP : Hid ((pl q : Int) = 2 * (q - 1)) := by
      show _ = _
      unfold pl; rw [if_neg hq]; omega
    generalize pl q = P at *
    go_enter Tryz.func40, Tryz.ntmps40
    go_wp2
    go_ret
    exact ⟨retI HP.out.symm, rfl⟩
def ansOf (b : Bool) : Int := if b then 1 else 2
theorem answer_p (a b : Bool) (q : Int) (w : World) : Calls Tryz.prog 64 #[.agg #[.bool a, .bool b, .int .i64 q]] w fun e w' => e = .returned (.int .i64 (ansOf b)) ∧ w' = w.alloc (.cells #[.bool a, .bool b, .int .i64 q] 65) := by
  cases b
  all_goals
    go_enter Tryz.func64, Tryz.ntmps64
    go_wp2
    go_ret
    exact ⟨rfl, rfl⟩
variable {w : World} {bL bR hi : Nat} {H : Sh} {V : Vs} {s : St}
theorem shown_p (h : Net w bL bR hi H V s) {p : Nat} (hp : p < 2 * H.N) (b : Bool) : Calls Tryz.prog 63 #[.pointer (some ⟨bL, p * 6, none⟩), .bool b] w fun e w' => e = .returned (.int .i64 (if b then s.su p else s.ho p)) ∧ w' = w := by
  obtain ⟨x0, x1, x2, x3, x4, x5, xf⟩ := h.lit hp
  generalize s.su p = a1 at *
  generalize s.ho p = a2 at *
  generalize V.r p = a3 at *
  generalize V.w p = a4 at *
  clear h xf x0 x1 x2 x3
  generalize p * 6 = X at *
  cases b
  all_goals
    go_enter Tryz.func63, Tryz.ntmps63
    go_wp2
    go_ret
    exact ⟨rfl, rfl⟩
theorem settled_p (h : Net w bL bR hi H V s) {p : Nat} (hp : p < 2 * H.N) (b : Bool) : Calls Tryz.prog 50 #[.pointer (some ⟨bL, p * 6, none⟩), .bool b] w fun e w' => e = .returned (.bool (!((if b then s.su p else s.ho p) == 0))) ∧ w' = w := by
  have HC := hidLL (shown_p h hp b)
  generalize (if b then s.su p else s.ho p) = c at *
  clear h
  generalize p * 6 = X at *
  go_enter Tryz.func50, Tryz.ntmps50
  go_wp2_with fail
  refine HC.out.mono ?_
  rintro e w' ⟨rfl, ew⟩
  subst w'
  go_wp2
  go_ret
  exact ⟨by first | rfl | (refine retB ?_; simp), rfl⟩

/-- Where the first that is so stands; -1: nowhere. -/
def ixOf (f : Nat → Bool) (l : List Nat) : Int := match l.findIdx? f with
  | some j => (j : Int)
  | none => -1
theorem ix_hit {f : Nat → Bool} {l : List Nat} {i x : Nat} (h : ∀ j x, j < i → l[j]? = some x → f x = false) (hx : l[i]? = some x) (hf : f x = true) : ixOf f l = i := by
  obtain ⟨hi, e⟩ := List.getElem?_eq_some_iff.1 hx
  have : l.findIdx? f = some i := by
    rw [List.findIdx?_eq_some_iff_getElem]
    exact ⟨hi, by rw [e]; exact hf, fun j hj => by rw [h j _ hj (List.getElem?_eq_getElem (by omega))]; decide⟩
  unfold ixOf
  rw [this]
theorem ix_miss {f : Nat → Bool} {l : List Nat} (h : ∀ (j x : Nat), l[j]? = some x → f x = false) : ixOf f l = -1 := by
  have : l.findIdx? f = none := by
    rw [List.findIdx?_eq_none_iff]
    intro x hx
    obtain ⟨j, hj⟩ := List.getElem?_of_mem hx
    exact h j x hj
  unfold ixOf
  rw [this]
theorem ix_cases (f : Nat → Bool) (l : List Nat) : (ixOf f l = -1 ∧ l.any f = false ∧ l.find? f = none) ∨ ∃ (j x : Nat), ixOf f l = j ∧ l[j]? = some x ∧ f x = true ∧ l.any f = true ∧ l.find? f = some x := by
  cases h : l.findIdx? f with
  | none =>
    refine .inl ⟨by unfold ixOf; rw [h], ?_, ?_⟩
    · rw [List.findIdx?_eq_none_iff] at h
      rw [List.any_eq_false]
      intro x hx
      rw [h x hx]; decide
    · rw [List.findIdx?_eq_none_iff] at h
      rw [List.find?_eq_none]
      intro x hx
      rw [h x hx]; decide
  | some j =>
    have h1 := h
    rw [List.findIdx?_eq_some_iff_getElem] at h1
    obtain ⟨hj, hf, hm⟩ := h1
    refine .inr ⟨j, l[j], by unfold ixOf; rw [h], List.getElem?_eq_getElem hj, hf, List.any_eq_true.2 ⟨l[j], List.getElem_mem hj, hf⟩, ?_⟩
    rw [List.find?_eq_some_iff_getElem]
    exact ⟨hf, j, hj, rfl, fun k hk => by have := hm k hk; simpa using this⟩

def bSure (H : Sh) (s : St) (i : Nat) : Bool := H.kd i == 0 && s.us i == 0
theorem sure1_p (h : Net w bL bR hi H V s) {i : Nat} (hp : i < H.R) : Calls Tryz.prog 81 #[.pointer (some ⟨bR, i * 7, none⟩)] w fun e w' => e = .returned (.bool (bSure H s i)) ∧ w' = w := by
  obtain ⟨x0, x1, x2, x3, x4, x5, x6, xf⟩ := h.std hp
  have HD : Hid (bSure H s i = (H.kd i == 0 && s.us i == 0)) := rfl
  generalize bSure H s i = O at *
  generalize H.kd i = k at *
  generalize s.us i = a1 at *
  generalize s.uh i = a2 at *
  generalize s.ns i = a3 at *
  generalize s.fa i = a4 at *
  clear xf
  clear h
  generalize i * 7 = X at *
  by_cases hk : k = 0
  all_goals
    go_enter Tryz.func81, Tryz.ntmps81
    go_wp2
    go_ret
    exact ⟨retB (by rw [HD.out]; first | (simp [hk]; done) | rfl), rfl⟩
def bCar (H : Sh) (s : St) (i : Nat) : Bool := !(H.kd i == 2) && s.uh i == 0
theorem car_p (h : Net w bL bR hi H V s) {i : Nat} (hp : i < H.R) : Calls Tryz.prog 83 #[.pointer (some ⟨bR, i * 7, none⟩)] w fun e w' => e = .returned (.bool (bCar H s i)) ∧ w' = w := by
  obtain ⟨x0, x1, x2, x3, x4, x5, x6, xf⟩ := h.std hp
  have HD : Hid (bCar H s i = (!(H.kd i == 2) && s.uh i == 0)) := rfl
  generalize bCar H s i = O at *
  generalize H.kd i = k at *
  generalize s.us i = a1 at *
  generalize s.uh i = a2 at *
  generalize s.ns i = a3 at *
  generalize s.fa i = a4 at *
  clear xf
  clear h
  generalize i * 7 = X at *
  by_cases hk : k = 2
  all_goals
    go_enter Tryz.func83, Tryz.ntmps83
    go_wp2
    go_ret
    exact ⟨retB (by rw [HD.out]; first | (simp [hk]; done) | rfl), rfl⟩
set_option maxHeartbeats 1000000 in
theorem ix_sure (h : Net w bL bR hi H V s) {v : Value} {l : List Nat} (hv : PRow w bR hi H.R v l) : Calls Tryz.prog 80 #[v, .func (.func 81) #[] #[]] w fun e w' => e = .returned (.int .i64 (ixOf (bSure H s) l)) ∧ w' = w := by
  obtain ⟨a, c, rfl, hl, hx⟩ := hv
  have HX := hidLL hx
  have HN := hidLL h
  clear hx h
  obtain ⟨n, hn⟩ : ∃ n, n = l.length := ⟨_, rfl⟩
  rw [← hn] at hl ⊢
  have HL := hidLL hn
  clear hn
  obtain ⟨O, hO⟩ : ∃ O, O = ixOf (bSure H s) l := ⟨_, rfl⟩
  rw [← hO]
  have HO := hidLL hO
  clear hO
  go_enter Tryz.func80, Tryz.ntmps80
  go_wp2_with fail
  go_loop [8] (fun t => ∃ i : Nat, i ≤ n ∧ t = .int .i64 i ∧ ∀ j x, j < i → l[j]? = some x → bSure H s x = false) (fun t => n - (RowKit.intOf t).toNat)
  case atStart => exact ⟨0, by omega, rfl, by intro j x h; omega⟩
  case round =>
    obtain ⟨i, hi, rfl, hall⟩ := hrel
    have HA := hidLL hall
    clear hall
    by_cases hlt : i < n
    · obtain ⟨x, hx⟩ : ∃ x, l[i]? = some x := ⟨_, List.getElem?_eq_getElem (by have := HL.out; omega)⟩
      obtain ⟨hR, g, rfl, _, _, cx⟩ := HX.out i x hx
      have HY := hidLL hx
      have hiz : (i : Int) < n := by omega
      have HC := hidLL (sure1_p HN.out hR)
      clear hx
      cases hb : bSure H s x
      · rw [hb] at HC
        go_wp2_with fail
        refine HC.out.mono ?_
        rintro e w' ⟨rfl, ew⟩
        subst w'
        have HM : Hid (∀ j y, j < i + 1 → l[j]? = some y → bSure H s y = false) := fun j y hj hy => by
          rcases Nat.lt_or_ge j i with h | h
          · exact HA.out j y h hy
          · obtain rfl : j = i := by omega
            rw [HY.out] at hy
            obtain rfl := Option.some.inj hy
            exact hb
        clear hb
        go_wp2
        go_round
        case rel => exact ⟨i + 1, by omega, by go_num, HM.out⟩
        case measure => simp [RowKit.intOf]; omega
      · rw [hb] at HC
        go_wp2_with fail
        refine HC.out.mono ?_
        rintro e w' ⟨rfl, ew⟩
        subst w'
        have HE : Hid (O = i) := HO.out.trans (ix_hit HA.out HY.out hb)
        clear hb
        go_wp2
        go_ret
        exact ⟨retI HE.out.symm, rfl⟩
    · have HE : Hid (O = -1) := HO.out.trans (ix_miss fun j x hj => HA.out j x (by
          have h1 := (List.getElem?_eq_some_iff.1 hj).1
          have := HL.out
          omega) hj)
      have hge : ¬ (i : Int) < n := by omega
      go_wp2
      go_ret
      exact ⟨retI HE.out.symm, rfl⟩
set_option maxHeartbeats 1000000 in
theorem ix_car (h : Net w bL bR hi H V s) {v : Value} {l : List Nat} (hv : PRow w bR hi H.R v l) : Calls Tryz.prog 80 #[v, .func (.func 83) #[] #[]] w fun e w' => e = .returned (.int .i64 (ixOf (bCar H s) l)) ∧ w' = w := by
  obtain ⟨a, c, rfl, hl, hx⟩ := hv
  have HX := hidLL hx
  have HN := hidLL h
  clear hx h
  obtain ⟨n, hn⟩ : ∃ n, n = l.length := ⟨_, rfl⟩
  rw [← hn] at hl ⊢
  have HL := hidLL hn
  clear hn
  obtain ⟨O, hO⟩ : ∃ O, O = ixOf (bCar H s) l := ⟨_, rfl⟩
  rw [← hO]
  have HO := hidLL hO
  clear hO
  go_enter Tryz.func80, Tryz.ntmps80
  go_wp2_with fail
  go_loop [8] (fun t => ∃ i : Nat, i ≤ n ∧ t = .int .i64 i ∧ ∀ j x, j < i → l[j]? = some x → bCar H s x = false) (fun t => n - (RowKit.intOf t).toNat)
  case atStart => exact ⟨0, by omega, rfl, by intro j x h; omega⟩
  case round =>
    obtain ⟨i, hi, rfl, hall⟩ := hrel
    have HA := hidLL hall
    clear hall
    by_cases hlt : i < n
    · obtain ⟨x, hx⟩ : ∃ x, l[i]? = some x := ⟨_, List.getElem?_eq_getElem (by have := HL.out; omega)⟩
      obtain ⟨hR, g, rfl, _, _, cx⟩ := HX.out i x hx
      have HY := hidLL hx
      have hiz : (i : Int) < n := by omega
      have HC := hidLL (car_p HN.out hR)
      clear hx
      cases hb : bCar H s x
      · rw [hb] at HC
        go_wp2_with fail
        refine HC.out.mono ?_
        rintro e w' ⟨rfl, ew⟩
        subst w'
        have HM : Hid (∀ j y, j < i + 1 → l[j]? = some y → bCar H s y = false) := fun j y hj hy => by
          rcases Nat.lt_or_ge j i with h | h
          · exact HA.out j y h hy
          · obtain rfl : j = i := by omega
            rw [HY.out] at hy
            obtain rfl := Option.some.inj hy
            exact hb
        clear hb
        go_wp2
        go_round
        case rel => exact ⟨i + 1, by omega, by go_num, HM.out⟩
        case measure => simp [RowKit.intOf]; omega
      · rw [hb] at HC
        go_wp2_with fail
        refine HC.out.mono ?_
        rintro e w' ⟨rfl, ew⟩
        subst w'
        have HE : Hid (O = i) := HO.out.trans (ix_hit HA.out HY.out hb)
        clear hb
        go_wp2
        go_ret
        exact ⟨retI HE.out.symm, rfl⟩
    · have HE : Hid (O = -1) := HO.out.trans (ix_miss fun j x hj => HA.out j x (by
          have h1 := (List.getElem?_eq_some_iff.1 hj).1
          have := HL.out
          omega) hj)
      have hge : ¬ (i : Int) < n := by omega
      go_wp2
      go_ret
      exact ⟨retI HE.out.symm, rfl⟩
def bNot (H : Sh) (s : St) (i : Nat) : Bool := H.kd i == 0 && s.ns i == 0
def bMay (H : Sh) (s : St) (i : Nat) : Bool := !(H.kd i == 2) && s.fa i == 0
def bWay (H : Sh) (s : St) (i : Nat) : Bool := s.fa i == 0 && !(H.ab i).any (bCar H s)
def bStop (H : Sh) (s : St) (i : Nat) : Bool := s.uh i == 0 && !(H.ab i).any (bMay H s)
def fHold (H : Sh) (s : St) (p : Nat) : Bool := s.su p == 1 || (s.su (opp p) == 2 && (H.ru p).any (bCar H s) && !(H.ru (opp p)).any (bWay H s))
def fFail (H : Sh) (s : St) (p : Nat) : Bool := s.su p == 2 && (s.su (opp p) == 1 || !(H.ru p).any (bMay H s) || (H.ru (opp p)).any (bStop H s))
/-- Does a claim of a literal follow? -/
def fol4 (H : Sh) (s : St) (p : Nat) (a b : Bool) : Bool := if a then (if b then (H.ru p).any (bSure H s) else !(H.ru p).any (bNot H s)) else (if b then fHold H s p else fFail H s p)
end Go.Proofs.YtmbclnaenjcocaaGreatDoor

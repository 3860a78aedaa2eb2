/-
  Package reason: is a theory within its bounds, of the kinds, of names that are (written by tools/genrsv1.py).
-/
import Derived.Test.YtmbclnaenjcocaaGreatDoorRsThy
import Derived.Laws.EntriesVeiled
import Derived.Deep.Cut
namespace Go.Proofs.YtmbclnaenjcocaaGreatDoor
open Go.RowKit

def longB (r : Rl) : Bool := decide (120 < r.body.length)
def noKind (r : Rl) : Bool := !(r.kind == 0) && !(r.kind == 1) && !(r.kind == 2)
def noLit (T : Thy) (q : Int) : Bool := q == 0 || decide (q < -T.names) || decide (T.names < q)
def noRule (T : Thy) (i : Int) : Bool := decide (i < 0) || decide ((T.rules.length : Int) ≤ i)
def noPair (T : Thy) (x : Int × Int) : Bool := noRule T x.1 || noRule T x.2
def badRl (T : Thy) (r : Rl) : Bool := noLit T r.head || r.body.any (noLit T)
def sizeB (T : Thy) : Bool := decide (T.names < 0) || decide (120 < T.names) || decide (120 < T.rules.length) || decide (1200 < T.over.length)
def inB (T : Thy) : Bool := !sizeB T && !T.rules.any longB
def hasN (T : Thy) : Bool := !T.rules.any (badRl T) && !T.over.any (noPair T)
theorem long_v (r : Rl) (ba : Option Addr) (bc : Nat) (hl : r.body.length ≤ 17592186044416) (w : World) : Calls Tryz.prog 70 #[.agg #[.int .i64 r.kind, .int .i64 r.head, .slice ba r.body.length bc]] w fun e w' => e = .returned (.bool (longB r)) ∧ Below w.heap.size w w' := by
  have HL : Hid (longB r = decide (120 < r.body.length)) := rfl
  generalize longB r = O at *
  generalize r.kind = k at *
  generalize r.head = q at *
  generalize r.body.length = n at *
  have HB : Hid (∀ o : Obj, Below w.heap.size w (w.alloc o)) := fun o => (Below.refl _ _).alloc (Nat.le_refl _) o
  go_enter Tryz.func70, Tryz.ntmps70
  go_wp2
  go_ret
  exact ⟨retB (by rw [HL.out, Bool.eq_iff_iff]; simp; try omega), HB.out _⟩
theorem kind_v (r : Rl) (ba : Option Addr) (bc : Nat) (_hl : r.body.length ≤ 17592186044416) (w : World) : Calls Tryz.prog 46 #[.agg #[.int .i64 r.kind, .int .i64 r.head, .slice ba r.body.length bc]] w fun e w' => e = .returned (.bool (noKind r)) ∧ Below w.heap.size w w' := by
  have HL : Hid (noKind r = (!(r.kind == 0) && !(r.kind == 1) && !(r.kind == 2))) := rfl
  generalize noKind r = O at *
  generalize r.kind = k at *
  generalize r.head = q at *
  generalize r.body.length = n at *
  have HB : Hid (∀ o : Obj, Below w.heap.size w (w.alloc o)) := fun o => (Below.refl _ _).alloc (Nat.le_refl _) o
  by_cases h0 : k = 0
  · subst h0
    go_enter Tryz.func46, Tryz.ntmps46
    go_wp2
    go_ret
    exact ⟨retB (by rw [HL.out]; rfl), HB.out _⟩
  · by_cases h1 : k = 1
    · subst h1
      go_enter Tryz.func46, Tryz.ntmps46
      go_wp2
      go_ret
      exact ⟨retB (by rw [HL.out]; rfl), HB.out _⟩
    · go_enter Tryz.func46, Tryz.ntmps46
      go_wp2
      go_ret
      exact ⟨retB (by rw [HL.out]; rfl), HB.out _⟩
set_option maxHeartbeats 1000000 in
theorem ixLong {w : World} {B : Nat} {a : Option Addr} {c : Nat} {l : List Rl} (h : RRd w B (.slice a l.length c) l) (hB : B ≤ w.heap.size) (hl : l.length ≤ 3518437208883) : Calls Tryz.prog 71 #[.slice a l.length c, .func (.func 70) #[] #[]] w fun e w' => (∃ j : Int, e = .returned (.int .i64 j) ∧ decide (0 ≤ j) = l.any (longB)) ∧ Below w.heap.size w w' := by
  have HX := hidLL h
  
  clear h
  obtain ⟨n, hn⟩ : ∃ n, n = l.length := ⟨_, rfl⟩
  rw [← hn] at hl ⊢
  have HL := hidLL hn
  clear hn
  go_enter Tryz.func71, Tryz.ntmps71
  go_wp2_with fail
  go_loopw [8] (fun t wr => ∃ i : Nat, i ≤ n ∧ t = .int .i64 i ∧ (∀ j x, j < i → l[j]? = some x → longB x = false) ∧ Below w.heap.size w wr) (fun t _ => n - (RowKit.intOf t).toNat)
  case atStart => exact ⟨0, by omega, rfl, by intro j x h; omega, Below.refl _ _⟩
  case round =>
    obtain ⟨i, hi, rfl, hall, hbel⟩ := hrel
    have HA := hidLL hall
    clear hall
    by_cases hlt : i < n
    · obtain ⟨x, hx⟩ : ∃ x, l[i]? = some x := ⟨_, List.getElem?_eq_getElem (by have := HL.out; omega)⟩
      obtain ⟨g, o, bv, er, hgB, c0, c1, c2, hbd⟩ := (HX.out.on fun k hk => hbel.block k (by omega)).at hx
      subst er
      obtain ⟨ba, bc, ebv, hbl, _⟩ := hbd
      subst ebv
      have HY := hidLL hx
      have hiz : (i : Int) < n := by omega
      have HBe := hidLL hbel
      have HC := hidLL (long_v x ba bc hbl wr)
      clear hx hbel
      cases hb : longB x
      · rw [hb] at HC
        generalize x.kind = xk at *
        generalize x.head = xh at *
        generalize x.body.length = xn at *
        go_wp2_with fail
        refine HC.out.mono ?_
        rintro e w9 ⟨rfl, hb9⟩
        have HM : Hid (∀ j y, j < i + 1 → l[j]? = some y → longB y = false) := fun j y hj hy => by
          rcases Nat.lt_or_ge j i with h | h
          · exact HA.out j y h hy
          · obtain rfl : j = i := by omega
            rw [HY.out] at hy
            obtain rfl := Option.some.inj hy
            exact hb
        have H9 := hidLL hb9
        clear hb hb9
        go_wp2
        go_roundw
        case rel => exact ⟨i + 1, by omega, by go_num, HM.out, HBe.out.trans (H9.out.mono HBe.out.size)⟩
        case measure => simp [RowKit.intOf]; omega
      · rw [hb] at HC
        generalize x.kind = xk at *
        generalize x.head = xh at *
        generalize x.body.length = xn at *
        go_wp2_with fail
        refine HC.out.mono ?_
        rintro e w9 ⟨rfl, hb9⟩
        have HE : Hid (l.any (longB) = true) := List.any_eq_true.2 ⟨x, List.mem_of_getElem? HY.out, hb⟩
        have H9 := hidLL hb9
        clear hb hb9
        go_wp2
        go_ret
        exact ⟨⟨_, rfl, by rw [HE.out]; simp⟩, HBe.out.trans (H9.out.mono HBe.out.size)⟩
    · have HE : Hid (l.any (longB) = false) := by
        show _ = _
        rw [List.any_eq_false]
        intro x hx
        obtain ⟨j, hj⟩ := List.getElem?_of_mem hx
        have := HA.out j x (by
          have h1 := (List.getElem?_eq_some_iff.1 hj).1
          have := HL.out
          omega) hj
        rw [this]; decide
      have hge : ¬ (i : Int) < n := by omega
      have HBe := hidLL hbel
      clear hbel
      go_wp2
      go_ret
      exact ⟨⟨_, rfl, by rw [HE.out]; decide⟩, HBe.out⟩
theorem hasLong {w : World} {B : Nat} {a : Option Addr} {c : Nat} {l : List Rl} (h : RRd w B (.slice a l.length c) l) (hB : B ≤ w.heap.size) (hl : l.length ≤ 3518437208883) : Calls Tryz.prog 45 #[.slice a l.length c, .func (.func 70) #[] #[]] w fun e w' => e = .returned (.bool (l.any (longB))) ∧ Below w.heap.size w w' := by
  have HI := hidLL (ixLong h hB hl)
  generalize l.any (longB) = cc at *
  clear h
  go_enter Tryz.func45, Tryz.ntmps45
  go_wp2_with fail
  refine HI.out.mono ?_
  rintro e w' ⟨⟨j, rfl, hj⟩, hb⟩
  have HB := hidLL hb
  clear hb
  go_wp2
  go_ret
  exact ⟨rfl, HB.out⟩
set_option maxHeartbeats 1000000 in
theorem ixKind {w : World} {B : Nat} {a : Option Addr} {c : Nat} {l : List Rl} (h : RRd w B (.slice a l.length c) l) (hB : B ≤ w.heap.size) (hl : l.length ≤ 3518437208883) : Calls Tryz.prog 71 #[.slice a l.length c, .func (.func 46) #[] #[]] w fun e w' => (∃ j : Int, e = .returned (.int .i64 j) ∧ decide (0 ≤ j) = l.any (noKind)) ∧ Below w.heap.size w w' := by
  have HX := hidLL h
  
  clear h
  obtain ⟨n, hn⟩ : ∃ n, n = l.length := ⟨_, rfl⟩
  rw [← hn] at hl ⊢
  have HL := hidLL hn
  clear hn
  go_enter Tryz.func71, Tryz.ntmps71
  go_wp2_with fail
  go_loopw [8] (fun t wr => ∃ i : Nat, i ≤ n ∧ t = .int .i64 i ∧ (∀ j x, j < i → l[j]? = some x → noKind x = false) ∧ Below w.heap.size w wr) (fun t _ => n - (RowKit.intOf t).toNat)
  case atStart => exact ⟨0, by omega, rfl, by intro j x h; omega, Below.refl _ _⟩
  case round =>
    obtain ⟨i, hi, rfl, hall, hbel⟩ := hrel
    have HA := hidLL hall
    clear hall
    by_cases hlt : i < n
    · obtain ⟨x, hx⟩ : ∃ x, l[i]? = some x := ⟨_, List.getElem?_eq_getElem (by have := HL.out; omega)⟩
      obtain ⟨g, o, bv, er, hgB, c0, c1, c2, hbd⟩ := (HX.out.on fun k hk => hbel.block k (by omega)).at hx
      subst er
      obtain ⟨ba, bc, ebv, hbl, _⟩ := hbd
      subst ebv
      have HY := hidLL hx
      have hiz : (i : Int) < n := by omega
      have HBe := hidLL hbel
      have HC := hidLL (kind_v x ba bc hbl wr)
      clear hx hbel
      cases hb : noKind x
      · rw [hb] at HC
        generalize x.kind = xk at *
        generalize x.head = xh at *
        generalize x.body.length = xn at *
        go_wp2_with fail
        refine HC.out.mono ?_
        rintro e w9 ⟨rfl, hb9⟩
        have HM : Hid (∀ j y, j < i + 1 → l[j]? = some y → noKind y = false) := fun j y hj hy => by
          rcases Nat.lt_or_ge j i with h | h
          · exact HA.out j y h hy
          · obtain rfl : j = i := by omega
            rw [HY.out] at hy
            obtain rfl := Option.some.inj hy
            exact hb
        have H9 := hidLL hb9
        clear hb hb9
        go_wp2
        go_roundw
        case rel => exact ⟨i + 1, by omega, by go_num, HM.out, HBe.out.trans (H9.out.mono HBe.out.size)⟩
        case measure => simp [RowKit.intOf]; omega
      · rw [hb] at HC
        generalize x.kind = xk at *
        generalize x.head = xh at *
        generalize x.body.length = xn at *
        go_wp2_with fail
        refine HC.out.mono ?_
        rintro e w9 ⟨rfl, hb9⟩
        have HE : Hid (l.any (noKind) = true) := List.any_eq_true.2 ⟨x, List.mem_of_getElem? HY.out, hb⟩
        have H9 := hidLL hb9
        clear hb hb9
        go_wp2
        go_ret
        exact ⟨⟨_, rfl, by rw [HE.out]; simp⟩, HBe.out.trans (H9.out.mono HBe.out.size)⟩
    · have HE : Hid (l.any (noKind) = false) := by
        show _ = _
        rw [List.any_eq_false]
        intro x hx
        obtain ⟨j, hj⟩ := List.getElem?_of_mem hx
        have := HA.out j x (by
          have h1 := (List.getElem?_eq_some_iff.1 hj).1
          have := HL.out
          omega) hj
        rw [this]; decide
      have hge : ¬ (i : Int) < n := by omega
      have HBe := hidLL hbel
      clear hbel
      go_wp2
      go_ret
      exact ⟨⟨_, rfl, by rw [HE.out]; decide⟩, HBe.out⟩
theorem hasKind {w : World} {B : Nat} {a : Option Addr} {c : Nat} {l : List Rl} (h : RRd w B (.slice a l.length c) l) (hB : B ≤ w.heap.size) (hl : l.length ≤ 3518437208883) : Calls Tryz.prog 45 #[.slice a l.length c, .func (.func 46) #[] #[]] w fun e w' => e = .returned (.bool (l.any (noKind))) ∧ Below w.heap.size w w' := by
  have HI := hidLL (ixKind h hB hl)
  generalize l.any (noKind) = cc at *
  clear h
  go_enter Tryz.func45, Tryz.ntmps45
  go_wp2_with fail
  refine HI.out.mono ?_
  rintro e w' ⟨⟨j, rfl, hj⟩, hb⟩
  have HB := hidLL hb
  clear hb
  go_wp2
  go_ret
  exact ⟨rfl, HB.out⟩
theorem lit_v (T : Thy) (q : Int) (ra oa : Option Addr) (rn rc on oc : Nat) (w : World) (h1 : 0 ≤ T.names) (h2 : T.names ≤ 120) : Calls Tryz.prog 39 #[.agg #[.int .i64 T.names, .slice ra rn rc, .slice oa on oc], .int .i64 q] w fun e w' => e = .returned (.bool (noLit T q)) ∧ Below w.heap.size w w' := by
  have HL : Hid (noLit T q = (q == 0 || decide (q < -T.names) || decide (T.names < q))) := rfl
  generalize noLit T q = O at *
  generalize T.names = n at *
  have HB : Hid (∀ o : Obj, Below w.heap.size w (w.alloc o)) := fun o => (Below.refl _ _).alloc (Nat.le_refl _) o
  by_cases h0 : q = 0
  · subst h0
    go_enter Tryz.func39, Tryz.ntmps39
    go_wp2
    go_ret
    exact ⟨retB (by rw [HL.out]; rfl), HB.out _⟩
  · have e0 : (q == 0) = false := by simp [h0]
    by_cases h3 : q < -n
    · go_enter Tryz.func39, Tryz.ntmps39
      go_wp2
      go_ret
      exact ⟨retB (by rw [HL.out, e0, decide_eq_true h3]; rfl), HB.out _⟩
    · go_enter Tryz.func39, Tryz.ntmps39
      go_wp2
      go_ret
      exact ⟨retB (by rw [HL.out, e0, decide_eq_false (show ¬ q < -n by omega)]; rfl), HB.out _⟩
theorem rule_v (T : Thy) (i : Int) {bt : Nat} {w : World} {ra : Option Addr} {rc : Nat} (hc : w.cell? ⟨bt, 1, none⟩ = some (.slice ra T.rules.length rc)) (_hl : T.rules.length ≤ 3518437208883) : Calls Tryz.prog 72 #[.int .i64 i, .pointer (some ⟨bt, 0, none⟩)] w fun e w' => e = .returned (.bool (noRule T i)) ∧ w' = w := by
  have HL : Hid (noRule T i = (decide (i < 0) || decide ((T.rules.length : Int) ≤ i))) := rfl
  generalize noRule T i = O at *
  generalize T.rules.length = n at *
  by_cases h0 : i < 0
  · go_enter Tryz.func72, Tryz.ntmps72
    go_wp2
    go_ret
    exact ⟨retB (by rw [HL.out, decide_eq_true h0]; rfl), rfl⟩
  · go_enter Tryz.func72, Tryz.ntmps72
    go_wp2
    go_ret
    exact ⟨retB (by rw [HL.out, decide_eq_false (show ¬ i < 0 by omega)]; rfl), rfl⟩
set_option maxHeartbeats 1000000 in
theorem ixLit (T : Thy) (ra oa : Option Addr) (rn rc on oc : Nat) {w : World} {B : Nat} {a : Option Addr} {c : Nat} {l : List Int} (h : IRd w B (.slice a l.length c) l) (hB : B ≤ w.heap.size) (hl : l.length ≤ 17592186044416) (h1 : 0 ≤ T.names) (h2 : T.names ≤ 120) : Calls Tryz.prog 86 #[.slice a l.length c, .func (.func 39) #[.agg #[.int .i64 T.names, .slice ra rn rc, .slice oa on oc]] #[]] w fun e w' => (∃ j : Int, e = .returned (.int .i64 j) ∧ decide (0 ≤ j) = l.any (noLit T)) ∧ Below w.heap.size w w' := by
  have HX := hidLL h
  clear h
  obtain ⟨n, hn⟩ : ∃ n, n = l.length := ⟨_, rfl⟩
  rw [← hn] at hl ⊢
  have HL := hidLL hn
  clear hn
  go_enter Tryz.func86, Tryz.ntmps86
  go_wp2_with fail
  go_loopw [8] (fun t wr => ∃ i : Nat, i ≤ n ∧ t = .int .i64 i ∧ (∀ j x, j < i → l[j]? = some x → noLit T x = false) ∧ Below w.heap.size w wr) (fun t _ => n - (RowKit.intOf t).toNat)
  case atStart => exact ⟨0, by omega, rfl, by intro j x h; omega, Below.refl _ _⟩
  case round =>
    obtain ⟨i, hi, rfl, hall, hbel⟩ := hrel
    have HA := hidLL hall
    clear hall
    by_cases hlt : i < n
    · obtain ⟨x, hx⟩ : ∃ x, l[i]? = some x := ⟨_, List.getElem?_eq_getElem (by have := HL.out; omega)⟩
      obtain ⟨g, o, er, hgB, c0⟩ := (HX.out.on fun k hk => hbel.block k (by omega)).at hx
      subst er
      have HY := hidLL hx
      have hiz : (i : Int) < n := by omega
      have HBe := hidLL hbel
      have HC := hidLL (lit_v T x ra oa rn rc on oc wr h1 h2)
      clear hx hbel
      cases hb : noLit T x
      · rw [hb] at HC
        go_wp2_with fail
        refine HC.out.mono ?_
        rintro e w9 ⟨rfl, hb9⟩
        have HM : Hid (∀ j y, j < i + 1 → l[j]? = some y → noLit T y = false) := fun j y hj hy => by
          rcases Nat.lt_or_ge j i with h | h
          · exact HA.out j y h hy
          · obtain rfl : j = i := by omega
            rw [HY.out] at hy
            obtain rfl := Option.some.inj hy
            exact hb
        have H9 := hidLL hb9
        clear hb hb9
        go_wp2
        go_roundw
        case rel => exact ⟨i + 1, by omega, by go_num, HM.out, HBe.out.trans (H9.out.mono HBe.out.size)⟩
        case measure => simp [RowKit.intOf]; omega
      · rw [hb] at HC
        go_wp2_with fail
        refine HC.out.mono ?_
        rintro e w9 ⟨rfl, hb9⟩
        have HE : Hid (l.any (noLit T) = true) := List.any_eq_true.2 ⟨x, List.mem_of_getElem? HY.out, hb⟩
        have H9 := hidLL hb9
        clear hb hb9
        go_wp2
        go_ret
        exact ⟨⟨_, rfl, by rw [HE.out]; simp⟩, HBe.out.trans (H9.out.mono HBe.out.size)⟩
    · have HE : Hid (l.any (noLit T) = false) := by
        show _ = _
        rw [List.any_eq_false]
        intro x hx
        obtain ⟨j, hj⟩ := List.getElem?_of_mem hx
        have := HA.out j x (by
          have h1 := (List.getElem?_eq_some_iff.1 hj).1
          have := HL.out
          omega) hj
        rw [this]; decide
      have hge : ¬ (i : Int) < n := by omega
      have HBe := hidLL hbel
      clear hbel
      go_wp2
      go_ret
      exact ⟨⟨_, rfl, by rw [HE.out]; decide⟩, HBe.out⟩
theorem hasLit (T : Thy) (ra oa : Option Addr) (rn rc on oc : Nat) {w : World} {B : Nat} {a : Option Addr} {c : Nat} {l : List Int} (h : IRd w B (.slice a l.length c) l) (hB : B ≤ w.heap.size) (hl : l.length ≤ 17592186044416) (h1 : 0 ≤ T.names) (h2 : T.names ≤ 120) : Calls Tryz.prog 73 #[.slice a l.length c, .func (.func 39) #[.agg #[.int .i64 T.names, .slice ra rn rc, .slice oa on oc]] #[]] w fun e w' => e = .returned (.bool (l.any (noLit T))) ∧ Below w.heap.size w w' := by
  have HI := hidLL (ixLit T ra oa rn rc on oc h hB hl h1 h2)
  generalize l.any (noLit T) = cc at *
  clear h
  go_enter Tryz.func73, Tryz.ntmps73
  go_wp2_with fail
  refine HI.out.mono ?_
  rintro e w' ⟨⟨j, rfl, hj⟩, hb⟩
  have HB := hidLL hb
  clear hb
  go_wp2
  go_ret
  exact ⟨rfl, HB.out⟩
theorem pair_v (T : Thy) (x : Int × Int) {bt bn : Nat} {w : World} {ra : Option Addr} {rc : Nat} (hc : w.cell? ⟨bt, 1, none⟩ = some (.slice ra T.rules.length rc)) (hf : w.cell? ⟨bn, 0, none⟩ = some (.func (.func 72) #[] #[.pointer (some ⟨bt, 0, none⟩)])) (hl : T.rules.length ≤ 3518437208883) : Calls Tryz.prog 75 #[.agg #[.int .i64 x.1, .int .i64 x.2], .pointer (some ⟨bn, 0, none⟩)] w fun e w' => e = .returned (.bool (noPair T x)) ∧ Below w.heap.size w w' := by
  obtain ⟨xa, xb⟩ := x
  obtain ⟨W, hW⟩ : ∃ W : World, W = w.alloc (.cells #[.int .i64 xa, .int .i64 xb] 71) := ⟨_, rfl⟩
  have hb : Below w.heap.size w W := by rw [hW]; exact (Below.refl _ _).alloc (Nat.le_refl _) _
  have hblk : W.heap[w.heap.size]? = some (.cells #[.int .i64 xa, .int .i64 xb] 71) := by rw [hW]; exact blk_new _ _
  have c0 : W.cell? ⟨w.heap.size, 0, none⟩ = some (.int .i64 xa) := by simp [World.cell?, hblk]
  have c1 : W.cell? ⟨w.heap.size, 1, none⟩ = some (.int .i64 xb) := by simp [World.cell?, hblk]
  have d0 := (hb.cell (p := ⟨bt, 1, none⟩) (cell_lt hc)).trans hc
  have d1 := (hb.cell (p := ⟨bn, 0, none⟩) (cell_lt hf)).trans hf
  have HR : Hid (∀ i, Calls Tryz.prog 72 #[.int .i64 i, .pointer (some ⟨bt, 0, none⟩)] W fun e w' => e = .returned (.bool (noRule T i)) ∧ w' = W) := fun i => rule_v T i d0 hl
  have HL : Hid (noPair T (xa, xb) = (noRule T xa || noRule T xb)) := rfl
  have HB := hidLL hb
  have HW := hidLL hW
  clear hW hblk hb hc hf
  generalize noPair T (xa, xb) = O at *
  simp only
  cases h1 : noRule T xa with
  | true =>
    have HR1 := hidLL (HR.out xa)
    rw [h1] at HR1 HL
    clear h1
    go_enter Tryz.func75, Tryz.ntmps75
    go_upto_region 1 with fail
    rw [← HW.out]
    go_wp2_with fail
    refine HR1.out.mono ?_
    rintro e w' ⟨rfl, ew⟩
    subst w'
    go_wp2
    go_ret
    exact ⟨retB (by rw [HL.out]; rfl), HB.out⟩
  | false =>
    have HR1 := hidLL (HR.out xa)
    have HR2 := hidLL (HR.out xb)
    rw [h1] at HR1 HL
    clear h1
    generalize noRule T xb = c at *
    go_enter Tryz.func75, Tryz.ntmps75
    go_upto_region 1 with fail
    rw [← HW.out]
    go_wp2_with fail
    refine HR1.out.mono ?_
    rintro e w' ⟨rfl, ew⟩
    subst w'
    clear HR1
    go_wp2_with fail
    refine HR2.out.mono ?_
    rintro e w' ⟨rfl, ew⟩
    subst w'
    go_wp2
    go_ret
    exact ⟨retB (by rw [HL.out]; rfl), HB.out⟩
set_option maxHeartbeats 1000000 in
theorem ixPair (T : Thy) {bt bn : Nat} {w : World} {B : Nat} {a : Option Addr} {c : Nat} {l : List (Int × Int)} {ra : Option Addr} {rc : Nat} (h : ORd w B (.slice a l.length c) l) (hB : B ≤ w.heap.size) (hl : l.length ≤ 8796093022208) (hc : w.cell? ⟨bt, 1, none⟩ = some (.slice ra T.rules.length rc)) (hf : w.cell? ⟨bn, 0, none⟩ = some (.func (.func 72) #[] #[.pointer (some ⟨bt, 0, none⟩)])) (h1 : T.rules.length ≤ 3518437208883) : Calls Tryz.prog 87 #[.slice a l.length c, .func (.func 75) #[] #[.pointer (some ⟨bn, 0, none⟩)]] w fun e w' => (∃ j : Int, e = .returned (.int .i64 j) ∧ decide (0 ≤ j) = l.any (noPair T)) ∧ Below w.heap.size w w' := by
  have HX := hidLL h
  have HCc := hidLL (And.intro hc hf)
  clear hc hf
  clear h
  obtain ⟨n, hn⟩ : ∃ n, n = l.length := ⟨_, rfl⟩
  rw [← hn] at hl ⊢
  have HL := hidLL hn
  clear hn
  go_enter Tryz.func87, Tryz.ntmps87
  go_wp2_with fail
  go_loopw [8] (fun t wr => ∃ i : Nat, i ≤ n ∧ t = .int .i64 i ∧ (∀ j x, j < i → l[j]? = some x → noPair T x = false) ∧ Below w.heap.size w wr) (fun t _ => n - (RowKit.intOf t).toNat)
  case atStart => exact ⟨0, by omega, rfl, by intro j x h; omega, Below.refl _ _⟩
  case round =>
    obtain ⟨i, hi, rfl, hall, hbel⟩ := hrel
    have HA := hidLL hall
    clear hall
    by_cases hlt : i < n
    · obtain ⟨x, hx⟩ : ∃ x, l[i]? = some x := ⟨_, List.getElem?_eq_getElem (by have := HL.out; omega)⟩
      obtain ⟨g, o, er, hgB, c0, c1⟩ := (HX.out.on fun k hk => hbel.block k (by omega)).at hx
      subst er
      have hcw := (hbel.cell (p := ⟨bt, 1, none⟩) (cell_lt HCc.out.1)).trans HCc.out.1
      have hfw := (hbel.cell (p := ⟨bn, 0, none⟩) (cell_lt HCc.out.2)).trans HCc.out.2
      have HY := hidLL hx
      have hiz : (i : Int) < n := by omega
      have HBe := hidLL hbel
      have HC := hidLL (pair_v T x hcw hfw h1)
      clear hx hbel
      cases hb : noPair T x
      · rw [hb] at HC
        clear hcw hfw
        go_wp2_with fail
        refine HC.out.mono ?_
        rintro e w9 ⟨rfl, hb9⟩
        have HM : Hid (∀ j y, j < i + 1 → l[j]? = some y → noPair T y = false) := fun j y hj hy => by
          rcases Nat.lt_or_ge j i with h | h
          · exact HA.out j y h hy
          · obtain rfl : j = i := by omega
            rw [HY.out] at hy
            obtain rfl := Option.some.inj hy
            exact hb
        have H9 := hidLL hb9
        clear hb hb9
        go_wp2
        go_roundw
        case rel => exact ⟨i + 1, by omega, by go_num, HM.out, HBe.out.trans (H9.out.mono HBe.out.size)⟩
        case measure => simp [RowKit.intOf]; omega
      · rw [hb] at HC
        clear hcw hfw
        go_wp2_with fail
        refine HC.out.mono ?_
        rintro e w9 ⟨rfl, hb9⟩
        have HE : Hid (l.any (noPair T) = true) := List.any_eq_true.2 ⟨x, List.mem_of_getElem? HY.out, hb⟩
        have H9 := hidLL hb9
        clear hb hb9
        go_wp2
        go_ret
        exact ⟨⟨_, rfl, by rw [HE.out]; simp⟩, HBe.out.trans (H9.out.mono HBe.out.size)⟩
    · have HE : Hid (l.any (noPair T) = false) := by
        show _ = _
        rw [List.any_eq_false]
        intro x hx
        obtain ⟨j, hj⟩ := List.getElem?_of_mem hx
        have := HA.out j x (by
          have h1 := (List.getElem?_eq_some_iff.1 hj).1
          have := HL.out
          omega) hj
        rw [this]; decide
      have hge : ¬ (i : Int) < n := by omega
      have HBe := hidLL hbel
      clear hbel
      go_wp2
      go_ret
      exact ⟨⟨_, rfl, by rw [HE.out]; decide⟩, HBe.out⟩
theorem hasPair (T : Thy) {bt bn : Nat} {w : World} {B : Nat} {a : Option Addr} {c : Nat} {l : List (Int × Int)} {ra : Option Addr} {rc : Nat} (h : ORd w B (.slice a l.length c) l) (hB : B ≤ w.heap.size) (hl : l.length ≤ 8796093022208) (hc : w.cell? ⟨bt, 1, none⟩ = some (.slice ra T.rules.length rc)) (hf : w.cell? ⟨bn, 0, none⟩ = some (.func (.func 72) #[] #[.pointer (some ⟨bt, 0, none⟩)])) (h1 : T.rules.length ≤ 3518437208883) : Calls Tryz.prog 74 #[.slice a l.length c, .func (.func 75) #[] #[.pointer (some ⟨bn, 0, none⟩)]] w fun e w' => e = .returned (.bool (l.any (noPair T))) ∧ Below w.heap.size w w' := by
  have HI := hidLL (ixPair T h hB hl hc hf h1)
  generalize l.any (noPair T) = cc at *
  clear h
  go_enter Tryz.func74, Tryz.ntmps74
  go_wp2_with fail
  refine HI.out.mono ?_
  rintro e w' ⟨⟨j, rfl, hj⟩, hb⟩
  have HB := hidLL hb
  clear hb
  go_wp2
  go_ret
  exact ⟨rfl, HB.out⟩
end Go.Proofs.YtmbclnaenjcocaaGreatDoor

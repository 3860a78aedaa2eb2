/-
  coin.Bands and what it calls, by contracts.
-/
import Derived.Test.YtlpkaelgeeecoaaDoorBandsPlain
import Derived.Test.YtlpkaelgeeecoaaDoorPart
import Derived.Test.YtlpkaelgeeecoaaDoorRead2G
namespace Go.Proofs.YtlpkaelgeeecoaaDoor
open Go.RowKit Go.Extern.Stop Go.Stop Go.Extern

/-- A list of pairs lies behind an address, two cells each. -/
def Pairs (w : World) (b off : Nat) (l : List (Int × Int)) : Prop :=
  ∀ (i : Nat) (p : Int × Int), l[i]? = some p → w.cell? ⟨b, off + i * 2, none⟩ = some (.int .i64 p.1) ∧ w.cell? ⟨b, off + i * 2 + 1, none⟩ = some (.int .i64 p.2)
theorem Pairs.below {w w' : World} {B b off : Nat} {l : List (Int × Int)} (h : Pairs w b off l) (hb : Below B w w') (hlt : b < B) : Pairs w' b off l := fun i p hp => by
  obtain ⟨h1, h2⟩ := h i p hp
  exact ⟨(hb.cell (p := ⟨b, off + i * 2, none⟩) hlt).trans h1, (hb.cell (p := ⟨b, off + i * 2 + 1, none⟩) hlt).trans h2⟩

def upB (n m : Int) : Bool := decide (0 ≤ n ∧ n ≤ m)
theorem upTo_any (n m : Int) (w : World) : Calls Tryd.prog 42 #[.int .i64 n, .int .i64 m] w fun e w' => e = .returned (.bool (upB n m)) ∧ w' = w := by
  by_cases h0 : 0 ≤ n
  · have HE : Hid (upB n m = decide (n ≤ m)) := by show _ = _; simp [upB, h0]
    have hd : decide (0 ≤ n) = true := by simpa using h0
    go_enter Tryd.func42, Tryd.ntmps42
    go_wp2
    go_ret
    exact ⟨ret_bool HE.out.symm, rfl⟩
  · have HE : Hid (upB n m = false) := by show _ = _; simp [upB, h0]
    have hd : decide (0 ≤ n) = false := by simpa using h0
    go_enter Tryd.func42, Tryd.ntmps42
    go_wp2
    go_ret
    exact ⟨ret_bool HE.out.symm, rfl⟩

theorem wrong_any (f r : Int) (w : World) : Calls Tryd.prog 41 #[.agg #[.int .i64 f, .int .i64 r]] w fun e w' => e = .returned (.bool (!okB (f, r))) ∧ Below w.heap.size w w' := by
  have HO : Hid (okB (f, r) = (upB f 1000000000000 && upB r 1000000)) := by
    show _ = _
    rw [Bool.eq_iff_iff]; simp [okB, upB]; omega
  cases h1 : upB f 1000000000000
  · have HE : Hid ((!okB (f, r)) = true) := by show _ = _; rw [HO.out, h1]; rfl
    go_enter Tryd.func41, Tryd.ntmps41
    go_wp2_with (go_at_call 42; refine (upTo_any _ _ _).mono ?_; rintro e w' ⟨rfl, rfl⟩)
    go_ret
    exact ⟨ret_bool HE.out.symm, (Below.refl _ _).alloc (Nat.le_refl _) _⟩
  · have HE : Hid ((!okB (f, r)) = !upB r 1000000) := by show _ = _; rw [HO.out, h1]; rfl
    go_enter Tryd.func41, Tryd.ntmps41
    go_wp2_with (go_at_call 42; refine (upTo_any _ _ _).mono ?_; rintro e w' ⟨rfl, rfl⟩)
    go_ret
    exact ⟨ret_bool HE.out.symm, (Below.refl _ _).alloc (Nat.le_refl _) _⟩

theorem en41 : ∀ args w, (callFunc 41 args).run Tryd.prog w = .ok (.enter 41 args) w := Go.Proofs.enters_of Tryd.func41 (by kernel_rfl) rfl

set_option maxHeartbeats 1000000 in
theorem index_any (b off cap : Nat) (l : List (Int × Int)) (w : World) (hb : b < w.heap.size) (hn : l.length ≤ 60) (HP : Pairs w b off l) :
    Calls Tryd.prog 62 #[.slice (some ⟨b, off, none⟩) l.length cap, .func (.func 41) #[] #[]] w fun e w' => (∃ i : Int, e = .returned (.int .i64 i) ∧ decide (0 ≤ i) = !(l.all okB)) ∧ Below w.heap.size w w' := by
  have HPs := hidIt HP
  have hen := en41
  clear HP
  generalize hL : l.length = n at *
  go_enter Tryd.func62, Tryd.ntmps62
  go_wp2_with fail
  go_loopw [8] (fun t wr => ∃ i : Nat, i ≤ n ∧ t = .int .i64 i ∧ Below w.heap.size w wr ∧ ∀ j, j < i → ∀ p, l[j]? = some p → okB p = true) (fun t _ => n - (intOf t).toNat)
  case atStart => exact ⟨0, by omega, rfl, Below.refl _ _, by intro j h; omega⟩
  case round =>
    obtain ⟨i, hi, rfl, hbr, hall⟩ := hrel
    have HA := hidIt hall
    have HB := hidIt hbr
    clear hall hbr
    by_cases hlt : i < n
    · obtain ⟨q, hq⟩ : ∃ q, l[i]? = some q := ⟨_, List.getElem?_eq_getElem (by omega)⟩
      obtain ⟨f, r⟩ := q
      obtain ⟨c1, c2⟩ := (HPs.out.below HB.out hb) i (f, r) hq
      simp only at c1 c2
      have HQ := hidIt hq
      clear hq
      cases ho : okB (f, r)
      · have HE : Hid (l.all okB = false) := by
          show _ = _
          rw [List.all_eq_false]
          exact ⟨(f, r), List.mem_of_getElem? HQ.out, by simp [ho]⟩
        go_wp2_with fail
        refine (wrong_any f r _).mono ?_
        rintro e w' ⟨rfl, hb'⟩
        rw [ho]
        have HB' := hidIt (HB.out.trans (hb'.mono HB.out.size))
        clear hb'
        go_wp2
        go_ret
        exact ⟨⟨_, rfl, by rw [HE.out]; simp⟩, HB'.out⟩
      · have HN : Hid (∀ j, j < i + 1 → ∀ p, l[j]? = some p → okB p = true) := fun j hj x hx => by
          rcases Nat.lt_or_ge j i with h | h
          · exact HA.out j h x hx
          · obtain rfl : j = i := by omega
            rw [HQ.out] at hx
            obtain rfl := Option.some.inj hx
            exact ho
        go_wp2_with fail
        refine (wrong_any f r _).mono ?_
        rintro e w' ⟨rfl, hb'⟩
        rw [ho]
        have HB' := hidIt (HB.out.trans (hb'.mono HB.out.size))
        clear hb'
        go_wp2
        go_roundw
        case rel => exact ⟨i + 1, by omega, by go_num, HB'.out, HN.out⟩
        case measure => simp [intOf]; omega
    · have HE : Hid (l.all okB = true) := by
        show _ = _
        rw [List.all_eq_true]
        intro x hx
        obtain ⟨j, hj⟩ := List.getElem?_of_mem hx
        refine HA.out j ?_ x hj
        rcases Nat.lt_or_ge j l.length with h | h
        · omega
        · rw [List.getElem?_eq_none h] at hj; cases hj
      go_wp2
      go_ret
      exact ⟨⟨_, rfl, by rw [HE.out]; simp⟩, HB.out⟩

theorem contains_any (b off cap : Nat) (l : List (Int × Int)) (w : World) (hb : b < w.heap.size) (hn : l.length ≤ 60) (HP : Pairs w b off l) :
    Calls Tryd.prog 43 #[.slice (some ⟨b, off, none⟩) l.length cap, .func (.func 41) #[] #[]] w fun e w' => e = .returned (.bool !(l.all okB)) ∧ Below w.heap.size w w' := by
  have H := hidIt (index_any b off cap l w hb hn HP)
  clear HP
  go_enter Tryd.func43, Tryd.ntmps43
  go_wp2_with fail
  refine H.out.mono ?_
  rintro e w' ⟨⟨i, rfl, hi⟩, hb'⟩
  have HI := hidIt hi
  clear hi
  go_wp2
  go_ret
  exact ⟨ret_bool HI.out, hb'⟩

theorem tkS_drop (x acc : Int) (l : List (Int × Int)) (i : Nat) (f r : Int) (h : l[i]? = some (f, r)) : tkS x acc (l.drop i) = tkS x (min (acc + term x f r (l.drop (i + 1))) bigT) (l.drop (i + 1)) := by
  have hlt : i < l.length := by
    rcases Nat.lt_or_ge i l.length with k | k
    · exact k
    · rw [List.getElem?_eq_none k] at h; cases h
  rw [List.getElem?_eq_getElem hlt] at h
  rw [List.drop_eq_getElem_cons hlt, Option.some.inj h, tkS]

set_option maxHeartbeats 2000000 in
theorem taken_any (x : Int) (b off cap : Nat) (l : List (Int × Int)) (w : World) (hx0 : 0 ≤ x) (hx1 : x ≤ 1000000000000) (hb : b < w.heap.size) (hn : l.length ≤ 60) (HP : Pairs w b off l) (hok : ∀ p, p ∈ l → okB p = true) :
    Calls Tryd.prog 44 #[.int .i64 x, .slice (some ⟨b, off, none⟩) l.length cap] w fun e w' => e = .returned (.int .i64 (tkS x 0 l)) ∧ Below w.heap.size w w' := by
  have HPs := hidIt HP
  have HO := hidIt hok
  clear HP hok
  generalize hL : l.length = n at *
  have HL := hidIt hL
  clear hL
  go_enter Tryd.func44, Tryd.ntmps44
  go_wp2_with fail
  go_loopw [5, 11] (fun s t wr => ∃ i : Nat, i ≤ n ∧ t = .int .i64 i ∧ Below w.heap.size w wr ∧ ∃ acc : Int, s = .int .i64 acc ∧ 0 ≤ acc ∧ acc ≤ 10000000000010000 ∧ tkS x acc (l.drop i) = tkS x 0 l) (fun _ t _ => n - (intOf t).toNat)
  case atStart => exact ⟨0, by omega, rfl, Below.refl _ _, 0, rfl, by omega, by omega, rfl⟩
  case round =>
    obtain ⟨i, hi, rfl, hbr, acc, rfl, a0, a1, hacc⟩ := hrel
    have HA := hidIt hacc
    have HB := hidIt hbr
    clear hacc hbr
    by_cases hlt : i < n
    · have hL := HL.out
      obtain ⟨q, hq⟩ : ∃ q, l[i]? = some q := ⟨_, List.getElem?_eq_getElem (by omega)⟩
      obtain ⟨f, r⟩ := q
      obtain ⟨c1, c2⟩ := (HPs.out.below HB.out hb) i (f, r) hq
      simp only at c1 c2
      obtain ⟨o1, o2, o3, o4⟩ := ok_iff (HO.out (f, r) (List.mem_of_getElem? hq))
      simp only at o1 o2 o3 o4
      have HQ := hidIt hq
      have tn := term_nn x f r (l.drop (i + 1)) o3
      have tl := term_le x f r (l.drop (i + 1)) hx1 o1 o3 o4
      have HT := hidIt ((tkS_drop x acc l i f r hq).symm.trans HA.out)
      clear hq
      by_cases h2 : i + 1 < n
      · obtain ⟨q2, hq2⟩ : ∃ q, l[i + 1]? = some q := ⟨_, List.getElem?_eq_getElem (by omega)⟩
        obtain ⟨f2, r2⟩ := q2
        obtain ⟨d1, d2⟩ := (HPs.out.below HB.out hb) (i + 1) (f2, r2) hq2
        simp only at d1 d2
        have ht : term x f r (l.drop (i + 1)) = max (min x f2 - f) 0 * r := by
          have hlt2 : i + 1 < l.length := by omega
          rw [List.getElem?_eq_getElem hlt2] at hq2
          rw [List.drop_eq_getElem_cons hlt2, Option.some.inj hq2]; rfl
        obtain ⟨p1, p2, p3, p4⟩ := ok_iff (HO.out (f2, r2) (List.mem_of_getElem? hq2))
        simp only at p1 p2 p3 p4
        rw [ht] at tn tl
        have HTt := hidIt ht
        have hbw : b < wr.heap.size := Nat.lt_of_lt_of_le hb HB.out.size
        have d1' : ∀ o, (wr.alloc o).cell? ⟨b, off + (i + 1) * 2, none⟩ = some (.int .i64 f2) := fun o => (World.cell?_alloc_lt _ _ ⟨b, off + (i + 1) * 2, none⟩ hbw).trans d1
        clear ht hq2 hL d2 d1
        go_wp2
        go_roundw
        case rel => exact ⟨i + 1, by omega, by go_num, HB.out.alloc HB.out.size _, min (acc + max (min x f2 - f) 0 * r) 10000000000010000, rfl, by omega, by omega, by have h := HT.out; rw [HTt.out] at h; exact h⟩
        case measure => simp [intOf]; omega
      · have ht : term x f r (l.drop (i + 1)) = max (x - f) 0 * r := by
          rw [List.drop_eq_nil_of_le (by omega)]; rfl
        rw [ht] at tn tl
        have HTt := hidIt ht
        clear ht hL
        go_wp2
        go_roundw
        case rel => exact ⟨i + 1, by omega, by go_num, HB.out.alloc HB.out.size _, min (acc + max (x - f) 0 * r) 10000000000010000, rfl, by omega, by omega, by have h := HT.out; rw [HTt.out] at h; exact h⟩
        case measure => simp [intOf]; omega
    · have HE : Hid (tkS x 0 l = acc) := by
        have h := HA.out
        rw [List.drop_eq_nil_of_le (by have := HL.out; omega)] at h
        exact h.symm
      go_wp2
      go_ret
      exact ⟨ret_int HE.out.symm, HB.out⟩

theorem rise_step : ∀ (l : List (Int × Int)), rise l = true ↔ ∀ (i : Nat) f r f2 r2, l[i]? = some (f, r) → l[i + 1]? = some (f2, r2) → f < f2
  | [] => by simp [rise]
  | [p] => by
    simp only [rise, true_iff]
    intro i f r f2 r2 _ h2
    simp at h2
  | (f, r) :: (f2, r2) :: t => by
    have ih := rise_step ((f2, r2) :: t)
    simp only [rise, Bool.and_eq_true, decide_eq_true_eq, ih]
    constructor
    · rintro ⟨h1, h2⟩ i a b c d e1 e2
      cases i with
      | zero => simp at e1 e2; omega
      | succ i => exact h2 i a b c d (by simpa using e1) (by simpa using e2)
    · intro h
      exact ⟨h 0 f r f2 r2 rfl rfl, fun i a b c d e1 e2 => h (i + 1) a b c d (by simpa using e1) (by simpa using e2)⟩

set_option maxHeartbeats 2000000 in
theorem rising_any (b off cap : Nat) (l : List (Int × Int)) (w : World) (hb : b < w.heap.size) (hn : l.length ≤ 60) (HP : Pairs w b off l) :
    Calls Tryd.prog 45 #[.slice (some ⟨b, off, none⟩) l.length cap] w fun e w' => e = .returned (.bool (rise l)) ∧ Below w.heap.size w w' := by
  have HPs := hidIt HP
  clear HP
  generalize hL : l.length = n at *
  have HL := hidIt hL
  clear hL
  go_enter Tryd.func45, Tryd.ntmps45
  go_wp2_with fail
  go_loopw [3] (fun t wr => ∃ i : Nat, 1 ≤ i ∧ (i ≤ n ∨ i = 1) ∧ t = .int .i64 i ∧ Below w.heap.size w wr ∧ ∀ j, j + 1 < i → ∀ f r f2 r2, l[j]? = some (f, r) → l[j + 1]? = some (f2, r2) → f < f2) (fun t _ => n - (intOf t).toNat)
  case atStart => exact ⟨1, by omega, .inr rfl, rfl, Below.refl _ _, by intro j h; omega⟩
  case round =>
    obtain ⟨i, hi1, hi, rfl, hbr, hall⟩ := hrel
    have HA := hidIt hall
    have HB := hidIt hbr
    clear hall hbr
    by_cases hlt : i < n
    · have hL := HL.out
      obtain ⟨k, rfl⟩ : ∃ k, i = k + 1 := ⟨i - 1, by omega⟩
      obtain ⟨q, hq⟩ : ∃ q, l[k]? = some q := ⟨_, List.getElem?_eq_getElem (by omega)⟩
      obtain ⟨f, r⟩ := q
      obtain ⟨q2, hq2⟩ : ∃ q, l[k + 1]? = some q := ⟨_, List.getElem?_eq_getElem (by omega)⟩
      obtain ⟨f2, r2⟩ := q2
      obtain ⟨c1, c2⟩ := (HPs.out.below HB.out hb) k (f, r) hq
      obtain ⟨d1, d2⟩ := (HPs.out.below HB.out hb) (k + 1) (f2, r2) hq2
      simp only at c1 d1
      have HQ := hidIt hq
      have HQ2 := hidIt hq2
      clear hq hq2 c2 d2 hL
      have kk : ((k : Int) + 1 - 1) = k := by omega
      by_cases hf : f2 ≤ f
      · have HE : Hid (rise l = false) := by
          show _ = _
          rw [Bool.eq_false_iff]
          intro h
          have := (rise_step l).1 h k f r f2 r2 HQ.out HQ2.out
          omega
        go_wp2_with fail
        go_quiet (fail)
        go_wp2
        go_ret
        exact ⟨ret_bool HE.out.symm, bdrewN HB.out _⟩
      · have HN : Hid (∀ j, j + 1 < k + 1 + 1 → ∀ f r f2 r2, l[j]? = some (f, r) → l[j + 1]? = some (f2, r2) → f < f2) := fun j hj a b' c d e1 e2 => by
          rcases Nat.lt_or_ge j k with h | h
          · exact HA.out j (by omega) a b' c d e1 e2
          · obtain rfl : j = k := by omega
            rw [HQ.out] at e1
            rw [HQ2.out] at e2
            cases e1
            cases e2
            omega
        go_wp2_with fail
        go_quiet (fail)
        go_wp2
        go_roundw
        case rel => exact ⟨k + 1 + 1, by omega, .inl (by omega), by go_num, bdrewN HB.out _, HN.out⟩
        case measure => simp [intOf]; omega
    · have HE : Hid (rise l = true) := (rise_step l).2 fun j a b' c d e1 e2 => HA.out j (by
        have := HL.out
        rcases Nat.lt_or_ge (j + 1) l.length with h | h
        · omega
        · rw [List.getElem?_eq_none h] at e2; cases e2) a b' c d e1 e2
      go_wp2
      go_ret
      exact ⟨ret_bool HE.out.symm, HB.out⟩
end Go.Proofs.YtlpkaelgeeecoaaDoor

/-
  coin.Bands by Floor, and the walk of CoinGrows.
-/
import Derived.Test.YtlpkaelgeeecoaaDoorCopy
import Derived.Test.YtlpkaelgeeecoaaDoorAliveG
namespace Go.Proofs.YtlpkaelgeeecoaaDoor
open Go.RowKit Go.Extern.Stop Go.Stop Go.Extern

theorem copy_none (o : Option Addr) (cap : Nat) (w : World) :
    Calls Tryd.prog 20 #[.slice o 0 cap] w fun e w' => (∃ v, e = .returned v ∧ w'.ownsRow w.heap.size 72 2 v 0 (flat [])) ∧ Below w.heap.size w w' := by
  go_enter Tryd.func20, Tryd.ntmps20
  go_wp2_with fail
  refine wp_loop_rounds 1 ?_
  rw [rounds_succ]
  go_wp2
  go_ret
  exact ⟨⟨_, rfl, World.ownsRow_nil _ _ _ _⟩, Below.refl _ _⟩

theorem contains_lst (v : Value) (B : Nat) (l : List (Int × Int)) (w : World) (hn : l.length ≤ 60) (h : Lst w B v l) :
    Calls Tryd.prog 43 #[v, .func (.func 41) #[] #[]] w fun e w' => e = .returned (.bool !(l.all okB)) ∧ Below w.heap.size w w' := by
  rcases h with ⟨rfl, rfl⟩ | ⟨b, cap, rfl, _, hb, hc, HP⟩
  · go_enter Tryd.func43, Tryd.ntmps43
    go_wp2_with go_in
    refine wp_loop_rounds 1 ?_
    rw [rounds_succ]
    go_wp2
    go_ret
    exact ⟨rfl, Below.refl _ _⟩
  · exact contains_any b 0 cap l w hb hn HP
theorem taken_lst (x : Int) (v : Value) (B : Nat) (l : List (Int × Int)) (w : World) (hx0 : 0 ≤ x) (hx1 : x ≤ 1000000000000) (hn : l.length ≤ 60) (h : Lst w B v l) (hok : ∀ p, p ∈ l → okB p = true) :
    Calls Tryd.prog 44 #[.int .i64 x, v] w fun e w' => e = .returned (.int .i64 (tkS x 0 l)) ∧ Below w.heap.size w w' := by
  rcases h with ⟨rfl, rfl⟩ | ⟨b, cap, rfl, _, hb, hc, HP⟩
  · go_enter Tryd.func44, Tryd.ntmps44
    go_wp2_with fail
    refine wp_loop_rounds 1 ?_
    rw [rounds_succ]
    go_wp2
    go_ret
    exact ⟨rfl, Below.refl _ _⟩
  · exact taken_any x b 0 cap l w hx0 hx1 hb hn HP hok
theorem rising_lst (v : Value) (B : Nat) (l : List (Int × Int)) (w : World) (hn : l.length ≤ 60) (h : Lst w B v l) :
    Calls Tryd.prog 45 #[v] w fun e w' => e = .returned (.bool (rise l)) ∧ Below w.heap.size w w' := by
  rcases h with ⟨rfl, rfl⟩ | ⟨b, cap, rfl, _, hb, hc, HP⟩
  · go_enter Tryd.func45, Tryd.ntmps45
    go_wp2_with fail
    refine wp_loop_rounds 1 ?_
    rw [rounds_succ]
    go_wp2
    go_ret
    exact ⟨rfl, Below.refl _ _⟩
  · exact rising_any b 0 cap l w hb hn HP
theorem Lst.below {w w' : World} {B : Nat} {v : Value} {l : List (Int × Int)} (h : Lst w B v l) (hb : Below w.heap.size w w') : Lst w' B v l := by
  rcases h with h | ⟨b, cap, h1, h2, h3, h4, h5⟩
  · exact .inl h
  · exact .inr ⟨b, cap, h1, h2, Nat.lt_of_lt_of_le h3 hb.size, h4, h5.below hb h3⟩

/-- What comes of bands by Floor: fine or not. -/
def bOk (x : Int) (l : List (Int × Int)) : Bool := l.all okB && (decide (tkS x 0 l / 10000 ≤ 1000000000000) && rise l)
theorem rnd_floor (n : Int) : rnd n 2 = n / 10000 := by
  unfold rnd
  split <;> simp

set_option maxHeartbeats 2000000 in
theorem bands_any (x : Int) (v : Value) (B : Nat) (l : List (Int × Int)) (w : World) (a2 a7 : Addr) (hx0 : 0 ≤ x) (hx1 : x ≤ 1000000000000) (hn : l.length ≤ 60) (h : Lst w B v l)
    (h2 : w.cell? ⟨1, 0, none⟩ = some (.iface 157 (.pointer (some a2)))) (h7 : w.cell? ⟨3, 0, none⟩ = some (.iface 157 (.pointer (some a7)))) :
    Calls Tryd.prog 19 #[.int .i64 x, v, .int .i64 2] w fun e w' => (bOk x l = true → e = .returned (.tuple #[.int .i64 (tkS x 0 l / 10000), .nilIface])) ∧ (bOk x l = false → ∃ a, e = .returned (.tuple #[.int .i64 0, .iface 157 (.pointer (some a))])) ∧ Below w.heap.size w w' := by
  have hup : upB x 1000000000000 = true := by simp [upB, hx0, hx1]
  have hwy : wyB 2 = true := by decide
  have HL := hidIt h
  have H2 := hidIt h2
  have H7 := hidIt h7
  clear h h2 h7
  cases hall : l.all okB
  · have HO : Hid (bOk x l = false) := by show _ = _; unfold bOk; rw [hall]; rfl
    go_enter Tryd.func19, Tryd.ntmps19
    go_wp2_with (first | (go_at_call 35; refine (isWay_any _ _).mono ?_; rintro e w' ⟨rfl, rfl⟩) | (go_at_call 42; refine (upTo_any _ _ _).mono ?_; rintro e w' ⟨rfl, rfl⟩))
    refine (contains_lst v B l _ hn HL.out).mono ?_
    rintro e w1 ⟨rfl, hb1⟩
    rw [hall]
    have HB1 := hidIt hb1
    have c2 := cell_below H2.out hb1
    clear hb1
    go_wp2_with fail
    go_quiet (fail)
    go_wp2
    go_ret2
    exact ⟨(fun h => by rw [HO.out] at h; cases h), fun _ => ⟨a2, rfl⟩, bdrewN HB1.out _⟩
  · have hok : ∀ p, p ∈ l → okB p = true := fun p hp => List.all_eq_true.1 hall p hp
    obtain ⟨t0, t1⟩ := tkS_bd x l 0 hok (by decide) (by decide)
    have t1' : tkS x 0 l ≤ 10000000000010000 := t1
    have HOk := hidIt hok
    have HT := hidIt (fun w' (h' : Lst w' B v l) => taken_lst x v B l w' hx0 hx1 hn h' hok)
    have hbo : bOk x l = (decide (tkS x 0 l / 10000 ≤ 1000000000000) && rise l) := by unfold bOk; rw [hall]; rfl
    have HO := hidIt hbo
    clear hok t1 hbo
    generalize tkS x 0 l = y at *
    have HR := hidIt (fun w' => rounded_any y 2 w' (by omega) (by omega) (by decide) (by decide))
    rw [rnd_floor] at HR
    have hlen : ∀ w', Lst w' B v l → (v = .slice none 0 0 ∧ l = []) ∨ ∃ b cap, v = .slice (some ⟨b, 0, none⟩) l.length cap := fun w' h => by
      rcases h with h | ⟨b, cap, h, _⟩
      · exact .inl h
      · exact .inr ⟨b, cap, h⟩
    have hshape := hlen w HL.out
    clear hlen
    by_cases hbig : 1000000000000 < y / 10000
    · go_enter Tryd.func19, Tryd.ntmps19
      go_wp2_with (first | (go_at_call 35; refine (isWay_any _ _).mono ?_; rintro e w' ⟨rfl, rfl⟩) | (go_at_call 42; refine (upTo_any _ _ _).mono ?_; rintro e w' ⟨rfl, rfl⟩))
      refine (contains_lst v B l _ hn HL.out).mono ?_
      rintro e w1 ⟨rfl, hb1⟩
      rw [hall]
      have HB1 := hidIt hb1
      clear hb1
      go_wp2_with fail
      refine (HT.out _ (HL.out.below HB1.out)).mono ?_
      rintro e w2 ⟨rfl, hb2⟩
      have HB2 := hidIt (HB1.out.trans (hb2.mono HB1.out.size))
      have c2 := cell_below H2.out HB2.out
      clear hb2
      go_wp2_with fail
      refine (HR.out _).mono ?_
      rintro e w3 ⟨rfl, nk, rfl⟩
      go_wp2_with fail
      go_quiet (fail)
      go_wp2
      go_ret2
      exact ⟨(fun h => by rw [HO.out] at h; simp at h; omega), fun _ => ⟨a2, rfl⟩, bdrewN (bdrewN HB2.out _) _⟩
    · have HO2 : Hid (bOk x l = rise l) := by
        show _ = _
        rw [HO.out]
        have : decide (y / 10000 ≤ 1000000000000) = true := by simp; omega
        rw [this, Bool.true_and]
      have HRs := hidIt (fun w' (h' : Lst w' B v l) => rising_lst v B l w' hn h')
      rcases hshape with ⟨rfl, rfl⟩ | ⟨b, cap, rfl⟩
      · cases hri : rise ([] : List (Int × Int))
        · exact absurd hri (by decide)
        · go_enter Tryd.func19, Tryd.ntmps19
          go_wp2_with (first | (go_at_call 35; refine (isWay_any _ _).mono ?_; rintro e w' ⟨rfl, rfl⟩) | (go_at_call 42; refine (upTo_any _ _ _).mono ?_; rintro e w' ⟨rfl, rfl⟩))
          refine (contains_lst (.slice none 0 0) B [] _ hn HL.out).mono ?_
          rintro e w1 ⟨rfl, hb1⟩
          rw [hall]
          have HB1 := hidIt hb1
          clear hb1
          go_wp2_with fail
          refine (HT.out _ (HL.out.below HB1.out)).mono ?_
          rintro e w2 ⟨rfl, hb2⟩
          have HB2 := hidIt (HB1.out.trans (hb2.mono HB1.out.size))
          clear hb2
          go_wp2_with fail
          refine (HR.out _).mono ?_
          rintro e w3 ⟨rfl, nk, rfl⟩
          go_wp2_with fail
          refine (HRs.out _ (HL.out.below (bdrewN HB2.out nk))).mono ?_
          rintro e w4 ⟨rfl, hb4⟩
          rw [hri]
          have HB4 := hidIt ((bdrewN HB2.out nk).trans (hb4.mono (bdrewN HB2.out nk).size))
          have c7 := cell_below H7.out HB4.out
          clear hb4
          go_wp2
          go_ret2
          exact ⟨fun _ => rfl, (fun h => by rw [HO2.out, hri] at h; cases h), HB4.out⟩
      · have d60 : decide ((60 : Int) < l.length) = false := by simp; omega
        cases hri : rise l
        · go_enter Tryd.func19, Tryd.ntmps19
          go_wp2_with (first | (go_at_call 35; refine (isWay_any _ _).mono ?_; rintro e w' ⟨rfl, rfl⟩) | (go_at_call 42; refine (upTo_any _ _ _).mono ?_; rintro e w' ⟨rfl, rfl⟩))
          refine (contains_lst _ B l _ hn HL.out).mono ?_
          rintro e w1 ⟨rfl, hb1⟩
          rw [hall]
          have HB1 := hidIt hb1
          clear hb1
          go_wp2_with fail
          refine (HT.out _ (HL.out.below HB1.out)).mono ?_
          rintro e w2 ⟨rfl, hb2⟩
          have HB2 := hidIt (HB1.out.trans (hb2.mono HB1.out.size))
          clear hb2
          go_wp2_with fail
          refine (HR.out _).mono ?_
          rintro e w3 ⟨rfl, nk, rfl⟩
          go_wp2_with fail
          refine (HRs.out _ (HL.out.below (bdrewN HB2.out nk))).mono ?_
          rintro e w4 ⟨rfl, hb4⟩
          rw [hri]
          have HB4 := hidIt ((bdrewN HB2.out nk).trans (hb4.mono (bdrewN HB2.out nk).size))
          have c7 := cell_below H7.out HB4.out
          clear hb4
          go_wp2_with fail
          go_quiet (fail)
          go_wp2
          go_ret2
          exact ⟨(fun h => by rw [HO2.out, hri] at h; cases h), fun _ => ⟨a7, rfl⟩, bdrewN HB4.out _⟩
        · go_enter Tryd.func19, Tryd.ntmps19
          go_wp2_with (first | (go_at_call 35; refine (isWay_any _ _).mono ?_; rintro e w' ⟨rfl, rfl⟩) | (go_at_call 42; refine (upTo_any _ _ _).mono ?_; rintro e w' ⟨rfl, rfl⟩))
          refine (contains_lst _ B l _ hn HL.out).mono ?_
          rintro e w1 ⟨rfl, hb1⟩
          rw [hall]
          have HB1 := hidIt hb1
          clear hb1
          go_wp2_with fail
          refine (HT.out _ (HL.out.below HB1.out)).mono ?_
          rintro e w2 ⟨rfl, hb2⟩
          have HB2 := hidIt (HB1.out.trans (hb2.mono HB1.out.size))
          clear hb2
          go_wp2_with fail
          refine (HR.out _).mono ?_
          rintro e w3 ⟨rfl, nk, rfl⟩
          go_wp2_with fail
          refine (HRs.out _ (HL.out.below (bdrewN HB2.out nk))).mono ?_
          rintro e w4 ⟨rfl, hb4⟩
          rw [hri]
          have HB4 := hidIt ((bdrewN HB2.out nk).trans (hb4.mono (bdrewN HB2.out nk).size))
          have c7 := cell_below H7.out HB4.out
          clear hb4
          go_wp2
          go_ret2
          exact ⟨fun _ => rfl, (fun h => by rw [HO2.out, hri] at h; cases h), HB4.out⟩

theorem bOk_tk {x : Int} {l : List (Int × Int)} (h : bOk x l = true) : tkS x 0 l = tk x l ∧ (∀ p, p ∈ l → okB p = true) ∧ rise l = true := by
  unfold bOk at h
  simp only [Bool.and_eq_true, decide_eq_true_eq] at h
  have hok : ∀ p, p ∈ l → okB p = true := fun p hp => List.all_eq_true.1 h.1 p hp
  have e := tkS_eq x l 0 hok (by decide) (by decide)
  have hb : bigT = 10000000000010000 := rfl
  have h2 := h.2.1
  refine ⟨?_, hok, h.2.2⟩
  rw [hb] at e
  omega
theorem grows_math {x m : Int} {l : List (Int × Int)} (hm : 0 ≤ m) (h1 : bOk x l = true) (h2 : bOk (x + m) l = true) :
    tkS x 0 l / 10000 ≤ tkS (x + m) 0 l / 10000 ∧ ((∀ p, p ∈ l → p.2 ≤ 10000) → tkS (x + m) 0 l / 10000 - tkS x 0 l / 10000 ≤ m) := by
  obtain ⟨e1, hok, hr⟩ := bOk_tk h1
  obtain ⟨e2, _, _⟩ := bOk_tk h2
  rw [e1, e2]
  have h3 := tk_mono (x := x) (y := x + m) (by omega) l hok
  refine ⟨by omega, fun hp => ?_⟩
  have h4 := tk_grows (x := x) hm l (fun p h => ⟨hok p h, hp p h⟩) hr
  omega

/-- The law's own slice. -/
def Arg (w : World) (o : Option Addr) (l : List (Int × Int)) : Prop := l = [] ∨ ∃ b off, o = some ⟨b, off, none⟩ ∧ b < w.heap.size ∧ Pairs w b off l
theorem copy_arg (o : Option Addr) (cap : Nat) (l : List (Int × Int)) (w : World) (hn : l.length ≤ 60) (h : Arg w o l) :
    Calls Tryd.prog 20 #[.slice o l.length cap] w fun e w' => (∃ v, e = .returned v ∧ Lst w' w.heap.size v l) ∧ Below w.heap.size w w' := by
  rcases h with rfl | ⟨b, off, rfl, hb, HP⟩
  · refine (copy_none o cap w).mono ?_
    rintro e w' ⟨⟨v, rfl, hr⟩, hb⟩
    exact ⟨⟨v, rfl, Lst.of_row hr⟩, hb⟩
  · refine (copy_some b off cap l w hb hn HP).mono ?_
    rintro e w' ⟨⟨v, rfl, hr⟩, hb⟩
    exact ⟨⟨v, rfl, Lst.of_row hr⟩, hb⟩
theorem Arg.below {w w' : World} {o : Option Addr} {l : List (Int × Int)} (h : Arg w o l) (hb : Below w.heap.size w w') : Arg w' o l := by
  rcases h with h | ⟨b, off, h1, h2, h3⟩
  · exact .inl h
  · exact .inr ⟨b, off, h1, Nat.lt_of_lt_of_le h2 hb.size, h3.below hb h2⟩

set_option maxHeartbeats 4000000 in
theorem grows_out (x m : Int) (o : Option Addr) (n cap : Nat) (w : World) (hn : n ≤ maxLen) (hx : -9223372036854775808 ≤ x ∧ x ≤ 9223372036854775807) (hm : -9223372036854775808 ≤ m ∧ m ≤ 9223372036854775807)
    (hal : Calls Tryd.prog 9 #[] w fun e w' => e = .returned (.bool true) ∧ Below w.heap.size w w')
    (hout : x < 0 ∨ m < 0 ∨ 1000000000000 < m ∨ 1000000000000 - m < x ∨ 60 < n) :
    Calls Tryd.prog 6 #[.int .i64 x, .int .i64 m, .slice o n cap] w fun e w' => e = .returned (.bool true) ∧ Below w.heap.size w w' := by
  have HA := hidIt hal
  clear hal
  unfold maxLen at hn
  cases d1 : decide (x < 0)
  · cases d2 : decide (m < 0)
    · cases d3 : decide (1000000000000 < m)
      · have k1 : 0 ≤ m := by simpa using d2
        have k2 : m ≤ 1000000000000 := by simpa using d3
        cases d4 : decide (1000000000000 - m < x)
        · have d5 : decide ((60 : Int) < n) = true := by
            simp at d1 d2 d3 d4 ⊢; omega
          clear hout
          go_enter Tryd.func6, Tryd.ntmps6
          go_wp2_with fail
          refine HA.out.mono ?_
          rintro e w1 ⟨rfl, hb1⟩
          go_wp2
          go_ret
          exact ⟨rfl, hb1⟩
        · clear hout
          go_enter Tryd.func6, Tryd.ntmps6
          go_wp2_with fail
          refine HA.out.mono ?_
          rintro e w1 ⟨rfl, hb1⟩
          go_wp2
          go_ret
          exact ⟨rfl, hb1⟩
      · clear hout
        go_enter Tryd.func6, Tryd.ntmps6
        go_wp2_with fail
        refine HA.out.mono ?_
        rintro e w1 ⟨rfl, hb1⟩
        go_wp2
        go_ret
        exact ⟨rfl, hb1⟩
    · clear hout
      go_enter Tryd.func6, Tryd.ntmps6
      go_wp2_with fail
      refine HA.out.mono ?_
      rintro e w1 ⟨rfl, hb1⟩
      go_wp2
      go_ret
      exact ⟨rfl, hb1⟩
  · clear hout
    go_enter Tryd.func6, Tryd.ntmps6
    go_wp2_with fail
    refine HA.out.mono ?_
    rintro e w1 ⟨rfl, hb1⟩
    go_wp2
    go_ret
    exact ⟨rfl, hb1⟩
end Go.Proofs.YtlpkaelgeeecoaaDoor

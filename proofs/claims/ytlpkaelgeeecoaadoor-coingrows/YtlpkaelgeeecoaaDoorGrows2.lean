/-
  The walk of CoinGrows, where it asks.
-/
import Derived.Test.YtlpkaelgeeecoaaDoorGrows
namespace Go.Proofs.YtlpkaelgeeecoaaDoor
open Go.RowKit Go.Extern.Stop Go.Stop Go.Extern

set_option maxHeartbeats 8000000 in
set_option maxRecDepth 100000 in
theorem grows_main (x m : Int) (o : Option Addr) (cap : Nat) (l : List (Int × Int)) (w : World) (a2 a7 : Addr) (hx : 0 ≤ x) (hm : 0 ≤ m) (hm1 : m ≤ 1000000000000) (hxm : x ≤ 1000000000000 - m) (hn : l.length ≤ 60) (hA : Arg w o l)
    (hal : Calls Tryd.prog 9 #[] w fun e w' => e = .returned (.bool true) ∧ Below w.heap.size w w')
    (h2 : w.cell? ⟨1, 0, none⟩ = some (.iface 157 (.pointer (some a2)))) (h7 : w.cell? ⟨3, 0, none⟩ = some (.iface 157 (.pointer (some a7)))) :
    Calls Tryd.prog 6 #[.int .i64 x, .int .i64 m, .slice o l.length cap] w fun e w' => e = .returned (.bool true) ∧ Below w.heap.size w w' := by
  have HL := hidIt hal
  have HA := hidIt hA
  have H2 := hidIt h2
  have H7 := hidIt h7
  have HC := hidIt (fun w' (h : Arg w' o l) => copy_arg o cap l w' hn h)
  have HB1 := hidIt (fun v w' B (h : Lst w' B v l) k2 k7 => bands_any x v B l w' a2 a7 hx (by omega) hn h k2 k7)
  have HB2 := hidIt (fun v w' B (h : Lst w' B v l) k2 k7 => bands_any (x + m) v B l w' a2 a7 (by omega) (by omega) hn h k2 k7)
  have d1 : decide (x < 0) = false := by simp; omega
  have d2 : decide (m < 0) = false := by simp; omega
  have d3 : decide (1000000000000 < m) = false := by simp; omega
  have d4 : decide (1000000000000 - m < x) = false := by simp; omega
  have d5 : decide ((60 : Int) < l.length) = false := by simp; omega
  clear hal hA h2 h7
  generalize hln : l.length = n at *
  have HN := hidIt hln
  clear hln
  cases hb1 : bOk x l
  · go_enter Tryd.func6, Tryd.ntmps6
    go_wp2_with fail
    refine HL.out.mono ?_
    rintro e w1 ⟨rfl, q1⟩
    have Q1 := hidIt q1
    clear q1
    go_wp2_with fail
    refine (HC.out _ (HA.out.below Q1.out)).mono ?_
    rintro e w2 ⟨⟨v1, rfl, L1⟩, q2⟩
    have Q2 := hidIt (Q1.out.trans (q2.mono Q1.out.size))
    have LL1 := hidIt L1
    clear q2 L1
    go_wp2_with fail
    refine (HB1.out _ _ _ LL1.out (cell_below H2.out Q2.out) (cell_below H7.out Q2.out)).mono ?_
    rintro e w3 ⟨_, p2, q3⟩
    obtain ⟨a, rfl⟩ := p2 hb1
    have Q3 := hidIt (Q2.out.trans (q3.mono Q2.out.size))
    clear p2 q3
    go_wp2_with fail
    refine (HC.out _ (HA.out.below Q3.out)).mono ?_
    rintro e w4 ⟨⟨v2, rfl, L2⟩, q4⟩
    have Q4 := hidIt (Q3.out.trans (q4.mono Q3.out.size))
    have LL2 := hidIt L2
    clear q4 L2
    go_wp2_with fail
    refine (HB2.out _ _ _ LL2.out (cell_below H2.out Q4.out) (cell_below H7.out Q4.out)).mono ?_
    rintro e w5 ⟨p1, p2, q5⟩
    have Q5 := hidIt (Q4.out.trans (q5.mono Q4.out.size))
    clear q5
    cases hb2 : bOk (x + m) l
    · obtain ⟨a', rfl⟩ := p2 hb2
      clear p1 p2
      go_wp2
      go_ret
      exact ⟨rfl, Q5.out⟩
    · obtain rfl := p1 hb2
      clear p1 p2
      go_wp2
      go_ret
      exact ⟨rfl, Q5.out⟩
  · go_enter Tryd.func6, Tryd.ntmps6
    go_wp2_with fail
    refine HL.out.mono ?_
    rintro e w1 ⟨rfl, q1⟩
    have Q1 := hidIt q1
    clear q1
    go_wp2_with fail
    refine (HC.out _ (HA.out.below Q1.out)).mono ?_
    rintro e w2 ⟨⟨v1, rfl, L1⟩, q2⟩
    have Q2 := hidIt (Q1.out.trans (q2.mono Q1.out.size))
    have LL1 := hidIt L1
    clear q2 L1
    go_wp2_with fail
    refine (HB1.out _ _ _ LL1.out (cell_below H2.out Q2.out) (cell_below H7.out Q2.out)).mono ?_
    rintro e w3 ⟨p1, _, q3⟩
    obtain rfl := p1 hb1
    have Q3 := hidIt (Q2.out.trans (q3.mono Q2.out.size))
    clear p1 q3
    go_wp2_with fail
    refine (HC.out _ (HA.out.below Q3.out)).mono ?_
    rintro e w4 ⟨⟨v2, rfl, L2⟩, q4⟩
    have Q4 := hidIt (Q3.out.trans (q4.mono Q3.out.size))
    have LL2 := hidIt L2
    clear q4 L2
    go_wp2_with fail
    refine (HB2.out _ _ _ LL2.out (cell_below H2.out Q4.out) (cell_below H7.out Q4.out)).mono ?_
    rintro e w5 ⟨p1, p2, q5⟩
    have Q5 := hidIt (Q4.out.trans (q5.mono Q4.out.size))
    clear q5
    cases hb2 : bOk (x + m) l
    · obtain ⟨a', rfl⟩ := p2 hb2
      clear p1 p2
      go_wp2
      go_ret
      exact ⟨rfl, Q5.out⟩
    · obtain rfl := p1 hb2
      clear p1 p2
      obtain ⟨g1, g2⟩ := grows_math hm hb1 hb2
      have G2 := hidIt g2
      have y0 : 0 ≤ tkS x 0 l / 10000 := by
        have := (tkS_bd x l 0 (bOk_tk hb1).2.1 (by decide) (by decide)).1
        omega
      have y1 : tkS (x + m) 0 l / 10000 ≤ 1000000000001 := by
        have := (tkS_bd (x + m) l 0 (bOk_tk hb2).2.1 (by decide) (by decide)).2
        have hb : bigT = 10000000000010000 := rfl
        omega
      clear g2 hb1 hb2 HB1 HB2
      generalize tkS x 0 l / 10000 = a at *
      generalize tkS (x + m) 0 l / 10000 = b at *
      have f1 : decide (a ≤ b) = true := by simpa using g1
      go_wp2_with fail
      have HA5 := hidIt (HA.out.below Q5.out)
      go_loop [12] (fun t => ∃ i : Nat, i ≤ n ∧ t = .int .i64 i ∧ ∀ j, j < i → ∀ p, l[j]? = some p → p.2 ≤ 10000) (fun t => n - (intOf t).toNat)
      case atStart => exact ⟨0, by omega, rfl, by intro j h; omega⟩
      case round =>
        obtain ⟨i, hi, rfl, hall⟩ := hrel
        have HI := hidIt hall
        clear hall
        by_cases hlt : i < n
        · have hN := HN.out
          obtain ⟨q, hq⟩ : ∃ q, l[i]? = some q := ⟨_, List.getElem?_eq_getElem (by omega)⟩
          obtain ⟨f, r⟩ := q
          rcases HA5.out with hnil | ⟨bb, off, rfl, hbb, HP⟩
          · rw [hnil] at hq; simp at hq
          obtain ⟨c1, c2⟩ := HP i (f, r) hq
          simp only at c1 c2
          have HQ := hidIt hq
          clear hq hN HP c1
          by_cases hr : r ≤ 10000
          · have r1 : decide (10000 < r) = false := by simp; omega
            have HNx : Hid (∀ j, j < i + 1 → ∀ p, l[j]? = some p → p.2 ≤ 10000) := fun j hj p hp => by
              rcases Nat.lt_or_ge j i with h | h
              · exact HI.out j h p hp
              · obtain rfl : j = i := by omega
                rw [HQ.out] at hp
                obtain rfl := Option.some.inj hp
                exact hr
            go_wp2
            go_round
            case rel => exact ⟨i + 1, by omega, by go_num, HNx.out⟩
            case measure => simp [intOf]; omega
          · have r1 : decide (10000 < r) = true := by simp; omega
            go_wp2
            go_ret
            exact ⟨rfl, Q5.out⟩
        · have hend : b - a ≤ m := G2.out fun p hp => by
            obtain ⟨j, hj⟩ := List.getElem?_of_mem hp
            refine HI.out j ?_ p hj
            have := HN.out
            rcases Nat.lt_or_ge j l.length with h | h
            · omega
            · rw [List.getElem?_eq_none h] at hj; cases hj
          have f2 : decide (b - a ≤ m) = true := by simpa using hend
          go_wp2
          go_ret
          exact ⟨by first | rfl | rw [f2], Q5.out⟩
end Go.Proofs.YtlpkaelgeeecoaaDoor

/-
  Package script: rows of texts looked through (slices.ContainsFunc).
-/
import Derived.Test.YtgfaeeacndpniaaDoorReadTextP
import Derived.Test.YtgfaeeacndpniaaDoorMemBase
namespace Go.Proofs.YtgfaeeacndpniaaDoor
open Go.RowKit Go.Extern.Stop Go.Stop Go.Extern

def longB (s : ByteArray) : Bool := decide (300 < s.size)
noncomputable def badB (s : ByteArray) : Bool := !lineB s
theorem longQ_any (s : ByteArray) (hs : s.size ≤ 1000000) (w : World) : Calls Tryd.prog 81 #[.string s] w fun e w' => e = .returned (.bool (longB s)) ∧ w' = w := by
  have hb : longB s = decide ((300 : Int) < (s.size : Int)) := by unfold longB; rw [decide_eq_decide]; omega
  rw [hb]
  clear hb
  go_enter Tryd.func81, Tryd.ntmps81
  go_wp2
  go_ret
  exact ⟨rfl, rfl⟩
theorem long1_any (s : ByteArray) (hs : s.size ≤ 1000000) (w : World) : Calls Tryd.prog 81 #[.string s] w fun e w' => e = .returned (.bool (longB s)) ∧ Below w.heap.size w w' :=
  (longQ_any s hs w).mono fun e w' ⟨h1, h2⟩ => ⟨h1, by rw [h2]; exact Below.refl _ _⟩
theorem bad1_any (s : ByteArray) (hs : s.size ≤ 1000000) (w : World) : Calls Tryd.prog 83 #[.string s] w fun e w' => e = .returned (.bool (badB s)) ∧ Below w.heap.size w w' := by
  have HC := hidLL (isLine_any s (by omega) w)
  unfold badB
  generalize lineB s = b at *
  go_enter Tryd.func83, Tryd.ntmps83
  go_wp2_with fail
  refine HC.out.mono ?_
  rintro e w1 ⟨rfl, hb1⟩
  have HB := hidLL hb1
  clear hb1
  go_wp2
  go_ret
  exact ⟨rfl, HB.out⟩
set_option maxHeartbeats 1000000 in
theorem long_idx (n : Nat) (la : Option Addr) (lc : Nat) (L : Nat → ByteArray) (w : World) (hn : n ≤ 100000) (hL : ∀ i, i < n → (L i).size ≤ 1000000) (hk : ∀ i, i < n → ∃ b o, la = some ⟨b, o, none⟩ ∧ w.cell? ⟨b, o + i, none⟩ = some (.string (L i))) :
    Calls Tryd.prog 97 #[.slice la n lc, .func (.func 81) #[] #[]] w fun e w' => (∃ k : Int, e = .returned (.int .i64 k) ∧ -1 ≤ k ∧ (0 ≤ k ↔ ∃ i, i < n ∧ longB (L i) = true)) ∧ Below w.heap.size w w' := by
  go_enter Tryd.func97, Tryd.ntmps97
  go_wp2_with fail
  go_loopw [8] (fun t wr => ∃ i : Nat, i ≤ n ∧ t = .int .i64 i ∧ Below w.heap.size w wr ∧ ∀ j, j < i → longB (L j) = false) (fun t _ => (n - RowKit.intOf t).toNat)
  case atStart => exact ⟨0, by omega, rfl, Below.refl _ _, fun j hj => by omega⟩
  case round =>
    obtain ⟨i, hi, rfl, hb, hno⟩ := hrel
    have HB := hidLL hb
    have HN := hidLL hno
    clear hb hno
    by_cases hin : i < n
    · obtain ⟨b, o, rfl, c0⟩ := hk i hin
      have hiz : (i : Int) < n := by omega
      have d0 := (HB.out.cell (p := ⟨b, o + i, none⟩) (cell_lt c0)).trans c0
      have HC := hidLL (fun W => long1_any (L i) (hL i hin) W)
      have HK := hidLL hk
      clear c0 hk
      cases hq : longB (L i)
      · rw [hq] at HC
        have HQ := hidLL hq
        clear hq
        go_wp2_with fail
        refine (HC.out wr).mono ?_
        rintro e w1 ⟨rfl, hb1⟩
        have HB1 := hidLL (HB.out.trans (hb1.mono HB.out.size))
        clear hb1
        go_wp2
        go_roundw
        case rel =>
          refine ⟨i + 1, by omega, by go_num, HB1.out, fun j hj => ?_⟩
          rcases Nat.lt_or_ge j i with h | h
          · exact HN.out j h
          · obtain rfl : j = i := by omega
            exact HQ.out
        case measure => simp [RowKit.intOf]; omega
      · rw [hq] at HC
        have HQ := hidLL hq
        clear hq
        go_wp2_with fail
        refine (HC.out wr).mono ?_
        rintro e w1 ⟨rfl, hb1⟩
        have HB1 := hidLL (HB.out.trans (hb1.mono HB.out.size))
        clear hb1
        go_wp2
        go_ret
        exact ⟨⟨i, rfl, by omega, ⟨fun _ => ⟨i, hin, HQ.out⟩, fun _ => by omega⟩⟩, HB1.out⟩
    · obtain rfl : i = n := by omega
      clear hk
      go_wp2
      go_ret
      refine ⟨⟨-1, rfl, by omega, ⟨fun h => by omega, ?_⟩⟩, HB.out⟩
      rintro ⟨j, hj, hq⟩
      have := HN.out j hj
      rw [this] at hq
      cases hq
theorem long_has (ls : List ByteArray) (la : Option Addr) (lc : Nat) (w : World) (hn : ls.length ≤ 100000) (hL : ∀ s ∈ ls, s.size ≤ 1000000) (hk : ∀ i s, ls[i]? = some s → ∃ b o, la = some ⟨b, o, none⟩ ∧ w.cell? ⟨b, o + i, none⟩ = some (.string s)) :
    Calls Tryd.prog 82 #[.slice la ls.length lc, .func (.func 81) #[] #[]] w fun e w' => e = .returned (.bool (ls.any longB)) ∧ Below w.heap.size w w' := by
  have HC := hidLL (long_idx ls.length la lc (fun i => ls.getD i ⟨#[]⟩) w hn (fun i hi => hL _ (by rw [List.getD_eq_getElem?_getD, List.getElem?_eq_getElem hi]; exact List.getElem_mem hi)) (fun i hi => by
    obtain ⟨b, o, h1, h2⟩ := hk i _ (List.getElem?_eq_getElem hi)
    refine ⟨b, o, h1, ?_⟩
    rw [List.getD_eq_getElem?_getD, List.getElem?_eq_getElem hi]
    exact h2))
  have HA : Hid (∀ k : Int, (0 ≤ k ↔ ∃ i, i < ls.length ∧ longB (ls.getD i ⟨#[]⟩) = true) → decide (0 ≤ k) = ls.any longB) := fun k hk => by
    rw [Bool.eq_iff_iff, decide_eq_true_iff, hk, List.any_eq_true]
    constructor
    · rintro ⟨i, hi, h⟩
      rw [List.getD_eq_getElem?_getD, List.getElem?_eq_getElem hi] at h
      exact ⟨ls[i], List.getElem_mem hi, h⟩
    · rintro ⟨x, hx, h⟩
      obtain ⟨i, hi, rfl⟩ := List.getElem_of_mem hx
      refine ⟨i, hi, ?_⟩
      rw [List.getD_eq_getElem?_getD, List.getElem?_eq_getElem hi]
      exact h
  clear hk hL
  generalize ls.length = n at *
  generalize ls.any longB = an at *
  go_enter Tryd.func82, Tryd.ntmps82
  go_wp2_with fail
  refine HC.out.mono ?_
  rintro e w1 ⟨⟨k, rfl, hk1, hk2⟩, hb1⟩
  have H2 := hidLL (HA.out k hk2)
  have HB := hidLL hb1
  clear hk2 hb1
  go_wp2
  go_ret
  exact ⟨ret_b H2.out, HB.out⟩
set_option maxHeartbeats 1000000 in
theorem bad_idx (n : Nat) (la : Option Addr) (lc : Nat) (L : Nat → ByteArray) (w : World) (hn : n ≤ 100000) (hL : ∀ i, i < n → (L i).size ≤ 1000000) (hk : ∀ i, i < n → ∃ b o, la = some ⟨b, o, none⟩ ∧ w.cell? ⟨b, o + i, none⟩ = some (.string (L i))) :
    Calls Tryd.prog 97 #[.slice la n lc, .func (.func 83) #[] #[]] w fun e w' => (∃ k : Int, e = .returned (.int .i64 k) ∧ -1 ≤ k ∧ (0 ≤ k ↔ ∃ i, i < n ∧ badB (L i) = true)) ∧ Below w.heap.size w w' := by
  go_enter Tryd.func97, Tryd.ntmps97
  go_wp2_with fail
  go_loopw [8] (fun t wr => ∃ i : Nat, i ≤ n ∧ t = .int .i64 i ∧ Below w.heap.size w wr ∧ ∀ j, j < i → badB (L j) = false) (fun t _ => (n - RowKit.intOf t).toNat)
  case atStart => exact ⟨0, by omega, rfl, Below.refl _ _, fun j hj => by omega⟩
  case round =>
    obtain ⟨i, hi, rfl, hb, hno⟩ := hrel
    have HB := hidLL hb
    have HN := hidLL hno
    clear hb hno
    by_cases hin : i < n
    · obtain ⟨b, o, rfl, c0⟩ := hk i hin
      have hiz : (i : Int) < n := by omega
      have d0 := (HB.out.cell (p := ⟨b, o + i, none⟩) (cell_lt c0)).trans c0
      have HC := hidLL (fun W => bad1_any (L i) (hL i hin) W)
      have HK := hidLL hk
      clear c0 hk
      cases hq : badB (L i)
      · rw [hq] at HC
        have HQ := hidLL hq
        clear hq
        go_wp2_with fail
        refine (HC.out wr).mono ?_
        rintro e w1 ⟨rfl, hb1⟩
        have HB1 := hidLL (HB.out.trans (hb1.mono HB.out.size))
        clear hb1
        go_wp2
        go_roundw
        case rel =>
          refine ⟨i + 1, by omega, by go_num, HB1.out, fun j hj => ?_⟩
          rcases Nat.lt_or_ge j i with h | h
          · exact HN.out j h
          · obtain rfl : j = i := by omega
            exact HQ.out
        case measure => simp [RowKit.intOf]; omega
      · rw [hq] at HC
        have HQ := hidLL hq
        clear hq
        go_wp2_with fail
        refine (HC.out wr).mono ?_
        rintro e w1 ⟨rfl, hb1⟩
        have HB1 := hidLL (HB.out.trans (hb1.mono HB.out.size))
        clear hb1
        go_wp2
        go_ret
        exact ⟨⟨i, rfl, by omega, ⟨fun _ => ⟨i, hin, HQ.out⟩, fun _ => by omega⟩⟩, HB1.out⟩
    · obtain rfl : i = n := by omega
      clear hk
      go_wp2
      go_ret
      refine ⟨⟨-1, rfl, by omega, ⟨fun h => by omega, ?_⟩⟩, HB.out⟩
      rintro ⟨j, hj, hq⟩
      have := HN.out j hj
      rw [this] at hq
      cases hq
theorem bad_has (ls : List ByteArray) (la : Option Addr) (lc : Nat) (w : World) (hn : ls.length ≤ 100000) (hL : ∀ s ∈ ls, s.size ≤ 1000000) (hk : ∀ i s, ls[i]? = some s → ∃ b o, la = some ⟨b, o, none⟩ ∧ w.cell? ⟨b, o + i, none⟩ = some (.string s)) :
    Calls Tryd.prog 82 #[.slice la ls.length lc, .func (.func 83) #[] #[]] w fun e w' => e = .returned (.bool (ls.any badB)) ∧ Below w.heap.size w w' := by
  have HC := hidLL (bad_idx ls.length la lc (fun i => ls.getD i ⟨#[]⟩) w hn (fun i hi => hL _ (by rw [List.getD_eq_getElem?_getD, List.getElem?_eq_getElem hi]; exact List.getElem_mem hi)) (fun i hi => by
    obtain ⟨b, o, h1, h2⟩ := hk i _ (List.getElem?_eq_getElem hi)
    refine ⟨b, o, h1, ?_⟩
    rw [List.getD_eq_getElem?_getD, List.getElem?_eq_getElem hi]
    exact h2))
  have HA : Hid (∀ k : Int, (0 ≤ k ↔ ∃ i, i < ls.length ∧ badB (ls.getD i ⟨#[]⟩) = true) → decide (0 ≤ k) = ls.any badB) := fun k hk => by
    rw [Bool.eq_iff_iff, decide_eq_true_iff, hk, List.any_eq_true]
    constructor
    · rintro ⟨i, hi, h⟩
      rw [List.getD_eq_getElem?_getD, List.getElem?_eq_getElem hi] at h
      exact ⟨ls[i], List.getElem_mem hi, h⟩
    · rintro ⟨x, hx, h⟩
      obtain ⟨i, hi, rfl⟩ := List.getElem_of_mem hx
      refine ⟨i, hi, ?_⟩
      rw [List.getD_eq_getElem?_getD, List.getElem?_eq_getElem hi]
      exact h
  clear hk hL
  generalize ls.length = n at *
  generalize ls.any badB = an at *
  go_enter Tryd.func82, Tryd.ntmps82
  go_wp2_with fail
  refine HC.out.mono ?_
  rintro e w1 ⟨⟨k, rfl, hk1, hk2⟩, hb1⟩
  have H2 := hidLL (HA.out k hk2)
  have HB := hidLL hb1
  clear hk2 hb1
  go_wp2
  go_ret
  exact ⟨ret_b H2.out, HB.out⟩
end Go.Proofs.YtgfaeeacndpniaaDoor

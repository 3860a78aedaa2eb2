/-
  Package script: labelled (by slices.IndexFunc). Try.
-/
import Derived.Test.YtgfaeeacndpniaaDoorMemBase
namespace Go.Proofs.YtgfaeeacndpniaaDoor
open Go.RowKit Go.Extern.Stop Go.Stop Go.Extern

theorem labelled1_any (a h s : ByteArray) (la ka : Option Addr) (n lc m kc : Nat) (bs : Nat) (w : World) (hs : w.cell? ⟨bs, 0, none⟩ = some (.string s)) :
    Calls Tryd.prog 95 #[.agg #[.string a, .string h, .slice la n lc, .slice ka m kc], .pointer (some ⟨bs, 0, none⟩)] w fun e w' => e = .returned (.bool (a.toList == s.toList)) ∧ w' = w.alloc (.cells #[.string a, .string h, .slice la n lc, .slice ka m kc] 31) := by
  have hl := World.block_lt_of_cell? w ⟨bs, 0, none⟩ hs
  have hs2 : (w.alloc (.cells #[.string a, .string h, .slice la n lc, .slice ka m kc] 31)).cell? ⟨bs, 0, none⟩ = some (.string s) := by
    rw [World.cell?_alloc_lt _ _ ⟨bs, 0, none⟩ hl]; exact hs
  go_enter Tryd.func95, Tryd.ntmps95
  go_wp2
  go_ret
  exact ⟨rfl, rfl⟩

set_option maxHeartbeats 1000000 in
theorem indexFunc_any (n : Nat) (ka : Option Addr) (kc : Nat) (L : Nat → ByteArray) (H : Nat → ByteArray) (la ma : Nat → Option Addr) (ln lc mn mc : Nat → Nat) (s : ByteArray) (bs : Nat) (w : World) (hn : n ≤ 100000) (hs : w.cell? ⟨bs, 0, none⟩ = some (.string s))
    (hk : ∀ i, i < n → ∃ b o, ka = some ⟨b, o, none⟩ ∧ w.cell? ⟨b, o + i * 4, none⟩ = some (.string (L i)) ∧ w.cell? ⟨b, o + i * 4 + 1, none⟩ = some (.string (H i)) ∧ w.cell? ⟨b, o + i * 4 + 2, none⟩ = some (.slice (la i) (ln i) (lc i)) ∧ w.cell? ⟨b, o + i * 4 + 3, none⟩ = some (.slice (ma i) (mn i) (mc i))) :
    Calls Tryd.prog 94 #[.slice ka n kc, .func (.func 95) #[] #[.pointer (some ⟨bs, 0, none⟩)]] w fun e w' => (∃ k : Int, e = .returned (.int .i64 k) ∧ -1 ≤ k ∧ (0 ≤ k ↔ ∃ i, i < n ∧ ((L i).toList == s.toList) = true)) ∧ Below w.heap.size w w' := by
  have hl := World.block_lt_of_cell? w ⟨bs, 0, none⟩ hs
  go_enter Tryd.func94, Tryd.ntmps94
  go_wp2_with fail
  go_loopw [8] (fun t wr => ∃ i : Nat, i ≤ n ∧ t = .int .i64 i ∧ Below w.heap.size w wr ∧ ∀ j, j < i → ((L j).toList == s.toList) = false) (fun t _ => (n - RowKit.intOf t).toNat)
  case atStart => exact ⟨0, by omega, rfl, Below.refl _ _, fun j hj => by omega⟩
  case round =>
    obtain ⟨i, hi, rfl, hb, hno⟩ := hrel
    have HB := hidLL hb
    have HN := hidLL hno
    clear hb hno
    by_cases hin : i < n
    · obtain ⟨b, o, rfl, c0, c1, c2, c3⟩ := hk i hin
      have hiz : (i : Int) < n := by omega
      have hbl := World.block_lt_of_cell? w ⟨b, o + i * 4, none⟩ c0
      have d0 := (HB.out.cell (p := ⟨b, o + i * 4, none⟩) hbl).trans c0
      have d1 := (HB.out.cell (p := ⟨b, o + i * 4 + 1, none⟩) hbl).trans c1
      have d2 := (HB.out.cell (p := ⟨b, o + i * 4 + 2, none⟩) hbl).trans c2
      have d3 := (HB.out.cell (p := ⟨b, o + i * 4 + 3, none⟩) hbl).trans c3
      have HC := hidLL (labelled1_any (L i) (H i) s (la i) (ma i) (ln i) (lc i) (mn i) (mc i) bs wr ((HB.out.cell (p := ⟨bs, 0, none⟩) hl).trans hs))
      have HK := hidLL hk
      clear c0 c1 c2 c3 hk
      cases hq : ((L i).toList == s.toList)
      · rw [hq] at HC
        have HQ := hidLL hq
        clear hq
        go_wp2_with fail
        refine HC.out.mono ?_
        rintro e w1 ⟨rfl, ew⟩
        go_wp2
        go_roundw
        case rel =>
          refine ⟨i + 1, by omega, by go_num, ?_, fun j hj => ?_⟩
          · first | exact HB.out.alloc HB.out.size _ | (rw [ew]; exact HB.out.alloc HB.out.size _)
          · rcases Nat.lt_or_ge j i with h | h
            · exact HN.out j h
            · obtain rfl : j = i := by omega
              exact HQ.out
        case measure => simp [RowKit.intOf]; omega
      · rw [hq] at HC
        have HQ := hidLL hq
        clear hq
        go_wp2_with fail
        refine HC.out.mono ?_
        rintro e w1 ⟨rfl, ew⟩
        go_wp2
        go_ret
        refine ⟨⟨i, rfl, by omega, ⟨fun _ => ⟨i, hin, HQ.out⟩, fun _ => by omega⟩⟩, ?_⟩
        first | exact HB.out.alloc HB.out.size _ | (rw [ew]; exact HB.out.alloc HB.out.size _)
    · obtain rfl : i = n := by omega
      clear hk
      go_wp2
      go_ret
      refine ⟨⟨-1, rfl, by omega, ⟨fun h => by omega, ?_⟩⟩, HB.out⟩
      rintro ⟨j, hj, hq⟩
      have := HN.out j hj
      rw [this] at hq
      cases hq
set_option maxHeartbeats 1000000 in
theorem labelled_any (n : Nat) (ka : Option Addr) (kc : Nat) (L : Nat → ByteArray) (H : Nat → ByteArray) (la ma : Nat → Option Addr) (ln lc mn mc : Nat → Nat) (s : ByteArray) (w : World) (hn : n ≤ 100000)
    (hk : ∀ i, i < n → ∃ b o, ka = some ⟨b, o, none⟩ ∧ w.cell? ⟨b, o + i * 4, none⟩ = some (.string (L i)) ∧ w.cell? ⟨b, o + i * 4 + 1, none⟩ = some (.string (H i)) ∧ w.cell? ⟨b, o + i * 4 + 2, none⟩ = some (.slice (la i) (ln i) (lc i)) ∧ w.cell? ⟨b, o + i * 4 + 3, none⟩ = some (.slice (ma i) (mn i) (mc i))) :
    Calls Tryd.prog 76 #[.slice ka n kc, .string s] w fun e w' => (∃ k : Int, e = .returned (.int .i64 k) ∧ -1 ≤ k ∧ (0 ≤ k ↔ ∃ i, i < n ∧ ((L i).toList == s.toList) = true)) ∧ Below w.heap.size w w' := by
  have hb : Below w.heap.size w (w.alloc (.cells #[.string s] 9)) := (Below.refl _ _).alloc (Nat.le_refl _) _
  have HC := hidLL (indexFunc_any n ka kc L H la ma ln lc mn mc s w.heap.size (w.alloc (.cells #[.string s] 9)) hn (by simp) (fun i hi => by
    obtain ⟨b, o, e, c0, c1, c2, c3⟩ := hk i hi
    have hbl := World.block_lt_of_cell? w ⟨b, o + i * 4, none⟩ c0
    exact ⟨b, o, e, (hb.cell (p := ⟨b, o + i * 4, none⟩) hbl).trans c0, (hb.cell (p := ⟨b, o + i * 4 + 1, none⟩) hbl).trans c1, (hb.cell (p := ⟨b, o + i * 4 + 2, none⟩) hbl).trans c2, (hb.cell (p := ⟨b, o + i * 4 + 3, none⟩) hbl).trans c3⟩))
  clear hk
  go_enter Tryd.func76, Tryd.ntmps76
  go_wp2_with fail
  refine HC.out.mono ?_
  rintro e w1 ⟨⟨k, rfl, hk1, hk2⟩, hb1⟩
  have H2 := hidLL hk2
  clear hk2
  go_wp2
  go_ret
  exact ⟨⟨k, rfl, hk1, H2.out⟩, hb.trans (hb1.mono (by simp))⟩
end Go.Proofs.YtgfaeeacndpniaaDoor

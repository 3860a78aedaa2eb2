/-
  Package slices: Grow and Concat, of claims.
-/
import Derived.Test.YtmbclnaenjcocaaGreatDoorRsFrom2
import Derived.Lib.AppendZerosOnto
import Derived.Lib.SliceRun
import Derived.Lib.Walk
namespace Go.Proofs.YtmbclnaenjcocaaGreatDoor
open Go.RowKit
variable {w : World} {bL bR hi : Nat} {H : Sh} {V : Vs} {s : St}

theorem CRd.below {w w' : World} {v : Value} {l : List Clm} (h : CRd w v l) (hb : Below w.heap.size w w') : CRd w' v l := by
  obtain ⟨a, c, e, h1, h2⟩ := h
  refine ⟨a, c, e, h1, fun b eb j u hj => ?_⟩
  have hc := h2 b eb j u hj
  rw [hb.cell (p := b.add j) (World.block_lt_of_cell? w _ hc)]
  exact hc
set_option maxHeartbeats 2000000 in
set_option maxRecDepth 100000 in
theorem grow_p (n : Nat) (hn : n ≤ 100000000) (w : World) : Calls Tryz.prog 89 #[.slice none 0 0, .int .i64 n] w fun e w' => ∃ ad c, e = .returned (.slice ad 0 c) ∧ Below w.heap.size w w' ∧ CRow w' w.heap.size (.slice ad 0 c) [] := by
  have h1 : ¬ ((n : Int) < 0) := by omega
  by_cases h0 : n = 0
  · subst h0
    go_enter Tryz.func89, Tryz.ntmps89
    go_wp2
    go_ret
    exact ⟨none, 0, rfl, Below.refl _ _, CRow.nil _ _⟩
  · obtain ⟨i, hi, e⟩ := Option.map_eq_some_iff.1 Tryz.infoClm2
    simp only [Prod.mk.injEq] at e
    obtain ⟨e1, e2, e3⟩ := e
    have hold : (Builtin.firstCells i.size 0 (.slice none 0 0)).run Tryz.prog w.drew = .ok ([] : List Value).toArray w.drew := run_firstCells_none w.drew i.size 0 0 0
    have hr0 : ∀ ty, _ := fun ty => Lib.run_append_grow_zeros (P := Tryz.prog) w 66 3 ty 65 i (.agg zClm) .i64 .i64 Tryz.underlying66 Tryz.underlying3 hi e1 none 0 0 [] hold n (by omega) (by rw [e2]; omega) (by omega) (by omega) (by rw [e3]; omega) (growslice_fits (by omega) (by rw [e3]; omega))
    obtain ⟨G, hG⟩ : ∃ G, G = grownCap w (0 + n) 0 65 := ⟨_, rfl⟩
    have hge := grownCap_ge w (0 + n) 0 65
    have hle := grownCap_le_maxLen w (0 + n) 0 65 (by unfold maxLen; omega)
    rw [← hG] at hge hle
    obtain ⟨cur, hcur⟩ : ∃ cur, cur = ([] : List Value).toArray ++ Builtin.zeroCells (Value.agg zClm).cells n ++ Builtin.zeroCells (Value.agg zClm).cells (G - (0 + n)) := ⟨_, rfl⟩
    have hsz : cur.size = G * 3 := by
      rw [hcur]
      simp only [Array.size_append, size_zeroCells, List.size_toArray, List.length_nil]
      rw [show (Value.agg zClm).cells.size = 3 from rfl]
      omega
    have hrz : ∀ ty, (Builtin.append_ #[66, 3] ty #[.slice none 0 0, .int .i64 n]).run Tryz.prog w = .ok (.slice (some ⟨w.heap.size, 0, none⟩) n G) (w.drew.alloc (.cells cur 65)) := fun ty => by
      have := hr0 ty
      rw [← hG, ← hcur, Nat.zero_add] at this
      exact this
    have HK : Hid (Below w.heap.size w (w.drew.alloc (.cells cur 65)) ∧ CRow (w.drew.alloc (.cells cur 65)) w.heap.size (.slice (some ⟨w.heap.size, 0, none⟩) 0 G) []) := ⟨(Below.refl _ _).drew.alloc (Nat.le_refl _) _, ⟨World.ownsRow_made w.drew cur G (Nat.le_refl _) hle hsz, by simp⟩⟩
    have hG63 : G ≤ 9223372036854775807 := by unfold maxLen at hle; omega
    clear hr0 hG hold hcur hsz e1 e2 e3 hi hle
    generalize (w.drew.alloc (.cells cur 65)) = W1 at *
    have hnz : (0 : Int) < n := by omega
    go_enter Tryz.func89, Tryz.ntmps89
    go_wp2_with (at_builtin; refine Lib.wpList_append_run _ rfl _ _ _ _ rfl _ _ rfl rfl _ _ (hrz _) ?_)
    all_goals
      go_ret
      exact ⟨_, _, rfl, HK.out.1, HK.out.2⟩
def pre3 (l0 l1 l2 : List Clm) : Nat → List Clm
  | 0 => []
  | 1 => l0
  | 2 => l0 ++ l1
  | _ => l0 ++ l1 ++ l2
set_option maxHeartbeats 4000000 in
set_option maxRecDepth 100000 in
theorem concat_p {g : Nat} {v0 v1 v2 : Value} {l0 l1 l2 : List Clm} (c0 : w.cell? ⟨g, 0, none⟩ = some v0) (c1 : w.cell? ⟨g, 1, none⟩ = some v1) (c2 : w.cell? ⟨g, 2, none⟩ = some v2) (h0 : CRd w v0 l0) (h1 : CRd w v1 l1) (h2 : CRd w v2 l2) (hl : l0.length + l1.length + l2.length ≤ 100000000) :
    Calls Tryz.prog 85 #[.slice (some ⟨g, 0, none⟩) 3 3] w fun e w' => ∃ ad n c, e = .returned (.slice ad n c) ∧ Below w.heap.size w w' ∧ CRow w' w.heap.size (.slice ad n c) (l0 ++ l1 ++ l2) := by
  have hg : g < w.heap.size := World.block_lt_of_cell? w ⟨g, 0, none⟩ c0
  have H0 := hidLL h0
  have H1 := hidLL h1
  have H2 := hidLL h2
  obtain ⟨a0, k0, e0, _, _⟩ := h0
  obtain ⟨a1, k1, e1, _, _⟩ := h1
  obtain ⟨a2, k2, e2, _, _⟩ := h2
  subst e0 e1 e2
  obtain ⟨n0, hn0⟩ : ∃ n, n = l0.length := ⟨_, rfl⟩
  obtain ⟨n1, hn1⟩ : ∃ n, n = l1.length := ⟨_, rfl⟩
  obtain ⟨n2, hn2⟩ : ∃ n, n = l2.length := ⟨_, rfl⟩
  rw [← hn0] at c0 H0 hl
  rw [← hn1] at c1 H1 hl
  rw [← hn2] at c2 H2 hl
  have HN := hidLL (And.intro hn0 (And.intro hn1 hn2))
  clear hn0 hn1 hn2
  have HG := hidLL (grow_p (n0 + n1 + n2) hl)
  have HC : Hid (∀ W : World, Below w.heap.size w W → W.cell? ⟨g, 0, none⟩ = some (.slice a0 n0 k0) ∧ W.cell? ⟨g, 1, none⟩ = some (.slice a1 n1 k1) ∧ W.cell? ⟨g, 2, none⟩ = some (.slice a2 n2 k2)) := fun W hb =>
    ⟨(hb.cell (p := ⟨g, 0, none⟩) hg).trans c0, (hb.cell (p := ⟨g, 1, none⟩) hg).trans c1, (hb.cell (p := ⟨g, 2, none⟩) hg).trans c2⟩
  go_enter Tryz.func85, Tryz.ntmps85
  go_wp2_with fail
  go_loop [3, 11] (fun t3 t => ∃ (j m : Nat), j ≤ 3 ∧ t = .int .i64 j ∧ t3 = .int .i64 m ∧ m = (if j = 0 then 0 else if j = 1 then n0 else if j = 2 then n0 + n1 else n0 + n1 + n2)) (fun _ t => 3 - (RowKit.intOf t).toNat)
  case atStart => exact ⟨0, 0, by omega, rfl, rfl, rfl⟩
  case round =>
    obtain ⟨j, m, hj, rfl, rfl, hm⟩ := hrel
    have h3 : j = 0 ∨ j = 1 ∨ j = 2 ∨ j = 3 := by omega
    rcases h3 with rfl | rfl | rfl | rfl
    · simp only [if_true] at hm
      subst hm
      go_wp2
      go_round
      case rel => exact ⟨1, n0, by omega, by go_num, by first | rfl | go_num, by simp⟩
      case measure => simp [RowKit.intOf]
    · have hm' : m = n0 := hm
      subst hm'
      clear hm
      go_wp2
      go_round
      case rel => exact ⟨2, m + n1, by omega, by go_num, by first | rfl | go_num, by simp⟩
      case measure => simp [RowKit.intOf]
    · have hm' : m = n0 + n1 := hm
      have HM := hidLL hm'
      have hmb : m ≤ 100000000 := by omega
      clear hm hm'
      have hmb2 : m + n2 ≤ 100000000 := by have := HM.out; omega
      go_wp2
      go_round
      case rel => exact ⟨3, m + n2, by omega, by go_num, by first | rfl | go_num, by rw [HM.out]; simp⟩
      case measure => simp [RowKit.intOf]
    · have hm' : m = n0 + n1 + n2 := hm
      rw [← hm'] at HG
      clear hm hm'
      go_wp2_with fail
      refine (HG.out w).mono ?_
      rintro e w1 ⟨ad, c, rfl, hb1, hr1⟩
      have HQ1 := hidLL (And.intro hb1 hr1)
      clear hb1 hr1
      go_wp2_with fail
      go_loopw [6, 27] (fun t6 t wr => ∃ (j : Nat) (ad : Option Addr) (n c : Nat), j ≤ 3 ∧ t = .int .i64 j ∧ t6 = .slice ad n c ∧ Below w.heap.size w wr ∧ CRow wr w.heap.size (.slice ad n c) (pre3 l0 l1 l2 j)) (fun _ t _ => 3 - (RowKit.intOf t).toNat)
      case atStart => exact ⟨0, _, _, _, by omega, rfl, rfl, HQ1.out.1, HQ1.out.2⟩
      case round =>
        obtain ⟨j, ad2, n, c2', hj, rfl, rfl, hb, hr⟩ := hrel
        obtain ⟨d0, d1, d2⟩ := HC.out wr hb
        have hsz := hb.size
        have HQ := hidLL (And.intro hb hr)
        clear hb hr
        have h3 : j = 0 ∨ j = 1 ∨ j = 2 ∨ j = 3 := by omega
        rcases h3 with rfl | rfl | rfl | rfl
        · go_wp2_with (first
            | (at_builtin; refine wpList_app_clm rfl (.tmp 31) (.tmp 32) rfl w.heap.size (.slice ad2 n c2') (.slice a0 n0 k0) [] l0 rfl HQ.out.2 rfl (H0.out.below (HQ.out.1)) hsz (by have := HN.out; simp; omega) ?_; intro v' w3 hr3 hb3)
            | go_in)
          obtain ⟨ad', c', ev⟩ := hr3.any
          subst ev
          have HR3 := hidLL (And.intro hr3 hb3)
          clear hr3 hb3
          go_roundw
          case rel => exact ⟨1, _, _, _, by omega, by go_num, rfl, HQ.out.1.trans HR3.out.2, HR3.out.1⟩
          case measure => simp [RowKit.intOf]
        · go_wp2_with (first
            | (at_builtin; refine wpList_app_clm rfl (.tmp 31) (.tmp 32) rfl w.heap.size (.slice ad2 n c2') (.slice a1 n1 k1) l0 l1 rfl HQ.out.2 rfl (H1.out.below (HQ.out.1)) hsz (by have := HN.out; omega) ?_; intro v' w3 hr3 hb3)
            | go_in)
          obtain ⟨ad', c', ev⟩ := hr3.any
          subst ev
          have HR3 := hidLL (And.intro hr3 hb3)
          clear hr3 hb3
          go_roundw
          case rel => exact ⟨2, _, _, _, by omega, by go_num, rfl, HQ.out.1.trans HR3.out.2, HR3.out.1⟩
          case measure => simp [RowKit.intOf]
        · go_wp2_with (first
            | (at_builtin; refine wpList_app_clm rfl (.tmp 31) (.tmp 32) rfl w.heap.size (.slice ad2 n c2') (.slice a2 n2 k2) (l0 ++ l1) l2 rfl HQ.out.2 rfl (H2.out.below (HQ.out.1)) hsz (by have := HN.out; rw [List.length_append]; omega) ?_; intro v' w3 hr3 hb3)
            | go_in)
          obtain ⟨ad', c', ev⟩ := hr3.any
          subst ev
          have HR3 := hidLL (And.intro hr3 hb3)
          clear hr3 hb3
          go_roundw
          case rel => exact ⟨3, _, _, _, by omega, by go_num, rfl, HQ.out.1.trans HR3.out.2, HR3.out.1⟩
          case measure => simp [RowKit.intOf]
        · go_wp2
          go_ret
          exact ⟨_, _, _, rfl, HQ.out.1, HQ.out.2⟩
end Go.Proofs.YtmbclnaenjcocaaGreatDoor

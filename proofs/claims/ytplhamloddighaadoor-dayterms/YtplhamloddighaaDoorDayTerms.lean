/-
  The walk of DayTerms.
-/
import Derived.Test.YtplhamloddighaaDoorTermP4
import Derived.Test.YtplhamloddighaaDoorRTerm2
import Derived.Test.YtplhamloddighaaDoorTermText
namespace Go.Proofs.YtplhamloddighaaDoor
open Go.RowKit Go.Extern.Stop Go.Stop Go.Extern

theorem agree_ttext (N U R : Int) : ∃ T : ByteArray, (∀ w, Lib.TabIs Tryd.prog w "internal/strconv.uint64pow10" .u64 Lib.pow10Tab → Calls Tryd.prog 22 #[.agg #[.int .i64 N, .int .i64 U, .int .i64 R]] w fun e w' => e = .returned (.string T) ∧ Below w.heap.size w w') ∧
    (∀ w, Calls Tryd.prog 23 #[.agg #[.int .i64 N, .int .i64 U, .int .i64 R]] w fun e w' => e = .returned (.string T) ∧ Below w.heap.size w w') := by
  by_cases h : N < 0 ∨ 100000 < N ∨ U < 0 ∨ 4 < U ∨ R < 0 ∨ 2 < R
  · exact ⟨_, fun w _ => termText_no N U R w h, fun w => rTermText_no N U R w h⟩
  · obtain ⟨n, rfl⟩ : ∃ n : Nat, N = n := ⟨N.toNat, by omega⟩
    obtain ⟨k, rfl⟩ : ∃ k : Nat, U = k := ⟨U.toNat, by omega⟩
    have hr : R = 0 ∨ R = 1 ∨ R = 2 := by omega
    rcases hr with rfl | rfl | rfl
    · exact ⟨ttx n k 0, fun w ht => termText_0 n k (by omega) (by omega) w ht, fun w => rTermText_0 n k (by omega) (by omega) w⟩
    · exact ⟨ttx n k 1, fun w ht => termText_1 n k (by omega) (by omega) w ht, fun w => rTermText_1 n k (by omega) (by omega) w⟩
    · exact ⟨ttx n k 2, fun w ht => termText_2 n k (by omega) (by omega) w ht, fun w => rTermText_2 n k (by omega) (by omega) w⟩

def w3 : ByteArray := ⟨#[51, 32, 119, 101, 101, 107, 115]⟩
theorem tout_w3 : tout w3 = ⟨3, 2, 0, 0, -1⟩ := by
  have hl : len0 w3 = 1 := by decide
  have hu : uOf w3 = 2 := by
    obtain ⟨h1, h2, h3⟩ := unitOf_spec (bl (w3.extract (len0 w3 + 1) w3.size))
    have e : uOf w3 = unitOf (bl (w3.extract (len0 w3 + 1) w3.size)) := rfl
    rw [← e, hl] at h3
    have h4 := h3 2 (by omega)
    rw [show Lib.hasPrefix (bl (w3.extract (1 + 1) w3.size)) (wdL 2) = true by decide] at h4
    have := of_decide_eq_true h4.symm
    omega
  have he : eAt w3 = 7 := by unfold eAt; rw [hl, hu]; decide
  rw [tout_8 (by rw [hl]; decide) (by omega) (by rw [he]; decide), tend_ok _ (by decide), hu]
  rfl
theorem readTerm_first (p : Nat → Addr) (w : World) (L : Laid w p) : Calls Tryd.prog 19 #[.string ⟨#[51, 32, 119, 101, 101, 107, 115]⟩] w fun e w' => e = .returned (.tuple #[.agg #[.int .i64 3, .int .i64 2, .int .i64 0], .nilIface]) ∧ Below w.heap.size w w' := by
  refine (readTerm_any w3 p w L (by decide)).mono ?_
  intro e w' h
  rw [tout_w3] at h
  rcases h with ⟨_, he, hb⟩ | ⟨k, _, hc, _⟩
  · exact ⟨he, hb⟩
  · have hc' : (0 : Int) = k + 1 := hc
    omega

theorem below_frozen {B : Nat} {w w' : World} (hb : Below B w w') {a : Addr} (h : a.block < B) : w'.frozen? a = w.frozen? a := by
  unfold World.frozen?
  rw [hb.block a.block h]
/-- Three numbers in a block. -/
structure H3 (W : World) (b : Nat) (x y z : Int) : Prop where
  c0 : W.cell? ⟨b, 0, none⟩ = some (.int .i64 x)
  c1 : W.cell? ⟨b, 0 + 1, none⟩ = some (.int .i64 y)
  c2 : W.cell? ⟨b, 0 + 2, none⟩ = some (.int .i64 z)
  f0 : W.frozen? ⟨b, 0, none⟩ = false
  f1 : W.frozen? ⟨b, 0 + 1, none⟩ = false
  f2 : W.frozen? ⟨b, 0 + 2, none⟩ = false
  lt : b < W.heap.size
theorem H3.on {W W' : World} {b : Nat} {x y z : Int} (h : H3 W b x y z) (hb : Below W.heap.size W W') : H3 W' b x y z :=
  ⟨(hb.cell (p := ⟨b, 0, none⟩) h.lt).trans h.c0, (hb.cell (p := ⟨b, 0 + 1, none⟩) h.lt).trans h.c1, (hb.cell (p := ⟨b, 0 + 2, none⟩) h.lt).trans h.c2, (below_frozen hb (a := ⟨b, 0, none⟩) h.lt).trans h.f0, (below_frozen hb (a := ⟨b, 0 + 1, none⟩) h.lt).trans h.f1, (below_frozen hb (a := ⟨b, 0 + 2, none⟩) h.lt).trans h.f2, Nat.lt_of_lt_of_le h.lt hb.size⟩
theorem H3.mk' (W : World) (x y z : Int) (t : TypeId) : H3 (W.alloc (.cells #[.int .i64 x, .int .i64 y, .int .i64 z] t)) W.heap.size x y z :=
  ⟨by simp, by simp, by simp, by simp, by simp, by simp, by simp⟩
theorem H3.set {W : World} {b : Nat} {x y z : Int} (h : H3 W b x y z) (x' y' z' : Int) : H3 (((W.setCell ⟨b, 0, none⟩ (.int .i64 x')).setCell ⟨b, 1, none⟩ (.int .i64 y')).setCell ⟨b, 2, none⟩ (.int .i64 z')) b x' y' z' :=
  ⟨rs0 h.c0 _ _ _, rs1 h.c1 _ _ _, rs2 h.c2 _ _ _, by simpa using h.f0, by simpa using h.f1, by simpa using h.f2, by simpa using h.lt⟩
theorem H3.other {W : World} {b b' : Nat} {x y z : Int} (h : H3 W b' x y z) (hne : b ≠ b') (x' y' z' : Value) : H3 (((W.setCell ⟨b, 0, none⟩ x').setCell ⟨b, 1, none⟩ y').setCell ⟨b, 2, none⟩ z') b' x y z := by
  refine ⟨?_, ?_, ?_, by simpa using h.f0, by simpa using h.f1, by simpa using h.f2, by simpa using h.lt⟩
  · rw [World.cell?_setCell_other _ _ _ _ (by intro e; injection e with e1; exact hne e1), World.cell?_setCell_other _ _ _ _ (by intro e; injection e with e1; exact hne e1), World.cell?_setCell_other _ _ _ _ (by intro e; injection e with e1; exact hne e1)]; exact h.c0
  · rw [World.cell?_setCell_other _ _ _ _ (by intro e; injection e with e1; exact hne e1), World.cell?_setCell_other _ _ _ _ (by intro e; injection e with e1; exact hne e1), World.cell?_setCell_other _ _ _ _ (by intro e; injection e with e1; exact hne e1)]; exact h.c1
  · rw [World.cell?_setCell_other _ _ _ _ (by intro e; injection e with e1; exact hne e1), World.cell?_setCell_other _ _ _ _ (by intro e; injection e with e1; exact hne e1), World.cell?_setCell_other _ _ _ _ (by intro e; injection e with e1; exact hne e1)]; exact h.c2

/-- A fault's cells. -/
structure FC (W : World) (b : Nat) (pos : Int) (a : Addr) : Prop where
  c0 : W.cell? ⟨b, 0, none⟩ = some (.int .i64 pos)
  c1 : W.cell? ⟨b, 0 + 1, none⟩ = some (.iface 159 (.pointer (some a)))
  lt : b < W.heap.size
theorem FC.on {W W' : World} {b : Nat} {pos : Int} {a : Addr} (h : FC W b pos a) (hb : Below W.heap.size W W') : FC W' b pos a :=
  ⟨(hb.cell (p := ⟨b, 0, none⟩) h.lt).trans h.c0, (hb.cell (p := ⟨b, 0 + 1, none⟩) h.lt).trans h.c1, Nat.lt_of_lt_of_le h.lt hb.size⟩
theorem FC.mk' {W : World} {b : Nat} {pos : Int} {a : Addr} (h0 : W.cell? ⟨b, 0, none⟩ = some (.int .i64 pos)) (h1 : W.cell? ⟨b, 0 + 1, none⟩ = some (.iface 159 (.pointer (some a)))) : FC W b pos a := by
  refine ⟨h0, h1, ?_⟩
  rcases Nat.lt_or_ge b W.heap.size with k | k
  · exact k
  · simp [World.cell?, Array.getElem?_eq_none k] at h0
theorem FC.other {W : World} {b b' : Nat} {pos : Int} {a : Addr} (h : FC W b' pos a) (hne : b ≠ b') (x' y' z' : Value) : FC (((W.setCell ⟨b, 0, none⟩ x').setCell ⟨b, 1, none⟩ y').setCell ⟨b, 2, none⟩ z') b' pos a := by
  refine ⟨?_, ?_, by simpa using h.lt⟩
  · rw [World.cell?_setCell_other _ _ _ _ (by intro e; injection e with e1; exact hne e1), World.cell?_setCell_other _ _ _ _ (by intro e; injection e with e1; exact hne e1), World.cell?_setCell_other _ _ _ _ (by intro e; injection e with e1; exact hne e1)]; exact h.c0
  · rw [World.cell?_setCell_other _ _ _ _ (by intro e; injection e with e1; exact hne e1), World.cell?_setCell_other _ _ _ _ (by intro e; injection e with e1; exact hne e1), World.cell?_setCell_other _ _ _ _ (by intro e; injection e with e1; exact hne e1)]; exact h.c1

set_option maxHeartbeats 8000000 in
set_option maxRecDepth 10000 in
theorem dayTerms_walk (s : ByteArray) (N U R : Int) (p : Nat → Addr) (w : World) (hs : s.size ≤ maxLen) (L : Laid w p) (htab : Lib.TabIs Tryd.prog w "internal/strconv.uint64pow10" .u64 Lib.pow10Tab) :
    Calls Tryd.prog 6 #[.string s, .agg #[.int .i64 N, .int .i64 U, .int .i64 R]] w fun e w' => e = .returned (.bool true) ∧ Below w.heap.size w w' := by
  obtain ⟨T, ht1, ht2⟩ := agree_ttext N U R
  have HT1 := hidIt ht1
  have HT2 := hidIt ht2
  have HL := hidIt L
  have HTab := hidIt htab
  clear L htab ht1 ht2
  unfold maxLen at hs
  go_enter Tryd.func6, Tryd.ntmps6
  go_wp2_with fail
  refine (readTerm_first p _ (HL.out.alloc _)).mono ?_
  rintro e W0 ⟨rfl, hb⟩
  have HA0 := hidIt ((H3.mk' w N U R 45).on hb)
  have HB0 := hidIt ((belT w _).trans (hb.mono (belT w _).size))
  clear hb
  by_cases hlen : s.size ≤ 3000
  · have hlen' : (s.size : Int) ≤ 3000 := by omega
    have HX1 := hidIt (H3.mk' W0 3 2 0 47)
    have HA1 := hidIt (HA0.out.on (belT W0 (.cells #[.int .i64 3, .int .i64 2, .int .i64 0] 47)))
    have HB1 := hidIt (HB0.out.trans ((belT W0 (.cells #[.int .i64 3, .int .i64 2, .int .i64 0] 47)).mono HB0.out.size))
    have HP := hidIt (fun w L => readTerm_any s p w L hlen)
    have HQ := hidIt (fun w => rReadTerm_any s w hlen)
    have hne : Hid (W0.heap.size ≠ w.heap.size) := by have := HA0.out.lt; show _ ≠ _; omega
    have hle : Hid (w.heap.size ≤ W0.heap.size) := HB0.out.size
    generalize tout s = o at *
    obtain ⟨n, u, r, c, a⟩ := o
    go_wp2_with fail
    refine (HP.out _ (HL.out.below HB1.out)).mono ?_
    rintro e W2 h2
    rcases h2 with ⟨oc, rfl, hb2⟩ | ⟨k, hk, oc, on, ou, orr, blk, rfl, hb2, hge, hf0, hf1⟩
    · obtain rfl : c = 0 := oc
      have HX2 := hidIt (HX1.out.on hb2)
      have HA2 := hidIt (HA1.out.on hb2)
      have HB2 := hidIt (HB1.out.trans (hb2.mono HB1.out.size))
      clear hb2
      have x0 := HX2.out.c0
      have x1 := HX2.out.c1
      have x2 := HX2.out.c2
      have z0 := HX2.out.f0
      have z1 := HX2.out.f1
      have z2 := HX2.out.f2
      have HX3 := hidIt (HX2.out.set n u r)
      have HA3 := hidIt (HA2.out.other hne.out (.int .i64 n) (.int .i64 u) (.int .i64 r))
      have HB3 : Hid (Below w.heap.size w (((W2.setCell ⟨W0.heap.size, 0, none⟩ (.int .i64 n)).setCell ⟨W0.heap.size, 1, none⟩ (.int .i64 u)).setCell ⟨W0.heap.size, 2, none⟩ (.int .i64 r))) := ((HB2.out.setCell hle.out _).setCell hle.out _).setCell hle.out _
      go_wp2_with fail
      clear x0 x1 x2 z0 z1 z2
      refine (HQ.out _).mono ?_
      rintro e W4 ⟨rfl, hb4⟩
      have HX4 := hidIt (HX3.out.on hb4)
      have HA4 := hidIt (HA3.out.on hb4)
      have HB4 := hidIt (HB3.out.trans (hb4.mono HB3.out.size))
      clear hb4 HX3 HA3 HB3
      have HBa := hidIt ((belT W4 (.cells #[.int .i64 n, .int .i64 u, .int .i64 r] 45)).trans ((belT (W4.alloc (.cells #[.int .i64 n, .int .i64 u, .int .i64 r] 45)) (.cells #[.int .i64 0, .int .i64 a] 53)).mono (belT W4 (.cells #[.int .i64 n, .int .i64 u, .int .i64 r] 45)).size))
      have HY := hidIt ((H3.mk' W4 n u r 45).on (belT _ (.cells #[.int .i64 0, .int .i64 a] 53)))
      have HXa := hidIt (HX4.out.on HBa.out)
      have HAa := hidIt (HA4.out.on HBa.out)
      have HB5' := hidIt (HB4.out.trans (HBa.out.mono HB4.out.size))
      go_wp2_with fail
      refine (faulted_nil a _).mono ?_
      rintro e W5 ⟨rfl, hb5⟩
      have HX5 := hidIt (HXa.out.on hb5)
      have HA5 := hidIt (HAa.out.on hb5)
      have HY5 := hidIt (HY.out.on hb5)
      have HB5 := hidIt (HB5'.out.trans (hb5.mono HB5'.out.size))
      clear hb5 HXa HAa HY HB5' HBa
      have a0 := HA5.out.c0
      have a1 := HA5.out.c1
      have a2 := HA5.out.c2
      go_wp2_with fail
      clear a0 a1 a2
      refine (HT1.out _ (tab_below HTab.out HB5.out (Nat.le_refl _))).mono ?_
      rintro e W6 ⟨rfl, hb6⟩
      have HX6 := hidIt (HX5.out.on hb6)
      have HA6 := hidIt (HA5.out.on hb6)
      have HY6 := hidIt (HY5.out.on hb6)
      have HB6 := hidIt (HB5.out.trans (hb6.mono HB5.out.size))
      clear hb6
      have a0 := HA6.out.c0
      have a1 := HA6.out.c1
      have a2 := HA6.out.c2
      have x0 := HX6.out.c0
      have x1 := HX6.out.c1
      have x2 := HX6.out.c2
      have y0 := HY6.out.c0
      have y1 := HY6.out.c1
      have y2 := HY6.out.c2
      go_wp2_with fail
      refine (HT2.out _).mono ?_
      rintro e W7 ⟨rfl, hb7⟩
      have HB7 := hidIt (HB6.out.trans (hb7.mono HB6.out.size))
      clear hb7
      go_wp2
      go_ret
      exact ⟨rfl, HB7.out⟩
    · obtain rfl : c = k + 1 := oc
      obtain rfl : n = 0 := on
      obtain rfl : u = 0 := ou
      obtain rfl : r = 0 := orr
      have HX2 := hidIt (HX1.out.on hb2)
      have HA2 := hidIt (HA1.out.on hb2)
      have HB2 := hidIt (HB1.out.trans (hb2.mono HB1.out.size))
      have HF2 := hidIt (FC.mk' hf0 hf1)
      have HNe : Hid (W0.heap.size ≠ blk) := by have := HX1.out.lt; show _ ≠ _; omega
      clear hb2 hf0 hf1 hge
      have x0 := HX2.out.c0
      have x1 := HX2.out.c1
      have x2 := HX2.out.c2
      have z0 := HX2.out.f0
      have z1 := HX2.out.f1
      have z2 := HX2.out.f2
      have HX3 := hidIt (HX2.out.set 0 0 0)
      have HA3 := hidIt (HA2.out.other hne.out (.int .i64 0) (.int .i64 0) (.int .i64 0))
      have HB3 : Hid (Below w.heap.size w (((W2.setCell ⟨W0.heap.size, 0, none⟩ (.int .i64 0)).setCell ⟨W0.heap.size, 1, none⟩ (.int .i64 0)).setCell ⟨W0.heap.size, 2, none⟩ (.int .i64 0))) := ((HB2.out.setCell hle.out _).setCell hle.out _).setCell hle.out _
      have HF3 := hidIt (HF2.out.other HNe.out (.int .i64 0) (.int .i64 0) (.int .i64 0))
      go_wp2_with fail
      clear x0 x1 x2 z0 z1 z2
      refine (HQ.out _).mono ?_
      rintro e W4 ⟨rfl, hb4⟩
      have HX4 := hidIt (HX3.out.on hb4)
      have HA4 := hidIt (HA3.out.on hb4)
      have HB4 := hidIt (HB3.out.trans (hb4.mono HB3.out.size))
      have HF4 := hidIt (HF3.out.on hb4)
      clear hb4 HX3 HA3 HB3
      have HBa := hidIt ((belT W4 (.cells #[.int .i64 0, .int .i64 0, .int .i64 0] 45)).trans ((belT (W4.alloc (.cells #[.int .i64 0, .int .i64 0, .int .i64 0] 45)) (.cells #[.int .i64 (k + 1), .int .i64 a] 53)).mono (belT W4 (.cells #[.int .i64 0, .int .i64 0, .int .i64 0] 45)).size))
      have HY := hidIt ((H3.mk' W4 0 0 0 45).on (belT _ (.cells #[.int .i64 (k + 1), .int .i64 a] 53)))
      have HFf := hidIt (fun w L h0 h1 => faulted_fault k hk p blk a w L h0 h1)
      have HFa := hidIt (HF4.out.on HBa.out)
      have HXa := hidIt (HX4.out.on HBa.out)
      have HAa := hidIt (HA4.out.on HBa.out)
      have HB5' := hidIt (HB4.out.trans (HBa.out.mono HB4.out.size))
      go_wp2_with fail
      refine (HFf.out _ (HL.out.below HB5'.out) HFa.out.c0 HFa.out.c1).mono ?_
      rintro e W5 ⟨rfl, hb5⟩
      have HX5 := hidIt (HXa.out.on hb5)
      have HA5 := hidIt (HAa.out.on hb5)
      have HY5 := hidIt (HY.out.on hb5)
      have HB5 := hidIt (HB5'.out.trans (hb5.mono HB5'.out.size))
      clear hb5 HXa HAa HY HB5' HBa
      have a0 := HA5.out.c0
      have a1 := HA5.out.c1
      have a2 := HA5.out.c2
      go_wp2_with fail
      clear a0 a1 a2
      refine (HT1.out _ (tab_below HTab.out HB5.out (Nat.le_refl _))).mono ?_
      rintro e W6 ⟨rfl, hb6⟩
      have HX6 := hidIt (HX5.out.on hb6)
      have HA6 := hidIt (HA5.out.on hb6)
      have HY6 := hidIt (HY5.out.on hb6)
      have HB6 := hidIt (HB5.out.trans (hb6.mono HB5.out.size))
      clear hb6
      have a0 := HA6.out.c0
      have a1 := HA6.out.c1
      have a2 := HA6.out.c2
      have x0 := HX6.out.c0
      have x1 := HX6.out.c1
      have x2 := HX6.out.c2
      have y0 := HY6.out.c0
      have y1 := HY6.out.c1
      have y2 := HY6.out.c2
      go_wp2_with fail
      refine (HT2.out _).mono ?_
      rintro e W7 ⟨rfl, hb7⟩
      have HB7 := hidIt (HB6.out.trans (hb7.mono HB6.out.size))
      clear hb7
      go_wp2
      go_ret
      exact ⟨rfl, HB7.out⟩
  · have hlen' : (3000 : Int) < s.size := by omega
    have HB1 := hidIt (HB0.out.trans ((belT W0 (.cells #[.int .i64 3, .int .i64 2, .int .i64 0] 47)).mono HB0.out.size))
    go_wp2
    go_ret
    exact ⟨rfl, HB1.out⟩
end Go.Proofs.YtplhamloddighaaDoor

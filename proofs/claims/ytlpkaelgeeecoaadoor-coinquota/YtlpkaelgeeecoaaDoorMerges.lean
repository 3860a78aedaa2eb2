/-
  symMergeCmpFunc, walked.
-/
import Derived.Test.YtlpkaelgeeecoaaDoorTurn
namespace Go.Proofs.YtlpkaelgeeecoaaDoor
open Go.RowKit Go.Sort
variable {N : Nat}

/-- What is asked of the comparison in the midst of a sort. -/
def Cmps (cf : Fin (N + 1) → Fin (N + 1) → Int) (bx blk off n : Nat) (w : World) : Prop :=
  ∀ (X : Array (Fin (N + 1))) (q : Nat) (x y : Fin (N + 1)), X.size = n →
    Calls Tryd.prog 80 #[.int .i64 (x.val : Int), .int .i64 (y.val : Int), .pointer (some ⟨bx, 0, none⟩)] ((putRow ev w blk off X).drewN q) fun e w' => e = .returned (.int .i64 (cf x y)) ∧ ∃ q', w' = ((putRow ev w blk off X).drewN q).drewN q'

theorem Cmps.at {cf : Fin (N + 1) → Fin (N + 1) → Int} {bx blk off n : Nat} {w : World} (h : Cmps cf bx blk off n w) (X : Array (Fin (N + 1))) (q : Nat) (x y : Fin (N + 1)) (hX : X.size = n) :
    ∀ k, Calls Tryd.prog 80 #[.int .i64 (x.val : Int), .int .i64 (y.val : Int), .pointer (some ⟨bx, 0, none⟩)] (((putRow ev w blk off X).drewN q).drewN k) fun e w' => e = .returned (.int .i64 (cf x y)) ∧ ∃ q', w' = (((putRow ev w blk off X).drewN q).drewN k).drewN q' := fun k => by
  have := h X (q + k) x y hX
  rwa [← World.drewN_drewN] at this

set_option maxHeartbeats 4000000 in
set_option maxRecDepth 100000 in
theorem sym_left {cf : Fin (N + 1) → Fin (N + 1) → Int} {lt : Fin (N + 1) → Fin (N + 1) → Bool} (S : SWO lt) (agree : ∀ x y, y.val < x.val → decide (cf x y < 0) = lt x y) (bx blk off cap : Nat) (d0 : Array (Fin (N + 1))) (w : World) (hH : Holds ev w blk off d0) (hsz : d0.size ≤ 1000) (hcmp : Cmps cf bx blk off d0.size w)
    (a b : Nat) (d : Array (Fin (N + 1))) (q : Nat) (hab : a + 1 < b) (hb : b ≤ d0.size) (hz : d.size = d0.size) (hY : SortedIn lt (a + 1) b d) (hI : ∀ i, a ≤ i → i < a + 1 → ∀ j, a + 1 ≤ j → j < b → d[i]!.val < d[j]!.val) :
    Calls Tryd.prog 101 #[.slice (some ⟨blk, off, none⟩) d0.size cap, .int .i64 a, .int .i64 ((a : Int) + 1), .int .i64 b, .func (.func 80) #[] #[.pointer (some ⟨bx, 0, none⟩)]] ((putRow ev w blk off d).drewN q) fun e w' =>
      e = .returned (.tuple #[]) ∧ ∃ d1 q', SortedIn lt a b d1 ∧ PermIn a b d d1 ∧ w' = (putRow ev w blk off d1).drewN q' := by
  have HH := hidIt hH
  have HC := hidIt hcmp
  have HY := hidIt hY
  have HI := hidIt hI
  have HS := hidIt S
  have HA := hidIt agree
  clear hH hcmp hY hI S agree
  have m1 : ((a : Int) + 1) - a = 1 := by omega
  go_enter Tryd.func101, Tryd.ntmps101
  go_wp2_with fail
  go_loopw [10, 11] (fun s t wr => ∃ (i j q : Nat), s = .int .i64 i ∧ t = .int .i64 j ∧ a + 1 ≤ i ∧ i ≤ j ∧ j ≤ b ∧ (i = a + 1 ∨ lt d[i - 1]! d[a]! = true) ∧ (j = b ∨ lt d[j]! d[a]! = false) ∧ wr = (putRow ev w blk off d).drewN q) (fun s t _ => (RowKit.intOf t).toNat - (RowKit.intOf s).toNat)
  case atStart => exact ⟨a + 1, b, q, by go_num, rfl, by omega, by omega, by omega, .inl rfl, .inl rfl, rfl⟩
  case round =>
    obtain ⟨i, j, q, rfl, rfl, h1, h2, h3, p1, p2, rfl⟩ := hrel
    have P1 := hidIt p1
    have P2 := hidIt p2
    clear p1 p2
    by_cases hlt : i < j
    · have c0 : decide ((i : Int) < j) = true := by simp; omega
      obtain ⟨ch, fh⟩ := cells_at (q := q) HH.out hz ((i + j) / 2) (by omega)
      obtain ⟨ca, fa⟩ := cells_at (q := q) HH.out hz a (by omega)
      have hag := HA.out d[(i + j) / 2]! d[a]! (HI.out a (by omega) (by omega) _ (by omega) (by omega))
      have hk : (((i : Int) + j) / 2) = (((i + j) / 2 : Nat) : Int) := by omega
      have hkz : (((i + j) / 2 : Nat) : Int) < d0.size := by omega
      have hlo : i ≤ (i + j) / 2 := by omega
      have hhi : (i + j) / 2 < j := by omega
      have hc := Cmps.at HC.out d q d[(i + j) / 2]! d[a]! hz
      generalize hh : (i + j) / 2 = h at *
      clear hh
      cases hl : lt d[h]! d[a]!
      · rw [hl] at hag
        have PN : Hid (∀ k, k = h → lt d[k]! d[a]! = false) := fun k e => by rw [e]; exact hl
        clear hl
        generalize d[h]! = x at *
        generalize d[a]! = y at *
        generalize hwq : (putRow ev w blk off d).drewN q = wq at *
        have HQ := hidIt hwq
        clear hwq
        go_wp2_with fail
        go_quiet ((go_at_call 80; exact Calls.quiet_of (hc _)))
        go_wp2
        exact ⟨⟨i, h, _, rfl, rfl, h1, hlo, by omega, P1.out, .inr (PN.out _ rfl), by rw [← HQ.out, World.drewN_drewN]⟩, by simp [RowKit.intOf]; omega⟩
      · rw [hl] at hag
        have PN : Hid (∀ k, k = h → lt d[k]! d[a]! = true) := fun k e => by rw [e]; exact hl
        clear hl
        generalize d[h]! = x at *
        generalize d[a]! = y at *
        generalize hwq : (putRow ev w blk off d).drewN q = wq at *
        have HQ := hidIt hwq
        clear hwq
        go_wp2_with fail
        go_quiet ((go_at_call 80; exact Calls.quiet_of (hc _)))
        go_wp2
        exact ⟨⟨h + 1, j, _, by go_num, rfl, by omega, by omega, by omega, .inr (PN.out _ (by omega)), P2.out, by rw [← HQ.out, World.drewN_drewN]⟩, by simp [RowKit.intOf]; omega⟩
    · have c0 : decide ((i : Int) < j) = false := by simp; omega
      obtain rfl : i = j := by omega
      go_wp2_with fail
      go_loopw [13] (fun t wr => ∃ (k q : Nat) (dk : Array (Fin (N + 1))), t = .int .i64 k ∧ a ≤ k ∧ k + 1 ≤ i ∧ Rot a (a + 1) (k + 1) d dk ∧ wr = (putRow ev w blk off dk).drewN q) (fun t _ => i - (RowKit.intOf t).toNat)
      case atStart => exact ⟨a, q, d, rfl, Nat.le_refl _, h1, Rot.none (by omega) (by omega) (.inr rfl), rfl⟩
      case round =>
        obtain ⟨k, q, dk, rfl, hk1, hk2, hR, rfl⟩ := hrel
        have HR := hidIt hR
        have hzk : dk.size = d0.size := hR.perm.1.trans hz
        clear hR
        by_cases hkl : k + 1 < i
        · have c1 : decide ((k : Int) < (i : Int) - 1) = true := by simp; omega
          obtain ⟨cp, fp⟩ := cells_at (q := q) HH.out hzk k (by omega)
          obtain ⟨cr, fr⟩ := cells_at (q := q) HH.out hzk (k + 1) (by omega)
          have HW := hidIt (fun q => swap_worldC ev w blk off dk q k (k + 1) (by omega) (by omega))
          have HN := hidIt (shl_step hk1 (by omega) HR.out)
          have hr1 : (k : Int) + 1 = ((k + 1 : Nat) : Int) := by omega
          have hpz : (k : Int) < d0.size := by omega
          have hrz : ((k + 1 : Nat) : Int) < d0.size := by omega
          generalize hr : k + 1 = r at *
          have HRr := hidIt hr
          have hrk : k < r := by omega
          have hre : (r : Int) = (k : Int) + 1 := by omega
          clear hr
          generalize dk[k]! = x at *
          generalize dk[r]! = y at *
          generalize hwq : (putRow ev w blk off dk).drewN q = wq at *
          have HQ := hidIt hwq
          clear hwq
          have HRE := hidIt hre
          clear hre
          go_wp2_with fail
          have mixed := Tryd.mixed63
          go_big_region_o
          all_goals go_wp2
          exact ⟨⟨r, q + 1, _, rfl, by omega, by omega, HN.out, by rw [← HQ.out]; exact HW.out q⟩, by have := HRE.out; simp [RowKit.intOf]; omega⟩
        · have c1 : decide ((k : Int) < (i : Int) - 1) = false := by simp; omega
          obtain rfl : i = k + 1 := by omega
          have HF := hidIt (one_left HS.out h1 h3 HY.out HR.out P1.out P2.out (by omega))
          go_wp2
          (try simp only [Exit.inBlock, Exit.then])
          refine bodyPost_ret (results_none rfl _ _ _) rfl ?_
          exact ⟨rfl, dk, q, HF.out.1, HF.out.2, rfl⟩

set_option maxHeartbeats 4000000 in
set_option maxRecDepth 100000 in
theorem sym_right {cf : Fin (N + 1) → Fin (N + 1) → Int} {lt : Fin (N + 1) → Fin (N + 1) → Bool} (S : SWO lt) (agree : ∀ x y, y.val < x.val → decide (cf x y < 0) = lt x y) (bx blk off cap : Nat) (d0 : Array (Fin (N + 1))) (w : World) (hH : Holds ev w blk off d0) (hsz : d0.size ≤ 1000) (hcmp : Cmps cf bx blk off d0.size w)
    (a m : Nat) (d : Array (Fin (N + 1))) (q : Nat) (ham : a + 1 < m) (hb : m + 1 ≤ d0.size) (hz : d.size = d0.size) (hX : SortedIn lt a m d) (hI : ∀ i, a ≤ i → i < m → ∀ j, m ≤ j → j < m + 1 → d[i]!.val < d[j]!.val) :
    Calls Tryd.prog 101 #[.slice (some ⟨blk, off, none⟩) d0.size cap, .int .i64 a, .int .i64 m, .int .i64 ((m : Int) + 1), .func (.func 80) #[] #[.pointer (some ⟨bx, 0, none⟩)]] ((putRow ev w blk off d).drewN q) fun e w' =>
      e = .returned (.tuple #[]) ∧ ∃ d1 q', SortedIn lt a (m + 1) d1 ∧ PermIn a (m + 1) d d1 ∧ w' = (putRow ev w blk off d1).drewN q' := by
  have HH := hidIt hH
  have HC := hidIt hcmp
  have HX := hidIt hX
  have HI := hidIt hI
  have HS := hidIt S
  have HA := hidIt agree
  clear hH hcmp hX hI S agree
  have m1 : ¬ ((m : Int) - a = 1) := by omega
  have m2 : ((m : Int) + 1) - m = 1 := by omega
  go_enter Tryd.func101, Tryd.ntmps101
  go_wp2_with fail
  go_loopw [14, 15] (fun s t wr => ∃ (i j q : Nat), s = .int .i64 i ∧ t = .int .i64 j ∧ a ≤ i ∧ i ≤ j ∧ j ≤ m ∧ (i = a ∨ lt d[m]! d[i - 1]! = false) ∧ (j = m ∨ lt d[m]! d[j]! = true) ∧ wr = (putRow ev w blk off d).drewN q) (fun s t _ => (RowKit.intOf t).toNat - (RowKit.intOf s).toNat)
  case atStart => exact ⟨a, m, q, rfl, rfl, by omega, by omega, by omega, .inl rfl, .inl rfl, rfl⟩
  case round =>
    obtain ⟨i, j, q, rfl, rfl, h1, h2, h3, p1, p2, rfl⟩ := hrel
    have P1 := hidIt p1
    have P2 := hidIt p2
    clear p1 p2
    by_cases hlt : i < j
    · have c0 : decide ((i : Int) < j) = true := by simp; omega
      obtain ⟨ch, fh⟩ := cells_at (q := q) HH.out hz ((i + j) / 2) (by omega)
      obtain ⟨ca, fa⟩ := cells_at (q := q) HH.out hz m (by omega)
      have hag := HA.out d[m]! d[(i + j) / 2]! (HI.out _ (by omega) (by omega) m (by omega) (by omega))
      have hk : (((i : Int) + j) / 2) = (((i + j) / 2 : Nat) : Int) := by omega
      have hkz : (((i + j) / 2 : Nat) : Int) < d0.size := by omega
      have hmz : (m : Int) < d0.size := by omega
      have hlo : i ≤ (i + j) / 2 := by omega
      have hhi : (i + j) / 2 < j := by omega
      have hc := Cmps.at HC.out d q d[m]! d[(i + j) / 2]! hz
      generalize hh : (i + j) / 2 = h at *
      clear hh
      cases hl : lt d[m]! d[h]!
      · rw [hl] at hag
        have PN : Hid (∀ k, k = h → lt d[m]! d[k]! = false) := fun k e => by rw [e]; exact hl
        clear hl
        generalize d[h]! = x at *
        generalize d[m]! = y at *
        generalize hwq : (putRow ev w blk off d).drewN q = wq at *
        have HQ := hidIt hwq
        clear hwq
        go_wp2_with fail
        go_quiet ((go_at_call 80; exact Calls.quiet_of (hc _)))
        go_wp2
        exact ⟨⟨h + 1, j, _, by go_num, rfl, by omega, by omega, by omega, .inr (PN.out _ (by omega)), P2.out, by rw [← HQ.out, World.drewN_drewN]⟩, by simp [RowKit.intOf]; omega⟩
      · rw [hl] at hag
        have PN : Hid (∀ k, k = h → lt d[m]! d[k]! = true) := fun k e => by rw [e]; exact hl
        clear hl
        generalize d[h]! = x at *
        generalize d[m]! = y at *
        generalize hwq : (putRow ev w blk off d).drewN q = wq at *
        have HQ := hidIt hwq
        clear hwq
        go_wp2_with fail
        go_quiet ((go_at_call 80; exact Calls.quiet_of (hc _)))
        go_wp2
        exact ⟨⟨i, h, _, rfl, rfl, h1, hlo, by omega, P1.out, .inr (PN.out _ rfl), by rw [← HQ.out, World.drewN_drewN]⟩, by simp [RowKit.intOf]; omega⟩
    · have c0 : decide ((i : Int) < j) = false := by simp; omega
      obtain rfl : i = j := by omega
      go_wp2_with fail
      go_loopw [17] (fun t wr => ∃ (k q : Nat) (dk : Array (Fin (N + 1))), t = .int .i64 k ∧ i ≤ k ∧ k ≤ m ∧ Rot k m (m + 1) d dk ∧ wr = (putRow ev w blk off dk).drewN q) (fun t _ => (RowKit.intOf t).toNat)
      case atStart => exact ⟨m, q, d, rfl, h3, Nat.le_refl _, Rot.none (by omega) (by omega) (.inl rfl), rfl⟩
      case round =>
        obtain ⟨r, q, dk, rfl, hk1, hk2, hR, rfl⟩ := hrel
        have hzk : dk.size = d0.size := hR.perm.1.trans hz
        by_cases hkl : i < r
        · have c1 : decide ((i : Int) < r) = true := by simp; omega
          obtain ⟨k, rfl⟩ : ∃ k, r = k + 1 := ⟨r - 1, by omega⟩
          obtain ⟨cp, fp⟩ := cells_at (q := q) HH.out hzk k (by omega)
          obtain ⟨cr, fr⟩ := cells_at (q := q) HH.out hzk (k + 1) (by omega)
          have HW := hidIt (fun q => swap_worldC ev w blk off dk q (k + 1) k (by omega) (by omega))
          have HN := hidIt (shr_step hk2 (by omega) hR)
          have hr1 : ((k + 1 : Nat) : Int) - 1 = (k : Int) := by omega
          have hpz : (k : Int) < d0.size := by omega
          have hrz : ((k + 1 : Nat) : Int) < d0.size := by omega
          clear hR
          generalize hr : k + 1 = r at *
          have hrk : k < r := by omega
          clear hr
          generalize dk[k]! = x at *
          generalize dk[r]! = y at *
          generalize hwq : (putRow ev w blk off dk).drewN q = wq at *
          have HQ := hidIt hwq
          clear hwq
          go_wp2_with fail
          have mixed := Tryd.mixed63
          go_big_region_o
          all_goals go_wp2
          exact ⟨⟨k, q + 1, _, rfl, by omega, by omega, HN.out, by rw [← HQ.out]; exact HW.out q⟩, by simp [RowKit.intOf]; omega⟩
        · have c1 : decide ((i : Int) < r) = false := by simp; omega
          obtain rfl : r = i := by omega
          have HF := hidIt (one_right HS.out h1 h3 HX.out hR P1.out P2.out (by omega))
          clear hR
          go_wp2
          (try simp only [Exit.inBlock, Exit.then])
          refine bodyPost_ret (results_none rfl _ _ _) rfl ?_
          exact ⟨rfl, dk, q, HF.out.1, HF.out.2, rfl⟩
end Go.Proofs.YtlpkaelgeeecoaaDoor

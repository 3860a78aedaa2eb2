/-
  The stable sort's exchanges, walked: swapRangeCmpFunc, rotateCmpFunc.
-/
import Derived.Test.YtlpkaelgeeecoaaDoorProg
import Derived.Test.YtlpkaelgeeecoaaDoorSym
import Derived.Shelf.SlSortCmp.Insertion
import Derived.Lib.LaidTab
namespace Go.Proofs.YtlpkaelgeeecoaaDoor
open Go.RowKit Go.Sort

def Hid (p : Prop) : Prop := p
theorem Hid.out {p : Prop} (h : Hid p) : p := h
theorem hidIt {p : Prop} (h : p) : Hid p := h

variable {N : Nat}
/-- A place of a list, as it lies in memory. -/
def ev (x : Fin (N + 1)) : Value := .int .i64 (x.val : Int)

theorem cells_at {w : World} {blk off q : Nat} {d dk : Array (Fin (N + 1))} (hH : Holds ev w blk off d) (hz : dk.size = d.size) (p : Nat) (hp : p < d.size) :
    ((putRow ev w blk off dk).drewN q).cell? ⟨blk, off + p, none⟩ = some (.int .i64 (dk[p]!.val : Int)) ∧ ((putRow ev w blk off dk).drewN q).frozen? ⟨blk, off + p, none⟩ = false := by
  have h := holds_putRow ev w blk off d dk hH hz p (by omega)
  exact ⟨h.1, h.2⟩

theorem Tryd.mixed63 : Tryd.prog.follows .mixedOrders = true := by kernel_rfl

set_option maxHeartbeats 4000000 in
set_option maxRecDepth 100000 in
theorem swapRange_walk (blk off cap : Nat) (d : Array (Fin (N + 1))) (w : World) (fv : Value) (a b n : Nat) (hH : Holds ev w blk off d) (hab : a + n ≤ b) (hb : b + n ≤ d.size) (hsz : d.size ≤ 1000) :
    Calls Tryd.prog 110 #[.slice (some ⟨blk, off, none⟩) d.size cap, .int .i64 a, .int .i64 b, .int .i64 n, fv] w fun e w' => e = .returned (.tuple #[]) ∧ ∃ d1 q, Swd a b n d d1 ∧ w' = (putRow ev w blk off d1).drewN q := by
  have HH := hidIt hH
  have HST : Hid (w = (putRow ev w blk off d).drewN 0) := (putRow_self ev w blk off d hH).symm
  clear hH
  go_enter Tryd.func110, Tryd.ntmps110
  go_wp2_with fail
  go_loopw [10] (fun t wr => ∃ (i q : Nat) (dk : Array (Fin (N + 1))), t = .int .i64 i ∧ i ≤ n ∧ Swd a b i d dk ∧ wr = (putRow ev w blk off dk).drewN q) (fun t _ => n - (RowKit.intOf t).toNat)
  case atStart => exact ⟨0, 0, d, rfl, by omega, Swd.zero _ _ _, HST.out⟩
  case round =>
    obtain ⟨i, q, dk, rfl, hi, hsw, rfl⟩ := hrel
    have HS := hidIt hsw
    have hz : dk.size = d.size := hsw.perm.1
    clear hsw
    by_cases hlt : i < n
    · have d0 : decide ((i : Int) < n) = true := by simp; omega
      obtain ⟨cp, fp⟩ := cells_at (q := q) HH.out hz (a + i) (by omega)
      obtain ⟨cr, fr⟩ := cells_at (q := q) HH.out hz (b + i) (by omega)
      have HW := hidIt (fun q => swap_worldC ev w blk off dk q (a + i) (b + i) (by omega) (by omega))
      have HN := hidIt (HS.out.step (by omega) (by omega))
      have hp1 : (a : Int) + i = ((a + i : Nat) : Int) := by omega
      have hr1 : (b : Int) + i = ((b + i : Nat) : Int) := by omega
      have hpz : ((a + i : Nat) : Int) < d.size := by omega
      have hrz : ((b + i : Nat) : Int) < d.size := by omega
      have hne : a + i ≠ b + i := by omega
      generalize hp : a + i = p at *
      generalize hr : b + i = r at *
      have HP := hidIt hp
      have HR := hidIt hr
      clear hp hr
      generalize hx : dk[p]! = x at *
      generalize hy : dk[r]! = y at *
      generalize hwq : (putRow ev w blk off dk).drewN q = wq at *
      have HQ := hidIt hwq
      clear hwq hx hy
      go_wp2_with fail
      have mixed := Tryd.mixed63
      go_big_region_o
      all_goals go_wp2
      refine ⟨⟨i + 1, q + 1, _, by go_num, by omega, HN.out, by rw [← HQ.out]; exact HW.out q⟩, by simp [RowKit.intOf]; omega⟩
    · have d0 : decide ((i : Int) < n) = false := by simp; omega
      obtain rfl : i = n := by omega
      go_wp2
      go_end0
      exact ⟨rfl, dk, q, HS.out, rfl⟩

theorem row_row (w : World) (blk off q q' : Nat) (dk d1 : Array (Fin (N + 1))) (h : d1.size = dk.size) : (putRow ev ((putRow ev w blk off dk).drewN q) blk off d1).drewN q' = (putRow ev w blk off d1).drewN (q + q') := by
  have e : putRow ev ((putRow ev w blk off dk).drewN q) blk off d1 = (putRow ev (putRow ev w blk off dk) blk off d1).drewN q := rfl
  rw [e, putRow_putRow ev w blk off dk d1 h, World.drewN_drewN]
theorem row_holds {w : World} {blk off q : Nat} {d dk : Array (Fin (N + 1))} (hH : Holds ev w blk off d) (hz : dk.size = d.size) : Holds ev ((putRow ev w blk off dk).drewN q) blk off dk :=
  holds_putRow ev w blk off d dk hH hz

/-- swapRangeCmpFunc in the midst of a sort. -/
theorem swapRange_at (blk off cap : Nat) (d dk : Array (Fin (N + 1))) (w : World) (q : Nat) (fv : Value) (a b n : Nat) (hH : Holds ev w blk off d) (hz : dk.size = d.size) (hab : a + n ≤ b) (hb : b + n ≤ d.size) (hsz : d.size ≤ 1000) :
    Calls Tryd.prog 110 #[.slice (some ⟨blk, off, none⟩) d.size cap, .int .i64 a, .int .i64 b, .int .i64 n, fv] ((putRow ev w blk off dk).drewN q) fun e w' => e = .returned (.tuple #[]) ∧ ∃ d1 q', Swd a b n dk d1 ∧ w' = (putRow ev w blk off d1).drewN q' := by
  have h := swapRange_walk blk off cap dk ((putRow ev w blk off dk).drewN q) fv a b n (row_holds hH hz) hab (by omega) (by omega)
  rw [hz] at h
  exact h.mono fun e w' ⟨he, d1, q', hs, hw⟩ => ⟨he, d1, q + q', hs, by rw [hw, row_row _ _ _ _ _ _ _ hs.perm.1]⟩

set_option maxHeartbeats 4000000 in
set_option maxRecDepth 100000 in
theorem rotate_walk (blk off cap : Nat) (d : Array (Fin (N + 1))) (w : World) (fv : Value) (a m b : Nat) (hH : Holds ev w blk off d) (ham : a < m) (hmb : m < b) (hb : b ≤ d.size) (hsz : d.size ≤ 1000) :
    Calls Tryd.prog 107 #[.slice (some ⟨blk, off, none⟩) d.size cap, .int .i64 a, .int .i64 m, .int .i64 b, fv] w fun e w' => e = .returned (.tuple #[]) ∧ ∃ d1 q, Rot a m b d d1 ∧ w' = (putRow ev w blk off d1).drewN q := by
  have HST : Hid (w = (putRow ev w blk off d).drewN 0) := (putRow_self ev w blk off d hH).symm
  have HC := hidIt (fun (dk : Array (Fin (N + 1))) (q a' b' n' : Nat) (hz : dk.size = d.size) (h1 : a' + n' ≤ b') (h2 : b' + n' ≤ d.size) => swapRange_at blk off cap d dk w q fv a' b' n' hH hz h1 h2 hsz)
  clear hH
  go_enter Tryd.func107, Tryd.ntmps107
  go_wp2_with fail
  go_loopw [10, 11] (fun s t wr => ∃ (i j q : Nat) (dk : Array (Fin (N + 1))), s = .int .i64 i ∧ t = .int .i64 j ∧ 0 < i ∧ 0 < j ∧ a + i ≤ m ∧ m + j ≤ b ∧ Turn a m b i j (turned d a m b) d dk ∧ wr = (putRow ev w blk off dk).drewN q) (fun s t _ => (RowKit.intOf s).toNat + (RowKit.intOf t).toNat)
  case atStart => exact ⟨m - a, b - m, 0, d, by go_num, by go_num, by omega, by omega, by omega, by omega, Turn.first d (by omega) (by omega), HST.out⟩
  case round =>
    obtain ⟨i, j, q, dk, rfl, rfl, hi0, hj0, hi, hj, hT, rfl⟩ := hrel
    have HT := hidIt hT
    have hz : dk.size = d.size := hT.perm.1
    clear hT
    by_cases hne : i = j
    · subst hne
      have HK : Hid (∀ q, Calls Tryd.prog 110 #[.slice (some ⟨blk, off, none⟩) d.size cap, .int .i64 ((m : Int) - i), .int .i64 m, .int .i64 i, fv] ((putRow ev w blk off dk).drewN q) fun e w' => e = .returned (.tuple #[]) ∧ ∃ d1 q', Swd (m - i) m i dk d1 ∧ w' = (putRow ev w blk off d1).drewN q') := fun q => by
        have := HC.out dk q (m - i) m i hz (by omega) (by omega)
        rwa [show ((m - i : Nat) : Int) = (m : Int) - i by omega] at this
      go_wp2_with fail
      refine (HK.out _).mono ?_
      rintro e w' ⟨rfl, d1, q', hs, rfl⟩
      obtain ⟨k1, k2⟩ := HT.out.last hi hj hb hs
      have HE := hidIt (rot_of (by omega) (by omega) k1 k2)
      clear hs k1 k2
      go_wp2
      go_end0
      exact ⟨rfl, d1, q', HE.out, rfl⟩
    · have c0 : ¬ (i : Int) = j := by omega
      by_cases hij : j < i
      · have c1 : decide ((j : Int) < i) = true := by simp; omega
        have HK : Hid (∀ q, Calls Tryd.prog 110 #[.slice (some ⟨blk, off, none⟩) d.size cap, .int .i64 ((m : Int) - i), .int .i64 m, .int .i64 j, fv] ((putRow ev w blk off dk).drewN q) fun e w' => e = .returned (.tuple #[]) ∧ ∃ d1 q', Swd (m - i) m j dk d1 ∧ w' = (putRow ev w blk off d1).drewN q') := fun q => by
          have := HC.out dk q (m - i) m j hz (by omega) (by omega)
          rwa [show ((m - i : Nat) : Int) = (m : Int) - i by omega] at this
        go_wp2_with fail
        refine (HK.out _).mono ?_
        rintro e w' ⟨rfl, d1, q', hs, rfl⟩
        have HE := hidIt (HT.out.more hi hj hb hij hs)
        clear hs
        go_wp2
        exact ⟨⟨i - j, j, q', d1, by go_num, rfl, by omega, by omega, by omega, by omega, HE.out, rfl⟩, by simp [RowKit.intOf]; omega⟩
      · have c1 : decide ((j : Int) < i) = false := by simp; omega
        have HK : Hid (∀ q, Calls Tryd.prog 110 #[.slice (some ⟨blk, off, none⟩) d.size cap, .int .i64 ((m : Int) - i), .int .i64 ((m : Int) + j - i), .int .i64 i, fv] ((putRow ev w blk off dk).drewN q) fun e w' => e = .returned (.tuple #[]) ∧ ∃ d1 q', Swd (m - i) (m + j - i) i dk d1 ∧ w' = (putRow ev w blk off d1).drewN q') := fun q => by
          have := HC.out dk q (m - i) (m + j - i) i hz (by omega) (by omega)
          rwa [show ((m - i : Nat) : Int) = (m : Int) - i by omega, show ((m + j - i : Nat) : Int) = (m : Int) + j - i by omega] at this
        go_wp2_with fail
        refine (HK.out _).mono ?_
        rintro e w' ⟨rfl, d1, q', hs, rfl⟩
        have HE := hidIt (HT.out.less hi hj hb (by omega) hs)
        clear hs
        go_wp2
        exact ⟨⟨i, j - i, q', d1, rfl, by go_num, by omega, by omega, by omega, by omega, HE.out, rfl⟩, by simp [RowKit.intOf]; omega⟩
end Go.Proofs.YtlpkaelgeeecoaaDoor

/-
  The parts of day.ReadTerm by contracts.
-/
import Derived.Test.YtplhamloddighaaDoorAgree
import Derived.Test.YtplhamloddighaaDoorFault
import Derived.Test.YtplhamloddighaaDoorShelf
import Derived.Test.YtplhamloddighaaDoorTermPlain
namespace Go.Proofs.YtplhamloddighaaDoor
open Go.RowKit Go.Extern.Stop Go.Stop Go.Extern

/-- Does a byte stand at a place? -/
def atIs (s : ByteArray) (i : Nat) (k : UInt8) : Bool := (bl s)[i]? == some k
theorem atIs_in {s : ByteArray} {i : Nat} {k : UInt8} (h : i < s.size) : atIs s i k = (s[i] == k) := by
  unfold atIs
  rw [bl_get s i h]
  rw [Bool.eq_iff_iff]
  simp
theorem atIs_out {s : ByteArray} {i : Nat} {k : UInt8} (h : s.size ≤ i) : atIs s i k = false := by
  unfold atIs
  rw [List.getElem?_eq_none (by rw [size_bl]; exact h)]
  rfl
theorem atIs_lt {s : ByteArray} {i : Nat} {k : UInt8} (h : atIs s i k = true) : i < s.size := by
  rcases Nat.lt_or_ge i s.size with c | c
  · exact c
  · rw [atIs_out c] at h; cases h
theorem byte_eq (c k : UInt8) (n : Int) (hk : (k.toNat : Int) = n) : (((c.toNat : Nat) : Int) == n) = (c == k) := by
  subst hk
  rw [Bool.eq_iff_iff]
  simp only [beq_iff_eq]
  constructor
  · intro h
    exact UInt8.toNat_inj.1 (by omega)
  · rintro rfl; rfl
theorem stands_any (s : ByteArray) (i : Nat) (n : Int) (k : UInt8) (w : World) (hk : (k.toNat : Int) = n) :
    Calls Tryd.prog 40 #[.string s, .int .i64 i, .int .u8 n] w fun e w' => e = .returned (.bool (atIs s i k)) ∧ w' = w := by
  by_cases h : i < s.size
  · have HE : Hid (atIs s i k = (((s[i].toNat : Nat) : Int) == n)) := by show _ = _; rw [atIs_in h, byte_eq _ _ _ hk]
    have hz : (i : Int) < s.size := by omega
    clear hk
    go_enter Tryd.func40, Tryd.ntmps40
    go_wp2
    go_ret
    exact ⟨ret_bool HE.out.symm, rfl⟩
  · have HE : Hid (atIs s i k = false) := atIs_out (by omega)
    have d0 : decide ((i : Int) < s.size) = false := by simp; omega
    clear hk
    go_enter Tryd.func40, Tryd.ntmps40
    go_wp2
    go_ret
    exact ⟨ret_bool HE.out.symm, rfl⟩
theorem isDigit_t (c : UInt8) (w : World) : Calls Tryd.prog 64 #[.int .u8 c.toNat] w fun e w' => e = .returned (.bool (isDg c)) ∧ w' = w := by
  have hd := dg_raw c
  by_cases h0 : (48 : Int) ≤ c.toNat
  · have HE : Hid (isDg c = decide ((c.toNat : Int) ≤ 57)) := by show _ = _; rw [← hd]; simp [h0]
    have h1 : decide ((48 : Int) ≤ c.toNat) = true := by simpa using h0
    clear hd
    go_enter Tryd.func64, Tryd.ntmps64
    go_wp2
    go_ret
    exact ⟨ret_bool HE.out.symm, rfl⟩
  · have HE : Hid (isDg c = false) := by show _ = _; rw [← hd]; simp [h0]
    have h1 : decide ((48 : Int) ≤ c.toNat) = false := by simpa using h0
    clear hd
    go_enter Tryd.func64, Tryd.ntmps64
    go_wp2
    go_ret
    exact ⟨ret_bool HE.out.symm, rfl⟩

theorem ret_pair {a b c d : Int} (h1 : a = c) (h2 : b = d) : Ending.returned (.tuple #[.int .i64 a, .int .i64 b]) = .returned (.tuple #[.int .i64 c, .int .i64 d]) := by rw [h1, h2]

/-- The number ahead, and where it is over. -/
def num (s : ByteArray) : Int := if atIs s 0 48 then 0 else ps s (runDg s)
def len0 (s : ByteArray) : Nat := if atIs s 0 48 then 1 else runDg s
theorem num_bd (s : ByteArray) : 0 ≤ num s ∧ num s ≤ 100001 := by
  unfold num
  split
  · omega
  · exact ps_bd s _ (Nat.le_refl _)
theorem len0_le (s : ByteArray) : len0 s ≤ s.size := by
  unfold len0
  split
  · rename_i h
    exact atIs_lt h
  · exact runDg_le s

set_option maxHeartbeats 2000000 in
theorem readLength_any (s : ByteArray) (w : World) (hs : s.size ≤ 3000) :
    Calls Tryd.prog 39 #[.string s] w fun e w' => e = .returned (.tuple #[.int .i64 (num s), .int .i64 (len0 s)]) ∧ w' = w := by
  have HS := hidIt (fun w => stands_any s 0 48 48 w (by decide))
  have HN : Hid (num s = if atIs s 0 48 then 0 else ps s (runDg s)) := rfl
  have HL : Hid (len0 s = if atIs s 0 48 then 1 else runDg s) := rfl
  cases hz : atIs s 0 48
  · rw [hz] at HS HN HL
    have HN2 : Hid (ps s (runDg s) = num s) := by show _ = _; rw [HN.out]; rfl
    have HL2 : Hid (((runDg s : Nat) : Int) = len0 s) := by show _ = _; rw [HL.out]; rfl
    clear hz HN HL
    have HK := hidIt (runDg_at s)
    have HKe := hidIt (runDg_end s)
    have hle := runDg_le s
    have HPb := hidIt (ps_bd s)
    have HPs : Hid (∀ k, ps s (k + 1) = min (ps s k * 10 + dig s k) 100001) := fun k => rfl
    have HDa := hidIt (dig_at s)
    go_enter Tryd.func39, Tryd.ntmps39
    go_wp2_with fail
    refine (HS.out _).mono ?_
    rintro e w1 ⟨rfl, ew⟩
    subst w1
    go_wp2_with fail
    go_loop [2, 3] (fun n t => ∃ i : Nat, i ≤ runDg s ∧ t = .int .i64 i ∧ n = .int .i64 (ps s i)) (fun _ t => s.size - (RowKit.intOf t).toNat)
    case atStart => exact ⟨0, by omega, rfl, rfl⟩
    case round =>
      obtain ⟨i, hi, rfl, rfl⟩ := hrel
      obtain ⟨p1, p2⟩ := HPb.out i hi
      by_cases hlt : i < runDg s
      · obtain ⟨hsz, hd⟩ := HK.out i hlt
        have hiz : (i : Int) < s.size := by omega
        have hb := dg_bd hd
        have HI := hidIt (fun w => isDigit_t s[i] w)
        rw [hd] at HI
        have HE : Hid (min (ps s i * 10 + ((s[i].toNat : Int) - 48)) 100001 = ps s (i + 1)) := by show _ = _; rw [HPs.out, HDa.out i hsz]
        clear hd
        generalize ps s i = q at *
        go_wp2_with (go_at_call 64; refine (HI.out _).mono ?_; rintro e w' ⟨rfl, rfl⟩)
        go_round
        case rel => exact ⟨i + 1, by omega, by go_num, by rw [← HE.out]⟩
        case measure => simp [RowKit.intOf]; omega
      · obtain rfl : i = runDg s := by omega
        rcases Nat.lt_or_ge (runDg s) s.size with hsz | hsz
        · have hiz : ((runDg s : Nat) : Int) < s.size := by omega
          have hd := HKe.out hsz
          have HI := hidIt (fun w => isDigit_t s[runDg s] w)
          rw [hd] at HI
          clear hd
          go_wp2_with (go_at_call 64; refine (HI.out _).mono ?_; rintro e w' ⟨rfl, rfl⟩)
          go_ret2
          exact ⟨ret_pair HN2.out HL2.out, rfl⟩
        · have d0 : decide (((runDg s : Nat) : Int) < s.size) = false := by simp; omega
          go_wp2
          go_ret2
          exact ⟨ret_pair HN2.out HL2.out, rfl⟩
  · rw [hz] at HS HN HL
    have HN2 : Hid (num s = 0) := HN.out
    have HL2 : Hid (len0 s = 1) := HL.out
    clear hz HN HL
    go_enter Tryd.func39, Tryd.ntmps39
    go_wp2_with (go_at_call 40; refine (HS.out _).mono ?_; rintro e w' ⟨rfl, rfl⟩)
    go_ret2
    exact ⟨ret_pair HN2.out.symm (by rw [HL2.out]; rfl), rfl⟩

/-! Words. -/
def wdS (u : Nat) : ByteArray := ⟨(wdL u).toArray⟩
def rwS (r : Nat) : ByteArray := ⟨(rwL r).toArray⟩
theorem bl_wdS (u : Nat) : (wdS u).data.toList = wdL u := by simp [wdS]
theorem bl_rwS (r : Nat) : (rwS r).data.toList = rwL r := by simp [rwS]
theorem unitWord_any (u : Nat) (h : u < 5) (w : World) : Calls Tryd.prog 43 #[.int .i64 u] w fun e w' => e = .returned (.string (wdS u)) ∧ w' = w := by
  have hu : u = 0 ∨ u = 1 ∨ u = 2 ∨ u = 3 ∨ u = 4 := by omega
  clear h
  rcases hu with rfl | rfl | rfl | rfl | rfl
  all_goals
    go_enter Tryd.func43, Tryd.ntmps43
    go_wp2
    go_ret
    exact ⟨rfl, rfl⟩
theorem rollWord_any (r : Nat) (h : r = 1 ∨ r = 2) (w : World) : Calls Tryd.prog 48 #[.int .i64 r] w fun e w' => e = .returned (.string (rwS r)) ∧ w' = w := by
  rcases h with rfl | rfl
  all_goals
    go_enter Tryd.func48, Tryd.ntmps48
    go_wp2
    go_ret
    exact ⟨rfl, rfl⟩
theorem wrongText_any (a : Int) (ad : Addr) (w : World) (hc : w.cell? ⟨3, 0, none⟩ = some (.iface 159 (.pointer (some ad)))) :
    Calls Tryd.prog 41 #[.int .i64 a] w fun e w' => e = .returned (.iface 75 (.pointer (some ⟨w.heap.size, 0, none⟩))) ∧ w' = w.alloc (.cells #[.int .i64 a, .iface 159 (.pointer (some ad))] 77) := by
  go_enter Tryd.func41, Tryd.ntmps41
  go_wp2
  go_ret
  exact ⟨rfl, rfl⟩
end Go.Proofs.YtplhamloddighaaDoor

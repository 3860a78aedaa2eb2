/-
  coin.Share, walked.
-/
import Derived.Test.YtlpkaelgeeecoaaDoorSharePlain2
import Derived.Test.YtlpkaelgeeecoaaDoorCoded
namespace Go.Proofs.YtlpkaelgeeecoaaDoor
open Go.RowKit Go.Sort Go.Shelf

theorem ret_b {a b : Bool} (h : a = b) : Ending.returned (.bool a) = .returned (.bool b) := by rw [h]
/-- Is a number of at most that size? -/
def szB (n m : Int) : Bool := decide (-m ≤ n ∧ n ≤ m)
theorem szB_iff {n m : Int} : szB n m = true ↔ -m ≤ n ∧ n ≤ m := by simp [szB]
set_option maxHeartbeats 1000000 in
theorem sized_any (n m : Int) (w : World) (hm0 : 0 ≤ m) (hm : m ≤ 1000000000000) : Calls Tryd.prog 37 #[.int .i64 n, .int .i64 m] w fun e w' => e = .returned (.bool (szB n m)) ∧ w' = w := by
  by_cases h0 : -m ≤ n
  · have HE : Hid (szB n m = decide (n ≤ m)) := by show _ = _; simp [szB, h0]
    have hd : decide (-m ≤ n) = true := by simpa using h0
    go_enter Tryd.func37, Tryd.ntmps37
    go_wp2
    go_ret
    exact ⟨ret_b HE.out.symm, rfl⟩
  · have HE : Hid (szB n m = false) := by show _ = _; simp [szB, h0]
    have hd : decide (-m ≤ n) = false := by simpa using h0
    go_enter Tryd.func37, Tryd.ntmps37
    go_wp2
    go_ret
    exact ⟨ret_b HE.out.symm, rfl⟩
theorem isAmount_any (n : Int) (w : World) : Calls Tryd.prog 36 #[.int .i64 n] w fun e w' => e = .returned (.bool (szB n 1000000000000)) ∧ w' = w := by
  have H := hidIt (fun w => sized_any n 1000000000000 w (by omega) (by omega))
  generalize szB n 1000000000000 = b at *
  go_enter Tryd.func36, Tryd.ntmps36
  go_wp2_with (go_at_call 37; refine (H.out _).mono ?_; rintro e w' ⟨rfl, rfl⟩)
  go_ret
  exact ⟨rfl, rfl⟩
set_option maxHeartbeats 1000000 in
theorem small_any (n : Int) (w : World) : Calls Tryd.prog 15 #[.int .i64 n] w fun e w' => e = .returned (.bool (szB n 1000000000000)) ∧ w' = w := by
  by_cases h0 : n ≤ 1000000000000
  · have HE : Hid (szB n 1000000000000 = decide (-1000000000000 ≤ n)) := by show _ = _; simp [szB, h0]
    have hd : decide (n ≤ 1000000000000) = true := by simpa using h0
    go_enter Tryd.func15, Tryd.ntmps15
    go_wp2
    go_ret
    exact ⟨ret_b HE.out.symm, rfl⟩
  · have HE : Hid (szB n 1000000000000 = false) := by show _ = _; simp [szB, h0]
    have hd : decide (n ≤ 1000000000000) = false := by simpa using h0
    go_enter Tryd.func15, Tryd.ntmps15
    go_wp2
    go_ret
    exact ⟨ret_b HE.out.symm, rfl⟩

/-- The weights that a caller hands in. -/
def Wts (w : World) (o : Option Addr) (n : Nat) (wv : Nat → Int) : Prop := n = 0 ∨ ∃ b off, o = some ⟨b, off, none⟩ ∧ b < w.heap.size ∧ ∀ i, i < n → w.cell? ⟨b, off + i, none⟩ = some (.int .i64 (wv i))
theorem Wts.below {w w' : World} {o : Option Addr} {n : Nat} {wv : Nat → Int} (h : Wts w o n wv) (hb : Below w.heap.size w w') : Wts w' o n wv := by
  rcases h with h | ⟨b, off, ho, hlt, hc⟩
  · exact .inl h
  · exact .inr ⟨b, off, ho, by have := hb.size; omega, fun i hi => (hb.cell (p := ⟨b, off + i, none⟩) hlt).trans (hc i hi)⟩
theorem wts_reads {w : World} {b off n : Nat} {wv : Nat → Int} (hc : ∀ i, i < n → w.cell? ⟨b, off + i, none⟩ = some (.int .i64 (wv i))) : Reads w b off (lst wv n) := fun i x hx => by
  obtain ⟨hi, rfl⟩ := lst_at wv n i x hx
  exact hc i hi
theorem sum_none (o : Option Addr) (cap : Nat) (w : World) : Calls Tryd.prog 48 #[.slice o 0 cap] w fun e w' => e = .returned (.int .i64 0) ∧ w' = w := by
  go_enter Tryd.func48, Tryd.ntmps48
  go_wp2_with fail
  go_loop [3, 8] (fun s t => s = .int .i64 0 ∧ t = .int .i64 0) (fun _ _ => 0)
  case atStart => exact ⟨rfl, rfl⟩
  case round =>
    obtain ⟨rfl, rfl⟩ := hrel
    go_wp2
    go_ret
    exact ⟨rfl, rfl⟩
theorem index_none (o : Option Addr) (cap : Nat) (w : World) : Calls Tryd.prog 63 #[.slice o 0 cap, .func (.func 46) #[] #[]] w fun e w' => e = .returned (.int .i64 (-1)) ∧ w' = w := by
  go_enter Tryd.func63, Tryd.ntmps63
  go_wp2_with fail
  go_loop [8] (fun t => t = .int .i64 0) (fun _ => 0)
  case atStart => exact rfl
  case round =>
    obtain rfl := hrel
    go_wp2
    go_ret
    exact ⟨rfl, rfl⟩
theorem contains_none (o : Option Addr) (cap : Nat) (w : World) : Calls Tryd.prog 47 #[.slice o 0 cap, .func (.func 46) #[] #[]] w fun e w' => e = .returned (.bool false) ∧ w' = w := by
  have H := hidIt (index_none o cap w)
  go_enter Tryd.func47, Tryd.ntmps47
  go_wp2_with fail
  refine H.out.mono ?_
  rintro e w' ⟨rfl, rfl⟩
  go_wp2
  go_ret
  exact ⟨rfl, rfl⟩
theorem contains_o {o : Option Addr} {n : Nat} (cap : Nat) {wv : Nat → Int} {w : World} (h : Wts w o n wv) (hn : n ≤ 60) :
    Calls Tryd.prog 47 #[.slice o n cap, .func (.func 46) #[] #[]] w fun e w' => e = .returned (.bool ((lst wv n).any badW)) ∧ w' = w := by
  rcases h with rfl | ⟨b, off, rfl, _, hc⟩
  · exact contains_none o cap w
  · have := contains_any b off cap (lst wv n) w (wts_reads hc) (by rw [lst_len]; exact hn)
    rwa [lst_len] at this
theorem sum_o {o : Option Addr} {n : Nat} (cap : Nat) {wv : Nat → Int} {w : World} (h : Wts w o n wv) (hn : n ≤ 60) (hb : (lst wv n).any badW = false) :
    Calls Tryd.prog 48 #[.slice o n cap] w fun e w' => e = .returned (.int .i64 (lst wv n).sum) ∧ w' = w := by
  rcases h with rfl | ⟨b, off, rfl, _, hc⟩
  · exact sum_none o cap w
  · have := sum_any b off cap (lst wv n) w (wts_reads hc) (fun x hx => by
      have h := List.any_eq_false.1 hb x hx
      simp [badW] at h
      omega) (by rw [lst_len]; exact hn)
    rwa [lst_len] at this
theorem bad_at {wv : Nat → Int} {n : Nat} (hb : (lst wv n).any badW = false) (i : Nat) (hi : i < n) : 0 ≤ wv i ∧ wv i ≤ 1000000 := by
  have hm : wv i ∈ lst wv n := List.mem_map.2 ⟨i, List.mem_range.2 hi, rfl⟩
  have h := List.any_eq_false.1 hb _ hm
  simp [badW] at h
  omega
theorem sum_lt {wv : Nat → Int} {n : Nat} (hb : (lst wv n).any badW = false) (hn : n ≤ 60) : 0 ≤ (lst wv n).sum ∧ (lst wv n).sum ≤ 60000000 := by
  have := sum_bd 1000000 (by decide) (lst wv n) (fun x hx => by
    obtain ⟨i, hi, rfl⟩ := lst_mem _ _ _ hx
    exact bad_at hb i hi)
  rw [lst_len] at this
  omega

def errOut (a : Addr) : Ending := .returned (.tuple #[.slice none 0 0, .iface 157 (.pointer (some a))])
set_option maxHeartbeats 1000000 in
theorem share_bound (T : Int) (o : Option Addr) (n cap : Nat) (a : Addr) (w : World) (hc : w.cell? ⟨4, 0, none⟩ = some (.iface 157 (.pointer (some a)))) (hn : 60 < n) :
    Calls Tryd.prog 21 #[.int .i64 T, .slice o n cap] w fun e w' => e = errOut a ∧ ∃ k, w' = w.drewN k := by
  have d0 : decide ((60 : Int) < n) = true := by simp; omega
  go_enter Tryd.func21, Tryd.ntmps21
  go_wp2_with fail
  go_quiet (fail)
  go_wp2
  go_ret2
  exact ⟨rfl, _, rfl⟩
set_option maxHeartbeats 1000000 in
theorem share_great (T : Int) (o : Option Addr) (n cap : Nat) (a : Addr) (w : World) (hc : w.cell? ⟨1, 0, none⟩ = some (.iface 157 (.pointer (some a)))) (hn : n ≤ 60) (hs : szB T 1000000000000 = false) :
    Calls Tryd.prog 21 #[.int .i64 T, .slice o n cap] w fun e w' => e = errOut a ∧ ∃ k, w' = w.drewN k := by
  have d0 : decide ((60 : Int) < n) = false := by simp; omega
  have H := hidIt (fun w => isAmount_any T w)
  rw [hs] at H
  go_enter Tryd.func21, Tryd.ntmps21
  go_wp2_with fail
  refine (H.out _).mono ?_
  rintro e w' ⟨rfl, rfl⟩
  go_wp2_with fail
  go_quiet (fail)
  go_wp2
  go_ret2
  exact ⟨rfl, _, rfl⟩
set_option maxHeartbeats 1000000 in
theorem share_bad (T : Int) (o : Option Addr) (n cap : Nat) (wv : Nat → Int) (a : Addr) (w : World) (hc : w.cell? ⟨1, 0, none⟩ = some (.iface 157 (.pointer (some a)))) (hn : n ≤ 60) (hs : szB T 1000000000000 = true) (hW : Wts w o n wv) (hb : (lst wv n).any badW = true) :
    Calls Tryd.prog 21 #[.int .i64 T, .slice o n cap] w fun e w' => e = errOut a ∧ ∃ k, w' = w.drewN k := by
  have d0 : decide ((60 : Int) < n) = false := by simp; omega
  have H := hidIt (fun w => isAmount_any T w)
  rw [hs] at H
  have H2 := hidIt (contains_o cap hW hn)
  rw [hb] at H2
  clear hW
  go_enter Tryd.func21, Tryd.ntmps21
  go_wp2_with fail
  refine (H.out _).mono ?_
  rintro e w' ⟨rfl, rfl⟩
  go_wp2_with fail
  refine H2.out.mono ?_
  rintro e w' ⟨rfl, rfl⟩
  go_wp2_with fail
  go_quiet (fail)
  go_wp2
  go_ret2
  exact ⟨rfl, _, rfl⟩
set_option maxHeartbeats 1000000 in
theorem share_zero (T : Int) (o : Option Addr) (n cap : Nat) (wv : Nat → Int) (a : Addr) (w : World) (hc : w.cell? ⟨1, 0, none⟩ = some (.iface 157 (.pointer (some a)))) (hn : n ≤ 60) (hs : szB T 1000000000000 = true) (hW : Wts w o n wv) (hb : (lst wv n).any badW = false) (h0 : (lst wv n).sum = 0) :
    Calls Tryd.prog 21 #[.int .i64 T, .slice o n cap] w fun e w' => e = errOut a ∧ ∃ k, w' = w.drewN k := by
  have d0 : decide ((60 : Int) < n) = false := by simp; omega
  have H := hidIt (fun w => isAmount_any T w)
  rw [hs] at H
  have H2 := hidIt (contains_o cap hW hn)
  rw [hb] at H2
  have H3 := hidIt (sum_o cap hW hn hb)
  rw [h0] at H3
  clear hW h0
  go_enter Tryd.func21, Tryd.ntmps21
  go_wp2_with fail
  refine (H.out _).mono ?_
  rintro e w' ⟨rfl, rfl⟩
  go_wp2_with fail
  refine H2.out.mono ?_
  rintro e w' ⟨rfl, rfl⟩
  go_wp2_with fail
  refine H3.out.mono ?_
  rintro e w' ⟨rfl, rfl⟩
  go_wp2_with fail
  go_quiet (fail)
  go_wp2
  go_ret2
  exact ⟨rfl, _, rfl⟩

/-- What the places that get a cent are. -/
structure Picks {N : Nat} (d : Array (Fin (N + 1))) (T all : Int) (wv : Nat → Int) : Prop where
  once : Once d
  every : ∀ i, i < N + 1 → ∃ j, j < N + 1 ∧ d[j]!.val = i
  sorted : SortedIn (ltT fun i => rf T all wv i.val) 0 (N + 1) d
def lf (T all : Int) (wv : Nat → Int) (n : Nat) : Nat := (T - (lst (qf T all wv) n).sum).toNat
def part {N : Nat} (d : Array (Fin (N + 1))) (T all : Int) (wv : Nat → Int) (i : Nat) : Int := qf T all wv i + hit1 d (lf T all wv (N + 1)) i
theorem shared_o (b off cap N : Nat) (T all : Int) (wv : Nat → Int) (w : World) (hw : ∀ i, i < N + 1 → w.cell? ⟨b, off + i, none⟩ = some (.int .i64 (wv i))) (hb : b < w.heap.size) (hn : N + 1 ≤ 60) (hall : (lst wv (N + 1)).sum = all) (hT : 0 ≤ T) (hT1 : T ≤ 1000000000000) (ha : 0 < all) (hbad : (lst wv (N + 1)).any badW = false) :
    Calls Tryd.prog 49 #[.int .i64 T, .slice (some ⟨b, off, none⟩) (N + 1) cap, .int .i64 all] w fun e w' => ∃ d : Array (Fin (N + 1)), Picks d T all wv ∧
      e = .returned (.slice (some ⟨w.heap.size, 0, none⟩) (N + 1) (N + 1)) ∧ RowF w' w.heap.size (N + 1) (part d T all wv) ∧ w.heap.size < w'.heap.size ∧ Below w.heap.size w w' := by
  have := sum_lt hbad hn
  refine (shared_walk b off cap (N + 1) T all wv w hw hb hn (by omega) hall hT hT1 ha (by omega) (bad_at hbad)).mono ?_
  rintro e w' ⟨N', d, hN, _, h1, h2, h3, h4, h5, h6, h7⟩
  obtain rfl : N' = N := by omega
  exact ⟨d, ⟨h1, h2, h3⟩, h4, h5, h6, h7⟩
set_option maxHeartbeats 2000000 in
theorem share_pos (b off cap N : Nat) (T all : Int) (wv : Nat → Int) (w : World) (hw : ∀ i, i < N + 1 → w.cell? ⟨b, off + i, none⟩ = some (.int .i64 (wv i))) (hb : b < w.heap.size) (hn : N + 1 ≤ 60) (hall : (lst wv (N + 1)).sum = all) (hT : 0 ≤ T) (hs : szB T 1000000000000 = true) (ha : 0 < all) (hbad : (lst wv (N + 1)).any badW = false) :
    Calls Tryd.prog 21 #[.int .i64 T, .slice (some ⟨b, off, none⟩) (N + 1) cap] w fun e w' => ∃ d : Array (Fin (N + 1)), Picks d T all wv ∧
      e = .returned (.tuple #[.slice (some ⟨w.heap.size, 0, none⟩) (N + 1) (N + 1), .nilIface]) ∧ RowF w' w.heap.size (N + 1) (part d T all wv) ∧ w.heap.size < w'.heap.size ∧ Below w.heap.size w w' := by
  have hT1 := (szB_iff.1 hs).2
  have d0 : decide ((60 : Int) < (N : Int) + 1) = false := by simp; omega
  have H := hidIt (fun w => isAmount_any T w)
  rw [hs] at H
  have hW : Wts w (some ⟨b, off, none⟩) (N + 1) wv := .inr ⟨b, off, rfl, hb, hw⟩
  have H2 := hidIt (contains_o cap hW hn)
  rw [hbad] at H2
  have H3 := hidIt (sum_o cap hW hn hbad)
  rw [hall] at H3
  have H4 := hidIt (shared_o b off cap N T all wv w hw hb hn hall hT hT1 ha hbad)
  have d1 : (all == 0) = false := by simp; omega
  have d2 : decide (0 ≤ T) = true := by simpa using hT
  clear hW hw hbad hall
  go_enter Tryd.func21, Tryd.ntmps21
  go_wp2_with fail
  refine (H.out _).mono ?_
  rintro e w' ⟨rfl, rfl⟩
  go_wp2_with fail
  refine H2.out.mono ?_
  rintro e w' ⟨rfl, rfl⟩
  go_wp2_with fail
  refine H3.out.mono ?_
  rintro e w' ⟨rfl, rfl⟩
  go_wp2_with fail
  refine H4.out.mono ?_
  rintro e w2 ⟨d, hp, rfl, h5, h6, h7⟩
  have HA := hidIt (And.intro hp (And.intro h5 (And.intro h6 h7)))
  clear hp h5 h6 h7
  go_wp2
  go_ret2
  exact ⟨d, HA.out.1, rfl, HA.out.2⟩
set_option maxHeartbeats 4000000 in
set_option maxRecDepth 100000 in
theorem share_neg (b off cap N : Nat) (T all : Int) (wv : Nat → Int) (w : World) (hw : ∀ i, i < N + 1 → w.cell? ⟨b, off + i, none⟩ = some (.int .i64 (wv i))) (hb : b < w.heap.size) (hn : N + 1 ≤ 60) (hall : (lst wv (N + 1)).sum = all) (hT : T < 0) (hs : szB T 1000000000000 = true) (ha : 0 < all) (hbad : (lst wv (N + 1)).any badW = false) :
    Calls Tryd.prog 21 #[.int .i64 T, .slice (some ⟨b, off, none⟩) (N + 1) cap] w fun e w' => ∃ d : Array (Fin (N + 1)), Picks d (-T) all wv ∧
      e = .returned (.tuple #[.slice (some ⟨w.heap.size, 0, none⟩) (N + 1) (N + 1), .nilIface]) ∧ RowF w' w.heap.size (N + 1) (fun i => -part d (-T) all wv i) ∧ w.heap.size < w'.heap.size ∧ Below w.heap.size w w' := by
  have hT1 := (szB_iff.1 hs).1
  have d0 : decide ((60 : Int) < (N : Int) + 1) = false := by simp; omega
  have H := hidIt (fun w => isAmount_any T w)
  rw [hs] at H
  have hW : Wts w (some ⟨b, off, none⟩) (N + 1) wv := .inr ⟨b, off, rfl, hb, hw⟩
  have H2 := hidIt (contains_o cap hW hn)
  rw [hbad] at H2
  have H3 := hidIt (sum_o cap hW hn hbad)
  rw [hall] at H3
  have H4 := hidIt (shared_o b off cap N (-T) all wv w hw hb hn hall (by omega) (by omega) ha hbad)
  have HB : Hid (∀ (d : Array (Fin (N + 1))) i, i < N + 1 → -1000000000000 ≤ part d (-T) all wv i ∧ part d (-T) all wv i ≤ 1000000000001) := fun d i hi => by
    have := q_bd (-T) all wv (N + 1) (by omega) ha (fun i hi => (bad_at hbad i hi).1) hall i hi
    have h2 : 0 ≤ hit1 d (lf (-T) all wv (N + 1)) i ∧ hit1 d (lf (-T) all wv (N + 1)) i ≤ 1 := by unfold hit1; split <;> omega
    unfold part
    omega
  have d1 : (all == 0) = false := by simp; omega
  have d2 : decide (0 ≤ T) = false := by simpa using hT
  clear hW hw hbad hall
  go_enter Tryd.func21, Tryd.ntmps21
  go_wp2_with fail
  refine (H.out _).mono ?_
  rintro e w' ⟨rfl, ew⟩
  subst w'
  go_wp2_with fail
  refine H2.out.mono ?_
  rintro e w' ⟨rfl, ew⟩
  subst w'
  go_wp2_with fail
  refine H3.out.mono ?_
  rintro e w' ⟨rfl, ew⟩
  subst w'
  go_wp2_with fail
  refine H4.out.mono ?_
  rintro e w2 ⟨d, hp, rfl, h5, h6, h7⟩
  have HP := hidIt hp
  have H5 := hidIt h5
  have H7 := hidIt h7
  have HBd := hidIt (HB.out d)
  clear hp h5 h7 HB
  go_wp2_with fail
  go_loopw [41] (fun t wr => ∃ k : Nat, t = .int .i64 k ∧ k ≤ N + 1 ∧ RowF wr w.heap.size (N + 1) (fun i => if i < k then -part d (-T) all wv i else part d (-T) all wv i) ∧ w.heap.size < wr.heap.size ∧ Below w.heap.size w wr) (fun t _ => N + 1 - (RowKit.intOf t).toNat)
  case atStart => exact ⟨0, rfl, by omega, H5.out.congr (fun i _ => by simp), h6, H7.out⟩
  case round =>
    obtain ⟨k, rfl, hk, x1, x2, x3⟩ := hrel
    have X1 := hidIt x1
    have X3 := hidIt x3
    clear x1 x3
    by_cases hlt : k < N + 1
    · have c0 : decide ((k : Int) < (N : Int) + 1) = true := by simp; omega
      have hkz : (k : Int) < (N : Int) + 1 := by omega
      obtain ⟨c1', f1⟩ := X1.out k hlt
      have c1 : wr.cell? ⟨w.heap.size, k, none⟩ = some (.int .i64 (part d (-T) all wv k)) := by rw [c1']; simp
      clear c1'
      obtain ⟨b1, b2⟩ := HBd.out k hlt
      have HS : Hid (∀ v, v = -part d (-T) all wv k → ∀ i, (if i = k then v else if i < k then -part d (-T) all wv i else part d (-T) all wv i) = if i < k + 1 then -part d (-T) all wv i else part d (-T) all wv i) := fun v hv i => by
        by_cases e : i = k
        · subst e; rw [if_pos rfl, if_pos (by omega), hv]
        · rw [if_neg e]
          by_cases h : i < k
          · rw [if_pos h, if_pos (by omega)]
          · rw [if_neg h, if_neg (by omega)]
      have HPx : Hid (∃ v, v = part d (-T) all wv k) := ⟨_, rfl⟩
      generalize hv : part d (-T) all wv k = v at c1 b1 b2 HS
      go_wp2
      refine ⟨⟨k + 1, by go_num, by omega, (X1.out.set k hlt (-v)).congr (fun i _ => HS.out _ rfl i), ?_, X3.out.setCell (p := ⟨w.heap.size, k, none⟩) (Nat.le_refl _) _⟩, by simp [RowKit.intOf]; omega⟩
      simpa [World.setCell] using x2
    · have c0 : decide ((k : Int) < (N : Int) + 1) = false := by simp; omega
      obtain rfl : k = N + 1 := by omega
      go_wp2
      go_ret2
      exact ⟨d, HP.out, rfl, X1.out.congr (fun i hi => by rw [if_pos hi]), x2, X3.out⟩
end Go.Proofs.YtlpkaelgeeecoaaDoor

/-
  symMergeCmpFunc, walked: the turn in the midst, and the whole.
-/
import Derived.Test.YtlpkaelgeeecoaaDoorMerges
namespace Go.Proofs.YtlpkaelgeeecoaaDoor
open Go.RowKit Go.Sort

section
variable {α : Type} [Inhabited α] {lt : α → α → Bool} {bf : α → α → Prop}
theorem carry_sorted {d1 d2 : Array α} {a mid x y : Nat} (p : PermIn a mid d1 d2) (h : SortedIn lt x y d1) (hx : mid ≤ x) : SortedIn lt x y d2 := fun i j u v z => by
  rw [p.2.1 i (.inr (by omega)), p.2.1 j (.inr (by omega))]; exact h i j u v z
theorem carry_ahead {d1 d2 : Array α} {a mid e b : Nat} (p : PermIn a mid d1 d2) (h : ∀ i, mid ≤ i → i < e → ∀ j, e ≤ j → j < b → bf d1[i]! d1[j]!) (_he : mid ≤ e) : ∀ i, mid ≤ i → i < e → ∀ j, e ≤ j → j < b → bf d2[i]! d2[j]! := fun i x y j u v => by
  rw [p.2.1 i (.inr x), p.2.1 j (.inr (by omega))]; exact h i x y j u v
end

variable {N : Nat}
/-- What a merge is to give. -/
def Merged (lt : Fin (N + 1) → Fin (N + 1) → Bool) (bx blk off cap : Nat) (d0 : Array (Fin (N + 1))) (w : World) (n : Nat) : Prop :=
  ∀ (a m b : Nat) (d : Array (Fin (N + 1))) (q : Nat), b - a ≤ n → a < m → m < b → b ≤ d0.size → d.size = d0.size → SortedIn lt a m d → SortedIn lt m b d → (∀ i, a ≤ i → i < m → ∀ j, m ≤ j → j < b → d[i]!.val < d[j]!.val) →
    Calls Tryd.prog 101 #[.slice (some ⟨blk, off, none⟩) d0.size cap, .int .i64 a, .int .i64 m, .int .i64 b, .func (.func 80) #[] #[.pointer (some ⟨bx, 0, none⟩)]] ((putRow ev w blk off d).drewN q) fun e w' =>
      e = .returned (.tuple #[]) ∧ ∃ d1 q', SortedIn lt a b d1 ∧ PermIn a b d d1 ∧ w' = (putRow ev w blk off d1).drewN q'

/-- rotateCmpFunc in the midst of a sort. -/
theorem rotate_at (blk off cap : Nat) (d dk : Array (Fin (N + 1))) (w : World) (q : Nat) (fv : Value) (a m b : Nat) (hH : Holds ev w blk off d) (hz : dk.size = d.size) (ham : a < m) (hmb : m < b) (hb : b ≤ d.size) (hsz : d.size ≤ 1000) :
    Calls Tryd.prog 107 #[.slice (some ⟨blk, off, none⟩) d.size cap, .int .i64 a, .int .i64 m, .int .i64 b, fv] ((putRow ev w blk off dk).drewN q) fun e w' => e = .returned (.tuple #[]) ∧ ∃ d1 q', Rot a m b dk d1 ∧ w' = (putRow ev w blk off d1).drewN q' := by
  have h := rotate_walk blk off cap dk ((putRow ev w blk off dk).drewN q) fv a m b (row_holds hH hz) ham hmb (by omega) (by omega)
  rw [hz] at h
  exact h.mono fun e w' ⟨he, d1, q', hs, hw⟩ => ⟨he, d1, q + q', hs, by rw [hw, row_row _ _ _ _ _ _ _ hs.perm.1]⟩

set_option maxHeartbeats 16000000 in
set_option maxRecDepth 100000 in
theorem sym_mid_hi {cf : Fin (N + 1) → Fin (N + 1) → Int} {lt : Fin (N + 1) → Fin (N + 1) → Bool} (S : SWO lt) (agree : ∀ x y, y.val < x.val → decide (cf x y < 0) = lt x y) (bx blk off cap : Nat) (d0 : Array (Fin (N + 1))) (w : World) (hH : Holds ev w blk off d0) (hsz : d0.size ≤ 1000) (hcmp : Cmps cf bx blk off d0.size w) (n : Nat) (ih : Merged lt bx blk off cap d0 w n)
    (a m b : Nat) (d : Array (Fin (N + 1))) (q : Nat) (hn : b - a ≤ n + 1) (ham : a + 1 < m) (hmb : m + 1 < b) (hcase : (a + b) / 2 < m) (hb : b ≤ d0.size) (hz : d.size = d0.size) (hX : SortedIn lt a m d) (hY : SortedIn lt m b d) (hI : ∀ i, a ≤ i → i < m → ∀ j, m ≤ j → j < b → d[i]!.val < d[j]!.val) :
    Calls Tryd.prog 101 #[.slice (some ⟨blk, off, none⟩) d0.size cap, .int .i64 a, .int .i64 m, .int .i64 b, .func (.func 80) #[] #[.pointer (some ⟨bx, 0, none⟩)]] ((putRow ev w blk off d).drewN q) fun e w' =>
      e = .returned (.tuple #[]) ∧ ∃ d1 q', SortedIn lt a b d1 ∧ PermIn a b d d1 ∧ w' = (putRow ev w blk off d1).drewN q' := by
  have HH := hidIt hH
  have HC := hidIt hcmp
  have HX := hidIt hX
  have HY := hidIt hY
  have HI := hidIt hI
  have HS := hidIt S
  have HA := hidIt agree
  have HIH := hidIt ih
  have HRot := hidIt (fun (dk : Array (Fin (N + 1))) (q s e : Nat) (h1 : dk.size = d0.size) (h2 : s < m) (h3 : m < e) (h4 : e ≤ d0.size) => rotate_at blk off cap d0 dk w q (.func (.func 80) #[] #[.pointer (some ⟨bx, 0, none⟩)]) s m e hH h1 h2 h3 h4 hsz)
  clear hH hcmp hX hY hI S agree ih
  have m1 : ¬ ((m : Int) - a = 1) := by omega
  have m2 : ¬ ((b : Int) - m = 1) := by omega
  have k0 : ((a : Int) + b) / 2 = (((a + b) / 2 : Nat) : Int) := by omega
  obtain ⟨mid, hmid⟩ : ∃ mid, mid = (a + b) / 2 := ⟨_, rfl⟩
  rw [← hmid] at k0 hcase
  have b1 : 2 * mid ≤ a + b := by omega
  have b2 : a + b ≤ 2 * mid + 1 := by omega
  clear hmid
  have cm : decide ((mid : Int) < m) = true := by simp; omega
  go_enter Tryd.func101, Tryd.ntmps101
  go_wp2_with fail
  go_loopw [20, 21] (fun s t wr => ∃ (st r q : Nat), s = .int .i64 st ∧ t = .int .i64 r ∧ (mid + m - b) ≤ st ∧ st ≤ r ∧ r ≤ mid ∧ (st = (mid + m - b) ∨ lt d[mid + m - st]! d[st - 1]! = false) ∧ (r = mid ∨ lt d[mid + m - r - 1]! d[r]! = true) ∧ wr = (putRow ev w blk off d).drewN q) (fun s t _ => (RowKit.intOf t).toNat - (RowKit.intOf s).toNat)
  case atStart => exact ⟨(mid + m - b), mid, q, by go_num, by go_num, by omega, by omega, by omega, .inl rfl, .inl rfl, rfl⟩
  case round =>
    obtain ⟨st, r, q, rfl, rfl, h1, h2, h3, p1, p2, rfl⟩ := hrel
    have P1 := hidIt p1
    have P2 := hidIt p2
    clear p1 p2
    by_cases hlt : st < r
    · have c0 : decide ((st : Int) < r) = true := by simp; omega
      have hk : (((st : Int) + r) / 2) = (((st + r) / 2 : Nat) : Int) := by omega
      obtain ⟨c, hc0⟩ : ∃ c, c = (st + r) / 2 := ⟨_, rfl⟩
      rw [← hc0] at hk
      have hlo : st ≤ c := by omega
      have hhi : c < r := by omega
      clear hc0
      have hpc : (mid : Int) + m - 1 - c = ((mid + m - 1 - c : Nat) : Int) := by omega
      obtain ⟨p, hp0⟩ : ∃ p, p = mid + m - 1 - c := ⟨_, rfl⟩
      rw [← hp0] at hpc
      have hp1 : m ≤ p := by omega
      have hp2 : p < b := by omega
      have E1 : Hid (mid + m - (c + 1) = p) := by show _ = _; omega
      have E2 : Hid (mid + m - c - 1 = p) := by show _ = _; omega
      clear hp0
      obtain ⟨ch, fh⟩ := cells_at (q := q) HH.out hz p (by omega)
      obtain ⟨ca, fa⟩ := cells_at (q := q) HH.out hz c (by omega)
      have hag := HA.out d[p]! d[c]! (HI.out c (by omega) (by omega) p hp1 hp2)
      have hkz : (p : Int) < d0.size := by omega
      have hmz : (c : Int) < d0.size := by omega
      have hcl := Cmps.at HC.out d q d[p]! d[c]! hz
      cases hl : lt d[p]! d[c]!
      · rw [hl] at hag
        have PN : Hid (lt d[mid + m - (c + 1)]! d[c + 1 - 1]! = false) := by show _ = _; rw [E1.out, Nat.add_sub_cancel]; exact hl
        clear hl
        generalize d[p]! = x at *
        generalize d[c]! = y at *
        generalize hwq : (putRow ev w blk off d).drewN q = wq at *
        have HQ := hidIt hwq
        clear hwq
        go_wp2_with fail
        go_quiet ((go_at_call 80; exact Calls.quiet_of (hcl _)))
        go_wp2
        exact ⟨⟨c + 1, r, _, by go_num, rfl, by omega, by omega, by omega, .inr PN.out, P2.out, by rw [← HQ.out, World.drewN_drewN]⟩, by simp [RowKit.intOf]; omega⟩
      · rw [hl] at hag
        have PN : Hid (∀ k, k = c → lt d[mid + m - k - 1]! d[k]! = true) := fun k e => by rw [e, E2.out]; exact hl
        clear hl
        generalize d[p]! = x at *
        generalize d[c]! = y at *
        generalize hwq : (putRow ev w blk off d).drewN q = wq at *
        have HQ := hidIt hwq
        clear hwq
        go_wp2_with fail
        go_quiet ((go_at_call 80; exact Calls.quiet_of (hcl _)))
        go_wp2
        exact ⟨⟨st, c, _, rfl, rfl, h1, hlo, by omega, P1.out, .inr (PN.out _ rfl), by rw [← HQ.out, World.drewN_drewN]⟩, by simp [RowKit.intOf]; omega⟩
    · have c0 : decide ((st : Int) < r) = false := by simp; omega
      obtain rfl : st = r := by omega
      have ke : (mid : Int) + m - st = ((mid + m - st : Nat) : Int) := by omega
      obtain ⟨e, he⟩ : ∃ e, e = mid + m - st := ⟨_, rfl⟩
      rw [← he] at ke P1 P2
      have he2 : e + st = mid + m := by omega
      clear he
      by_cases hq0 : (st < m) ∧ (m < e) ∧ (a < st) ∧ (e < b)
      · obtain ⟨q1', q2', q3', q4'⟩ := hq0
        have g1 : decide ((st : Int) < m) = true := by simp; omega
        have g2 : decide ((m : Int) < e) = true := by simp; omega
        have g3 : decide ((a : Int) < st) = true := by simp; omega
        have g4 : decide ((st : Int) < mid) = true := by simp; omega
        have g5 : decide ((mid : Int) < e) = true := by simp; omega
        have g6 : decide ((e : Int) < b) = true := by simp; omega
        go_wp2_with fail
        refine (HRot.out d q st e hz (by omega) (by omega) (by omega)).mono ?_
        rintro ex w1 ⟨rfl, d1, q1, hR, rfl⟩
        have hz1 : d1.size = d0.size := hR.perm.1.trans hz
        have hh := halves HS.out (mid := mid) (by omega) (by omega) (by omega) (by omega) (by omega) HX.out HY.out hR (fun x y => P1.out.resolve_left (by omega)) (fun x y => asym HS.out (P2.out.resolve_left (by omega)))
        obtain ⟨s1, s2, s3, s4⟩ := sorted_parts (mid := mid) (by omega) (by omega) (by omega) (by omega) (by omega) HX.out HY.out hR
        obtain ⟨i1, i2⟩ := ahead_parts (bf := fun x y => x.val < y.val) (mid := mid) (by omega) (by omega) (by omega) (by omega) (by omega) HI.out hR
        have HF := hidIt (And.intro hh (And.intro s1 (And.intro s2 (And.intro s3 (And.intro s4 (And.intro i1 (And.intro i2 hR)))))))
        clear hh s1 s2 s3 s4 i1 i2 hR
        go_wp2_with fail
        refine (HIH.out a st mid d1 q1 (by omega) (by omega) (by omega) (by omega) hz1 HF.out.2.1 HF.out.2.2.1 HF.out.2.2.2.2.2.1).mono ?_
        rintro ex w2 ⟨rfl, d2, q2, t2, p2, rfl⟩
        have T2 := hidIt t2
        have HP2 := hidIt p2
        clear t2 p2
        have hz2 : d2.size = d0.size := HP2.out.1.trans hz1
        go_wp2_with fail
        refine (HIH.out mid e b d2 q2 (by omega) (by omega) (by omega) (by omega) hz2 (carry_sorted HP2.out HF.out.2.2.2.1 (Nat.le_refl _)) (carry_sorted HP2.out HF.out.2.2.2.2.1 (by omega)) (carry_ahead (bf := fun x y => x.val < y.val) HP2.out HF.out.2.2.2.2.2.2.1 (by omega))).mono ?_
        rintro ex w3 ⟨rfl, d3, q3, t3, p3, rfl⟩
        have T3 := hidIt (join_halves (by omega) (by omega) (by omega) HF.out.1 HP2.out T2.out p3 t3)
        clear t3 p3
        go_wp2
        go_end0
        exact ⟨rfl, d3, q3, T3.out.1, permIn_trans _ _ _ _ _ (permIn_mono _ _ _ _ _ _ (by omega) (by omega) (by omega) HF.out.2.2.2.2.2.2.2.perm) T3.out.2, rfl⟩
      by_cases hq1 : (st < m) ∧ (m < e) ∧ (a < st) ∧ (¬ e < b)
      · obtain ⟨q1', q2', q3', q4'⟩ := hq1
        have g1 : decide ((st : Int) < m) = true := by simp; omega
        have g2 : decide ((m : Int) < e) = true := by simp; omega
        have g3 : decide ((a : Int) < st) = true := by simp; omega
        have g4 : decide ((st : Int) < mid) = true := by simp; omega
        have g5 : decide ((mid : Int) < e) = true := by simp; omega
        have g6 : decide ((e : Int) < b) = false := by simp; omega
        go_wp2_with fail
        refine (HRot.out d q st e hz (by omega) (by omega) (by omega)).mono ?_
        rintro ex w1 ⟨rfl, d1, q1, hR, rfl⟩
        have hz1 : d1.size = d0.size := hR.perm.1.trans hz
        have hh := halves HS.out (mid := mid) (by omega) (by omega) (by omega) (by omega) (by omega) HX.out HY.out hR (fun x y => P1.out.resolve_left (by omega)) (fun x y => asym HS.out (P2.out.resolve_left (by omega)))
        obtain ⟨s1, s2, s3, s4⟩ := sorted_parts (mid := mid) (by omega) (by omega) (by omega) (by omega) (by omega) HX.out HY.out hR
        obtain ⟨i1, i2⟩ := ahead_parts (bf := fun x y => x.val < y.val) (mid := mid) (by omega) (by omega) (by omega) (by omega) (by omega) HI.out hR
        have HF := hidIt (And.intro hh (And.intro s1 (And.intro s2 (And.intro s3 (And.intro s4 (And.intro i1 (And.intro i2 hR)))))))
        clear hh s1 s2 s3 s4 i1 i2 hR
        go_wp2_with fail
        refine (HIH.out a st mid d1 q1 (by omega) (by omega) (by omega) (by omega) hz1 HF.out.2.1 HF.out.2.2.1 HF.out.2.2.2.2.2.1).mono ?_
        rintro ex w2 ⟨rfl, d2, q2, t2, p2, rfl⟩
        have T2 := hidIt t2
        have HP2 := hidIt p2
        clear t2 p2
        have hz2 : d2.size = d0.size := HP2.out.1.trans hz1
        have u3 : SortedIn lt mid b d2 := by rw [show b = e by omega]; exact carry_sorted HP2.out HF.out.2.2.2.1 (Nat.le_refl _)
        have T3 := hidIt (join_halves (by omega) (by omega) (by omega) HF.out.1 HP2.out T2.out (permIn_refl _ _ _) u3)
        clear u3
        go_wp2
        go_end0
        exact ⟨rfl, d2, q2, T3.out.1, permIn_trans _ _ _ _ _ (permIn_mono _ _ _ _ _ _ (by omega) (by omega) (by omega) HF.out.2.2.2.2.2.2.2.perm) T3.out.2, rfl⟩
      by_cases hq2 : (st < m) ∧ (m < e) ∧ (¬ a < st) ∧ (¬ e < b)
      · obtain ⟨q1', q2', q3', q4'⟩ := hq2
        have g1 : decide ((st : Int) < m) = true := by simp; omega
        have g2 : decide ((m : Int) < e) = true := by simp; omega
        have g3 : decide ((a : Int) < st) = false := by simp; omega
        have g4 : decide ((st : Int) < mid) = true := by simp; omega
        have g5 : decide ((mid : Int) < e) = true := by simp; omega
        have g6 : decide ((e : Int) < b) = false := by simp; omega
        go_wp2_with fail
        refine (HRot.out d q st e hz (by omega) (by omega) (by omega)).mono ?_
        rintro ex w1 ⟨rfl, d1, q1, hR, rfl⟩
        have hz1 : d1.size = d0.size := hR.perm.1.trans hz
        have hh := halves HS.out (mid := mid) (by omega) (by omega) (by omega) (by omega) (by omega) HX.out HY.out hR (fun x y => P1.out.resolve_left (by omega)) (fun x y => asym HS.out (P2.out.resolve_left (by omega)))
        obtain ⟨s1, s2, s3, s4⟩ := sorted_parts (mid := mid) (by omega) (by omega) (by omega) (by omega) (by omega) HX.out HY.out hR
        obtain ⟨i1, i2⟩ := ahead_parts (bf := fun x y => x.val < y.val) (mid := mid) (by omega) (by omega) (by omega) (by omega) (by omega) HI.out hR
        have HF := hidIt (And.intro hh (And.intro s1 (And.intro s2 (And.intro s3 (And.intro s4 (And.intro i1 (And.intro i2 hR)))))))
        clear hh s1 s2 s3 s4 i1 i2 hR
        obtain ⟨d2, q2, hde, hqe⟩ : ∃ d2 q2, d2 = d1 ∧ q2 = q1 := ⟨_, _, rfl, rfl⟩
        have T2 : Hid (SortedIn lt a mid d2) := by show SortedIn lt a mid d2; rw [hde, show a = st by omega]; exact HF.out.2.2.1
        have HP2 : Hid (PermIn a mid d1 d2) := by show PermIn a mid d1 d2; rw [hde]; exact permIn_refl _ _ _
        rw [← hde, ← hqe]
        clear hde hqe
        have hz2 : d2.size = d0.size := HP2.out.1.trans hz1
        have u3 : SortedIn lt mid b d2 := by rw [show b = e by omega]; exact carry_sorted HP2.out HF.out.2.2.2.1 (Nat.le_refl _)
        have T3 := hidIt (join_halves (by omega) (by omega) (by omega) HF.out.1 HP2.out T2.out (permIn_refl _ _ _) u3)
        clear u3
        go_wp2
        go_end0
        exact ⟨rfl, d2, q2, T3.out.1, permIn_trans _ _ _ _ _ (permIn_mono _ _ _ _ _ _ (by omega) (by omega) (by omega) HF.out.2.2.2.2.2.2.2.perm) T3.out.2, rfl⟩
      by_cases hq3 : (st < m) ∧ (¬ m < e) ∧ (a < st) ∧ (e < b)
      · obtain ⟨q1', q2', q3', q4'⟩ := hq3
        have g1 : decide ((st : Int) < m) = true := by simp; omega
        have g2 : decide ((m : Int) < e) = false := by simp; omega
        have g3 : decide ((a : Int) < st) = true := by simp; omega
        have g4 : decide ((st : Int) < mid) = false := by simp; omega
        have g5 : decide ((mid : Int) < e) = true := by simp; omega
        have g6 : decide ((e : Int) < b) = true := by simp; omega
        obtain ⟨d1, q1, hde, hqe⟩ : ∃ d1 q1, d1 = d ∧ q1 = q := ⟨_, _, rfl, rfl⟩
        have hR : Rot st m e d d1 := by rw [hde]; exact Rot.none (by omega) (by omega) (.inr (by omega))
        rw [← hde, ← hqe]
        clear hde hqe
        have hz1 : d1.size = d0.size := hR.perm.1.trans hz
        have hh := halves HS.out (mid := mid) (by omega) (by omega) (by omega) (by omega) (by omega) HX.out HY.out hR (fun x y => P1.out.resolve_left (by omega)) (fun x y => asym HS.out (P2.out.resolve_left (by omega)))
        obtain ⟨s1, s2, s3, s4⟩ := sorted_parts (mid := mid) (by omega) (by omega) (by omega) (by omega) (by omega) HX.out HY.out hR
        obtain ⟨i1, i2⟩ := ahead_parts (bf := fun x y => x.val < y.val) (mid := mid) (by omega) (by omega) (by omega) (by omega) (by omega) HI.out hR
        have HF := hidIt (And.intro hh (And.intro s1 (And.intro s2 (And.intro s3 (And.intro s4 (And.intro i1 (And.intro i2 hR)))))))
        clear hh s1 s2 s3 s4 i1 i2 hR
        obtain ⟨d2, q2, hde, hqe⟩ : ∃ d2 q2, d2 = d1 ∧ q2 = q1 := ⟨_, _, rfl, rfl⟩
        have T2 : Hid (SortedIn lt a mid d2) := by show SortedIn lt a mid d2; rw [hde, show mid = st by omega]; exact HF.out.2.1
        have HP2 : Hid (PermIn a mid d1 d2) := by show PermIn a mid d1 d2; rw [hde]; exact permIn_refl _ _ _
        rw [← hde, ← hqe]
        clear hde hqe
        have hz2 : d2.size = d0.size := HP2.out.1.trans hz1
        go_wp2_with fail
        refine (HIH.out mid e b d2 q2 (by omega) (by omega) (by omega) (by omega) hz2 (carry_sorted HP2.out HF.out.2.2.2.1 (Nat.le_refl _)) (carry_sorted HP2.out HF.out.2.2.2.2.1 (by omega)) (carry_ahead (bf := fun x y => x.val < y.val) HP2.out HF.out.2.2.2.2.2.2.1 (by omega))).mono ?_
        rintro ex w3 ⟨rfl, d3, q3, t3, p3, rfl⟩
        have T3 := hidIt (join_halves (by omega) (by omega) (by omega) HF.out.1 HP2.out T2.out p3 t3)
        clear t3 p3
        go_wp2
        go_end0
        exact ⟨rfl, d3, q3, T3.out.1, permIn_trans _ _ _ _ _ (permIn_mono _ _ _ _ _ _ (by omega) (by omega) (by omega) HF.out.2.2.2.2.2.2.2.perm) T3.out.2, rfl⟩
      exfalso
      omega

set_option maxHeartbeats 16000000 in
set_option maxRecDepth 100000 in
theorem sym_mid_lo {cf : Fin (N + 1) → Fin (N + 1) → Int} {lt : Fin (N + 1) → Fin (N + 1) → Bool} (S : SWO lt) (agree : ∀ x y, y.val < x.val → decide (cf x y < 0) = lt x y) (bx blk off cap : Nat) (d0 : Array (Fin (N + 1))) (w : World) (hH : Holds ev w blk off d0) (hsz : d0.size ≤ 1000) (hcmp : Cmps cf bx blk off d0.size w) (n : Nat) (ih : Merged lt bx blk off cap d0 w n)
    (a m b : Nat) (d : Array (Fin (N + 1))) (q : Nat) (hn : b - a ≤ n + 1) (ham : a + 1 < m) (hmb : m + 1 < b) (hcase : m ≤ (a + b) / 2) (hb : b ≤ d0.size) (hz : d.size = d0.size) (hX : SortedIn lt a m d) (hY : SortedIn lt m b d) (hI : ∀ i, a ≤ i → i < m → ∀ j, m ≤ j → j < b → d[i]!.val < d[j]!.val) :
    Calls Tryd.prog 101 #[.slice (some ⟨blk, off, none⟩) d0.size cap, .int .i64 a, .int .i64 m, .int .i64 b, .func (.func 80) #[] #[.pointer (some ⟨bx, 0, none⟩)]] ((putRow ev w blk off d).drewN q) fun e w' =>
      e = .returned (.tuple #[]) ∧ ∃ d1 q', SortedIn lt a b d1 ∧ PermIn a b d d1 ∧ w' = (putRow ev w blk off d1).drewN q' := by
  have HH := hidIt hH
  have HC := hidIt hcmp
  have HX := hidIt hX
  have HY := hidIt hY
  have HI := hidIt hI
  have HS := hidIt S
  have HA := hidIt agree
  have HIH := hidIt ih
  have HRot := hidIt (fun (dk : Array (Fin (N + 1))) (q s e : Nat) (h1 : dk.size = d0.size) (h2 : s < m) (h3 : m < e) (h4 : e ≤ d0.size) => rotate_at blk off cap d0 dk w q (.func (.func 80) #[] #[.pointer (some ⟨bx, 0, none⟩)]) s m e hH h1 h2 h3 h4 hsz)
  clear hH hcmp hX hY hI S agree ih
  have m1 : ¬ ((m : Int) - a = 1) := by omega
  have m2 : ¬ ((b : Int) - m = 1) := by omega
  have k0 : ((a : Int) + b) / 2 = (((a + b) / 2 : Nat) : Int) := by omega
  obtain ⟨mid, hmid⟩ : ∃ mid, mid = (a + b) / 2 := ⟨_, rfl⟩
  rw [← hmid] at k0 hcase
  have b1 : 2 * mid ≤ a + b := by omega
  have b2 : a + b ≤ 2 * mid + 1 := by omega
  clear hmid
  have cm : decide ((mid : Int) < m) = false := by simp; omega
  go_enter Tryd.func101, Tryd.ntmps101
  go_wp2_with fail
  go_loopw [20, 21] (fun s t wr => ∃ (st r q : Nat), s = .int .i64 st ∧ t = .int .i64 r ∧ a ≤ st ∧ st ≤ r ∧ r ≤ m ∧ (st = a ∨ lt d[mid + m - st]! d[st - 1]! = false) ∧ (r = m ∨ lt d[mid + m - r - 1]! d[r]! = true) ∧ wr = (putRow ev w blk off d).drewN q) (fun s t _ => (RowKit.intOf t).toNat - (RowKit.intOf s).toNat)
  case atStart => exact ⟨a, m, q, by go_num, by go_num, by omega, by omega, by omega, .inl rfl, .inl rfl, rfl⟩
  case round =>
    obtain ⟨st, r, q, rfl, rfl, h1, h2, h3, p1, p2, rfl⟩ := hrel
    have P1 := hidIt p1
    have P2 := hidIt p2
    clear p1 p2
    by_cases hlt : st < r
    · have c0 : decide ((st : Int) < r) = true := by simp; omega
      have hk : (((st : Int) + r) / 2) = (((st + r) / 2 : Nat) : Int) := by omega
      obtain ⟨c, hc0⟩ : ∃ c, c = (st + r) / 2 := ⟨_, rfl⟩
      rw [← hc0] at hk
      have hlo : st ≤ c := by omega
      have hhi : c < r := by omega
      clear hc0
      have hpc : (mid : Int) + m - 1 - c = ((mid + m - 1 - c : Nat) : Int) := by omega
      obtain ⟨p, hp0⟩ : ∃ p, p = mid + m - 1 - c := ⟨_, rfl⟩
      rw [← hp0] at hpc
      have hp1 : m ≤ p := by omega
      have hp2 : p < b := by omega
      have E1 : Hid (mid + m - (c + 1) = p) := by show _ = _; omega
      have E2 : Hid (mid + m - c - 1 = p) := by show _ = _; omega
      clear hp0
      obtain ⟨ch, fh⟩ := cells_at (q := q) HH.out hz p (by omega)
      obtain ⟨ca, fa⟩ := cells_at (q := q) HH.out hz c (by omega)
      have hag := HA.out d[p]! d[c]! (HI.out c (by omega) (by omega) p hp1 hp2)
      have hkz : (p : Int) < d0.size := by omega
      have hmz : (c : Int) < d0.size := by omega
      have hcl := Cmps.at HC.out d q d[p]! d[c]! hz
      cases hl : lt d[p]! d[c]!
      · rw [hl] at hag
        have PN : Hid (lt d[mid + m - (c + 1)]! d[c + 1 - 1]! = false) := by show _ = _; rw [E1.out, Nat.add_sub_cancel]; exact hl
        clear hl
        generalize d[p]! = x at *
        generalize d[c]! = y at *
        generalize hwq : (putRow ev w blk off d).drewN q = wq at *
        have HQ := hidIt hwq
        clear hwq
        go_wp2_with fail
        go_quiet ((go_at_call 80; exact Calls.quiet_of (hcl _)))
        go_wp2
        exact ⟨⟨c + 1, r, _, by go_num, rfl, by omega, by omega, by omega, .inr PN.out, P2.out, by rw [← HQ.out, World.drewN_drewN]⟩, by simp [RowKit.intOf]; omega⟩
      · rw [hl] at hag
        have PN : Hid (∀ k, k = c → lt d[mid + m - k - 1]! d[k]! = true) := fun k e => by rw [e, E2.out]; exact hl
        clear hl
        generalize d[p]! = x at *
        generalize d[c]! = y at *
        generalize hwq : (putRow ev w blk off d).drewN q = wq at *
        have HQ := hidIt hwq
        clear hwq
        go_wp2_with fail
        go_quiet ((go_at_call 80; exact Calls.quiet_of (hcl _)))
        go_wp2
        exact ⟨⟨st, c, _, rfl, rfl, h1, hlo, by omega, P1.out, .inr (PN.out _ rfl), by rw [← HQ.out, World.drewN_drewN]⟩, by simp [RowKit.intOf]; omega⟩
    · have c0 : decide ((st : Int) < r) = false := by simp; omega
      obtain rfl : st = r := by omega
      have ke : (mid : Int) + m - st = ((mid + m - st : Nat) : Int) := by omega
      obtain ⟨e, he⟩ : ∃ e, e = mid + m - st := ⟨_, rfl⟩
      rw [← he] at ke P1 P2
      have he2 : e + st = mid + m := by omega
      clear he
      by_cases hq0 : (st < m) ∧ (m < e) ∧ (a < st) ∧ (e < b)
      · obtain ⟨q1', q2', q3', q4'⟩ := hq0
        have g1 : decide ((st : Int) < m) = true := by simp; omega
        have g2 : decide ((m : Int) < e) = true := by simp; omega
        have g3 : decide ((a : Int) < st) = true := by simp; omega
        have g4 : decide ((st : Int) < mid) = true := by simp; omega
        have g5 : decide ((mid : Int) < e) = true := by simp; omega
        have g6 : decide ((e : Int) < b) = true := by simp; omega
        go_wp2_with fail
        refine (HRot.out d q st e hz (by omega) (by omega) (by omega)).mono ?_
        rintro ex w1 ⟨rfl, d1, q1, hR, rfl⟩
        have hz1 : d1.size = d0.size := hR.perm.1.trans hz
        have hh := halves HS.out (mid := mid) (by omega) (by omega) (by omega) (by omega) (by omega) HX.out HY.out hR (fun x y => P1.out.resolve_left (by omega)) (fun x y => asym HS.out (P2.out.resolve_left (by omega)))
        obtain ⟨s1, s2, s3, s4⟩ := sorted_parts (mid := mid) (by omega) (by omega) (by omega) (by omega) (by omega) HX.out HY.out hR
        obtain ⟨i1, i2⟩ := ahead_parts (bf := fun x y => x.val < y.val) (mid := mid) (by omega) (by omega) (by omega) (by omega) (by omega) HI.out hR
        have HF := hidIt (And.intro hh (And.intro s1 (And.intro s2 (And.intro s3 (And.intro s4 (And.intro i1 (And.intro i2 hR)))))))
        clear hh s1 s2 s3 s4 i1 i2 hR
        go_wp2_with fail
        refine (HIH.out a st mid d1 q1 (by omega) (by omega) (by omega) (by omega) hz1 HF.out.2.1 HF.out.2.2.1 HF.out.2.2.2.2.2.1).mono ?_
        rintro ex w2 ⟨rfl, d2, q2, t2, p2, rfl⟩
        have T2 := hidIt t2
        have HP2 := hidIt p2
        clear t2 p2
        have hz2 : d2.size = d0.size := HP2.out.1.trans hz1
        go_wp2_with fail
        refine (HIH.out mid e b d2 q2 (by omega) (by omega) (by omega) (by omega) hz2 (carry_sorted HP2.out HF.out.2.2.2.1 (Nat.le_refl _)) (carry_sorted HP2.out HF.out.2.2.2.2.1 (by omega)) (carry_ahead (bf := fun x y => x.val < y.val) HP2.out HF.out.2.2.2.2.2.2.1 (by omega))).mono ?_
        rintro ex w3 ⟨rfl, d3, q3, t3, p3, rfl⟩
        have T3 := hidIt (join_halves (by omega) (by omega) (by omega) HF.out.1 HP2.out T2.out p3 t3)
        clear t3 p3
        go_wp2
        go_end0
        exact ⟨rfl, d3, q3, T3.out.1, permIn_trans _ _ _ _ _ (permIn_mono _ _ _ _ _ _ (by omega) (by omega) (by omega) HF.out.2.2.2.2.2.2.2.perm) T3.out.2, rfl⟩
      by_cases hq1 : (st < m) ∧ (m < e) ∧ (¬ a < st) ∧ (e < b)
      · obtain ⟨q1', q2', q3', q4'⟩ := hq1
        have g1 : decide ((st : Int) < m) = true := by simp; omega
        have g2 : decide ((m : Int) < e) = true := by simp; omega
        have g3 : decide ((a : Int) < st) = false := by simp; omega
        have g4 : decide ((st : Int) < mid) = true := by simp; omega
        have g5 : decide ((mid : Int) < e) = true := by simp; omega
        have g6 : decide ((e : Int) < b) = true := by simp; omega
        go_wp2_with fail
        refine (HRot.out d q st e hz (by omega) (by omega) (by omega)).mono ?_
        rintro ex w1 ⟨rfl, d1, q1, hR, rfl⟩
        have hz1 : d1.size = d0.size := hR.perm.1.trans hz
        have hh := halves HS.out (mid := mid) (by omega) (by omega) (by omega) (by omega) (by omega) HX.out HY.out hR (fun x y => P1.out.resolve_left (by omega)) (fun x y => asym HS.out (P2.out.resolve_left (by omega)))
        obtain ⟨s1, s2, s3, s4⟩ := sorted_parts (mid := mid) (by omega) (by omega) (by omega) (by omega) (by omega) HX.out HY.out hR
        obtain ⟨i1, i2⟩ := ahead_parts (bf := fun x y => x.val < y.val) (mid := mid) (by omega) (by omega) (by omega) (by omega) (by omega) HI.out hR
        have HF := hidIt (And.intro hh (And.intro s1 (And.intro s2 (And.intro s3 (And.intro s4 (And.intro i1 (And.intro i2 hR)))))))
        clear hh s1 s2 s3 s4 i1 i2 hR
        obtain ⟨d2, q2, hde, hqe⟩ : ∃ d2 q2, d2 = d1 ∧ q2 = q1 := ⟨_, _, rfl, rfl⟩
        have T2 : Hid (SortedIn lt a mid d2) := by show SortedIn lt a mid d2; rw [hde, show a = st by omega]; exact HF.out.2.2.1
        have HP2 : Hid (PermIn a mid d1 d2) := by show PermIn a mid d1 d2; rw [hde]; exact permIn_refl _ _ _
        rw [← hde, ← hqe]
        clear hde hqe
        have hz2 : d2.size = d0.size := HP2.out.1.trans hz1
        go_wp2_with fail
        refine (HIH.out mid e b d2 q2 (by omega) (by omega) (by omega) (by omega) hz2 (carry_sorted HP2.out HF.out.2.2.2.1 (Nat.le_refl _)) (carry_sorted HP2.out HF.out.2.2.2.2.1 (by omega)) (carry_ahead (bf := fun x y => x.val < y.val) HP2.out HF.out.2.2.2.2.2.2.1 (by omega))).mono ?_
        rintro ex w3 ⟨rfl, d3, q3, t3, p3, rfl⟩
        have T3 := hidIt (join_halves (by omega) (by omega) (by omega) HF.out.1 HP2.out T2.out p3 t3)
        clear t3 p3
        go_wp2
        go_end0
        exact ⟨rfl, d3, q3, T3.out.1, permIn_trans _ _ _ _ _ (permIn_mono _ _ _ _ _ _ (by omega) (by omega) (by omega) HF.out.2.2.2.2.2.2.2.perm) T3.out.2, rfl⟩
      by_cases hq2 : (st < m) ∧ (m < e) ∧ (¬ a < st) ∧ (¬ e < b)
      · obtain ⟨q1', q2', q3', q4'⟩ := hq2
        have g1 : decide ((st : Int) < m) = true := by simp; omega
        have g2 : decide ((m : Int) < e) = true := by simp; omega
        have g3 : decide ((a : Int) < st) = false := by simp; omega
        have g4 : decide ((st : Int) < mid) = true := by simp; omega
        have g5 : decide ((mid : Int) < e) = true := by simp; omega
        have g6 : decide ((e : Int) < b) = false := by simp; omega
        go_wp2_with fail
        refine (HRot.out d q st e hz (by omega) (by omega) (by omega)).mono ?_
        rintro ex w1 ⟨rfl, d1, q1, hR, rfl⟩
        have hz1 : d1.size = d0.size := hR.perm.1.trans hz
        have hh := halves HS.out (mid := mid) (by omega) (by omega) (by omega) (by omega) (by omega) HX.out HY.out hR (fun x y => P1.out.resolve_left (by omega)) (fun x y => asym HS.out (P2.out.resolve_left (by omega)))
        obtain ⟨s1, s2, s3, s4⟩ := sorted_parts (mid := mid) (by omega) (by omega) (by omega) (by omega) (by omega) HX.out HY.out hR
        obtain ⟨i1, i2⟩ := ahead_parts (bf := fun x y => x.val < y.val) (mid := mid) (by omega) (by omega) (by omega) (by omega) (by omega) HI.out hR
        have HF := hidIt (And.intro hh (And.intro s1 (And.intro s2 (And.intro s3 (And.intro s4 (And.intro i1 (And.intro i2 hR)))))))
        clear hh s1 s2 s3 s4 i1 i2 hR
        obtain ⟨d2, q2, hde, hqe⟩ : ∃ d2 q2, d2 = d1 ∧ q2 = q1 := ⟨_, _, rfl, rfl⟩
        have T2 : Hid (SortedIn lt a mid d2) := by show SortedIn lt a mid d2; rw [hde, show a = st by omega]; exact HF.out.2.2.1
        have HP2 : Hid (PermIn a mid d1 d2) := by show PermIn a mid d1 d2; rw [hde]; exact permIn_refl _ _ _
        rw [← hde, ← hqe]
        clear hde hqe
        have hz2 : d2.size = d0.size := HP2.out.1.trans hz1
        have u3 : SortedIn lt mid b d2 := by rw [show b = e by omega]; exact carry_sorted HP2.out HF.out.2.2.2.1 (Nat.le_refl _)
        have T3 := hidIt (join_halves (by omega) (by omega) (by omega) HF.out.1 HP2.out T2.out (permIn_refl _ _ _) u3)
        clear u3
        go_wp2
        go_end0
        exact ⟨rfl, d2, q2, T3.out.1, permIn_trans _ _ _ _ _ (permIn_mono _ _ _ _ _ _ (by omega) (by omega) (by omega) HF.out.2.2.2.2.2.2.2.perm) T3.out.2, rfl⟩
      by_cases hq3 : (¬ st < m) ∧ (m < e) ∧ (a < st) ∧ (e < b)
      · obtain ⟨q1', q2', q3', q4'⟩ := hq3
        have g1 : decide ((st : Int) < m) = false := by simp; omega
        have g2 : decide ((m : Int) < e) = true := by simp; omega
        have g3 : decide ((a : Int) < st) = true := by simp; omega
        have g4 : decide ((st : Int) < mid) = true := by simp; omega
        have g5 : decide ((mid : Int) < e) = false := by simp; omega
        have g6 : decide ((e : Int) < b) = true := by simp; omega
        obtain ⟨d1, q1, hde, hqe⟩ : ∃ d1 q1, d1 = d ∧ q1 = q := ⟨_, _, rfl, rfl⟩
        have hR : Rot st m e d d1 := by rw [hde]; exact Rot.none (by omega) (by omega) (.inl (by omega))
        rw [← hde, ← hqe]
        clear hde hqe
        have hz1 : d1.size = d0.size := hR.perm.1.trans hz
        have hh := halves HS.out (mid := mid) (by omega) (by omega) (by omega) (by omega) (by omega) HX.out HY.out hR (fun x y => P1.out.resolve_left (by omega)) (fun x y => asym HS.out (P2.out.resolve_left (by omega)))
        obtain ⟨s1, s2, s3, s4⟩ := sorted_parts (mid := mid) (by omega) (by omega) (by omega) (by omega) (by omega) HX.out HY.out hR
        obtain ⟨i1, i2⟩ := ahead_parts (bf := fun x y => x.val < y.val) (mid := mid) (by omega) (by omega) (by omega) (by omega) (by omega) HI.out hR
        have HF := hidIt (And.intro hh (And.intro s1 (And.intro s2 (And.intro s3 (And.intro s4 (And.intro i1 (And.intro i2 hR)))))))
        clear hh s1 s2 s3 s4 i1 i2 hR
        go_wp2_with fail
        refine (HIH.out a st mid d1 q1 (by omega) (by omega) (by omega) (by omega) hz1 HF.out.2.1 HF.out.2.2.1 HF.out.2.2.2.2.2.1).mono ?_
        rintro ex w2 ⟨rfl, d2, q2, t2, p2, rfl⟩
        have T2 := hidIt t2
        have HP2 := hidIt p2
        clear t2 p2
        have hz2 : d2.size = d0.size := HP2.out.1.trans hz1
        have u3 : SortedIn lt mid b d2 := carry_sorted HP2.out (by rw [show mid = e by omega]; exact HF.out.2.2.2.2.1) (Nat.le_refl _)
        have T3 := hidIt (join_halves (by omega) (by omega) (by omega) HF.out.1 HP2.out T2.out (permIn_refl _ _ _) u3)
        clear u3
        go_wp2
        go_end0
        exact ⟨rfl, d2, q2, T3.out.1, permIn_trans _ _ _ _ _ (permIn_mono _ _ _ _ _ _ (by omega) (by omega) (by omega) HF.out.2.2.2.2.2.2.2.perm) T3.out.2, rfl⟩
      by_cases hq4 : (¬ st < m) ∧ (¬ m < e) ∧ (a < st) ∧ (e < b)
      · obtain ⟨q1', q2', q3', q4'⟩ := hq4
        have g1 : decide ((st : Int) < m) = false := by simp; omega
        have g2 : decide ((m : Int) < e) = false := by simp; omega
        have g3 : decide ((a : Int) < st) = true := by simp; omega
        have g4 : decide ((st : Int) < mid) = false := by simp; omega
        have g5 : decide ((mid : Int) < e) = false := by simp; omega
        have g6 : decide ((e : Int) < b) = true := by simp; omega
        obtain ⟨d1, q1, hde, hqe⟩ : ∃ d1 q1, d1 = d ∧ q1 = q := ⟨_, _, rfl, rfl⟩
        have hR : Rot st m e d d1 := by rw [hde]; exact Rot.none (by omega) (by omega) (.inl (by omega))
        rw [← hde, ← hqe]
        clear hde hqe
        have hz1 : d1.size = d0.size := hR.perm.1.trans hz
        have hh := halves HS.out (mid := mid) (by omega) (by omega) (by omega) (by omega) (by omega) HX.out HY.out hR (fun x y => P1.out.resolve_left (by omega)) (fun x y => asym HS.out (P2.out.resolve_left (by omega)))
        obtain ⟨s1, s2, s3, s4⟩ := sorted_parts (mid := mid) (by omega) (by omega) (by omega) (by omega) (by omega) HX.out HY.out hR
        obtain ⟨i1, i2⟩ := ahead_parts (bf := fun x y => x.val < y.val) (mid := mid) (by omega) (by omega) (by omega) (by omega) (by omega) HI.out hR
        have HF := hidIt (And.intro hh (And.intro s1 (And.intro s2 (And.intro s3 (And.intro s4 (And.intro i1 (And.intro i2 hR)))))))
        clear hh s1 s2 s3 s4 i1 i2 hR
        obtain ⟨d2, q2, hde, hqe⟩ : ∃ d2 q2, d2 = d1 ∧ q2 = q1 := ⟨_, _, rfl, rfl⟩
        have T2 : Hid (SortedIn lt a mid d2) := by show SortedIn lt a mid d2; rw [hde, show mid = st by omega]; exact HF.out.2.1
        have HP2 : Hid (PermIn a mid d1 d2) := by show PermIn a mid d1 d2; rw [hde]; exact permIn_refl _ _ _
        rw [← hde, ← hqe]
        clear hde hqe
        have hz2 : d2.size = d0.size := HP2.out.1.trans hz1
        have u3 : SortedIn lt mid b d2 := carry_sorted HP2.out (by rw [show mid = e by omega]; exact HF.out.2.2.2.2.1) (Nat.le_refl _)
        have T3 := hidIt (join_halves (by omega) (by omega) (by omega) HF.out.1 HP2.out T2.out (permIn_refl _ _ _) u3)
        clear u3
        go_wp2
        go_end0
        exact ⟨rfl, d2, q2, T3.out.1, permIn_trans _ _ _ _ _ (permIn_mono _ _ _ _ _ _ (by omega) (by omega) (by omega) HF.out.2.2.2.2.2.2.2.perm) T3.out.2, rfl⟩
      exfalso
      omega

theorem sym_all {cf : Fin (N + 1) → Fin (N + 1) → Int} {lt : Fin (N + 1) → Fin (N + 1) → Bool} (S : SWO lt) (agree : ∀ x y, y.val < x.val → decide (cf x y < 0) = lt x y) (bx blk off cap : Nat) (d0 : Array (Fin (N + 1))) (w : World) (hH : Holds ev w blk off d0) (hsz : d0.size ≤ 1000) (hcmp : Cmps cf bx blk off d0.size w) : ∀ n, Merged lt bx blk off cap d0 w n
  | 0 => fun a m b d q hn ham hmb _ _ _ _ _ => by omega
  | n + 1 => fun a m b d q hn ham hmb hb hz hX hY hI => by
    have ih := sym_all S agree bx blk off cap d0 w hH hsz hcmp n
    by_cases h1 : m = a + 1
    · subst h1
      have := sym_left S agree bx blk off cap d0 w hH hsz hcmp a b d q hmb hb hz hY hI
      rwa [show (a : Int) + 1 = ((a + 1 : Nat) : Int) by omega] at this
    · by_cases h2 : b = m + 1
      · subst h2
        have := sym_right S agree bx blk off cap d0 w hH hsz hcmp a m d q (by omega) hb hz hX hI
        rwa [show (m : Int) + 1 = ((m + 1 : Nat) : Int) by omega] at this
      · by_cases h3 : (a + b) / 2 < m
        · exact sym_mid_hi S agree bx blk off cap d0 w hH hsz hcmp n ih a m b d q hn (by omega) (by omega) h3 hb hz hX hY hI
        · exact sym_mid_lo S agree bx blk off cap d0 w hH hsz hcmp n ih a m b d q hn (by omega) (by omega) (by omega) hb hz hX hY hI
end Go.Proofs.YtlpkaelgeeecoaaDoor

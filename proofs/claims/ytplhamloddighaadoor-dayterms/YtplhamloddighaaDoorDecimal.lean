/-
  The reference's Decimal; a number's digits.
-/
import Derived.Test.YtplhamloddighaaDoorAgree
import Derived.Test.YtplhamloddighaaDoorBytePlain
import Derived.Lib.ItoaNum
import Derived.Lib.ItoaMem
import Derived.Lib.Walk
import Derived.WalkSmall
import Derived.Deep.RegionWith
namespace Go.Proofs.YtplhamloddighaaDoor
open Go.RowKit Go.Sort Go.Lib

theorem below_grow (w : World) (k : Nat) (os : Array Obj) : Below w.heap.size w (grow (w.drewN k) os) :=
  ⟨rfl, rfl, rfl, by first | (simp [grow]; done) | (simp [grow]; omega), fun i hi => by
    show ((w.drewN k).heap ++ os)[i]? = _
    rw [Array.getElem?_append_left (by show i < w.heap.size; omega)]
    rfl⟩

/-- A number's decimal digits. -/
def dgs (u : Nat) : ByteArray := ⟨(decDigits u).toArray⟩
theorem dgs_app (u : Nat) (h : ¬ u < 10) : dgs (u / 10) ++ dgs (u % 10) = dgs u := by
  apply ByteArray.ext
  rw [ByteArray.data_append]
  show (decDigits (u / 10)).toArray ++ (decDigits (u % 10)).toArray = (decDigits u).toArray
  rw [decDigits_one (i := u % 10) (by omega)]
  conv => rhs; rw [decDigits, dif_neg h]
  simp
theorem dgs_size (u : Nat) : (dgs u).size = nDigits u := by
  show (decDigits u).toArray.size = _
  simp [decDigits_length]
theorem nDigits_bd : ∀ (f u : Nat), u < 10 ^ (f + 1) → 1 ≤ nDigits u ∧ nDigits u ≤ f + 1
  | 0, u, h => by rw [nDigits_small (by simpa using h)]; omega
  | f + 1, u, h => by
    by_cases h10 : u < 10
    · rw [nDigits_small h10]; omega
    · have := nDigits_bd f (u / 10) (by rw [Nat.pow_succ] at h; omega)
      have e : nDigits u = nDigits (u / 10) + 1 := by
        rw [← decDigits_length, ← decDigits_length, decDigits, dif_neg h10]; simp
      omega

theorem conv_one (w : World) (c : UInt8) (v : Int) (h : v = c.toNat) : (convert 93 9 (.slice (some ⟨w.heap.size, 0, none⟩) 1 1)).run Tryd.prog (w.alloc (.cells #[.int .u8 v] 5)) = .ok (.string ⟨#[c]⟩) (w.alloc (.cells #[.int .u8 v] 5)) := by
  subst h
  exact run_convert_bytes_back (P := Tryd.prog) (w.alloc (.cells #[.int .u8 (c.toNat : Int)] 5)) 93 9 5 ⟨w.heap.size, 0, none⟩ 1 [c] Tryd.underlying93 Tryd.underlying5 Tryd.underlying9 (fun j hj => by
    have : j = 0 := by simpa using hj
    subst this
    simp [Addr.add])

set_option maxHeartbeats 1000000 in
theorem decimal_digit (u : Nat) (h10 : u < 10) (w : World) : Calls Tryd.prog 49 #[.int .i64 u] w fun e w' => e = .returned (.string (dgs u)) ∧ Below w.heap.size w w' := by
  have d0 : decide ((u : Int) < 0) = false := by simp
  have d1 : decide ((u : Int) < 10) = true := by simp; omega
  have hcv := conv_one w (UInt8.ofNat (48 + u)) (48 + u) (by simp; omega)
  have HE : Hid (dgs u = ⟨#[UInt8.ofNat (48 + u)]⟩) := by show _ = _; unfold dgs; rw [decDigits_one h10]
  generalize UInt8.ofNat (48 + u) = c at *
  go_enter Tryd.func49, Tryd.ntmps49
  go_wp2
  go_ret
  exact ⟨by rw [HE.out]; rfl, (Below.refl _ _).alloc (Nat.le_refl _) _⟩

set_option maxHeartbeats 1000000 in
theorem decimal_any : ∀ (f u : Nat), f ≤ 8 → u < 10 ^ (f + 1) → ∀ w : World, Calls Tryd.prog 49 #[.int .i64 u] w fun e w' => e = .returned (.string (dgs u)) ∧ Below w.heap.size w w'
  | 0, u, _, h, w => decimal_digit u (by simpa using h) w
  | f + 1, u, hf, h, w => by
    by_cases h10 : u < 10
    · exact decimal_digit u h10 w
    · have d0 : decide ((u : Int) < 0) = false := by simp
      have d1 : decide ((u : Int) < 10) = false := by simp; omega
      have hu10 : u / 10 < 10 ^ (f + 1) := by rw [Nat.pow_succ] at h; omega
      have H1 : Hid (∀ w, Calls Tryd.prog 49 #[.int .i64 ((u : Int) / 10)] w fun e w' => e = .returned (.string (dgs (u / 10))) ∧ Below w.heap.size w w') := fun w => by
        have := decimal_any f (u / 10) (by omega) hu10 w
        rwa [show ((u / 10 : Nat) : Int) = (u : Int) / 10 by omega] at this
      have H2 : Hid (∀ w, Calls Tryd.prog 49 #[.int .i64 ((u : Int) % 10)] w fun e w' => e = .returned (.string (dgs (u % 10))) ∧ Below w.heap.size w w') := fun w => by
        have := decimal_digit (u % 10) (by omega) w
        rwa [show ((u % 10 : Nat) : Int) = (u : Int) % 10 by omega] at this
      have HA := hidIt (dgs_app u h10)
      have s1 : (dgs (u / 10)).size ≤ 10 := by rw [dgs_size]; have := nDigits_bd f (u / 10) hu10; omega
      have s2 : (dgs (u % 10)).size ≤ 10 := by rw [dgs_size, nDigits_small (by omega)]; omega
      have hb : u < 10 ^ 10 := Nat.lt_of_lt_of_le h (Nat.pow_le_pow_right (by decide) (by omega))
      have hb2 : u < 10000000000 := by simpa using hb
      clear h hb hu10
      generalize dgs (u / 10) = a at *
      generalize dgs (u % 10) = b at *
      go_enter Tryd.func49, Tryd.ntmps49
      go_wp2_with fail
      refine (H1.out _).mono ?_
      rintro e w1 ⟨rfl, hb1⟩
      have HB1 := hidIt hb1
      clear hb1
      go_wp2_with fail
      refine (H2.out _).mono ?_
      rintro e w2 ⟨rfl, hb2⟩
      have HB2 := hidIt (HB1.out.trans (hb2.mono HB1.out.size))
      clear hb2
      go_wp2
      go_ret
      exact ⟨by rw [← HA.out]; rfl, HB2.out⟩

/-- The digits behind the first. -/
def tl (u : Nat) : ByteArray := (dgs u).extract 1 (dgs u).size
theorem tab_below {w w' : World} {B : Nat} (h : TabIs Tryd.prog w "internal/strconv.uint64pow10" .u64 pow10Tab) (hb : Below B w w') (hB : w.heap.size ≤ B) : TabIs Tryd.prog w' "internal/strconv.uint64pow10" .u64 pow10Tab := by
  have hg : Tryd.prog.globalNamed "internal/strconv.uint64pow10" = some 12 := by kernel_rfl
  refine var?_below hb hg ?_ h
  have : w.heap[12]? ≠ none := fun e => by
    have h' : w.var? Tryd.prog "internal/strconv.uint64pow10" = _ := h
    simp [World.var?, hg, e] at h'
  have h12 : 12 < w.heap.size := by
    rcases Nat.lt_or_ge 12 w.heap.size with k | k
    · exact k
    · exact absurd (Array.getElem?_eq_none k) this
  omega

end Go.Proofs.YtplhamloddighaaDoor

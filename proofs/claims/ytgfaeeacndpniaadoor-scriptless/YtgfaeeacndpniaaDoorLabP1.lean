/-
  Package script: which of two labels is ahead, by contracts.
-/
import Derived.Test.YtgfaeeacndpniaaDoorLabP0
import Derived.Test.YtgfaeeacndpniaaDoorShelfM
namespace Go.Proofs.YtgfaeeacndpniaaDoor
open Go.RowKit Go.Extern.Stop Go.Stop Go.Extern

def orI (x y : Int) : Int := if x = 0 then y else x
theorem or_two (b : Nat) (x y : Int) (w : World) (h0 : w.cell? ⟨b, 0, none⟩ = some (.int .i64 x)) (h1 : w.cell? ⟨b, 1, none⟩ = some (.int .i64 y)) :
    Calls Tryd.prog 34 #[.slice (some ⟨b, 0, none⟩) 2 2] w fun e w' => e = .returned (.int .i64 (orI x y)) ∧ w' = w := by
  have h1' : w.cell? ⟨b, 0 + 1, none⟩ = some (.int .i64 y) := h1
  by_cases hx : x = 0
  · subst hx
    have HE : Hid (orI 0 y = y) := rfl
    go_enter Tryd.func34, Tryd.ntmps34
    go_wp2_with fail
    go_loop [8] (fun t => t = .int .i64 0 ∨ t = .int .i64 1 ∨ (t = .int .i64 2 ∧ y = 0)) (fun t => (2 - RowKit.intOf t).toNat)
    case atStart => exact .inl rfl
    case round =>
      rcases hrel with rfl | rfl | ⟨rfl, rfl⟩
      · go_wp2
        go_round
        case rel => exact .inr (.inl rfl)
        case measure => simp [RowKit.intOf]
      · by_cases hy : y = 0
        · subst hy
          go_wp2
          go_round
          case rel => exact .inr (.inr ⟨rfl, by first | rfl | trivial⟩)
          case measure => simp [RowKit.intOf]
        · have hy' : (y != 0) = true := by simpa using hy
          go_wp2
          go_ret
          exact ⟨ret_i HE.out.symm, rfl⟩
      · go_wp2
        go_ret
        exact ⟨rfl, rfl⟩
  · have HE : Hid (orI x y = x) := if_neg hx
    have hx' : (x != 0) = true := by simpa using hx
    go_enter Tryd.func34, Tryd.ntmps34
    go_wp2_with fail
    go_loop [8] (fun t => t = .int .i64 0) (fun _ => 0)
    case atStart => exact rfl
    case round =>
      subst hrel
      go_wp2
      go_ret
      exact ⟨ret_i HE.out.symm, rfl⟩

/-- How two texts stand: by their lengths, then as texts. -/
def sf (a b : ByteArray) : Int := orI (Lib.compareInt a.size b.size) (Lib.compareBytes (bl a) (bl b))
theorem sf_cmp {a b : ByteArray} (ha : Nz (bl a)) (hb : Nz (bl b)) : IsCmp (sf a b) (bl a) (bl b) := by
  refine cmp_short ha hb _ (fun h => ?_) (fun h => ?_) (fun h => ?_)
  · rw [size_bl, size_bl] at h
    unfold sf orI Lib.compareInt
    rw [if_pos (show (a.size : Int) < b.size by omega)]
    rfl
  · rw [size_bl, size_bl] at h
    unfold sf orI Lib.compareInt
    rw [if_neg (show ¬ (a.size : Int) < b.size by omega), if_pos (show (a.size : Int) > b.size by omega)]
    rfl
  · rw [size_bl, size_bl] at h
    unfold sf orI Lib.compareInt
    rw [if_neg (show ¬ (a.size : Int) < b.size by omega), if_neg (show ¬ (a.size : Int) > b.size by omega), if_pos rfl]
    exact ⟨Iff.rfl, Iff.rfl⟩
set_option maxHeartbeats 1000000 in
theorem shorterFirst_any (a b : ByteArray) (w : World) :
    Calls Tryd.prog 35 #[.string a, .string b] w fun e w' => e = .returned (.int .i64 (sf a b)) ∧ Below w.heap.size w w' := by
  have HC := hidL (fun w => Go.Proofs.Tryd.cmp_Compare_int a.size b.size w)
  have HS := hidL (fun w => Go.Proofs.Tryd.strings_Compare a b w)
  have HE : Hid (orI (Lib.compareInt a.size b.size) (Lib.compareBytes a.data.toList b.data.toList) = sf a b) := rfl
  generalize Lib.compareInt a.size b.size = x at *
  generalize Lib.compareBytes a.data.toList b.data.toList = y at *
  go_enter Tryd.func35, Tryd.ntmps35
  go_wp2_with fail
  refine (HC.out _).mono ?_
  rintro e w1 ⟨rfl, ew⟩
  subst w1
  go_wp2_with fail
  refine (HS.out _).mono ?_
  rintro e w1 ⟨rfl, ew⟩
  subst w1
  go_wp2_with fail
  refine (or_two _ x y _ (by simp) (by simp)).mono ?_
  rintro e w1 ⟨rfl, ew⟩
  have HB : Hid (Below w.heap.size w w1) := by show Below _ _ _; rw [ew]; exact belA _ _
  clear ew
  go_wp2
  go_ret
  exact ⟨ret_i HE.out, HB.out⟩
end Go.Proofs.YtgfaeeacndpniaaDoor

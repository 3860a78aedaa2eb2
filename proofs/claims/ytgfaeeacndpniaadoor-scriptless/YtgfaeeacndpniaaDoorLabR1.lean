/-
  The reference's label: which of two texts is ahead.
-/
import Derived.Test.YtgfaeeacndpniaaDoorLabR0
import Derived.Laws.Cover1
namespace Go.Proofs.YtgfaeeacndpniaaDoor
open Go.RowKit Go.Extern.Stop Go.Stop Go.Extern

theorem bl_cmp : ∀ a b : List UInt8, a.length = b.length → Op.bytesLess a b = decide (Lib.compareBytes a b < 0) ∧ (a == b) = decide (Lib.compareBytes a b = 0)
  | [], [], _ => by simp [Op.bytesLess, Lib.compareBytes]
  | [], _ :: _, h => by simp at h
  | _ :: _, [], h => by simp at h
  | a :: xs, b :: ys, h => by
    obtain ⟨i1, i2⟩ := bl_cmp xs ys (by simpa using h)
    unfold Op.bytesLess Lib.compareBytes
    by_cases h1 : a < b
    · have hne : a ≠ b := fun e => by rw [e] at h1; exact absurd h1 (by simp)
      simp [h1, hne]
    · by_cases h2 : b < a
      · have hne : a ≠ b := fun e => by rw [e] at h2; exact absurd h2 (by simp)
        simp [h1, h2, hne]
      · have hab : a = b := UInt8.toNat_inj.1 (by have := mt UInt8.lt_iff_toNat_lt.2 h1; have := mt UInt8.lt_iff_toNat_lt.2 h2; omega)
        subst hab
        simp only [h1, if_false]
        rw [i1]
        refine ⟨by simp, ?_⟩
        rw [← i2]
        simp
/-- A number that tells the reference's order. -/
theorem shorter_any (a b : ByteArray) (ha : Nz (bl a)) (hb : Nz (bl b)) (w : World) :
    ∃ c, IsCmp c (bl a) (bl b) ∧ Calls Tryd.prog 15 #[.string a, .string b] w fun e w' => e = .returned (.int .i64 c) ∧ w' = w := by
  rcases Nat.lt_trichotomy a.size b.size with k | k | k
  · refine ⟨-1, cmp_short ha hb _ (fun _ => rfl) (fun h => by first | rfl | (rw [size_bl, size_bl] at h; omega)) (fun h => by first | rfl | (rw [size_bl, size_bl] at h; omega)), ?_⟩
    have k' : (a.size : Int) < b.size := by omega
    have k2 : ((a.size : Int) != b.size) = true := by simp; omega
    clear ha hb
    go_enter Tryd.func15, Tryd.ntmps15
    go_wp2
    go_ret
    exact ⟨rfl, rfl⟩
  · obtain ⟨i1, i2⟩ := bl_cmp (bl a) (bl b) (by rw [size_bl, size_bl]; exact k)
    have k2 : ((a.size : Int) != b.size) = false := by rw [k]; simp
    have ea : a.toList = bl a := Lib.toList_data a
    have eb : b.toList = bl b := Lib.toList_data b
    rcases Int.lt_trichotomy (Lib.compareBytes (bl a) (bl b)) 0 with c | c | c
    · refine ⟨-1, cmp_short ha hb _ (fun h => by first | rfl | (rw [size_bl, size_bl] at h; omega)) (fun h => by first | rfl | (rw [size_bl, size_bl] at h; omega)) (fun _ => ⟨by omega, by omega⟩), ?_⟩
      have e1 : Op.bytesLess a.toList b.toList = true := by rw [ea, eb]; exact i1.trans (decide_eq_true c)
      clear ha hb i1 i2 c ea eb
      go_enter Tryd.func15, Tryd.ntmps15
      go_wp2
      go_ret
      exact ⟨rfl, rfl⟩
    · refine ⟨0, cmp_short ha hb _ (fun h => by first | rfl | (rw [size_bl, size_bl] at h; omega)) (fun h => by first | rfl | (rw [size_bl, size_bl] at h; omega)) (fun _ => ⟨by omega, by omega⟩), ?_⟩
      have e2 : (a.toList == b.toList) = true := by rw [ea, eb]; exact i2.trans (decide_eq_true c)
      have e3 : a.toList = b.toList := by simpa using e2
      have e1 : Op.bytesLess b.toList b.toList = false := by
        have : Op.bytesLess a.toList b.toList = false := by rw [ea, eb]; exact i1.trans (decide_eq_false (by omega))
        rw [e3] at this
        exact this
      clear e2
      clear ha hb i1 i2 c ea eb
      go_enter Tryd.func15, Tryd.ntmps15
      go_wp2
      go_ret
      exact ⟨rfl, rfl⟩
    · refine ⟨1, cmp_short ha hb _ (fun h => by first | rfl | (rw [size_bl, size_bl] at h; omega)) (fun h => by first | rfl | (rw [size_bl, size_bl] at h; omega)) (fun _ => ⟨by omega, by omega⟩), ?_⟩
      have e1 : Op.bytesLess a.toList b.toList = false := by rw [ea, eb]; exact i1.trans (decide_eq_false (by omega))
      have e2 : (a.toList == b.toList) = false := by rw [ea, eb]; exact i2.trans (decide_eq_false (by omega))
      clear ha hb i1 i2 c ea eb
      go_enter Tryd.func15, Tryd.ntmps15
      go_wp2
      go_ret
      exact ⟨rfl, rfl⟩
  · refine ⟨1, cmp_short ha hb _ (fun h => by first | rfl | (rw [size_bl, size_bl] at h; omega)) (fun _ => rfl) (fun h => by first | rfl | (rw [size_bl, size_bl] at h; omega)), ?_⟩
    have k' : decide ((a.size : Int) < b.size) = false := by simp; omega
    have k2 : ((a.size : Int) != b.size) = true := by simp; omega
    clear ha hb
    go_enter Tryd.func15, Tryd.ntmps15
    go_wp2
    go_ret
    exact ⟨rfl, rfl⟩

end Go.Proofs.YtgfaeeacndpniaaDoor

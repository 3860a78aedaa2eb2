/-
  The law's wordy: names that are words, each once.
-/
import Derived.Test.YtfnlcblalieolaaDoorWtRS
namespace Go.Proofs.YtfnlcblalieolaaDoor
open Go.RowKit

/-- What the law asks of the names. -/
structure Wordy (nm : List ByteArray) : Prop where
  few : nm.length ≤ 40
  sz : ∀ s, s ∈ nm → 1 ≤ s.size ∧ s.size ≤ 24
  ok : ∀ s, s ∈ nm → ∀ c, c ∈ bl s → 48 ≤ c.toNat
  nd : nm.Nodup
/-- The names ahead of the i-th are so. -/
structure WdAt (nm : List ByteArray) (i : Nat) : Prop where
  sz : ∀ j s, j < i → nm[j]? = some s → 1 ≤ s.size ∧ s.size ≤ 24
  ok : ∀ j s, j < i → nm[j]? = some s → ∀ c, c ∈ bl s → 48 ≤ c.toNat
  nd : ∀ j k s t, k < j → j < i → nm[j]? = some s → nm[k]? = some t → t ≠ s
theorem WdAt.all {nm : List ByteArray} (h : WdAt nm nm.length) (hf : nm.length ≤ 40) : Wordy nm := by
  refine ⟨hf, fun s hs => ?_, fun s hs => ?_, ?_⟩
  · obtain ⟨j, hj⟩ := List.getElem?_of_mem hs
    exact h.sz j s (List.getElem?_eq_some_iff.1 hj).1 hj
  · obtain ⟨j, hj⟩ := List.getElem?_of_mem hs
    exact h.ok j s (List.getElem?_eq_some_iff.1 hj).1 hj
  · rw [List.nodup_iff_pairwise_ne, List.pairwise_iff_getElem]
    intro k j hk hj hkj
    exact h.nd j k nm[j] nm[k] hkj hj (List.getElem?_eq_getElem hj) (List.getElem?_eq_getElem hk)
theorem WdAt.next {nm : List ByteArray} {i : Nat} {s : ByteArray} (h : WdAt nm i) (hs : nm[i]? = some s) (h1 : 1 ≤ s.size ∧ s.size ≤ 24) (h2 : ∀ c, c ∈ bl s → 48 ≤ c.toNat) (h3 : ∀ k t, k < i → nm[k]? = some t → t ≠ s) : WdAt nm (i + 1) := by
  have e : ∀ j t, j < i + 1 → nm[j]? = some t → j < i ∨ (j = i ∧ t = s) := fun j t hj ht => by
    rcases Nat.lt_or_ge j i with q | q
    · exact .inl q
    · obtain rfl : j = i := by omega
      rw [hs] at ht
      exact .inr ⟨rfl, (Option.some.inj ht).symm⟩
  refine ⟨fun j t hj ht => ?_, fun j t hj ht => ?_, fun j k t u hkj hj ht hu => ?_⟩
  · rcases e j t hj ht with q | ⟨_, rfl⟩
    · exact h.sz j t q ht
    · exact h1
  · rcases e j t hj ht with q | ⟨_, rfl⟩
    · exact h.ok j t q ht
    · exact h2
  · rcases e j t hj ht with q | ⟨rfl, rfl⟩
    · exact h.nd j k t u hkj q ht hu
    · exact h3 k u hkj hu
/-- What wordy answers. -/
def WdyR (nm : List ByteArray) (w : World) (e : Ending) (w' : World) : Prop := (∃ b, e = .returned (.bool b) ∧ (b = true → Wordy nm)) ∧ Below w.heap.size w w'
set_option maxHeartbeats 4000000 in
set_option maxRecDepth 100000 in
theorem wordy_w {w : World} {B : Nat} {na : Option Addr} {n nc : Nat} {nm : List ByteArray} (hN : NRd w B (.slice na n nc) nm) (hn : n = nm.length) (hbig : n ≤ 17592186044416) :
    Calls Tryd.prog 5 #[.slice na n nc] w (WdyR nm w) := by
  have HN := hidLL (And.intro hN hn)
  clear hN hn
  go_enter Tryd.func5, Tryd.ntmps5
  go_wp2_with fail
  go_loopw [3] (fun t wr => ∃ i q : Nat, i ≤ n ∧ t = .int .i64 i ∧ wr = w.drewN q ∧ WdAt nm i) (fun t _ => n - (RowKit.intOf t).toNat)
  case atStart => exact ⟨0, 0, by omega, rfl, rfl, ⟨fun j s h => by omega, fun j s h => by omega, fun j k s t h1 h2 => by omega⟩⟩
  case round =>
    obtain ⟨i, q, hi, rfl, rfl, hW⟩ := hrel
    have HW := hidLL hW
    clear hW
    by_cases hlt : i < n
    · have hiz : (i : Int) < n := by omega
      obtain ⟨x, hx⟩ : ∃ x, nm[i]? = some x := ⟨_, List.getElem?_eq_getElem (by have := HN.out.2; omega)⟩
      obtain ⟨g, o, rfl, _, cx⟩ := HN.out.1.at hx
      have HX := hidLL hx
      clear hx
      by_cases z0 : x.size = 0
      · have e0 : (((x.size : Nat) : Int) == 0) = true := by rw [z0]; rfl
        go_wp2
        go_ret
        exact ⟨⟨false, rfl, fun h => by cases h⟩, bdrewN (Below.refl _ _) _⟩
      · have e0 : (((x.size : Nat) : Int) == 0) = false := by rw [beq_eq_false_iff_ne]; omega
        by_cases z1 : 24 < x.size
        · have e1 : (24 : Int) < ((x.size : Nat) : Int) := by omega
          clear z0
          go_wp2
          go_ret
          exact ⟨⟨false, rfl, fun h => by cases h⟩, bdrewN (Below.refl _ _) _⟩
        · have e1 : ¬ (24 : Int) < ((x.size : Nat) : Int) := by omega
          have hpos : 0 < x.size := by omega
          have hposz : (0 : Int) < ((x.size : Nat) : Int) := by omega
          have HSZ : Hid (1 ≤ x.size ∧ x.size ≤ 24) := ⟨by omega, by omega⟩
          clear z0 z1
          by_cases z2 : ((x[0].toNat : Nat) : Int) < 97
          · go_wp2
            go_ret
            exact ⟨⟨false, rfl, fun h => by cases h⟩, bdrewN (Below.refl _ _) _⟩
          · by_cases z3 : (122 : Int) < ((x[0].toNat : Nat) : Int)
            · go_wp2
              go_ret
              exact ⟨⟨false, rfl, fun h => by cases h⟩, bdrewN (Below.refl _ _) _⟩
            · go_wp2_with fail
              clear z2 z3
              go_loopw [4] (fun t wr => ∃ k : Nat, k ≤ x.size ∧ t = .int .i64 k ∧ wr = w.drewN q ∧ ∀ j (h : j < x.size), j < k → 48 ≤ x[j].toNat) (fun t _ => x.size - (RowKit.intOf t).toNat)
              case atStart => exact ⟨0, by omega, rfl, rfl, fun j h1 h2 => by omega⟩
              case round =>
                obtain ⟨k, hk, rfl, rfl, hok⟩ := hrel
                have HOk := hidLL hok
                clear hok
                by_cases hlk : k < x.size
                · have hkz : (k : Int) < ((x.size : Nat) : Int) := by omega
                  by_cases a1 : (97 : Int) ≤ ((x[k].toNat : Nat) : Int)
                  · by_cases a2 : ((x[k].toNat : Nat) : Int) ≤ 122
                    · have HC : Hid (48 ≤ x[k].toNat) := by show _ ≤ _; omega
                      go_wp2
                      go_roundw
                      case rel => exact ⟨k + 1, by omega, by go_num, by first | rfl | trivial, fun j h1 h2 => by rcases Nat.lt_or_ge j k with q | q; exact HOk.out j h1 q; (obtain rfl : j = k := by omega); exact HC.out⟩
                      case measure => simp [RowKit.intOf]; omega
                    · have a3 : (48 : Int) ≤ ((x[k].toNat : Nat) : Int) := by omega
                      have a4 : ¬ ((x[k].toNat : Nat) : Int) ≤ 57 := by omega
                      have a5 : (((x[k].toNat : Nat) : Int) == 95) = false := by rw [beq_eq_false_iff_ne]; omega
                      go_wp2
                      go_ret
                      exact ⟨⟨false, rfl, fun h => by cases h⟩, bdrewN (Below.refl _ _) _⟩
                  · by_cases a3 : (48 : Int) ≤ ((x[k].toNat : Nat) : Int)
                    · have HC : Hid (48 ≤ x[k].toNat) := by show _ ≤ _; omega
                      by_cases a4 : ((x[k].toNat : Nat) : Int) ≤ 57
                      · go_wp2
                        go_roundw
                        case rel => exact ⟨k + 1, by omega, by go_num, by first | rfl | trivial, fun j h1 h2 => by rcases Nat.lt_or_ge j k with q | q; exact HOk.out j h1 q; (obtain rfl : j = k := by omega); exact HC.out⟩
                        case measure => simp [RowKit.intOf]; omega
                      · by_cases a6 : ((x[k].toNat : Nat) : Int) = 95
                        · have a5 : (((x[k].toNat : Nat) : Int) == 95) = true := by rw [a6]; rfl
                          clear a6
                          go_wp2
                          go_roundw
                          case rel => exact ⟨k + 1, by omega, by go_num, by first | rfl | trivial, fun j h1 h2 => by rcases Nat.lt_or_ge j k with q | q; exact HOk.out j h1 q; (obtain rfl : j = k := by omega); exact HC.out⟩
                          case measure => simp [RowKit.intOf]; omega
                        · have a5 : (((x[k].toNat : Nat) : Int) == 95) = false := by rw [beq_eq_false_iff_ne]; exact a6
                          clear a6
                          go_wp2
                          go_ret
                          exact ⟨⟨false, rfl, fun h => by cases h⟩, bdrewN (Below.refl _ _) _⟩
                    · have a5 : (((x[k].toNat : Nat) : Int) == 95) = false := by rw [beq_eq_false_iff_ne]; omega
                      go_wp2
                      go_ret
                      exact ⟨⟨false, rfl, fun h => by cases h⟩, bdrewN (Below.refl _ _) _⟩
                · obtain rfl : k = x.size := by omega
                  have hkz : ¬ ((x.size : Nat) : Int) < ((x.size : Nat) : Int) := by omega
                  have HAll : Hid (∀ c, c ∈ bl x → 48 ≤ c.toNat) := fun c hc => by
                    obtain ⟨j, hj⟩ := List.getElem?_of_mem hc
                    have hjl := (List.getElem?_eq_some_iff.1 hj).1
                    rw [size_bl] at hjl
                    rw [bl_get x j hjl] at hj
                    obtain rfl := Option.some.inj hj
                    exact HOk.out j hjl hjl
                  go_wp2_with fail
                  go_loopw [7] (fun t wr => ∃ k q2 : Nat, k ≤ i ∧ t = .int .i64 k ∧ wr = w.drewN q2 ∧ ∀ j t, j < k → nm[j]? = some t → t ≠ x) (fun t _ => i - (RowKit.intOf t).toNat)
                  case atStart => exact ⟨0, q, by omega, rfl, rfl, fun j t h => by omega⟩
                  case round =>
                    obtain ⟨k, q2, hk2, rfl, rfl, hne⟩ := hrel
                    have HNe := hidLL hne
                    clear hne
                    by_cases hki : k < i
                    · have hkiz : (k : Int) < (i : Int) := by omega
                      have hknz : (k : Int) < (n : Int) := by omega
                      obtain ⟨y, hy⟩ : ∃ y, nm[k]? = some y := ⟨_, List.getElem?_eq_getElem (by have := HN.out.2; omega)⟩
                      obtain ⟨g', o', e9, _, cy⟩ := HN.out.1.at hy
                      obtain ⟨rfl, rfl⟩ : g = g' ∧ o = o' := by injection e9 with e9; injection e9 with e1 e2 _; exact ⟨e1, e2⟩
                      have HY := hidLL hy
                      clear hy e9
                      by_cases hyx : y = x
                      · have hteq : (y.toList == x.toList) = true := by rw [hyx]; simp
                        clear hyx
                        go_wp2_with fail
                        go_quiet (fail)
                        go_wp2
                        go_ret
                        exact ⟨⟨false, rfl, fun h => by cases h⟩, bdrewN (bdrewN (Below.refl _ _) _) _⟩
                      · have hteq : (y.toList == x.toList) = false := by
                          rw [beq_eq_false_iff_ne]
                          intro e
                          exact hyx (toList_inj e)
                        have HYX := hidLL hyx
                        clear hyx
                        go_wp2_with fail
                        go_quiet (fail)
                        go_wp2
                        go_roundw
                        case rel => exact ⟨k + 1, _, by omega, by go_num, rfl, fun j t h1 h2 => by rcases Nat.lt_or_ge j k with q | q; exact HNe.out j t q h2; (obtain rfl : j = k := by omega); rw [HY.out] at h2; rw [← Option.some.inj h2]; exact HYX.out⟩
                        case measure => simp [RowKit.intOf]; omega
                    · obtain rfl : k = i := by omega
                      have hkiz : ¬ (k : Int) < (k : Int) := by omega
                      go_wp2
                      go_roundw
                      case rel => exact ⟨k + 1, _, by omega, by go_num, rfl, HW.out.next HX.out HSZ.out HAll.out fun j t h1 h2 => HNe.out j t h1 h2⟩
                      case measure => simp [RowKit.intOf]; omega
    · obtain rfl : i = n := by omega
      have hiz : ¬ (i : Int) < (i : Int) := by omega
      have HE : Hid (decide ((i : Int) ≤ 40) = true → Wordy nm) := fun h => by
        have hn := HN.out.2
        have hW := HW.out
        rw [hn] at hW
        exact hW.all (by have := of_decide_eq_true h; omega)
      go_wp2
      go_ret
      exact ⟨⟨_, rfl, HE.out⟩, bdrewN (Below.refl _ _) _⟩
end Go.Proofs.YtfnlcblalieolaaDoor

/-
  The walk of DayRead.
-/
import Derived.Test.YtepljjagfoiinaaDoorRefRead
import Derived.Test.YtepljjagfoiinaaDoorDayText
import Derived.Test.YtepljjagfoiinaaDoorFault
namespace Go.Proofs.YtepljjagfoiinaaDoor
open Go.RowKit Go.Extern.Stop Go.Stop Go.Extern

/-- Both tell the same fault, or the same day. -/
theorem agree_read (s : ByteArray) (hs : s.size ≤ 3000) (p : Nat → Addr) :
    (∃ (k : Nat) (pos : Int), k < 11 ∧ (∀ w, Laid w p → Calls Tryd.prog 16 #[.string s] w fun e w' => IsFault w w' e pos (p k)) ∧
      (∀ w, Calls Tryd.prog 17 #[.string s] w fun e w' => e = .returned (.tuple #[.int .i64 0, .agg #[.int .i64 (k + 1), .int .i64 pos]]) ∧ Below w.heap.size w w')) ∨
    (∃ v : Int, (∀ w, Calls Tryd.prog 16 #[.string s] w fun e w' => e = .returned (.tuple #[.int .i64 v, .nilIface]) ∧ Below w.heap.size w w') ∧
      (∀ w, Calls Tryd.prog 17 #[.string s] w fun e w' => e = .returned (.tuple #[.int .i64 v, .agg #[.int .i64 0, .int .i64 (-1)]]) ∧ Below w.heap.size w w')) := by
  rcases fit_or s 10 with ⟨i, hi, hf, hb⟩ | hf
  · exact .inl ⟨0, i, by omega, fun w L => read_bad s (p 0) w i hi hs (L.cell 0 (by omega)) hf hb, fun w => rRead_bad s w i hi hs hf hb⟩
  · obtain ⟨h9, _⟩ := hf 9 (by omega)
    by_cases hl : 10 < s.size
    · exact .inl ⟨0, 10, by omega, fun w L => read_long s (p 0) w hs hl (L.cell 0 (by omega)) hf, fun w => rRead_long s w hs hl hf⟩
    · have h10 : s.size = 10 := by omega
      by_cases hd : Date (dv s 0 4) (dv s 5 2) (dv s 8 2)
      · exact .inr ⟨_, fun w => read_of_ok s _ w h10 hf (fun w => of_ok _ _ _ w hd), fun w => rRead_of_ok s _ w h10 hf (fun w => rDayOf_ok _ _ _ w hd)⟩
      · exact .inl ⟨3, 0, by omega, fun w L => read_of_bad s (p 3) w h10 hf (L.cell 3 (by omega)) (fun w hc => of_bad _ _ _ (p 3) w hc hd), fun w => rRead_of_bad s w h10 hf (fun w => rDayOf_bad _ _ _ w hd)⟩

theorem agree_text (n : Int) : ∃ T : ByteArray, (∀ w, Lib.TabIs Tryd.prog w "internal/strconv.uint64pow10" .u64 Lib.pow10Tab → Calls Tryd.prog 19 #[.int .i64 n] w fun e w' => e = .returned (.string T) ∧ Below w.heap.size w w') ∧
    (∀ w, Calls Tryd.prog 20 #[.int .i64 n] w fun e w' => e = .returned (.string T) ∧ Below w.heap.size w w') := by
  cases h : isDayB n
  · exact ⟨_, fun w _ => text_no n w h, fun w => rText_no n w h⟩
  · obtain ⟨h1, h2⟩ := isDayB_iff.1 h
    obtain ⟨y, m, d, hd, rfl⟩ := date_ex h1 h2
    exact ⟨_, fun w ht => text_ok y m d w hd ht, fun w => rText_ok y m d w hd⟩

def s0 : ByteArray := ⟨#[48, 48, 48, 49, 45, 48, 49, 45, 48, 50]⟩
theorem fit0 : Fit s0 10 := by
  intro j hj
  have h : j = 0 ∨ j = 1 ∨ j = 2 ∨ j = 3 ∨ j = 4 ∨ j = 5 ∨ j = 6 ∨ j = 7 ∨ j = 8 ∨ j = 9 := by omega
  rcases h with rfl | rfl | rfl | rfl | rfl | rfl | rfl | rfl | rfl | rfl <;> exact ⟨by decide, by decide⟩
theorem read_first (w : World) : Calls Tryd.prog 16 #[.string ⟨#[48, 48, 48, 49, 45, 48, 49, 45, 48, 50]⟩] w fun e w' => e = .returned (.tuple #[.int .i64 2, .nilIface]) ∧ Below w.heap.size w w' := by
  refine read_of_ok s0 2 w (by decide) fit0 (fun w => ?_)
  have h := of_ok 1 1 2 w ⟨by decide, by decide, by decide, by decide, by decide, by decide⟩
  rw [show dof 1 1 2 = 2 by decide] at h
  have e1 : dv s0 0 4 = 1 := by decide
  have e2 : dv s0 5 2 = 1 := by decide
  have e3 : dv s0 8 2 = 2 := by decide
  rw [e1, e2, e3]
  exact h

set_option maxHeartbeats 4000000 in
set_option maxRecDepth 10000 in
theorem dayRead_walk (s : ByteArray) (n : Int) (p : Nat → Addr) (w : World) (hs : s.size ≤ maxLen) (L : Laid w p) (htab : Lib.TabIs Tryd.prog w "internal/strconv.uint64pow10" .u64 Lib.pow10Tab) :
    Calls Tryd.prog 5 #[.string s, .int .i64 n] w fun e w' => e = .returned (.bool true) ∧ Below w.heap.size w w' := by
  obtain ⟨T, ht1, ht2⟩ := agree_text n
  have HT1 := hidIt ht1
  have HT2 := hidIt ht2
  have HL := hidIt L
  have HTab := hidIt htab
  clear L htab ht1 ht2
  unfold maxLen at hs
  by_cases hlen : s.size ≤ 3000
  · have d1 : decide ((3000 : Int) < s.size) = false := by simp; omega
    rcases agree_read s hlen p with ⟨k, pos, hk, ha, hb⟩ | ⟨v, ha, hb⟩
    · have HA := hidIt ha
      have HB := hidIt hb
      clear ha hb
      go_enter Tryd.func5, Tryd.ntmps5
      go_wp2_with fail
      refine (read_first _).mono ?_
      rintro e w1 ⟨rfl, hb1⟩
      have H1 := hidIt hb1
      clear hb1
      go_wp2_with fail
      refine (HA.out _ (HL.out.below H1.out)).mono ?_
      rintro e w2 ⟨blk, rfl, hb2, hblk, f0, f1⟩
      have H2 := hidIt (H1.out.trans (hb2.mono H1.out.size))
      have F0 := hidIt f0
      have F1 := hidIt f1
      clear hb2 f0 f1
      go_wp2_with fail
      refine (HB.out _).mono ?_
      rintro e w3 ⟨rfl, hb3⟩
      have H3 := hidIt hb3
      clear hb3
      have hbl : blk < w2.heap.size := by
        have h := F0.out
        rcases Nat.lt_or_ge blk w2.heap.size with h' | h'
        · exact h'
        · simp [World.cell?, Array.getElem?_eq_none h'] at h
      have H4 := hidIt ((H3.out.alloc H3.out.size (.cells #[.int .i64 (k + 1), .int .i64 pos] 36)))
      have HB4 := hidIt (H2.out.trans (H4.out.mono H2.out.size))
      have g0 := hidIt ((H4.out.cell (p := ⟨blk, 0, none⟩) hbl).trans F0.out)
      have g1 := hidIt ((H4.out.cell (p := ⟨blk, 0 + 1, none⟩) hbl).trans F1.out)
      go_wp2_with fail
      refine (faulted_fault k hk p blk pos _ (HL.out.below HB4.out) g0.out g1.out).mono ?_
      rintro e w5 ⟨rfl, hb5⟩
      have H5 := hidIt (HB4.out.trans (hb5.mono HB4.out.size))
      clear hb5
      go_wp2_with fail
      refine (HT1.out _ (tab_below HTab.out H5.out (Nat.le_refl _))).mono ?_
      rintro e w6 ⟨rfl, hb6⟩
      have H6 := hidIt (H5.out.trans (hb6.mono H5.out.size))
      clear hb6
      go_wp2_with fail
      refine (HT2.out _).mono ?_
      rintro e w7 ⟨rfl, hb7⟩
      have H7 := hidIt (H6.out.trans (hb7.mono H6.out.size))
      clear hb7
      go_wp2
      go_ret
      exact ⟨rfl, H7.out⟩
    · have HA := hidIt ha
      have HB := hidIt hb
      clear ha hb
      go_enter Tryd.func5, Tryd.ntmps5
      go_wp2_with fail
      refine (read_first _).mono ?_
      rintro e w1 ⟨rfl, hb1⟩
      have H1 := hidIt hb1
      clear hb1
      go_wp2_with fail
      refine (HA.out _).mono ?_
      rintro e w2 ⟨rfl, hb2⟩
      have H2 := hidIt (H1.out.trans (hb2.mono H1.out.size))
      clear hb2
      go_wp2_with fail
      refine (HB.out _).mono ?_
      rintro e w3 ⟨rfl, hb3⟩
      have H3 := hidIt (H2.out.trans (hb3.mono H2.out.size))
      clear hb3
      have H4 := hidIt ((H3.out.alloc H3.out.size (.cells #[.int .i64 0, .int .i64 (-1)] 36)))
      go_wp2_with fail
      refine (faulted_nil (-1) _).mono ?_
      rintro e w5 ⟨rfl, hb5⟩
      have H5 := hidIt (H4.out.trans (hb5.mono H4.out.size))
      clear hb5
      go_wp2_with fail
      refine (HT1.out _ (tab_below HTab.out H5.out (Nat.le_refl _))).mono ?_
      rintro e w6 ⟨rfl, hb6⟩
      have H6 := hidIt (H5.out.trans (hb6.mono H5.out.size))
      clear hb6
      go_wp2_with fail
      refine (HT2.out _).mono ?_
      rintro e w7 ⟨rfl, hb7⟩
      have H7 := hidIt (H6.out.trans (hb7.mono H6.out.size))
      clear hb7
      go_wp2
      go_ret
      exact ⟨rfl, H7.out⟩
  · have d1 : decide ((3000 : Int) < s.size) = true := by simp; omega
    go_enter Tryd.func5, Tryd.ntmps5
    go_wp2_with fail
    refine (read_first _).mono ?_
    rintro e w1 ⟨rfl, hb1⟩
    go_wp2
    go_ret
    exact ⟨rfl, hb1⟩
end Go.Proofs.YtepljjagfoiinaaDoor

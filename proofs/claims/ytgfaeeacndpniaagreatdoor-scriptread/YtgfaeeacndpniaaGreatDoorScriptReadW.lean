/-
  The walk of ScriptRead.
-/
import Derived.Test.YtgfaeeacndpniaaGreatDoorLiveP
import Derived.Test.YtgfaeeacndpniaaGreatDoorRLawP
import Derived.Test.YtgfaeeacndpniaaGreatDoorSmallRead
import Derived.Test.YtgfaeeacndpniaaGreatDoorFault
namespace Go.Proofs.YtgfaeeacndpniaaGreatDoor
open Go.RowKit Go.Extern.Stop Go.Stop Go.Extern

theorem lies_none (w : World) : Lies w (fun _ => True) (vec4 (.string ⟨#[]⟩) (.string ⟨#[]⟩) (.slice none 0 0) (.slice none 0 0)) It.none :=
  .mk _ _ none none 0 0 (fun _ _ => .nilIface) rfl rfl rfl rfl (fun i s h => by cases h) (fun i h => absurd h (Nat.not_lt_zero _)) (fun i k h => by cases h) (Nat.le_refl _) (Nat.le_refl _)
theorem same_none (w : World) : Calls Tryz.prog 11 #[.agg #[.string ⟨#[]⟩, .string ⟨#[]⟩, .slice none 0 0, .slice none 0 0], .agg #[.string ⟨#[]⟩, .string ⟨#[]⟩, .slice none 0 0, .slice none 0 0]] w fun e w' => e = .returned (.bool true) ∧ Below w.heap.size w w' := by
  have hs : SmallIt It.none := small_leaf _ _
  have h := same_any hs w (fun _ => True) (fun _ => True) _ _ (lies_none w) (lies_none w)
  exact h
theorem pick2 (a b : Value) (t : TypeId) (w : World) : (w.alloc (.cells #[a, b] t)).cell? ⟨w.heap.size, 0, none⟩ = some a ∧ (w.alloc (.cells #[a, b] t)).cell? ⟨w.heap.size, 1, none⟩ = some b := ⟨by simp, by simp⟩
set_option maxHeartbeats 8000000 in
set_option maxRecDepth 10000 in
theorem scriptRead_walk (s : ByteArray) (hlen : s.size ≤ 9223372036854775807) (p : Nat → Addr) (m : Int) (w : World) (hE : Env w p m) :
    Calls Tryz.prog 3 #[.string s] w fun e w' => e = .returned (.bool true) ∧ Below w.heap.size w w' := by
  have HLv := hidLL (live_any p m w hE)
  have HE := hidLL hE
  clear hE
  by_cases hmid : 3000 < s.size ∧ s.size ≤ 30000
  · have h1 : (3000 : Int) < (s.size : Int) := by omega
    have h2 : (s.size : Int) ≤ 30000 := by omega
    have h1d : decide ((3000 : Int) < (s.size : Int)) = true := decide_eq_true h1
    have h2d : decide ((s.size : Int) ≤ 30000) = true := decide_eq_true h2
    clear hmid
    go_enter Tryz.func3, Tryz.ntmps3
    go_wp2_with fail
    go_at_call 7
    refine HLv.out.mono ?_
    rintro e w1 ⟨rfl, hb1⟩
    have HB1 := hidLL hb1
    clear hb1
    go_wp2
    go_ret
    exact ⟨rfl, HB1.out⟩
  have hs : s.size ≤ 3000 ∨ 30000 < s.size := by omega
  have HRd := hidLL (fun w hE => read_any s hs p m w hE)
  have HRL := hidLL (fun w => rlaw_any s hs w)
  have HSm := hidLL (fun t (h : readB s = .good t) => small_read h)
  have hdd : decide ((3000 : Int) < (s.size : Int)) = true ∧ decide ((s.size : Int) ≤ 30000) = false ∨ decide ((3000 : Int) < (s.size : Int)) = false := by
    rcases hs with h | h
    · exact .inr (decide_eq_false (by omega))
    · exact .inl ⟨decide_eq_true (by omega), decide_eq_false (by omega)⟩
  clear hmid hs
  generalize readB s = O at *
  go_enter Tryz.func3, Tryz.ntmps3
  go_wp2_with fail
  go_at_call 7
  refine HLv.out.mono ?_
  rintro e w1 ⟨rfl, hb1⟩
  have HB1 := hidLL hb1
  clear hb1
  rcases hdd with ⟨hd1, hd2⟩ | hd1
  all_goals
    go_wp2_with fail
    go_at_call 8
    refine (HRd.out _ (HE.out.on HB1.out)).mono ?_
    rintro e w2 ⟨hO, hb2⟩
    have HB2 := hidLL (HB1.out.trans (hb2.mono HB1.out.size))
    clear hb2
    cases O with
    | bad c i =>
      obtain ⟨k, blk, hc, hk, rfl, y0, y1⟩ := hO
      subst hc
      have hbk := cell_lt y0
      have HY := hidLL (And.intro y0 y1)
      clear y0 y1
      go_wp2_with fail
      go_at_call 9
      obtain ⟨W3, hW3⟩ : ∃ W3, W3 = w2.alloc (.cells #[.string ⟨#[]⟩, .string ⟨#[]⟩, .slice none 0 0, .slice none 0 0] 26) := ⟨_, rfl⟩
      have hb3 : Below w2.heap.size w2 W3 := by rw [hW3]; exact (Below.refl _ _).alloc (Nat.le_refl _) _
      have hx3 : W3.heap[w2.heap.size]? = some (.cells #[.string ⟨#[]⟩, .string ⟨#[]⟩, .slice none 0 0, .slice none 0 0] 26 (0, 0)) := by rw [hW3]; exact heap_alloc_new _ _
      have hs3 : w2.heap.size < W3.heap.size := by rw [hW3]; simp
      rw [← hW3]
      clear hW3
      refine (HRL.out _).mono ?_
      rintro e w4 ⟨hO4, hb4⟩
      have hO4 : e = _ := hO4
      subst hO4
      have hx4 : w4.heap[w2.heap.size]? = _ := (hb4.block w2.heap.size hs3).trans hx3
      have hb24 : Below w2.heap.size w2 w4 := hb3.trans (hb4.mono (by omega))
      have HB4 := hidLL (HB2.out.trans (hb24.mono (HB2.out.size)))
      have z0 := (hb24.cell (p := ⟨blk, 0, none⟩) hbk).trans HY.out.1
      have z1 := (hb24.cell (p := ⟨blk, 0 + 1, none⟩) hbk).trans HY.out.2
      have hs4 : w2.heap.size < w4.heap.size := by have := hb4.size; omega
      have hbk4 : blk < w4.heap.size := by omega
      obtain ⟨q0, q1, q2, q3, qf⟩ := four hx4
      have HZ := hidLL (And.intro z0 z1)
      clear hx3 hx4 hb3 hb4 hb24 z0 z1
      go_wp2_with fail
      go_at_call 10
      obtain ⟨W5, hW5⟩ : ∃ W5, W5 = (w4.alloc (.cells #[.string ⟨#[]⟩, .string ⟨#[]⟩, .slice none 0 0, .slice none 0 0] 26)).alloc (.cells #[.int .i64 ((k : Int) + 1), .int .i64 (i : Nat)] 32) := ⟨_, rfl⟩
      have hb5 : Below w4.heap.size w4 W5 := by rw [hW5]; exact ((Below.refl _ _).alloc (Nat.le_refl _) _).alloc (by simp) _
      have ha5 := alloc_two w4 (.cells #[.string ⟨#[]⟩, .string ⟨#[]⟩, .slice none 0 0, .slice none 0 0] 26) (.cells #[.int .i64 ((k : Int) + 1), .int .i64 (i : Nat)] 32)
      have hs5 : W5.heap.size = w4.heap.size + 2 := by rw [hW5]; simp
      rw [← hW5] at ha5
      rw [← hW5]
      have HS5 := hidLL hs5
      clear hW5 hs5
      have hE5 := HE.out.on (HB4.out.trans (hb5.mono HB4.out.size))
      refine (faulted_fault k hk p blk (i : Nat) W5 hE5.L ((hb5.cell (p := ⟨blk, 0, none⟩) hbk4).trans HZ.out.1) ((hb5.cell (p := ⟨blk, 0 + 1, none⟩) hbk4).trans HZ.out.2)).mono ?_
      rintro e w6 ⟨rfl, hb6⟩
      have hs6 := hb6.size
      have hb46 : Below w4.heap.size w4 w6 := hb5.trans (hb6.mono (by have := HS5.out; omega))
      have d0 := (hb46.cell (p := ⟨w2.heap.size, 0, none⟩) hs4).trans q0
      have d1 := (hb46.cell (p := ⟨w2.heap.size, 1, none⟩) hs4).trans q1
      have d2 := (hb46.cell (p := ⟨w2.heap.size, 2, none⟩) hs4).trans q2
      have d3 := (hb46.cell (p := ⟨w2.heap.size, 3, none⟩) hs4).trans q3
      have hx6 : w6.heap[w4.heap.size]? = _ := (hb6.block w4.heap.size (by have := HS5.out; omega)).trans ha5.1
      obtain ⟨c0, c1, c2, c3, cf⟩ := four hx6
      have HB6 := hidLL (HB4.out.trans (hb46.mono HB4.out.size))
      clear q0 q1 q2 q3 qf hx6 ha5 hb5 hb6 hb46 hE5
      go_wp2_with fail
      go_at_call 11
      refine (same_none w6).mono ?_
      rintro e w7 ⟨rfl, hb7⟩
      have HB7 := hidLL (HB6.out.trans (hb7.mono HB6.out.size))
      clear hb7
      go_wp2
      go_ret
      exact ⟨rfl, HB7.out⟩
    | good t =>
      obtain ⟨v, rfl, hL⟩ := hO
      have HL := hidLL hL
      obtain ⟨f0, f1, ⟨la, lc, f2⟩, ⟨ka, kc, f3⟩⟩ := hL.forms
      have HF := hidLL (And.intro f0 (And.intro f1 (And.intro f2 f3)))
      rw [f0, f1, f2, f3]
      clear hL f0 f1 f2 f3
      generalize t.label = l0 at *
      generalize t.head = l1 at *
      generalize t.lines.length = l2 at *
      generalize t.kids.length = l3 at *
      go_wp2_with fail
      go_at_call 9
      obtain ⟨W3, hW3⟩ : ∃ W3, W3 = w2.alloc (.cells #[.string l0, .string l1, .slice la l2 lc, .slice ka l3 kc] 26) := ⟨_, rfl⟩
      have hb3 : Below w2.heap.size w2 W3 := by rw [hW3]; exact (Below.refl _ _).alloc (Nat.le_refl _) _
      have hx3 : W3.heap[w2.heap.size]? = some (.cells #[.string l0, .string l1, .slice la l2 lc, .slice ka l3 kc] 26 (0, 0)) := by rw [hW3]; exact heap_alloc_new _ _
      have hs3 : w2.heap.size < W3.heap.size := by rw [hW3]; simp
      rw [← hW3]
      clear hW3
      refine (HRL.out _).mono ?_
      rintro e w4 ⟨⟨v', rfl, hL'⟩, hb4⟩
      obtain ⟨g0, g1, ⟨ma, mc, g2⟩, ⟨na, nc, g3⟩⟩ := hL'.forms
      have HG := hidLL (And.intro g0 (And.intro g1 (And.intro g2 g3)))
      rw [g0, g1, g2, g3]
      have hx4 : w4.heap[w2.heap.size]? = _ := (hb4.block w2.heap.size hs3).trans hx3
      have hb24 : Below w2.heap.size w2 w4 := hb3.trans (hb4.mono (by omega))
      have HB4 := hidLL (HB2.out.trans (hb24.mono (HB2.out.size)))
      have HL4 := hidLL (HL.out.bel hb24)
      have HL' := hidLL hL'
      have hs4 : w2.heap.size < w4.heap.size := by have := hb4.size; omega
      obtain ⟨q0, q1, q2, q3, qf⟩ := four hx4
      clear hx3 hx4 hb3 hb4 hb24 hL' g0 g1 g2 g3
      generalize t.label = m0 at *
      generalize t.head = m1 at *
      generalize t.lines.length = m2 at *
      generalize t.kids.length = m3 at *
      go_wp2_with fail
      go_at_call 10
      obtain ⟨W5, hW5⟩ : ∃ W5, W5 = (w4.alloc (.cells #[.string m0, .string m1, .slice ma m2 mc, .slice na m3 nc] 26)).alloc (.cells #[.int .i64 0, .int .i64 (-1)] 32) := ⟨_, rfl⟩
      have hb5 : Below w4.heap.size w4 W5 := by rw [hW5]; exact ((Below.refl _ _).alloc (Nat.le_refl _) _).alloc (by simp) _
      have ha5 := alloc_two w4 (.cells #[.string m0, .string m1, .slice ma m2 mc, .slice na m3 nc] 26) (.cells #[.int .i64 0, .int .i64 (-1)] 32)
      have hs5 : W5.heap.size = w4.heap.size + 2 := by rw [hW5]; simp
      rw [← hW5] at ha5
      rw [← hW5]
      have HS5 := hidLL hs5
      clear hW5 hs5
      refine (faulted_nil (-1) W5).mono ?_
      rintro e w6 ⟨rfl, hb6⟩
      have hs6 := hb6.size
      have hb46 : Below w4.heap.size w4 w6 := hb5.trans (hb6.mono (by have := HS5.out; omega))
      have d0 := (hb46.cell (p := ⟨w2.heap.size, 0, none⟩) hs4).trans q0
      have d1 := (hb46.cell (p := ⟨w2.heap.size, 1, none⟩) hs4).trans q1
      have d2 := (hb46.cell (p := ⟨w2.heap.size, 2, none⟩) hs4).trans q2
      have d3 := (hb46.cell (p := ⟨w2.heap.size, 3, none⟩) hs4).trans q3
      have hx6 : w6.heap[w4.heap.size]? = _ := (hb6.block w4.heap.size (by have := HS5.out; omega)).trans ha5.1
      obtain ⟨c0, c1, c2, c3, cf⟩ := four hx6
      have HB6 := hidLL (HB4.out.trans (hb46.mono HB4.out.size))
      have HSa := hidLL (same_any (HSm.out t rfl) w6 _ _ v v' (HL4.out.bel hb46) (HL'.out.bel hb46))
      rw [HF.out.1, HF.out.2.1, HF.out.2.2.1, HF.out.2.2.2, HG.out.1, HG.out.2.1, HG.out.2.2.1, HG.out.2.2.2] at HSa
      clear q0 q1 q2 q3 qf hx6 ha5 hb5 hb6 hb46
      go_wp2_with fail
      go_at_call 11
      refine HSa.out.mono ?_
      rintro e w7 ⟨rfl, hb7⟩
      have HB7 := hidLL (HB6.out.trans (hb7.mono HB6.out.size))
      clear hb7
      go_wp2
      go_ret
      exact ⟨rfl, HB7.out⟩
end Go.Proofs.YtgfaeeacndpniaaGreatDoor

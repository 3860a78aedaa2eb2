/-
  The reference's ReadTerm by contracts (written by tools/genrterm.py).
-/
import Derived.Test.YtplhamloddighaaDoorRTerm1
namespace Go.Proofs.YtplhamloddighaaDoor
open Go.RowKit Go.Extern.Stop Go.Stop Go.Extern

/-- The answer's cells. -/
structure R2 (w wr : World) : Prop where
  r0 : wr.cell? ⟨w.heap.size, 0, none⟩ = some (.int .i64 0)
  r1 : wr.cell? ⟨w.heap.size, 0 + 1, none⟩ = some (.int .i64 0)
  r2 : wr.cell? ⟨w.heap.size, 0 + 2, none⟩ = some (.int .i64 0)
  g0 : wr.frozen? ⟨w.heap.size, 0, none⟩ = false
  g1 : wr.frozen? ⟨w.heap.size, 0 + 1, none⟩ = false
  g2 : wr.frozen? ⟨w.heap.size, 0 + 2, none⟩ = false
  q0 : wr.cell? ⟨w.heap.size + 1, 0, none⟩ = some (.int .i64 0)
  q1 : wr.cell? ⟨w.heap.size + 1, 0 + 1, none⟩ = some (.int .i64 0)
  h0 : wr.frozen? ⟨w.heap.size + 1, 0, none⟩ = false
  h1 : wr.frozen? ⟨w.heap.size + 1, 0 + 1, none⟩ = false
  bel : Below w.heap.size w wr
theorem R2.start (w : World) (t u : TypeId) : R2 w ((w.alloc (.cells #[.int .i64 0, .int .i64 0, .int .i64 0] t)).alloc (.cells #[.int .i64 0, .int .i64 0] u)) := by
  refine ⟨?_, ?_, ?_, ?_, ?_, ?_, ?_, ?_, ?_, ?_, ((Below.refl _ _).alloc (Nat.le_refl _) _).alloc (by simp) _⟩
  all_goals simp
theorem R2.res {w W : World} (h : R2 w W) (x0 x1 x2 y0 y1 : Value) :
    (((((W.setCell ⟨w.heap.size, 0, none⟩ x0).setCell ⟨w.heap.size, 1, none⟩ x1).setCell ⟨w.heap.size, 2, none⟩ x2).setCell ⟨w.heap.size + 1, 0, none⟩ y0).setCell ⟨w.heap.size + 1, 1, none⟩ y1).cell? ⟨w.heap.size, 0, none⟩ = some x0 ∧ (((((W.setCell ⟨w.heap.size, 0, none⟩ x0).setCell ⟨w.heap.size, 1, none⟩ x1).setCell ⟨w.heap.size, 2, none⟩ x2).setCell ⟨w.heap.size + 1, 0, none⟩ y0).setCell ⟨w.heap.size + 1, 1, none⟩ y1).cell? ⟨w.heap.size, 1, none⟩ = some x1 ∧ (((((W.setCell ⟨w.heap.size, 0, none⟩ x0).setCell ⟨w.heap.size, 1, none⟩ x1).setCell ⟨w.heap.size, 2, none⟩ x2).setCell ⟨w.heap.size + 1, 0, none⟩ y0).setCell ⟨w.heap.size + 1, 1, none⟩ y1).cell? ⟨w.heap.size, 2, none⟩ = some x2 ∧ (((((W.setCell ⟨w.heap.size, 0, none⟩ x0).setCell ⟨w.heap.size, 1, none⟩ x1).setCell ⟨w.heap.size, 2, none⟩ x2).setCell ⟨w.heap.size + 1, 0, none⟩ y0).setCell ⟨w.heap.size + 1, 1, none⟩ y1).cell? ⟨w.heap.size + 1, 0, none⟩ = some y0 ∧ (((((W.setCell ⟨w.heap.size, 0, none⟩ x0).setCell ⟨w.heap.size, 1, none⟩ x1).setCell ⟨w.heap.size, 2, none⟩ x2).setCell ⟨w.heap.size + 1, 0, none⟩ y0).setCell ⟨w.heap.size + 1, 1, none⟩ y1).cell? ⟨w.heap.size + 1, 1, none⟩ = some y1 := by
  have hne : w.heap.size + 1 ≠ w.heap.size := by omega
  have hne2 : w.heap.size ≠ w.heap.size + 1 := by omega
  refine ⟨?_, ?_, ?_, ?_, ?_⟩
  · rw [World.cell?_setCell_other _ _ _ _ (by intro e; injection e with e1; exact hne e1), World.cell?_setCell_other _ _ _ _ (by intro e; injection e with e1; exact hne e1)]; exact rs0 h.r0 _ _ _
  · rw [World.cell?_setCell_other _ _ _ _ (by intro e; injection e with e1; exact hne e1), World.cell?_setCell_other _ _ _ _ (by intro e; injection e with e1; exact hne e1)]; exact rs1 h.r1 _ _ _
  · rw [World.cell?_setCell_other _ _ _ _ (by intro e; injection e with e1; exact hne e1), World.cell?_setCell_other _ _ _ _ (by intro e; injection e with e1; exact hne e1)]; exact rs2 h.r2 _ _ _
  · rw [World.cell?_setCell_other _ _ _ _ (by intro e; cases e)]
    exact World.cell?_setCell_same _ _ _ (by
      rw [World.cell?_setCell_other _ _ _ _ (by intro e; injection e with e1; exact hne2 e1), World.cell?_setCell_other _ _ _ _ (by intro e; injection e with e1; exact hne2 e1), World.cell?_setCell_other _ _ _ _ (by intro e; injection e with e1; exact hne2 e1)]; exact h.q0)
  · exact World.cell?_setCell_same _ _ _ (by
      rw [World.cell?_setCell_other _ _ _ _ (by intro e; cases e), World.cell?_setCell_other _ _ _ _ (by intro e; injection e with e1; exact hne2 e1), World.cell?_setCell_other _ _ _ _ (by intro e; injection e with e1; exact hne2 e1), World.cell?_setCell_other _ _ _ _ (by intro e; injection e with e1; exact hne2 e1)]; exact h.q1)
theorem R2.bel5 {w W : World} (h : R2 w W) (x0 x1 x2 y0 y1 : Value) : Below w.heap.size w (((((W.setCell ⟨w.heap.size, 0, none⟩ x0).setCell ⟨w.heap.size, 1, none⟩ x1).setCell ⟨w.heap.size, 2, none⟩ x2).setCell ⟨w.heap.size + 1, 0, none⟩ y0).setCell ⟨w.heap.size + 1, 1, none⟩ y1) :=
  ((((h.bel.setCell (Nat.le_refl _) _).setCell (Nat.le_refl _) _).setCell (Nat.le_refl _) _).setCell (Nat.le_succ _) _).setCell (Nat.le_succ _) _
theorem R2.on {w wr wr' : World} (h : R2 w wr) (hl : w.heap.size + 2 ≤ wr.heap.size) (hb : Below wr.heap.size wr wr') (hf : ∀ a : Addr, a.block < wr.heap.size → wr'.frozen? a = wr.frozen? a) : R2 w wr' := by
  have l0 : w.heap.size < wr.heap.size := by omega
  have l1 : w.heap.size + 1 < wr.heap.size := by omega
  exact ⟨(hb.cell (p := ⟨w.heap.size, 0, none⟩) l0).trans h.r0, (hb.cell (p := ⟨w.heap.size, 0 + 1, none⟩) l0).trans h.r1, (hb.cell (p := ⟨w.heap.size, 0 + 2, none⟩) l0).trans h.r2, (hf _ l0).trans h.g0, (hf _ l0).trans h.g1, (hf _ l0).trans h.g2,
    (hb.cell (p := ⟨w.heap.size + 1, 0, none⟩) l1).trans h.q0, (hb.cell (p := ⟨w.heap.size + 1, 0 + 1, none⟩) l1).trans h.q1, (hf _ l1).trans h.h0, (hf _ l1).trans h.h1, h.bel.trans (hb.mono h.bel.size)⟩
/-- The term that is read (block b), and the words behind it. -/
structure RT (w wr : World) (b : Nat) (N U R : Int) : Prop where
  r : R2 w wr
  c0 : wr.cell? ⟨b, 0, none⟩ = some (.int .i64 N)
  c1 : wr.cell? ⟨b, 0 + 1, none⟩ = some (.int .i64 U)
  c2 : wr.cell? ⟨b, 0 + 2, none⟩ = some (.int .i64 R)
  f0 : wr.frozen? ⟨b, 0, none⟩ = false
  f1 : wr.frozen? ⟨b, 0 + 1, none⟩ = false
  f2 : wr.frozen? ⟨b, 0 + 2, none⟩ = false
  ks : ∀ j : Nat, j < 5 → wr.cell? ⟨b + 1, j, none⟩ = some (.string (wdS j))
  le : w.heap.size + 2 ≤ b
theorem RT.start {w w1 : World} (h : R2 w w1) (hl : w.heap.size + 2 ≤ w1.heap.size) (N : Int) (t u : TypeId) :
    RT w ((w1.alloc (.cells #[.int .i64 N, .int .i64 (-1), .int .i64 0] t)).alloc (.cells #[.string (wdS 0), .string (wdS 1), .string (wdS 2), .string (wdS 3), .string (wdS 4)] u)) w1.heap.size N (-1) 0 := by
  have b1 : Below w1.heap.size w1 (w1.alloc (.cells #[.int .i64 N, .int .i64 (-1), .int .i64 0] t)) := (Below.refl _ _).alloc (Nat.le_refl _) _
  refine ⟨h.on hl (b1.alloc b1.size _) (fun a ha => ?_), ?_, ?_, ?_, ?_, ?_, ?_, fun j hj => ?_, hl⟩
  · rw [frozen?_alloc_cells, frozen?_alloc_cells]
  · simp
  · simp
  · simp
  · simp
  · simp
  · simp
  · rw [World.cell?_alloc_at _ _ _ _ (by simp)]
    have : j = 0 ∨ j = 1 ∨ j = 2 ∨ j = 3 ∨ j = 4 := by omega
    rcases this with rfl | rfl | rfl | rfl | rfl <;> rfl
theorem RT.setAt {w wr : World} {b : Nat} {N U R : Int} (h : RT w wr b N U R) (k : Nat) (x : Value) : R2 w (wr.setCell ⟨b, k, none⟩ x) ∧ (∀ j : Nat, j < 5 → (wr.setCell ⟨b, k, none⟩ x).cell? ⟨b + 1, j, none⟩ = some (.string (wdS j))) := by
  have hl := h.le
  have hne : b ≠ w.heap.size := by omega
  have hne1 : b ≠ w.heap.size + 1 := by omega
  have hne2 : b ≠ b + 1 := by omega
  refine ⟨⟨?_, ?_, ?_, by simpa using h.r.g0, by simpa using h.r.g1, by simpa using h.r.g2, ?_, ?_, by simpa using h.r.h0, by simpa using h.r.h1, h.r.bel.setCell (show w.heap.size ≤ b by omega) _⟩, fun j hj => ?_⟩
  · rw [World.cell?_setCell_other _ _ _ _ (by intro e; injection e with e1; exact hne e1)]; exact h.r.r0
  · rw [World.cell?_setCell_other _ _ _ _ (by intro e; injection e with e1; exact hne e1)]; exact h.r.r1
  · rw [World.cell?_setCell_other _ _ _ _ (by intro e; injection e with e1; exact hne e1)]; exact h.r.r2
  · rw [World.cell?_setCell_other _ _ _ _ (by intro e; injection e with e1; exact hne1 e1)]; exact h.r.q0
  · rw [World.cell?_setCell_other _ _ _ _ (by intro e; injection e with e1; exact hne1 e1)]; exact h.r.q1
  · rw [World.cell?_setCell_other _ _ _ _ (by intro e; injection e with e1; exact hne2 e1)]; exact h.ks j hj
theorem RT.setU {w wr : World} {b : Nat} {N U R : Int} (h : RT w wr b N U R) (x : Int) : RT w (wr.setCell ⟨b, 0 + 1, none⟩ (.int .i64 x)) b N x R := by
  refine ⟨(h.setAt _ _).1, ?_, World.cell?_setCell_same _ _ _ h.c1, ?_, by simpa using h.f0, by simpa using h.f1, by simpa using h.f2, (h.setAt _ _).2, h.le⟩
  · rw [World.cell?_setCell_other _ _ _ _ (by intro e; cases e)]; exact h.c0
  · rw [World.cell?_setCell_other _ _ _ _ (by intro e; cases e)]; exact h.c2
theorem RT.setR {w wr : World} {b : Nat} {N U R : Int} (h : RT w wr b N U R) (x : Int) : RT w (wr.setCell ⟨b, 0 + 2, none⟩ (.int .i64 x)) b N U x := by
  refine ⟨(h.setAt _ _).1, ?_, ?_, World.cell?_setCell_same _ _ _ h.c2, by simpa using h.f0, by simpa using h.f1, by simpa using h.f2, (h.setAt _ _).2, h.le⟩
  · rw [World.cell?_setCell_other _ _ _ _ (by intro e; cases e)]; exact h.c0
  · rw [World.cell?_setCell_other _ _ _ _ (by intro e; cases e)]; exact h.c1
theorem rout {s : ByteArray} {n u r c a : Int} (h : tout s = ⟨n, u, r, c, a⟩) : Ending.returned (.tuple #[.agg #[.int .i64 n, .int .i64 u, .int .i64 r], .agg #[.int .i64 c, .int .i64 a]]) = .returned (.tuple #[.agg #[.int .i64 (tout s).n, .int .i64 (tout s).u, .int .i64 (tout s).r], .agg #[.int .i64 (tout s).c, .int .i64 (tout s).a]]) := by rw [h]
theorem pos_eq' {s : ByteArray} {x y : Int} (h : tout s = ⟨0, 0, 0, 1, x⟩) (e : x = y) : tout s = ⟨0, 0, 0, 1, y⟩ := by rw [h, e]
theorem byte_ne' (c k : UInt8) (n : Int) (hk : (k.toNat : Int) = n) : (((c.toNat : Nat) : Int) != n) = !(c == k) := by rw [bne, byte_eq c k n hk]

set_option maxHeartbeats 16000000 in
set_option maxRecDepth 10000 in
theorem rReadTerm_any (s : ByteArray) (w : World) (hs : s.size ≤ 3000) :
    Calls Tryd.prog 20 #[.string s] w fun e w' => e = .returned (.tuple #[.agg #[.int .i64 (tout s).n, .int .i64 (tout s).u, .int .i64 (tout s).r], .agg #[.int .i64 (tout s).c, .int .i64 (tout s).a]]) ∧ Below w.heap.size w w' := by
  obtain ⟨a, ha⟩ : ∃ a, a = runDg s := ⟨_, rfl⟩
  have HK : Hid (∀ i, i < a → ∃ hs : i < s.size, isDg s[i] = true) := by rw [ha]; exact runDg_at s
  have HKe : Hid (∀ hs : a < s.size, isDg s[a] = false) := by
    intro hsz
    have : ∀ (i : Nat) (hi : i < s.size), i = runDg s → isDg s[i] = false := fun i hi e => by subst e; exact runDg_end s hi
    exact this a hsz ha
  have hle : a ≤ s.size := by rw [ha]; exact runDg_le s
  have HPb : Hid (∀ k, k ≤ a → 0 ≤ rs s k ∧ rs s k ≤ 10995116277769) := by rw [ha]; exact rs_bd s
  have HPs : Hid (∀ k, rs s (k + 1) = if rs s k < 1099511627776 then rs s k * 10 + dig s k else rs s k) := fun k => rfl
  have HDa := hidIt (dig_at s)
  have HA := hidIt ha
  clear ha
  go_enter Tryd.func20, Tryd.ntmps20
  go_wp2_with fail
  obtain ⟨w1, hw1⟩ : ∃ w1, w1 = (w.alloc (.cells #[.int .i64 0, .int .i64 0, .int .i64 0] 45)).alloc (.cells #[.int .i64 0, .int .i64 0] 53) := ⟨_, rfl⟩
  rw [← hw1]
  have HR : Hid (R2 w w1) := by show R2 _ _; rw [hw1]; exact R2.start w _ _
  have HSz : Hid (w.heap.size + 2 ≤ w1.heap.size) := by show _ ≤ _; rw [hw1]; simp
  clear hw1
  go_loop [4, 5] (fun t n => ∃ i : Nat, i ≤ a ∧ t = .int .i64 i ∧ n = .int .i64 (rs s i)) (fun t _ => s.size - (RowKit.intOf t).toNat)
  case atStart => exact ⟨0, by omega, rfl, rfl⟩
  case round =>
    obtain ⟨i, hi, rfl, rfl⟩ := hrel
    obtain ⟨p1, p2⟩ := HPb.out i hi
    by_cases hlt : i < a
    · obtain ⟨hsz, hd⟩ := HK.out i hlt
      have hiz : (i : Int) < s.size := by omega
      have hb := dg_bd hd
      have HI := hidIt (fun w => rIsDigit_t s[i] w)
      rw [hd] at HI
      clear hd
      have HQ := hidIt (HPs.out i)
      rw [HDa.out i hsz] at HQ
      by_cases hq : rs s i < 1099511627776
      · rw [if_pos hq] at HQ
        generalize rs s i = q at *
        go_wp2_with (go_at_call 45; refine (HI.out _).mono ?_; rintro e w' ⟨rfl, rfl⟩)
        go_round
        case rel => exact ⟨i + 1, by omega, by go_num, by rw [HQ.out]⟩
        case measure => simp [RowKit.intOf]; omega
      · rw [if_neg hq] at HQ
        generalize rs s i = q at *
        go_wp2_with (go_at_call 45; refine (HI.out _).mono ?_; rintro e w' ⟨rfl, rfl⟩)
        go_round
        case rel => exact ⟨i + 1, by omega, by go_num, by rw [HQ.out]⟩
        case measure => simp [RowKit.intOf]; omega
    · obtain rfl : i = a := by omega
      clear HK HPb HPs HDa hlt hi
      by_cases a0 : i = 0
      · have HO : Hid (tout s = ⟨0, 0, 0, 1, 0⟩) := by
          show _ = _
          have h := len0_none (s := s) (by rw [← HA.out]; exact a0)
          have := tout_1 (s := s) (.inl h)
          rw [h] at this
          exact this
        have e0 : ((i : Int) == 0) = true := by simp; omega
        clear a0
        rcases Nat.lt_or_ge i s.size with hsz | hsz
        · have hiz : (i : Int) < s.size := by omega
          have HI := hidIt (fun w => rIsDigit_t s[i] w)
          rw [HKe.out hsz] at HI
          have r0 := HR.out.r0
          have r1 := HR.out.r1
          have r2 := HR.out.r2
          have g0 := HR.out.g0
          have g1 := HR.out.g1
          have g2 := HR.out.g2
          have q0 := HR.out.q0
          have q1 := HR.out.q1
          have h0 := HR.out.h0
          have h1 := HR.out.h1
          have rr := R2.res HR.out (.int .i64 0) (.int .i64 0) (.int .i64 0) (.int .i64 1) (.int .i64 0)
          go_wp2_with (go_at_call 45; refine (HI.out _).mono ?_; rintro e w' ⟨rfl, rfl⟩)
          exact bodyPost_ret (v := .tuple #[.agg #[.int .i64 0, .int .i64 0, .int .i64 0], .agg #[.int .i64 1, .int .i64 0]]) (by simp [results, Tryd.results20, go_sem, rr.1, rr.2.1, rr.2.2.1, rr.2.2.2.1, rr.2.2.2.2]) rfl ⟨rout HO.out, R2.bel5 HR.out _ _ _ _ _⟩
        · have d0 : decide ((i : Int) < s.size) = false := by simp; omega
          have r0 := HR.out.r0
          have r1 := HR.out.r1
          have r2 := HR.out.r2
          have g0 := HR.out.g0
          have g1 := HR.out.g1
          have g2 := HR.out.g2
          have q0 := HR.out.q0
          have q1 := HR.out.q1
          have h0 := HR.out.h0
          have h1 := HR.out.h1
          have rr := R2.res HR.out (.int .i64 0) (.int .i64 0) (.int .i64 0) (.int .i64 1) (.int .i64 0)
          go_wp2
          exact bodyPost_ret (v := .tuple #[.agg #[.int .i64 0, .int .i64 0, .int .i64 0], .agg #[.int .i64 1, .int .i64 0]]) (by simp [results, Tryd.results20, go_sem, rr.1, rr.2.1, rr.2.2.1, rr.2.2.2.1, rr.2.2.2.2]) rfl ⟨rout HO.out, R2.bel5 HR.out _ _ _ _ _⟩
      rcases Nat.lt_or_ge i s.size with hsz | hsz
      · have hiz : (i : Int) < s.size := by omega
        have HI := hidIt (fun w => rIsDigit_t s[i] w)
        rw [HKe.out hsz] at HI
        have e0 : ((i : Int) == 0) = false := by simp; omega
        have i1 : 0 < s.size := by omega
        have i1' : (0 : Int) < s.size := by omega
        by_cases c1 : 1 < i
        · have c1' : (1 : Int) < i := by omega
          cases hz : atIs s 0 48
          · have e1 : (((s[0].toNat : Nat) : Int) == 48) = false := by rw [byte_eq _ 48 48 (by decide), ← atIs_in i1, hz]
            have HNz : Hid (¬ (1 < runDg s ∧ atIs s 0 48 = true)) := by show ¬ _; rw [hz]; simp
            have HL0 : Hid (len0 s = i) := by show _ = _; rw [len0_run (by rw [← HA.out]; omega) HNz.out, ← HA.out]
            have e2 : ((i : Int) == s.size) = false := by simp; omega
            cases hb : atIs s i 32
            · have HO : Hid (tout s = ⟨0, 0, 0, 1, i⟩) := by
                show _ = _
                have := tout_1 (s := s) (.inr (by rw [HL0.out]; exact hb))
                rw [HL0.out] at this
                exact this
              have e3 : (((s[i].toNat : Nat) : Int) != 32) = true := by rw [byte_ne' _ 32 32 (by decide), ← atIs_in hsz, hb]; rfl
              have r0 := HR.out.r0
              have r1 := HR.out.r1
              have r2 := HR.out.r2
              have g0 := HR.out.g0
              have g1 := HR.out.g1
              have g2 := HR.out.g2
              have q0 := HR.out.q0
              have q1 := HR.out.q1
              have h0 := HR.out.h0
              have h1 := HR.out.h1
              have rr := R2.res HR.out (.int .i64 0) (.int .i64 0) (.int .i64 0) (.int .i64 1) (.int .i64 i)
              go_wp2_with (go_at_call 45; refine (HI.out _).mono ?_; rintro e w' ⟨rfl, rfl⟩)
              exact bodyPost_ret (v := .tuple #[.agg #[.int .i64 0, .int .i64 0, .int .i64 0], .agg #[.int .i64 1, .int .i64 i]]) (by simp [results, Tryd.results20, go_sem, rr.1, rr.2.1, rr.2.2.1, rr.2.2.2.1, rr.2.2.2.2]) rfl ⟨rout HO.out, R2.bel5 HR.out _ _ _ _ _⟩
            · have e3 : (((s[i].toNat : Nat) : Int) != 32) = false := by rw [byte_ne' _ 32 32 (by decide), ← atIs_in hsz, hb]; rfl
              have HC1 : Hid (¬ (len0 s = 0 ∨ atIs s (len0 s) 32 = false)) := by show ¬ _; rw [HL0.out, hb]; simp [a0]
              have HN : Hid ((num s ≤ 100000 ∧ rs s i = num s) ∨ (100000 < num s ∧ 100000 < rs s i)) := by
                have := num_rs (s := s) (by rw [← HA.out]; omega) HNz.out
                rw [← HA.out] at this
                exact this
              obtain ⟨u, hu⟩ : ∃ u, u = uOf s := ⟨_, rfl⟩
              obtain ⟨u1, u2, u3⟩ : -1 ≤ u ∧ u ≤ 4 ∧ IsUnit (bl (s.extract (i + 1) s.size)) u := by
                have := unitOf_spec (bl (s.extract (len0 s + 1) s.size))
                have e : uOf s = unitOf (bl (s.extract (len0 s + 1) s.size)) := rfl
                rw [← e, HL0.out, ← hu] at this
                exact this
              have HU := hidIt hu
              have HSt : Hid (∀ (j : Nat) (w : World), j < 5 → Calls Tryd.prog 46 #[.string s, .int .i64 ((i : Int) + 1), .string (wdS j)] w fun e w' => e = .returned (.bool (decide ((j : Int) = u))) ∧ w' = w) := fun j w hj => by
                have := starts_any s (wdS j) (i + 1) w hs (by have := wdS_size j; omega) (by omega)
                rw [show bl (wdS j) = wdL j from bl_wdS j, u3 j hj, show ((i + 1 : Nat) : Int) = i + 1 by omega] at this
                exact this
              generalize rs s i = n at *
              clear hb hu u3
              go_wp2_with fail
              refine (HI.out _).mono ?_
              rintro e w9 ⟨rfl, ew⟩
              subst w9
              go_wp2_with fail
              go_loopw [8] (fun t wr => ∃ j : Nat, j ≤ 5 ∧ t = .int .i64 j ∧ RT w wr w1.heap.size n (if u < (j : Int) then u else -1) 0) (fun t _ => 5 - (RowKit.intOf t).toNat)
              case atStart =>
                refine ⟨0, by omega, rfl, ?_⟩
                rw [show (if u < ((0 : Nat) : Int) then u else -1) = -1 by split <;> omega]
                exact RT.start HR.out HSz.out n _ _
              case round =>
                obtain ⟨j, hj, rfl, hT⟩ := hrel
                have HT := hidIt hT
                clear hT
                by_cases hl : j < 5
                · have hjz : (j : Int) < 5 := by omega
                  have kj := HT.out.ks j hl
                  have kj' : wr.cell? ⟨w1.heap.size + 1, 0 + j, none⟩ = some (.string (wdS j)) := by rw [Nat.zero_add]; exact kj
                  have HS := hidIt (fun w => HSt.out j w hl)
                  by_cases je : (j : Int) = u
                  · rw [show decide ((j : Int) = u) = true by simpa using je] at HS
                    have c1 := HT.out.c1
                    have f1 := HT.out.f1
                    have HT2 := hidIt (HT.out.setU j)
                    have HE : Hid ((if u < ((j + 1 : Nat) : Int) then u else -1) = (j : Int)) := by show _ = _; rw [if_pos (by omega)]; exact je.symm
                    clear je
                    go_wp2_with fail
                    refine (HS.out _).mono ?_
                    rintro e w3 ⟨rfl, ew⟩
                    subst w3
                    go_wp2
                    go_round
                    case rel => exact ⟨j + 1, by omega, by go_num, by rw [HE.out]; exact HT2.out⟩
                    case measure => simp [RowKit.intOf]; omega
                  · rw [show decide ((j : Int) = u) = false by simpa using je] at HS
                    have HE : Hid ((if u < ((j + 1 : Nat) : Int) then u else -1) = (if u < (j : Int) then u else -1)) := by
                      show _ = _
                      by_cases hx : u < (j : Int)
                      · rw [if_pos hx, if_pos (by omega)]
                      · rw [if_neg hx, if_neg (by omega)]
                    clear je
                    go_wp2_with fail
                    refine (HS.out _).mono ?_
                    rintro e w3 ⟨rfl, ew⟩
                    subst w3
                    go_wp2
                    go_round
                    case rel => exact ⟨j + 1, by omega, by go_num, by rw [HE.out]; exact HT.out⟩
                    case measure => simp [RowKit.intOf]; omega
                · obtain rfl : j = 5 := by omega
                  rw [show (if u < ((5 : Nat) : Int) then u else -1) = u from if_pos (by omega)] at HT
                  clear hj hl HSt
                  have t1 := HT.out.c1
                  by_cases u0 : u < 0
                  · have HO : Hid (tout s = ⟨0, 0, 0, 1, (i + 1 : Nat)⟩) := by
                      show _ = _
                      have := tout_2 HC1.out (by rw [← HU.out]; exact u0)
                      rw [HL0.out] at this
                      exact this
                    have r0 := HT.out.r.r0
                    have r1 := HT.out.r.r1
                    have r2 := HT.out.r.r2
                    have g0 := HT.out.r.g0
                    have g1 := HT.out.r.g1
                    have g2 := HT.out.r.g2
                    have q0 := HT.out.r.q0
                    have q1 := HT.out.r.q1
                    have h0 := HT.out.r.h0
                    have h1 := HT.out.r.h1
                    have rr := R2.res HT.out.r (.int .i64 0) (.int .i64 0) (.int .i64 0) (.int .i64 1) (.int .i64 ((i : Int) + 1))
                    go_wp2
                    exact bodyPost_ret (v := .tuple #[.agg #[.int .i64 0, .int .i64 0, .int .i64 0], .agg #[.int .i64 1, .int .i64 ((i : Int) + 1)]]) (by simp [results, Tryd.results20, go_sem, rr.1, rr.2.1, rr.2.2.1, rr.2.2.2.1, rr.2.2.2.2]) rfl ⟨rout (pos_eq' HO.out (by omega)), R2.bel5 HT.out.r _ _ _ _ _⟩
                  · obtain ⟨k, rfl⟩ : ∃ k : Nat, u = k := ⟨u.toNat, by omega⟩
                    have k5 : k < 5 := by omega
                    have kk := HT.out.ks k k5
                    have kk' : wr.cell? ⟨w1.heap.size + 1, 0 + k, none⟩ = some (.string (wdS k)) := by rw [Nat.zero_add]; exact kk
                    have k5' : (k : Int) < 5 := by omega
                    have HC2 : Hid (0 ≤ uOf s) := by show _ ≤ _; rw [← HU.out]; omega
                    obtain ⟨b, hb⟩ : ∃ b, b = eAt s := ⟨_, rfl⟩
                    have hwz := wdS_size k
                    have ebz : b = i + 1 + (wdS k).size := by rw [hb]; unfold eAt; rw [HL0.out, ← HU.out]; simp
                    have ble : b ≤ s.size := by rw [hb]; exact eAt_le HC2.out (by rw [HL0.out]; omega)
                    have HB := hidIt hb
                    clear hb u0 u1 u2
                    generalize wdS k = wd at *
                    subst ebz
                    by_cases h3 : (i + 1 + wd.size) < s.size
                    · have h3' : (i : Int) + 1 + (wd.size : Int) < s.size := by omega
                      have HC3 : Hid (eAt s < s.size) := by show _ < _; rw [← HB.out]; exact h3
                      cases h4 : atIs s (i + 1 + wd.size) 44
                      · have e4 : (((s[i + 1 + wd.size].toNat : Nat) : Int) != 44) = true := by rw [byte_ne' _ 44 44 (by decide), ← atIs_in h3, h4]; rfl
                        have HO : Hid (tout s = ⟨0, 0, 0, 1, (i + 1 + wd.size : Nat)⟩) := by show _ = _; rw [HB.out]; exact tout_3 HC1.out HC2.out HC3.out (by rw [← HB.out]; exact h4)
                        have r0 := HT.out.r.r0
                        have r1 := HT.out.r.r1
                        have r2 := HT.out.r.r2
                        have g0 := HT.out.r.g0
                        have g1 := HT.out.r.g1
                        have g2 := HT.out.r.g2
                        have q0 := HT.out.r.q0
                        have q1 := HT.out.r.q1
                        have h0 := HT.out.r.h0
                        have h1 := HT.out.r.h1
                        have rr := R2.res HT.out.r (.int .i64 0) (.int .i64 0) (.int .i64 0) (.int .i64 1) (.int .i64 ((i : Int) + 1 + (wd.size : Int)))
                        go_wp2
                        exact bodyPost_ret (v := .tuple #[.agg #[.int .i64 0, .int .i64 0, .int .i64 0], .agg #[.int .i64 1, .int .i64 ((i : Int) + 1 + (wd.size : Int))]]) (by simp [results, Tryd.results20, go_sem, rr.1, rr.2.1, rr.2.2.1, rr.2.2.2.1, rr.2.2.2.2]) rfl ⟨rout (pos_eq' HO.out (by omega)), R2.bel5 HT.out.r _ _ _ _ _⟩
                      · have e4 : (((s[i + 1 + wd.size].toNat : Nat) : Int) != 44) = false := by rw [byte_ne' _ 44 44 (by decide), ← atIs_in h3, h4]; rfl
                        have HC4 : Hid (atIs s (eAt s) 44 = true) := by show _ = _; rw [← HB.out]; exact h4
                        cases h5 : atIs s ((i + 1 + wd.size) + 1) 32
                        · have HO : Hid (tout s = ⟨0, 0, 0, 1, ((i + 1 + wd.size) + 1 : Nat)⟩) := by show _ = _; rw [HB.out]; exact tout_4 HC1.out HC2.out HC3.out HC4.out (by rw [← HB.out]; exact h5)
                          rcases Nat.lt_or_ge ((i + 1 + wd.size) + 1) s.size with b1 | b1
                          · have e5 : ((i : Int) + 1 + (wd.size : Int) + 1 == (s.size : Int)) = false := by simp; omega
                            have b1' : (i : Int) + 1 + (wd.size : Int) + 1 < s.size := by omega
                            have e6 : (((s[(i + 1 + wd.size) + 1].toNat : Nat) : Int) != 32) = true := by rw [byte_ne' _ 32 32 (by decide), ← atIs_in b1, h5]; rfl
                            have r0 := HT.out.r.r0
                            have r1 := HT.out.r.r1
                            have r2 := HT.out.r.r2
                            have g0 := HT.out.r.g0
                            have g1 := HT.out.r.g1
                            have g2 := HT.out.r.g2
                            have q0 := HT.out.r.q0
                            have q1 := HT.out.r.q1
                            have h0 := HT.out.r.h0
                            have h1 := HT.out.r.h1
                            have rr := R2.res HT.out.r (.int .i64 0) (.int .i64 0) (.int .i64 0) (.int .i64 1) (.int .i64 (((i : Int) + 1 + (wd.size : Int)) + 1))
                            go_wp2
                            exact bodyPost_ret (v := .tuple #[.agg #[.int .i64 0, .int .i64 0, .int .i64 0], .agg #[.int .i64 1, .int .i64 (((i : Int) + 1 + (wd.size : Int)) + 1)]]) (by simp [results, Tryd.results20, go_sem, rr.1, rr.2.1, rr.2.2.1, rr.2.2.2.1, rr.2.2.2.2]) rfl ⟨rout (pos_eq' HO.out (by omega)), R2.bel5 HT.out.r _ _ _ _ _⟩
                          · have e5 : ((i : Int) + 1 + (wd.size : Int) + 1 == (s.size : Int)) = true := by simp; omega
                            have r0 := HT.out.r.r0
                            have r1 := HT.out.r.r1
                            have r2 := HT.out.r.r2
                            have g0 := HT.out.r.g0
                            have g1 := HT.out.r.g1
                            have g2 := HT.out.r.g2
                            have q0 := HT.out.r.q0
                            have q1 := HT.out.r.q1
                            have h0 := HT.out.r.h0
                            have h1 := HT.out.r.h1
                            have rr := R2.res HT.out.r (.int .i64 0) (.int .i64 0) (.int .i64 0) (.int .i64 1) (.int .i64 (((i : Int) + 1 + (wd.size : Int)) + 1))
                            go_wp2
                            exact bodyPost_ret (v := .tuple #[.agg #[.int .i64 0, .int .i64 0, .int .i64 0], .agg #[.int .i64 1, .int .i64 (((i : Int) + 1 + (wd.size : Int)) + 1)]]) (by simp [results, Tryd.results20, go_sem, rr.1, rr.2.1, rr.2.2.1, rr.2.2.2.1, rr.2.2.2.2]) rfl ⟨rout (pos_eq' HO.out (by omega)), R2.bel5 HT.out.r _ _ _ _ _⟩
                        · have b1 := atIs_lt h5
                          have e5 : ((i : Int) + 1 + (wd.size : Int) + 1 == (s.size : Int)) = false := by simp; omega
                          have b1' : (i : Int) + 1 + (wd.size : Int) + 1 < s.size := by omega
                          have e6 : (((s[(i + 1 + wd.size) + 1].toNat : Nat) : Int) != 32) = false := by rw [byte_ne' _ 32 32 (by decide), ← atIs_in b1, h5]; rfl
                          have HC5 : Hid (atIs s (eAt s + 1) 32 = true) := by show _ = _; rw [← HB.out]; exact h5
                          obtain ⟨r, hr⟩ : ∃ r, r = rOf s := ⟨_, rfl⟩
                          obtain ⟨rc, ra, rb⟩ : (r = -1 ∨ r = 1 ∨ r = 2) ∧ IsRoll (bl (s.extract ((i + 1 + wd.size) + 2) s.size)) r := by rw [hr, HB.out]; exact rollOf_spec _
                          have HRo := hidIt hr
                          have HS1 : Hid (∀ w, Calls Tryd.prog 46 #[.string s, .int .i64 ((i : Int) + 1 + (wd.size : Int) + 1 + 1), .string ⟨#[110, 101, 120, 116]⟩] w fun e w' => e = .returned (.bool (decide (r = 1))) ∧ w' = w) := fun w => by
                            have := starts_any s ⟨#[110, 101, 120, 116]⟩ ((i + 1 + wd.size) + 2) w hs (by decide) (by omega)
                            rw [show bl ⟨#[110, 101, 120, 116]⟩ = rwL 1 from rfl, ra, show (((i + 1 + wd.size) + 2 : Nat) : Int) = (i : Int) + 1 + (wd.size : Int) + 1 + 1 by omega] at this
                            exact this
                          have HS2 : Hid (∀ w, Calls Tryd.prog 46 #[.string s, .int .i64 ((i : Int) + 1 + (wd.size : Int) + 1 + 1), .string ⟨#[98, 101, 102, 111, 114, 101]⟩] w fun e w' => e = .returned (.bool (decide (r = 2))) ∧ w' = w) := fun w => by
                            have := starts_any s ⟨#[98, 101, 102, 111, 114, 101]⟩ ((i + 1 + wd.size) + 2) w hs (by decide) (by omega)
                            rw [show bl ⟨#[98, 101, 102, 111, 114, 101]⟩ = rwL 2 from rfl, rb, show (((i + 1 + wd.size) + 2 : Nat) : Int) = (i : Int) + 1 + (wd.size : Int) + 1 + 1 by omega] at this
                            exact this
                          clear ra rb hr
                          have t2 := HT.out.c2
                          have tf2 := HT.out.f2
                          rcases rc with rfl | rfl | rfl
                          · rw [show decide ((-1 : Int) = 1) = false by decide] at HS1
                            rw [show decide ((-1 : Int) = 2) = false by decide] at HS2
                            have HO : Hid (tout s = ⟨0, 0, 0, 1, ((i + 1 + wd.size) + 2 : Nat)⟩) := by show _ = _; rw [HB.out]; exact tout_5 HC1.out HC2.out HC3.out HC4.out HC5.out (by rw [← HRo.out]; omega)
                            go_wp2_with fail
                            refine (HS1.out _).mono ?_
                            rintro e w4 ⟨rfl, ew⟩
                            subst w4
                            go_wp2_with fail
                            refine (HS2.out _).mono ?_
                            rintro e w4 ⟨rfl, ew⟩
                            subst w4
                            have r0 := HT.out.r.r0
                            have r1 := HT.out.r.r1
                            have r2 := HT.out.r.r2
                            have g0 := HT.out.r.g0
                            have g1 := HT.out.r.g1
                            have g2 := HT.out.r.g2
                            have q0 := HT.out.r.q0
                            have q1 := HT.out.r.q1
                            have h0 := HT.out.r.h0
                            have h1 := HT.out.r.h1
                            have rr := R2.res HT.out.r (.int .i64 0) (.int .i64 0) (.int .i64 0) (.int .i64 1) (.int .i64 ((i : Int) + 1 + (wd.size : Int) + 1 + 1))
                            go_wp2
                            exact bodyPost_ret (v := .tuple #[.agg #[.int .i64 0, .int .i64 0, .int .i64 0], .agg #[.int .i64 1, .int .i64 ((i : Int) + 1 + (wd.size : Int) + 1 + 1)]]) (by simp [results, Tryd.results20, go_sem, rr.1, rr.2.1, rr.2.2.1, rr.2.2.2.1, rr.2.2.2.2]) rfl ⟨rout (pos_eq' HO.out (by omega)), R2.bel5 HT.out.r _ _ _ _ _⟩
                          · rw [show decide ((1 : Int) = 1) = true by decide] at HS1
                            rw [show decide ((1 : Int) = 2) = false by decide] at HS2
                            have HC6 : Hid (0 ≤ rOf s) := by show _ ≤ _; rw [← HRo.out]; omega
                            obtain ⟨f, hf⟩ : ∃ f, f = fAt s := ⟨_, rfl⟩
                            have ef : f = (i + 1 + wd.size) + 2 + 4 := by rw [hf, HB.out]; unfold fAt; rw [← HRo.out]; rfl
                            have fle : f ≤ s.size := by rw [hf]; exact fAt_le HC6.out (by rw [← HB.out]; omega)
                            have HFf := hidIt hf
                            clear hf
                            have HT3 := hidIt (HT.out.setR 1)
                            go_wp2_with fail
                            refine (HS1.out _).mono ?_
                            rintro e w4 ⟨rfl, ew⟩
                            subst w4
                            go_wp2_with fail
                            refine (HS2.out _).mono ?_
                            rintro e w4 ⟨rfl, ew⟩
                            subst w4
                            by_cases h7 : f < s.size
                            · have h7' : (((i : Int) + 1 + (wd.size : Int) + 1 + 1) + 4) < s.size := by omega
                              have HO : Hid (tout s = ⟨0, 0, 0, 1, f⟩) := by show _ = _; rw [HFf.out]; exact tout_6 HC1.out HC2.out HC3.out HC4.out HC5.out HC6.out (by rw [← HFf.out]; exact h7)
                              have r0 := HT3.out.r.r0
                              have r1 := HT3.out.r.r1
                              have r2 := HT3.out.r.r2
                              have g0 := HT3.out.r.g0
                              have g1 := HT3.out.r.g1
                              have g2 := HT3.out.r.g2
                              have q0 := HT3.out.r.q0
                              have q1 := HT3.out.r.q1
                              have h0 := HT3.out.r.h0
                              have h1 := HT3.out.r.h1
                              have rr := R2.res HT3.out.r (.int .i64 0) (.int .i64 0) (.int .i64 0) (.int .i64 1) (.int .i64 (((i : Int) + 1 + (wd.size : Int) + 1 + 1) + 4))
                              go_wp2
                              exact bodyPost_ret (v := .tuple #[.agg #[.int .i64 0, .int .i64 0, .int .i64 0], .agg #[.int .i64 1, .int .i64 (((i : Int) + 1 + (wd.size : Int) + 1 + 1) + 4)]]) (by simp [results, Tryd.results20, go_sem, rr.1, rr.2.1, rr.2.2.1, rr.2.2.2.1, rr.2.2.2.2]) rfl ⟨rout (pos_eq' HO.out (by omega)), R2.bel5 HT3.out.r _ _ _ _ _⟩
                            · have h7' : decide ((((i : Int) + 1 + (wd.size : Int) + 1 + 1) + 4) < (s.size : Int)) = false := by simp; omega
                              have HC7 : Hid (s.size ≤ fAt s) := by show _ ≤ _; rw [← HFf.out]; omega
                              have HTl : Hid (tout s = tend s 1) := by show _ = _; rw [HRo.out]; exact tout_7 HC1.out HC2.out HC3.out HC4.out HC5.out HC6.out HC7.out
                              clear h7
                              by_cases hn : 100000 < n
                              · have HO : Hid (tout s = ⟨0, 0, 0, 2, 0⟩) := by show _ = _; rw [HTl.out]; exact tend_far _ (by have := HN.out; omega)
                                have r0 := HT3.out.r.r0
                                have r1 := HT3.out.r.r1
                                have r2 := HT3.out.r.r2
                                have g0 := HT3.out.r.g0
                                have g1 := HT3.out.r.g1
                                have g2 := HT3.out.r.g2
                                have q0 := HT3.out.r.q0
                                have q1 := HT3.out.r.q1
                                have h0 := HT3.out.r.h0
                                have h1 := HT3.out.r.h1
                                have rr := R2.res HT3.out.r (.int .i64 0) (.int .i64 0) (.int .i64 0) (.int .i64 2) (.int .i64 0)
                                go_wp2
                                exact bodyPost_ret (v := .tuple #[.agg #[.int .i64 0, .int .i64 0, .int .i64 0], .agg #[.int .i64 2, .int .i64 0]]) (by simp [results, Tryd.results20, go_sem, rr.1, rr.2.1, rr.2.2.1, rr.2.2.2.1, rr.2.2.2.2]) rfl ⟨rout HO.out, R2.bel5 HT3.out.r _ _ _ _ _⟩
                              · have HO : Hid (tout s = ⟨n, k, 1, 0, -1⟩) := by
                                  show _ = _
                                  have hx := HN.out
                                  rw [HTl.out, tend_ok _ (by omega), ← HU.out]
                                  congr 1
                                  omega
                                have c0 := HT3.out.c0
                                have c1 := HT3.out.c1
                                have c2 := HT3.out.c2
                                have r0 := HT3.out.r.r0
                                have r1 := HT3.out.r.r1
                                have r2 := HT3.out.r.r2
                                have g0 := HT3.out.r.g0
                                have g1 := HT3.out.r.g1
                                have g2 := HT3.out.r.g2
                                have q0 := HT3.out.r.q0
                                have q1 := HT3.out.r.q1
                                have h0 := HT3.out.r.h0
                                have h1 := HT3.out.r.h1
                                have rr := R2.res HT3.out.r (.int .i64 n) (.int .i64 k) (.int .i64 1) (.int .i64 0) (.int .i64 (-1))
                                go_wp2
                                exact bodyPost_ret (v := .tuple #[.agg #[.int .i64 n, .int .i64 k, .int .i64 1], .agg #[.int .i64 0, .int .i64 (-1)]]) (by simp [results, Tryd.results20, go_sem, rr.1, rr.2.1, rr.2.2.1, rr.2.2.2.1, rr.2.2.2.2]) rfl ⟨rout HO.out, R2.bel5 HT3.out.r _ _ _ _ _⟩
                          · rw [show decide ((2 : Int) = 1) = false by decide] at HS1
                            rw [show decide ((2 : Int) = 2) = true by decide] at HS2
                            have HC6 : Hid (0 ≤ rOf s) := by show _ ≤ _; rw [← HRo.out]; omega
                            obtain ⟨f, hf⟩ : ∃ f, f = fAt s := ⟨_, rfl⟩
                            have ef : f = (i + 1 + wd.size) + 2 + 6 := by rw [hf, HB.out]; unfold fAt; rw [← HRo.out]; rfl
                            have fle : f ≤ s.size := by rw [hf]; exact fAt_le HC6.out (by rw [← HB.out]; omega)
                            have HFf := hidIt hf
                            clear hf
                            have HT3 := hidIt (HT.out.setR 2)
                            go_wp2_with fail
                            refine (HS1.out _).mono ?_
                            rintro e w4 ⟨rfl, ew⟩
                            subst w4
                            go_wp2_with fail
                            refine (HS2.out _).mono ?_
                            rintro e w4 ⟨rfl, ew⟩
                            subst w4
                            by_cases h7 : f < s.size
                            · have h7' : (((i : Int) + 1 + (wd.size : Int) + 1 + 1) + 6) < s.size := by omega
                              have HO : Hid (tout s = ⟨0, 0, 0, 1, f⟩) := by show _ = _; rw [HFf.out]; exact tout_6 HC1.out HC2.out HC3.out HC4.out HC5.out HC6.out (by rw [← HFf.out]; exact h7)
                              have r0 := HT3.out.r.r0
                              have r1 := HT3.out.r.r1
                              have r2 := HT3.out.r.r2
                              have g0 := HT3.out.r.g0
                              have g1 := HT3.out.r.g1
                              have g2 := HT3.out.r.g2
                              have q0 := HT3.out.r.q0
                              have q1 := HT3.out.r.q1
                              have h0 := HT3.out.r.h0
                              have h1 := HT3.out.r.h1
                              have rr := R2.res HT3.out.r (.int .i64 0) (.int .i64 0) (.int .i64 0) (.int .i64 1) (.int .i64 (((i : Int) + 1 + (wd.size : Int) + 1 + 1) + 6))
                              go_wp2
                              exact bodyPost_ret (v := .tuple #[.agg #[.int .i64 0, .int .i64 0, .int .i64 0], .agg #[.int .i64 1, .int .i64 (((i : Int) + 1 + (wd.size : Int) + 1 + 1) + 6)]]) (by simp [results, Tryd.results20, go_sem, rr.1, rr.2.1, rr.2.2.1, rr.2.2.2.1, rr.2.2.2.2]) rfl ⟨rout (pos_eq' HO.out (by omega)), R2.bel5 HT3.out.r _ _ _ _ _⟩
                            · have h7' : decide ((((i : Int) + 1 + (wd.size : Int) + 1 + 1) + 6) < (s.size : Int)) = false := by simp; omega
                              have HC7 : Hid (s.size ≤ fAt s) := by show _ ≤ _; rw [← HFf.out]; omega
                              have HTl : Hid (tout s = tend s 2) := by show _ = _; rw [HRo.out]; exact tout_7 HC1.out HC2.out HC3.out HC4.out HC5.out HC6.out HC7.out
                              clear h7
                              by_cases hn : 100000 < n
                              · have HO : Hid (tout s = ⟨0, 0, 0, 2, 0⟩) := by show _ = _; rw [HTl.out]; exact tend_far _ (by have := HN.out; omega)
                                have r0 := HT3.out.r.r0
                                have r1 := HT3.out.r.r1
                                have r2 := HT3.out.r.r2
                                have g0 := HT3.out.r.g0
                                have g1 := HT3.out.r.g1
                                have g2 := HT3.out.r.g2
                                have q0 := HT3.out.r.q0
                                have q1 := HT3.out.r.q1
                                have h0 := HT3.out.r.h0
                                have h1 := HT3.out.r.h1
                                have rr := R2.res HT3.out.r (.int .i64 0) (.int .i64 0) (.int .i64 0) (.int .i64 2) (.int .i64 0)
                                go_wp2
                                exact bodyPost_ret (v := .tuple #[.agg #[.int .i64 0, .int .i64 0, .int .i64 0], .agg #[.int .i64 2, .int .i64 0]]) (by simp [results, Tryd.results20, go_sem, rr.1, rr.2.1, rr.2.2.1, rr.2.2.2.1, rr.2.2.2.2]) rfl ⟨rout HO.out, R2.bel5 HT3.out.r _ _ _ _ _⟩
                              · have HO : Hid (tout s = ⟨n, k, 2, 0, -1⟩) := by
                                  show _ = _
                                  have hx := HN.out
                                  rw [HTl.out, tend_ok _ (by omega), ← HU.out]
                                  congr 1
                                  omega
                                have c0 := HT3.out.c0
                                have c1 := HT3.out.c1
                                have c2 := HT3.out.c2
                                have r0 := HT3.out.r.r0
                                have r1 := HT3.out.r.r1
                                have r2 := HT3.out.r.r2
                                have g0 := HT3.out.r.g0
                                have g1 := HT3.out.r.g1
                                have g2 := HT3.out.r.g2
                                have q0 := HT3.out.r.q0
                                have q1 := HT3.out.r.q1
                                have h0 := HT3.out.r.h0
                                have h1 := HT3.out.r.h1
                                have rr := R2.res HT3.out.r (.int .i64 n) (.int .i64 k) (.int .i64 2) (.int .i64 0) (.int .i64 (-1))
                                go_wp2
                                exact bodyPost_ret (v := .tuple #[.agg #[.int .i64 n, .int .i64 k, .int .i64 2], .agg #[.int .i64 0, .int .i64 (-1)]]) (by simp [results, Tryd.results20, go_sem, rr.1, rr.2.1, rr.2.2.1, rr.2.2.2.1, rr.2.2.2.2]) rfl ⟨rout HO.out, R2.bel5 HT3.out.r _ _ _ _ _⟩
                    · have h3' : decide ((i : Int) + 1 + (wd.size : Int) < (s.size : Int)) = false := by simp; omega
                      have HTl : Hid (tout s = tend s 0) := tout_8 HC1.out HC2.out (by rw [← HB.out]; omega)
                      clear h3
                      by_cases hn : 100000 < n
                      · have HO : Hid (tout s = ⟨0, 0, 0, 2, 0⟩) := by show _ = _; rw [HTl.out]; exact tend_far _ (by have := HN.out; omega)
                        have r0 := HT.out.r.r0
                        have r1 := HT.out.r.r1
                        have r2 := HT.out.r.r2
                        have g0 := HT.out.r.g0
                        have g1 := HT.out.r.g1
                        have g2 := HT.out.r.g2
                        have q0 := HT.out.r.q0
                        have q1 := HT.out.r.q1
                        have h0 := HT.out.r.h0
                        have h1 := HT.out.r.h1
                        have rr := R2.res HT.out.r (.int .i64 0) (.int .i64 0) (.int .i64 0) (.int .i64 2) (.int .i64 0)
                        go_wp2
                        exact bodyPost_ret (v := .tuple #[.agg #[.int .i64 0, .int .i64 0, .int .i64 0], .agg #[.int .i64 2, .int .i64 0]]) (by simp [results, Tryd.results20, go_sem, rr.1, rr.2.1, rr.2.2.1, rr.2.2.2.1, rr.2.2.2.2]) rfl ⟨rout HO.out, R2.bel5 HT.out.r _ _ _ _ _⟩
                      · have HO : Hid (tout s = ⟨n, k, 0, 0, -1⟩) := by
                          show _ = _
                          have hx := HN.out
                          rw [HTl.out, tend_ok _ (by omega), ← HU.out]
                          congr 1
                          omega
                        have c0 := HT.out.c0
                        have c1 := HT.out.c1
                        have c2 := HT.out.c2
                        have r0 := HT.out.r.r0
                        have r1 := HT.out.r.r1
                        have r2 := HT.out.r.r2
                        have g0 := HT.out.r.g0
                        have g1 := HT.out.r.g1
                        have g2 := HT.out.r.g2
                        have q0 := HT.out.r.q0
                        have q1 := HT.out.r.q1
                        have h0 := HT.out.r.h0
                        have h1 := HT.out.r.h1
                        have rr := R2.res HT.out.r (.int .i64 n) (.int .i64 k) (.int .i64 0) (.int .i64 0) (.int .i64 (-1))
                        go_wp2
                        exact bodyPost_ret (v := .tuple #[.agg #[.int .i64 n, .int .i64 k, .int .i64 0], .agg #[.int .i64 0, .int .i64 (-1)]]) (by simp [results, Tryd.results20, go_sem, rr.1, rr.2.1, rr.2.2.1, rr.2.2.2.1, rr.2.2.2.2]) rfl ⟨rout HO.out, R2.bel5 HT.out.r _ _ _ _ _⟩
          · have HO : Hid (tout s = ⟨0, 0, 0, 1, 1⟩) := tout_zero (by rw [← HA.out]; exact c1) hz
            have e1 : (((s[0].toNat : Nat) : Int) == 48) = true := by rw [byte_eq _ 48 48 (by decide), ← atIs_in i1, hz]
            have r0 := HR.out.r0
            have r1 := HR.out.r1
            have r2 := HR.out.r2
            have g0 := HR.out.g0
            have g1 := HR.out.g1
            have g2 := HR.out.g2
            have q0 := HR.out.q0
            have q1 := HR.out.q1
            have h0 := HR.out.h0
            have h1 := HR.out.h1
            have rr := R2.res HR.out (.int .i64 0) (.int .i64 0) (.int .i64 0) (.int .i64 1) (.int .i64 1)
            go_wp2_with (go_at_call 45; refine (HI.out _).mono ?_; rintro e w' ⟨rfl, rfl⟩)
            exact bodyPost_ret (v := .tuple #[.agg #[.int .i64 0, .int .i64 0, .int .i64 0], .agg #[.int .i64 1, .int .i64 1]]) (by simp [results, Tryd.results20, go_sem, rr.1, rr.2.1, rr.2.2.1, rr.2.2.2.1, rr.2.2.2.2]) rfl ⟨rout HO.out, R2.bel5 HR.out _ _ _ _ _⟩
        · have c1' : decide ((1 : Int) < i) = false := by simp; omega
          have HNz : Hid (¬ (1 < runDg s ∧ atIs s 0 48 = true)) := by show ¬ _; rw [← HA.out]; intro h; exact c1 h.1
          have HL0 : Hid (len0 s = i) := by show _ = _; rw [len0_run (by rw [← HA.out]; omega) HNz.out, ← HA.out]
          have e2 : ((i : Int) == s.size) = false := by simp; omega
          cases hb : atIs s i 32
          · have HO : Hid (tout s = ⟨0, 0, 0, 1, i⟩) := by
              show _ = _
              have := tout_1 (s := s) (.inr (by rw [HL0.out]; exact hb))
              rw [HL0.out] at this
              exact this
            have e3 : (((s[i].toNat : Nat) : Int) != 32) = true := by rw [byte_ne' _ 32 32 (by decide), ← atIs_in hsz, hb]; rfl
            have r0 := HR.out.r0
            have r1 := HR.out.r1
            have r2 := HR.out.r2
            have g0 := HR.out.g0
            have g1 := HR.out.g1
            have g2 := HR.out.g2
            have q0 := HR.out.q0
            have q1 := HR.out.q1
            have h0 := HR.out.h0
            have h1 := HR.out.h1
            have rr := R2.res HR.out (.int .i64 0) (.int .i64 0) (.int .i64 0) (.int .i64 1) (.int .i64 i)
            go_wp2_with (go_at_call 45; refine (HI.out _).mono ?_; rintro e w' ⟨rfl, rfl⟩)
            exact bodyPost_ret (v := .tuple #[.agg #[.int .i64 0, .int .i64 0, .int .i64 0], .agg #[.int .i64 1, .int .i64 i]]) (by simp [results, Tryd.results20, go_sem, rr.1, rr.2.1, rr.2.2.1, rr.2.2.2.1, rr.2.2.2.2]) rfl ⟨rout HO.out, R2.bel5 HR.out _ _ _ _ _⟩
          · have e3 : (((s[i].toNat : Nat) : Int) != 32) = false := by rw [byte_ne' _ 32 32 (by decide), ← atIs_in hsz, hb]; rfl
            have HC1 : Hid (¬ (len0 s = 0 ∨ atIs s (len0 s) 32 = false)) := by show ¬ _; rw [HL0.out, hb]; simp [a0]
            have HN : Hid ((num s ≤ 100000 ∧ rs s i = num s) ∨ (100000 < num s ∧ 100000 < rs s i)) := by
              have := num_rs (s := s) (by rw [← HA.out]; omega) HNz.out
              rw [← HA.out] at this
              exact this
            obtain ⟨u, hu⟩ : ∃ u, u = uOf s := ⟨_, rfl⟩
            obtain ⟨u1, u2, u3⟩ : -1 ≤ u ∧ u ≤ 4 ∧ IsUnit (bl (s.extract (i + 1) s.size)) u := by
              have := unitOf_spec (bl (s.extract (len0 s + 1) s.size))
              have e : uOf s = unitOf (bl (s.extract (len0 s + 1) s.size)) := rfl
              rw [← e, HL0.out, ← hu] at this
              exact this
            have HU := hidIt hu
            have HSt : Hid (∀ (j : Nat) (w : World), j < 5 → Calls Tryd.prog 46 #[.string s, .int .i64 ((i : Int) + 1), .string (wdS j)] w fun e w' => e = .returned (.bool (decide ((j : Int) = u))) ∧ w' = w) := fun j w hj => by
              have := starts_any s (wdS j) (i + 1) w hs (by have := wdS_size j; omega) (by omega)
              rw [show bl (wdS j) = wdL j from bl_wdS j, u3 j hj, show ((i + 1 : Nat) : Int) = i + 1 by omega] at this
              exact this
            generalize rs s i = n at *
            clear hb hu u3
            go_wp2_with fail
            refine (HI.out _).mono ?_
            rintro e w9 ⟨rfl, ew⟩
            subst w9
            go_wp2_with fail
            go_loopw [8] (fun t wr => ∃ j : Nat, j ≤ 5 ∧ t = .int .i64 j ∧ RT w wr w1.heap.size n (if u < (j : Int) then u else -1) 0) (fun t _ => 5 - (RowKit.intOf t).toNat)
            case atStart =>
              refine ⟨0, by omega, rfl, ?_⟩
              rw [show (if u < ((0 : Nat) : Int) then u else -1) = -1 by split <;> omega]
              exact RT.start HR.out HSz.out n _ _
            case round =>
              obtain ⟨j, hj, rfl, hT⟩ := hrel
              have HT := hidIt hT
              clear hT
              by_cases hl : j < 5
              · have hjz : (j : Int) < 5 := by omega
                have kj := HT.out.ks j hl
                have kj' : wr.cell? ⟨w1.heap.size + 1, 0 + j, none⟩ = some (.string (wdS j)) := by rw [Nat.zero_add]; exact kj
                have HS := hidIt (fun w => HSt.out j w hl)
                by_cases je : (j : Int) = u
                · rw [show decide ((j : Int) = u) = true by simpa using je] at HS
                  have c1 := HT.out.c1
                  have f1 := HT.out.f1
                  have HT2 := hidIt (HT.out.setU j)
                  have HE : Hid ((if u < ((j + 1 : Nat) : Int) then u else -1) = (j : Int)) := by show _ = _; rw [if_pos (by omega)]; exact je.symm
                  clear je
                  go_wp2_with fail
                  refine (HS.out _).mono ?_
                  rintro e w3 ⟨rfl, ew⟩
                  subst w3
                  go_wp2
                  go_round
                  case rel => exact ⟨j + 1, by omega, by go_num, by rw [HE.out]; exact HT2.out⟩
                  case measure => simp [RowKit.intOf]; omega
                · rw [show decide ((j : Int) = u) = false by simpa using je] at HS
                  have HE : Hid ((if u < ((j + 1 : Nat) : Int) then u else -1) = (if u < (j : Int) then u else -1)) := by
                    show _ = _
                    by_cases hx : u < (j : Int)
                    · rw [if_pos hx, if_pos (by omega)]
                    · rw [if_neg hx, if_neg (by omega)]
                  clear je
                  go_wp2_with fail
                  refine (HS.out _).mono ?_
                  rintro e w3 ⟨rfl, ew⟩
                  subst w3
                  go_wp2
                  go_round
                  case rel => exact ⟨j + 1, by omega, by go_num, by rw [HE.out]; exact HT.out⟩
                  case measure => simp [RowKit.intOf]; omega
              · obtain rfl : j = 5 := by omega
                rw [show (if u < ((5 : Nat) : Int) then u else -1) = u from if_pos (by omega)] at HT
                clear hj hl HSt
                have t1 := HT.out.c1
                by_cases u0 : u < 0
                · have HO : Hid (tout s = ⟨0, 0, 0, 1, (i + 1 : Nat)⟩) := by
                    show _ = _
                    have := tout_2 HC1.out (by rw [← HU.out]; exact u0)
                    rw [HL0.out] at this
                    exact this
                  have r0 := HT.out.r.r0
                  have r1 := HT.out.r.r1
                  have r2 := HT.out.r.r2
                  have g0 := HT.out.r.g0
                  have g1 := HT.out.r.g1
                  have g2 := HT.out.r.g2
                  have q0 := HT.out.r.q0
                  have q1 := HT.out.r.q1
                  have h0 := HT.out.r.h0
                  have h1 := HT.out.r.h1
                  have rr := R2.res HT.out.r (.int .i64 0) (.int .i64 0) (.int .i64 0) (.int .i64 1) (.int .i64 ((i : Int) + 1))
                  go_wp2
                  exact bodyPost_ret (v := .tuple #[.agg #[.int .i64 0, .int .i64 0, .int .i64 0], .agg #[.int .i64 1, .int .i64 ((i : Int) + 1)]]) (by simp [results, Tryd.results20, go_sem, rr.1, rr.2.1, rr.2.2.1, rr.2.2.2.1, rr.2.2.2.2]) rfl ⟨rout (pos_eq' HO.out (by omega)), R2.bel5 HT.out.r _ _ _ _ _⟩
                · obtain ⟨k, rfl⟩ : ∃ k : Nat, u = k := ⟨u.toNat, by omega⟩
                  have k5 : k < 5 := by omega
                  have kk := HT.out.ks k k5
                  have kk' : wr.cell? ⟨w1.heap.size + 1, 0 + k, none⟩ = some (.string (wdS k)) := by rw [Nat.zero_add]; exact kk
                  have k5' : (k : Int) < 5 := by omega
                  have HC2 : Hid (0 ≤ uOf s) := by show _ ≤ _; rw [← HU.out]; omega
                  obtain ⟨b, hb⟩ : ∃ b, b = eAt s := ⟨_, rfl⟩
                  have hwz := wdS_size k
                  have ebz : b = i + 1 + (wdS k).size := by rw [hb]; unfold eAt; rw [HL0.out, ← HU.out]; simp
                  have ble : b ≤ s.size := by rw [hb]; exact eAt_le HC2.out (by rw [HL0.out]; omega)
                  have HB := hidIt hb
                  clear hb u0 u1 u2
                  generalize wdS k = wd at *
                  subst ebz
                  by_cases h3 : (i + 1 + wd.size) < s.size
                  · have h3' : (i : Int) + 1 + (wd.size : Int) < s.size := by omega
                    have HC3 : Hid (eAt s < s.size) := by show _ < _; rw [← HB.out]; exact h3
                    cases h4 : atIs s (i + 1 + wd.size) 44
                    · have e4 : (((s[i + 1 + wd.size].toNat : Nat) : Int) != 44) = true := by rw [byte_ne' _ 44 44 (by decide), ← atIs_in h3, h4]; rfl
                      have HO : Hid (tout s = ⟨0, 0, 0, 1, (i + 1 + wd.size : Nat)⟩) := by show _ = _; rw [HB.out]; exact tout_3 HC1.out HC2.out HC3.out (by rw [← HB.out]; exact h4)
                      have r0 := HT.out.r.r0
                      have r1 := HT.out.r.r1
                      have r2 := HT.out.r.r2
                      have g0 := HT.out.r.g0
                      have g1 := HT.out.r.g1
                      have g2 := HT.out.r.g2
                      have q0 := HT.out.r.q0
                      have q1 := HT.out.r.q1
                      have h0 := HT.out.r.h0
                      have h1 := HT.out.r.h1
                      have rr := R2.res HT.out.r (.int .i64 0) (.int .i64 0) (.int .i64 0) (.int .i64 1) (.int .i64 ((i : Int) + 1 + (wd.size : Int)))
                      go_wp2
                      exact bodyPost_ret (v := .tuple #[.agg #[.int .i64 0, .int .i64 0, .int .i64 0], .agg #[.int .i64 1, .int .i64 ((i : Int) + 1 + (wd.size : Int))]]) (by simp [results, Tryd.results20, go_sem, rr.1, rr.2.1, rr.2.2.1, rr.2.2.2.1, rr.2.2.2.2]) rfl ⟨rout (pos_eq' HO.out (by omega)), R2.bel5 HT.out.r _ _ _ _ _⟩
                    · have e4 : (((s[i + 1 + wd.size].toNat : Nat) : Int) != 44) = false := by rw [byte_ne' _ 44 44 (by decide), ← atIs_in h3, h4]; rfl
                      have HC4 : Hid (atIs s (eAt s) 44 = true) := by show _ = _; rw [← HB.out]; exact h4
                      cases h5 : atIs s ((i + 1 + wd.size) + 1) 32
                      · have HO : Hid (tout s = ⟨0, 0, 0, 1, ((i + 1 + wd.size) + 1 : Nat)⟩) := by show _ = _; rw [HB.out]; exact tout_4 HC1.out HC2.out HC3.out HC4.out (by rw [← HB.out]; exact h5)
                        rcases Nat.lt_or_ge ((i + 1 + wd.size) + 1) s.size with b1 | b1
                        · have e5 : ((i : Int) + 1 + (wd.size : Int) + 1 == (s.size : Int)) = false := by simp; omega
                          have b1' : (i : Int) + 1 + (wd.size : Int) + 1 < s.size := by omega
                          have e6 : (((s[(i + 1 + wd.size) + 1].toNat : Nat) : Int) != 32) = true := by rw [byte_ne' _ 32 32 (by decide), ← atIs_in b1, h5]; rfl
                          have r0 := HT.out.r.r0
                          have r1 := HT.out.r.r1
                          have r2 := HT.out.r.r2
                          have g0 := HT.out.r.g0
                          have g1 := HT.out.r.g1
                          have g2 := HT.out.r.g2
                          have q0 := HT.out.r.q0
                          have q1 := HT.out.r.q1
                          have h0 := HT.out.r.h0
                          have h1 := HT.out.r.h1
                          have rr := R2.res HT.out.r (.int .i64 0) (.int .i64 0) (.int .i64 0) (.int .i64 1) (.int .i64 (((i : Int) + 1 + (wd.size : Int)) + 1))
                          go_wp2
                          exact bodyPost_ret (v := .tuple #[.agg #[.int .i64 0, .int .i64 0, .int .i64 0], .agg #[.int .i64 1, .int .i64 (((i : Int) + 1 + (wd.size : Int)) + 1)]]) (by simp [results, Tryd.results20, go_sem, rr.1, rr.2.1, rr.2.2.1, rr.2.2.2.1, rr.2.2.2.2]) rfl ⟨rout (pos_eq' HO.out (by omega)), R2.bel5 HT.out.r _ _ _ _ _⟩
                        · have e5 : ((i : Int) + 1 + (wd.size : Int) + 1 == (s.size : Int)) = true := by simp; omega
                          have r0 := HT.out.r.r0
                          have r1 := HT.out.r.r1
                          have r2 := HT.out.r.r2
                          have g0 := HT.out.r.g0
                          have g1 := HT.out.r.g1
                          have g2 := HT.out.r.g2
                          have q0 := HT.out.r.q0
                          have q1 := HT.out.r.q1
                          have h0 := HT.out.r.h0
                          have h1 := HT.out.r.h1
                          have rr := R2.res HT.out.r (.int .i64 0) (.int .i64 0) (.int .i64 0) (.int .i64 1) (.int .i64 (((i : Int) + 1 + (wd.size : Int)) + 1))
                          go_wp2
                          exact bodyPost_ret (v := .tuple #[.agg #[.int .i64 0, .int .i64 0, .int .i64 0], .agg #[.int .i64 1, .int .i64 (((i : Int) + 1 + (wd.size : Int)) + 1)]]) (by simp [results, Tryd.results20, go_sem, rr.1, rr.2.1, rr.2.2.1, rr.2.2.2.1, rr.2.2.2.2]) rfl ⟨rout (pos_eq' HO.out (by omega)), R2.bel5 HT.out.r _ _ _ _ _⟩
                      · have b1 := atIs_lt h5
                        have e5 : ((i : Int) + 1 + (wd.size : Int) + 1 == (s.size : Int)) = false := by simp; omega
                        have b1' : (i : Int) + 1 + (wd.size : Int) + 1 < s.size := by omega
                        have e6 : (((s[(i + 1 + wd.size) + 1].toNat : Nat) : Int) != 32) = false := by rw [byte_ne' _ 32 32 (by decide), ← atIs_in b1, h5]; rfl
                        have HC5 : Hid (atIs s (eAt s + 1) 32 = true) := by show _ = _; rw [← HB.out]; exact h5
                        obtain ⟨r, hr⟩ : ∃ r, r = rOf s := ⟨_, rfl⟩
                        obtain ⟨rc, ra, rb⟩ : (r = -1 ∨ r = 1 ∨ r = 2) ∧ IsRoll (bl (s.extract ((i + 1 + wd.size) + 2) s.size)) r := by rw [hr, HB.out]; exact rollOf_spec _
                        have HRo := hidIt hr
                        have HS1 : Hid (∀ w, Calls Tryd.prog 46 #[.string s, .int .i64 ((i : Int) + 1 + (wd.size : Int) + 1 + 1), .string ⟨#[110, 101, 120, 116]⟩] w fun e w' => e = .returned (.bool (decide (r = 1))) ∧ w' = w) := fun w => by
                          have := starts_any s ⟨#[110, 101, 120, 116]⟩ ((i + 1 + wd.size) + 2) w hs (by decide) (by omega)
                          rw [show bl ⟨#[110, 101, 120, 116]⟩ = rwL 1 from rfl, ra, show (((i + 1 + wd.size) + 2 : Nat) : Int) = (i : Int) + 1 + (wd.size : Int) + 1 + 1 by omega] at this
                          exact this
                        have HS2 : Hid (∀ w, Calls Tryd.prog 46 #[.string s, .int .i64 ((i : Int) + 1 + (wd.size : Int) + 1 + 1), .string ⟨#[98, 101, 102, 111, 114, 101]⟩] w fun e w' => e = .returned (.bool (decide (r = 2))) ∧ w' = w) := fun w => by
                          have := starts_any s ⟨#[98, 101, 102, 111, 114, 101]⟩ ((i + 1 + wd.size) + 2) w hs (by decide) (by omega)
                          rw [show bl ⟨#[98, 101, 102, 111, 114, 101]⟩ = rwL 2 from rfl, rb, show (((i + 1 + wd.size) + 2 : Nat) : Int) = (i : Int) + 1 + (wd.size : Int) + 1 + 1 by omega] at this
                          exact this
                        clear ra rb hr
                        have t2 := HT.out.c2
                        have tf2 := HT.out.f2
                        rcases rc with rfl | rfl | rfl
                        · rw [show decide ((-1 : Int) = 1) = false by decide] at HS1
                          rw [show decide ((-1 : Int) = 2) = false by decide] at HS2
                          have HO : Hid (tout s = ⟨0, 0, 0, 1, ((i + 1 + wd.size) + 2 : Nat)⟩) := by show _ = _; rw [HB.out]; exact tout_5 HC1.out HC2.out HC3.out HC4.out HC5.out (by rw [← HRo.out]; omega)
                          go_wp2_with fail
                          refine (HS1.out _).mono ?_
                          rintro e w4 ⟨rfl, ew⟩
                          subst w4
                          go_wp2_with fail
                          refine (HS2.out _).mono ?_
                          rintro e w4 ⟨rfl, ew⟩
                          subst w4
                          have r0 := HT.out.r.r0
                          have r1 := HT.out.r.r1
                          have r2 := HT.out.r.r2
                          have g0 := HT.out.r.g0
                          have g1 := HT.out.r.g1
                          have g2 := HT.out.r.g2
                          have q0 := HT.out.r.q0
                          have q1 := HT.out.r.q1
                          have h0 := HT.out.r.h0
                          have h1 := HT.out.r.h1
                          have rr := R2.res HT.out.r (.int .i64 0) (.int .i64 0) (.int .i64 0) (.int .i64 1) (.int .i64 ((i : Int) + 1 + (wd.size : Int) + 1 + 1))
                          go_wp2
                          exact bodyPost_ret (v := .tuple #[.agg #[.int .i64 0, .int .i64 0, .int .i64 0], .agg #[.int .i64 1, .int .i64 ((i : Int) + 1 + (wd.size : Int) + 1 + 1)]]) (by simp [results, Tryd.results20, go_sem, rr.1, rr.2.1, rr.2.2.1, rr.2.2.2.1, rr.2.2.2.2]) rfl ⟨rout (pos_eq' HO.out (by omega)), R2.bel5 HT.out.r _ _ _ _ _⟩
                        · rw [show decide ((1 : Int) = 1) = true by decide] at HS1
                          rw [show decide ((1 : Int) = 2) = false by decide] at HS2
                          have HC6 : Hid (0 ≤ rOf s) := by show _ ≤ _; rw [← HRo.out]; omega
                          obtain ⟨f, hf⟩ : ∃ f, f = fAt s := ⟨_, rfl⟩
                          have ef : f = (i + 1 + wd.size) + 2 + 4 := by rw [hf, HB.out]; unfold fAt; rw [← HRo.out]; rfl
                          have fle : f ≤ s.size := by rw [hf]; exact fAt_le HC6.out (by rw [← HB.out]; omega)
                          have HFf := hidIt hf
                          clear hf
                          have HT3 := hidIt (HT.out.setR 1)
                          go_wp2_with fail
                          refine (HS1.out _).mono ?_
                          rintro e w4 ⟨rfl, ew⟩
                          subst w4
                          go_wp2_with fail
                          refine (HS2.out _).mono ?_
                          rintro e w4 ⟨rfl, ew⟩
                          subst w4
                          by_cases h7 : f < s.size
                          · have h7' : (((i : Int) + 1 + (wd.size : Int) + 1 + 1) + 4) < s.size := by omega
                            have HO : Hid (tout s = ⟨0, 0, 0, 1, f⟩) := by show _ = _; rw [HFf.out]; exact tout_6 HC1.out HC2.out HC3.out HC4.out HC5.out HC6.out (by rw [← HFf.out]; exact h7)
                            have r0 := HT3.out.r.r0
                            have r1 := HT3.out.r.r1
                            have r2 := HT3.out.r.r2
                            have g0 := HT3.out.r.g0
                            have g1 := HT3.out.r.g1
                            have g2 := HT3.out.r.g2
                            have q0 := HT3.out.r.q0
                            have q1 := HT3.out.r.q1
                            have h0 := HT3.out.r.h0
                            have h1 := HT3.out.r.h1
                            have rr := R2.res HT3.out.r (.int .i64 0) (.int .i64 0) (.int .i64 0) (.int .i64 1) (.int .i64 (((i : Int) + 1 + (wd.size : Int) + 1 + 1) + 4))
                            go_wp2
                            exact bodyPost_ret (v := .tuple #[.agg #[.int .i64 0, .int .i64 0, .int .i64 0], .agg #[.int .i64 1, .int .i64 (((i : Int) + 1 + (wd.size : Int) + 1 + 1) + 4)]]) (by simp [results, Tryd.results20, go_sem, rr.1, rr.2.1, rr.2.2.1, rr.2.2.2.1, rr.2.2.2.2]) rfl ⟨rout (pos_eq' HO.out (by omega)), R2.bel5 HT3.out.r _ _ _ _ _⟩
                          · have h7' : decide ((((i : Int) + 1 + (wd.size : Int) + 1 + 1) + 4) < (s.size : Int)) = false := by simp; omega
                            have HC7 : Hid (s.size ≤ fAt s) := by show _ ≤ _; rw [← HFf.out]; omega
                            have HTl : Hid (tout s = tend s 1) := by show _ = _; rw [HRo.out]; exact tout_7 HC1.out HC2.out HC3.out HC4.out HC5.out HC6.out HC7.out
                            clear h7
                            by_cases hn : 100000 < n
                            · have HO : Hid (tout s = ⟨0, 0, 0, 2, 0⟩) := by show _ = _; rw [HTl.out]; exact tend_far _ (by have := HN.out; omega)
                              have r0 := HT3.out.r.r0
                              have r1 := HT3.out.r.r1
                              have r2 := HT3.out.r.r2
                              have g0 := HT3.out.r.g0
                              have g1 := HT3.out.r.g1
                              have g2 := HT3.out.r.g2
                              have q0 := HT3.out.r.q0
                              have q1 := HT3.out.r.q1
                              have h0 := HT3.out.r.h0
                              have h1 := HT3.out.r.h1
                              have rr := R2.res HT3.out.r (.int .i64 0) (.int .i64 0) (.int .i64 0) (.int .i64 2) (.int .i64 0)
                              go_wp2
                              exact bodyPost_ret (v := .tuple #[.agg #[.int .i64 0, .int .i64 0, .int .i64 0], .agg #[.int .i64 2, .int .i64 0]]) (by simp [results, Tryd.results20, go_sem, rr.1, rr.2.1, rr.2.2.1, rr.2.2.2.1, rr.2.2.2.2]) rfl ⟨rout HO.out, R2.bel5 HT3.out.r _ _ _ _ _⟩
                            · have HO : Hid (tout s = ⟨n, k, 1, 0, -1⟩) := by
                                show _ = _
                                have hx := HN.out
                                rw [HTl.out, tend_ok _ (by omega), ← HU.out]
                                congr 1
                                omega
                              have c0 := HT3.out.c0
                              have c1 := HT3.out.c1
                              have c2 := HT3.out.c2
                              have r0 := HT3.out.r.r0
                              have r1 := HT3.out.r.r1
                              have r2 := HT3.out.r.r2
                              have g0 := HT3.out.r.g0
                              have g1 := HT3.out.r.g1
                              have g2 := HT3.out.r.g2
                              have q0 := HT3.out.r.q0
                              have q1 := HT3.out.r.q1
                              have h0 := HT3.out.r.h0
                              have h1 := HT3.out.r.h1
                              have rr := R2.res HT3.out.r (.int .i64 n) (.int .i64 k) (.int .i64 1) (.int .i64 0) (.int .i64 (-1))
                              go_wp2
                              exact bodyPost_ret (v := .tuple #[.agg #[.int .i64 n, .int .i64 k, .int .i64 1], .agg #[.int .i64 0, .int .i64 (-1)]]) (by simp [results, Tryd.results20, go_sem, rr.1, rr.2.1, rr.2.2.1, rr.2.2.2.1, rr.2.2.2.2]) rfl ⟨rout HO.out, R2.bel5 HT3.out.r _ _ _ _ _⟩
                        · rw [show decide ((2 : Int) = 1) = false by decide] at HS1
                          rw [show decide ((2 : Int) = 2) = true by decide] at HS2
                          have HC6 : Hid (0 ≤ rOf s) := by show _ ≤ _; rw [← HRo.out]; omega
                          obtain ⟨f, hf⟩ : ∃ f, f = fAt s := ⟨_, rfl⟩
                          have ef : f = (i + 1 + wd.size) + 2 + 6 := by rw [hf, HB.out]; unfold fAt; rw [← HRo.out]; rfl
                          have fle : f ≤ s.size := by rw [hf]; exact fAt_le HC6.out (by rw [← HB.out]; omega)
                          have HFf := hidIt hf
                          clear hf
                          have HT3 := hidIt (HT.out.setR 2)
                          go_wp2_with fail
                          refine (HS1.out _).mono ?_
                          rintro e w4 ⟨rfl, ew⟩
                          subst w4
                          go_wp2_with fail
                          refine (HS2.out _).mono ?_
                          rintro e w4 ⟨rfl, ew⟩
                          subst w4
                          by_cases h7 : f < s.size
                          · have h7' : (((i : Int) + 1 + (wd.size : Int) + 1 + 1) + 6) < s.size := by omega
                            have HO : Hid (tout s = ⟨0, 0, 0, 1, f⟩) := by show _ = _; rw [HFf.out]; exact tout_6 HC1.out HC2.out HC3.out HC4.out HC5.out HC6.out (by rw [← HFf.out]; exact h7)
                            have r0 := HT3.out.r.r0
                            have r1 := HT3.out.r.r1
                            have r2 := HT3.out.r.r2
                            have g0 := HT3.out.r.g0
                            have g1 := HT3.out.r.g1
                            have g2 := HT3.out.r.g2
                            have q0 := HT3.out.r.q0
                            have q1 := HT3.out.r.q1
                            have h0 := HT3.out.r.h0
                            have h1 := HT3.out.r.h1
                            have rr := R2.res HT3.out.r (.int .i64 0) (.int .i64 0) (.int .i64 0) (.int .i64 1) (.int .i64 (((i : Int) + 1 + (wd.size : Int) + 1 + 1) + 6))
                            go_wp2
                            exact bodyPost_ret (v := .tuple #[.agg #[.int .i64 0, .int .i64 0, .int .i64 0], .agg #[.int .i64 1, .int .i64 (((i : Int) + 1 + (wd.size : Int) + 1 + 1) + 6)]]) (by simp [results, Tryd.results20, go_sem, rr.1, rr.2.1, rr.2.2.1, rr.2.2.2.1, rr.2.2.2.2]) rfl ⟨rout (pos_eq' HO.out (by omega)), R2.bel5 HT3.out.r _ _ _ _ _⟩
                          · have h7' : decide ((((i : Int) + 1 + (wd.size : Int) + 1 + 1) + 6) < (s.size : Int)) = false := by simp; omega
                            have HC7 : Hid (s.size ≤ fAt s) := by show _ ≤ _; rw [← HFf.out]; omega
                            have HTl : Hid (tout s = tend s 2) := by show _ = _; rw [HRo.out]; exact tout_7 HC1.out HC2.out HC3.out HC4.out HC5.out HC6.out HC7.out
                            clear h7
                            by_cases hn : 100000 < n
                            · have HO : Hid (tout s = ⟨0, 0, 0, 2, 0⟩) := by show _ = _; rw [HTl.out]; exact tend_far _ (by have := HN.out; omega)
                              have r0 := HT3.out.r.r0
                              have r1 := HT3.out.r.r1
                              have r2 := HT3.out.r.r2
                              have g0 := HT3.out.r.g0
                              have g1 := HT3.out.r.g1
                              have g2 := HT3.out.r.g2
                              have q0 := HT3.out.r.q0
                              have q1 := HT3.out.r.q1
                              have h0 := HT3.out.r.h0
                              have h1 := HT3.out.r.h1
                              have rr := R2.res HT3.out.r (.int .i64 0) (.int .i64 0) (.int .i64 0) (.int .i64 2) (.int .i64 0)
                              go_wp2
                              exact bodyPost_ret (v := .tuple #[.agg #[.int .i64 0, .int .i64 0, .int .i64 0], .agg #[.int .i64 2, .int .i64 0]]) (by simp [results, Tryd.results20, go_sem, rr.1, rr.2.1, rr.2.2.1, rr.2.2.2.1, rr.2.2.2.2]) rfl ⟨rout HO.out, R2.bel5 HT3.out.r _ _ _ _ _⟩
                            · have HO : Hid (tout s = ⟨n, k, 2, 0, -1⟩) := by
                                show _ = _
                                have hx := HN.out
                                rw [HTl.out, tend_ok _ (by omega), ← HU.out]
                                congr 1
                                omega
                              have c0 := HT3.out.c0
                              have c1 := HT3.out.c1
                              have c2 := HT3.out.c2
                              have r0 := HT3.out.r.r0
                              have r1 := HT3.out.r.r1
                              have r2 := HT3.out.r.r2
                              have g0 := HT3.out.r.g0
                              have g1 := HT3.out.r.g1
                              have g2 := HT3.out.r.g2
                              have q0 := HT3.out.r.q0
                              have q1 := HT3.out.r.q1
                              have h0 := HT3.out.r.h0
                              have h1 := HT3.out.r.h1
                              have rr := R2.res HT3.out.r (.int .i64 n) (.int .i64 k) (.int .i64 2) (.int .i64 0) (.int .i64 (-1))
                              go_wp2
                              exact bodyPost_ret (v := .tuple #[.agg #[.int .i64 n, .int .i64 k, .int .i64 2], .agg #[.int .i64 0, .int .i64 (-1)]]) (by simp [results, Tryd.results20, go_sem, rr.1, rr.2.1, rr.2.2.1, rr.2.2.2.1, rr.2.2.2.2]) rfl ⟨rout HO.out, R2.bel5 HT3.out.r _ _ _ _ _⟩
                  · have h3' : decide ((i : Int) + 1 + (wd.size : Int) < (s.size : Int)) = false := by simp; omega
                    have HTl : Hid (tout s = tend s 0) := tout_8 HC1.out HC2.out (by rw [← HB.out]; omega)
                    clear h3
                    by_cases hn : 100000 < n
                    · have HO : Hid (tout s = ⟨0, 0, 0, 2, 0⟩) := by show _ = _; rw [HTl.out]; exact tend_far _ (by have := HN.out; omega)
                      have r0 := HT.out.r.r0
                      have r1 := HT.out.r.r1
                      have r2 := HT.out.r.r2
                      have g0 := HT.out.r.g0
                      have g1 := HT.out.r.g1
                      have g2 := HT.out.r.g2
                      have q0 := HT.out.r.q0
                      have q1 := HT.out.r.q1
                      have h0 := HT.out.r.h0
                      have h1 := HT.out.r.h1
                      have rr := R2.res HT.out.r (.int .i64 0) (.int .i64 0) (.int .i64 0) (.int .i64 2) (.int .i64 0)
                      go_wp2
                      exact bodyPost_ret (v := .tuple #[.agg #[.int .i64 0, .int .i64 0, .int .i64 0], .agg #[.int .i64 2, .int .i64 0]]) (by simp [results, Tryd.results20, go_sem, rr.1, rr.2.1, rr.2.2.1, rr.2.2.2.1, rr.2.2.2.2]) rfl ⟨rout HO.out, R2.bel5 HT.out.r _ _ _ _ _⟩
                    · have HO : Hid (tout s = ⟨n, k, 0, 0, -1⟩) := by
                        show _ = _
                        have hx := HN.out
                        rw [HTl.out, tend_ok _ (by omega), ← HU.out]
                        congr 1
                        omega
                      have c0 := HT.out.c0
                      have c1 := HT.out.c1
                      have c2 := HT.out.c2
                      have r0 := HT.out.r.r0
                      have r1 := HT.out.r.r1
                      have r2 := HT.out.r.r2
                      have g0 := HT.out.r.g0
                      have g1 := HT.out.r.g1
                      have g2 := HT.out.r.g2
                      have q0 := HT.out.r.q0
                      have q1 := HT.out.r.q1
                      have h0 := HT.out.r.h0
                      have h1 := HT.out.r.h1
                      have rr := R2.res HT.out.r (.int .i64 n) (.int .i64 k) (.int .i64 0) (.int .i64 0) (.int .i64 (-1))
                      go_wp2
                      exact bodyPost_ret (v := .tuple #[.agg #[.int .i64 n, .int .i64 k, .int .i64 0], .agg #[.int .i64 0, .int .i64 (-1)]]) (by simp [results, Tryd.results20, go_sem, rr.1, rr.2.1, rr.2.2.1, rr.2.2.2.1, rr.2.2.2.2]) rfl ⟨rout HO.out, R2.bel5 HT.out.r _ _ _ _ _⟩
      · have d0 : decide ((i : Int) < s.size) = false := by simp; omega
        have e0 : ((i : Int) == 0) = false := by simp; omega
        have i1 : 0 < s.size := by omega
        have i1' : (0 : Int) < s.size := by omega
        by_cases c1 : 1 < i
        · have c1' : (1 : Int) < i := by omega
          cases hz : atIs s 0 48
          · have e1 : (((s[0].toNat : Nat) : Int) == 48) = false := by rw [byte_eq _ 48 48 (by decide), ← atIs_in i1, hz]
            have HNz : Hid (¬ (1 < runDg s ∧ atIs s 0 48 = true)) := by show ¬ _; rw [hz]; simp
            have HL0 : Hid (len0 s = i) := by show _ = _; rw [len0_run (by rw [← HA.out]; omega) HNz.out, ← HA.out]
            have HO : Hid (tout s = ⟨0, 0, 0, 1, i⟩) := by
              show _ = _
              have := tout_1 (s := s) (.inr (by rw [HL0.out]; exact atIs_out (by omega)))
              rw [HL0.out] at this
              exact this
            have e2 : ((i : Int) == s.size) = true := by simp; omega
            have r0 := HR.out.r0
            have r1 := HR.out.r1
            have r2 := HR.out.r2
            have g0 := HR.out.g0
            have g1 := HR.out.g1
            have g2 := HR.out.g2
            have q0 := HR.out.q0
            have q1 := HR.out.q1
            have h0 := HR.out.h0
            have h1 := HR.out.h1
            have rr := R2.res HR.out (.int .i64 0) (.int .i64 0) (.int .i64 0) (.int .i64 1) (.int .i64 i)
            go_wp2
            exact bodyPost_ret (v := .tuple #[.agg #[.int .i64 0, .int .i64 0, .int .i64 0], .agg #[.int .i64 1, .int .i64 i]]) (by simp [results, Tryd.results20, go_sem, rr.1, rr.2.1, rr.2.2.1, rr.2.2.2.1, rr.2.2.2.2]) rfl ⟨rout HO.out, R2.bel5 HR.out _ _ _ _ _⟩
          · have HO : Hid (tout s = ⟨0, 0, 0, 1, 1⟩) := tout_zero (by rw [← HA.out]; exact c1) hz
            have e1 : (((s[0].toNat : Nat) : Int) == 48) = true := by rw [byte_eq _ 48 48 (by decide), ← atIs_in i1, hz]
            have r0 := HR.out.r0
            have r1 := HR.out.r1
            have r2 := HR.out.r2
            have g0 := HR.out.g0
            have g1 := HR.out.g1
            have g2 := HR.out.g2
            have q0 := HR.out.q0
            have q1 := HR.out.q1
            have h0 := HR.out.h0
            have h1 := HR.out.h1
            have rr := R2.res HR.out (.int .i64 0) (.int .i64 0) (.int .i64 0) (.int .i64 1) (.int .i64 1)
            go_wp2
            exact bodyPost_ret (v := .tuple #[.agg #[.int .i64 0, .int .i64 0, .int .i64 0], .agg #[.int .i64 1, .int .i64 1]]) (by simp [results, Tryd.results20, go_sem, rr.1, rr.2.1, rr.2.2.1, rr.2.2.2.1, rr.2.2.2.2]) rfl ⟨rout HO.out, R2.bel5 HR.out _ _ _ _ _⟩
        · have c1' : decide ((1 : Int) < i) = false := by simp; omega
          have HNz : Hid (¬ (1 < runDg s ∧ atIs s 0 48 = true)) := by show ¬ _; rw [← HA.out]; intro h; exact c1 h.1
          have HL0 : Hid (len0 s = i) := by show _ = _; rw [len0_run (by rw [← HA.out]; omega) HNz.out, ← HA.out]
          have HO : Hid (tout s = ⟨0, 0, 0, 1, i⟩) := by
            show _ = _
            have := tout_1 (s := s) (.inr (by rw [HL0.out]; exact atIs_out (by omega)))
            rw [HL0.out] at this
            exact this
          have e2 : ((i : Int) == s.size) = true := by simp; omega
          have r0 := HR.out.r0
          have r1 := HR.out.r1
          have r2 := HR.out.r2
          have g0 := HR.out.g0
          have g1 := HR.out.g1
          have g2 := HR.out.g2
          have q0 := HR.out.q0
          have q1 := HR.out.q1
          have h0 := HR.out.h0
          have h1 := HR.out.h1
          have rr := R2.res HR.out (.int .i64 0) (.int .i64 0) (.int .i64 0) (.int .i64 1) (.int .i64 i)
          go_wp2
          exact bodyPost_ret (v := .tuple #[.agg #[.int .i64 0, .int .i64 0, .int .i64 0], .agg #[.int .i64 1, .int .i64 i]]) (by simp [results, Tryd.results20, go_sem, rr.1, rr.2.1, rr.2.2.1, rr.2.2.2.1, rr.2.2.2.2]) rfl ⟨rout HO.out, R2.bel5 HR.out _ _ _ _ _⟩
end Go.Proofs.YtplhamloddighaaDoor

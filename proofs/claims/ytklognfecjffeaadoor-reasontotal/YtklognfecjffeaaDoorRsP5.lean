/-
  Package reason: a claim is shown, if it follows (follow's own functions).
-/
import Derived.Test.YtklognfecjffeaaDoorRsP4
namespace Go.Proofs.YtklognfecjffeaaDoor
open Go.RowKit
variable {w : World} {bL bR hi : Nat} {H : Sh} {V : Vs} {s : St}

/-- All that showing stands on. -/
structure Run (w : World) (bL bR hi : Nat) (H : Sh) (V : Vs) (kb bS bH cl ct cm : Nat) (s : St) (m : Bool) : Prop where
  net : Net w bL bR hi H V s
  kn : Kn w kb bS bH (2 * H.N) s.su s.ho
  lits : w.heap[cl]? = some (.cells #[.slice (some ⟨bL, 0, none⟩) (2 * H.N) (2 * H.N)] 68 (0, 0))
  tell : w.heap[ct]? = some (.cells #[.func (.func 17) #[] #[.pointer (some ⟨kb, 0, none⟩)]] 54 (0, 0))
  more : w.heap[cm]? = some (.cells #[.bool m] 4 (0, 0))
  o1 : kb < bL
  o2 : bS < bL
  o3 : bH < bL
  o4 : ct < bL
  o5 : hi ≤ cl
  o6 : cl < cm
  o7 : ct ≠ bS ∧ ct ≠ bH
  few : H.N ≤ 1000
theorem blk_lt {w : World} {k : Nat} {o : Obj} (hb : w.heap[k]? = some o) : k < w.heap.size := by
  rcases Nat.lt_or_ge k w.heap.size with h1 | h1
  · exact h1
  · rw [Array.getElem?_eq_none h1] at hb; cases hb
theorem Run.alloc {kb bS bH cl ct cm : Nat} {m : Bool} (h : Run w bL bR hi H V kb bS bH cl ct cm s m) (o : Obj) : Run (w.alloc o) bL bR hi H V kb bS bH cl ct cm s m := by
  have hc := (Chg.refl [] w).alloc o
  exact ⟨h.net.alloc o, h.kn.alloc o, blk_kept hc h.lits (by simp), blk_kept hc h.tell (by simp), blk_kept hc h.more (by simp), h.o1, h.o2, h.o3, h.o4, h.o5, h.o6, h.o7, h.few⟩
theorem Run.drewN {kb bS bH cl ct cm : Nat} {m : Bool} (h : Run w bL bR hi H V kb bS bH cl ct cm s m) (n : Nat) : Run (w.drewN n) bL bR hi H V kb bS bH cl ct cm s m := by
  have hc := (Chg.refl [] w).drewN n
  exact ⟨h.net.drewN n, h.kn.on rfl rfl rfl, blk_kept hc h.lits (by simp), blk_kept hc h.tell (by simp), blk_kept hc h.more (by simp), h.o1, h.o2, h.o3, h.o4, h.o5, h.o6, h.o7, h.few⟩
/-- Is a claim to be shown now? -/
def toShow (H : Sh) (s : St) (p : Nat) (a b : Bool) : Bool := (if a then s.su p else s.ho p) == 0 && fol4 H s p a b
/-- What has been shown, and whether it is more than before. -/
def shw (H : Sh) (x : St × Bool) (p : Nat) (a b : Bool) : St × Bool := if toShow H x.1 p a b then (litTake H x.1 p a b, true) else x
theorem stTake_su (s : St) (i : Nat) (a b : Bool) : (stTake s i a b).su = s.su ∧ (stTake s i a b).ho = s.ho := by
  unfold stTake; split <;> split <;> exact ⟨rfl, rfl⟩
theorem folT_su (a b : Bool) : ∀ (l : List Nat) (s : St), (folT l s a b).su = s.su ∧ (folT l s a b).ho = s.ho
  | [], s => ⟨rfl, rfl⟩
  | x :: l, s => by
    have h := folT_su a b l (stTake s x a b)
    have h2 := stTake_su s x a b
    exact ⟨h.1.trans h2.1, h.2.trans h2.2⟩
theorem litTake_su (H : Sh) (s : St) (p : Nat) (a b : Bool) : (litTake H s p a b).su = (if a then upd s.su p (ansOf b) else s.su) ∧ (litTake H s p a b).ho = (if a then s.ho else upd s.ho p (ansOf b)) := by
  unfold litTake
  obtain ⟨h1, h2⟩ := folT_su a b (H.wi p) (litS s p a b)
  rw [h1, h2]
  unfold litS
  cases a <;> exact ⟨rfl, rfl⟩
/-- What follows once a claim has been taken and told. -/
theorem Run.shown {kb bS bH cl ct cm : Nat} {m : Bool} {w0 w1 w2 : World} {p : Nat} {a b : Bool} (h : Run w0 bL bR hi H V kb bS bH cl ct cm s m) (h1 : Net w1 bL bR hi H V (litTake H s p a b)) (c1 : Chg [bL, bR] w0 w1)
    (h2 : Kn w2 kb bS bH (2 * H.N) (if a then upd s.su p (ansOf b) else s.su) (if a then s.ho else upd s.ho p (ansOf b))) (c2 : Chg [bS, bH] w1 w2) :
    Run (w2.setCell ⟨cm, 0, none⟩ (.bool true)) bL bR hi H V kb bS bH cl ct cm (litTake H s p a b) true := by
  have e1 := h.net.lt
  have e2 := h.net.lt2
  have g1 := h.o1
  have g2 := h.o2
  have g3 := h.o3
  have g4 := h.o4
  have g5 := h.o5
  have g6 := h.o6
  have g7 := h.o7
  have c3 : Chg [cm] w2 (w2.setCell ⟨cm, 0, none⟩ (.bool true)) := (Chg.refl _ _).setCell (p := ⟨cm, 0, none⟩) (by simp) _
  have hn2 : Net w2 bL bR hi H V (litTake H s p a b) := h1.chg c2 (by intro k hk; simp at hk; omega)
  have hn3 := hn2.chg c3 (by intro k hk; simp at hk; omega)
  refine ⟨hn3, ?_, ?_, ?_, ?_, h.o1, h.o2, h.o3, h.o4, h.o5, h.o6, h.o7, h.few⟩
  · obtain ⟨q1, q2⟩ := litTake_su H s p a b
    rw [q1, q2]
    exact h2.chg c3 (by simp; omega) (by simp; omega) (by simp; omega)
  · exact blk_kept c3 (blk_kept c2 (blk_kept c1 h.lits (by simp; omega)) (by simp; omega)) (by simp; omega)
  · exact blk_kept c3 (blk_kept c2 (blk_kept c1 h.tell (by simp; omega)) (by simp; omega)) (by simp; omega)
  · have := blk_kept c2 (blk_kept c1 h.more (by simp; omega)) (by simp; omega)
    exact one_setCell this
set_option maxHeartbeats 2000000 in
theorem show_p {kb bS bH cl ct cm : Nat} {m : Bool} (h : Run w bL bR hi H V kb bS bH cl ct cm s m) (hb : Bd 200000 s) (a b : Bool) (q : Int) (h0 : q ≠ 0) (h1 : -1000000 ≤ q) (h2 : q ≤ 1000000) (hp : pl q < 2 * H.N) :
    Calls Tryd.prog 34 #[.agg #[.bool a, .bool b, .int .i64 q], .pointer (some ⟨cl, 0, none⟩), .pointer (some ⟨ct, 0, none⟩), .pointer (some ⟨cm, 0, none⟩)] w fun e w' => e = .returned (.tuple #[]) ∧ Run w' bL bR hi H V kb bS bH cl ct cm (shw H (s, m) (pl q) a b).1 (shw H (s, m) (pl q) a b).2 ∧ Chg [bL, bR, bS, bH, cm] w w' := by
  have hA := h.alloc (.cells #[.bool a, .bool b, .int .i64 q] 52)
  have HP : Hid (∀ w, Calls Tryd.prog 19 #[.int .i64 q] w fun e w' => e = .returned (.int .i64 (pl q)) ∧ w' = w) := fun w => place_p q h0 h1 h2 w
  obtain ⟨W, hW⟩ : ∃ W, W = w.alloc (.cells #[.bool a, .bool b, .int .i64 q] 52) := ⟨_, rfl⟩
  have hsz : w.heap.size < W.heap.size := by rw [hW]; simp
  have HWC : Hid (Chg [bL, bR, bS, bH, cm] w W) := by rw [hW]; exact (Chg.refl _ _).alloc _
  have hblk : W.heap[w.heap.size]? = some (.cells #[.bool a, .bool b, .int .i64 q] 52) := by rw [hW]; exact blk_new _ _
  rw [← hW] at hA
  have HW := hidLL hW
  clear hW
  have cells : ∀ W' : World, W'.heap[w.heap.size]? = some (.cells #[.bool a, .bool b, .int .i64 q] 52) → W'.cell? ⟨w.heap.size, 0, none⟩ = some (.bool a) ∧ W'.cell? ⟨w.heap.size, 1, none⟩ = some (.bool b) ∧ W'.cell? ⟨w.heap.size, 2, none⟩ = some (.int .i64 q) := fun W' hb => ⟨by simp [World.cell?, hb], by simp [World.cell?, hb], by simp [World.cell?, hb]⟩
  obtain ⟨c0, c1, c2⟩ := cells W hblk
  have x0 : W.cell? ⟨cl, 0, none⟩ = some (.slice (some ⟨bL, 0, none⟩) (2 * H.N) (2 * H.N)) := by simp [World.cell?, hA.lits]
  have hpz : (pl q : Int) < ((2 * H.N : Nat) : Int) := by omega
  have hfew := h.few
  have HS : Hid (∀ k, Calls Tryd.prog 35 #[.pointer (some ⟨bL, pl q * 5, none⟩), .bool a] (W.drewN k) fun e w' => e = .returned (.bool (!((if a then s.su (pl q) else s.ho (pl q)) == 0))) ∧ w' = W.drewN k) := fun k => settled_p (hA.net.drewN k) hp a
  have HF : Hid (∀ k, Calls Tryd.prog 36 #[.pointer (some ⟨bL, pl q * 5, none⟩), .agg #[.bool a, .bool b, .int .i64 q]] (W.drewN k) fun e w' => e = .returned (.bool (fol4 H s (pl q) a b)) ∧ w' = (W.drewN k).alloc (.cells #[.bool a, .bool b, .int .i64 q] 52)) := fun k => follows_p (hA.net.drewN k) hp a b q
  have HT : Hid (∀ k, Calls Tryd.prog 37 #[.pointer (some ⟨bL, pl q * 5, none⟩), .agg #[.bool a, .bool b, .int .i64 q]] ((W.drewN k).alloc (.cells #[.bool a, .bool b, .int .i64 q] 52)) fun e w' => e = .returned (.tuple #[]) ∧ Net w' bL bR hi H V (litTake H s (pl q) a b) ∧ Chg [bL, bR] ((W.drewN k).alloc (.cells #[.bool a, .bool b, .int .i64 q] 52)) w') := fun k => ltake_p ((hA.net.drewN k).alloc _) hp hb a b q
  have HD : Hid (∀ w1, Kn w1 kb bS bH (2 * H.N) s.su s.ho → Calls Tryd.prog 17 #[.agg #[.bool a, .bool b, .int .i64 q], .pointer (some ⟨kb, 0, none⟩)] w1 fun e w' => e = .returned (.tuple #[]) ∧ Kn w' kb bS bH (2 * H.N) (if a then upd s.su (pl q) (ansOf b) else s.su) (if a then s.ho else upd s.ho (pl q) (ansOf b)) ∧ Chg [bS, bH] w1 w') := fun w1 hk => tell_p hk a b q h0 h1 h2 hp
  have HR := hidLL hA
  have HBk := hidLL hblk
  have HCe := hidLL cells
  have HX : Hid (shw H (s, m) (pl q) a b = if ((if a then s.su (pl q) else s.ho (pl q)) == 0 && fol4 H s (pl q) a b) then (litTake H s (pl q) a b, true) else (s, m)) := rfl
  have e1 := h.net.lt
  have e2 := h.net.lt2
  have e3 := h.net.lt3
  have l1 := blk_lt h.lits
  have l2 := blk_lt h.tell
  have l3 := blk_lt h.more
  have g1 := h.o1
  have g2 := h.o2
  have g3 := h.o3
  have g4 := h.o4
  have g5 := h.o5
  have g6 := h.o6
  have g7 := h.o7
  have hmW := blk_lt hA.more
  clear hA hblk cells h hb
  obtain ⟨O, hO⟩ : ∃ O, O = shw H (s, m) (pl q) a b := ⟨_, rfl⟩
  rw [← hO] at HX ⊢
  clear hO
  obtain ⟨Z, hZ⟩ : ∃ Z, Z = litTake H s (pl q) a b := ⟨_, rfl⟩
  have HZ := hidLL hZ
  rw [← hZ] at HT HX
  clear hZ
  cases hst : ((if a then s.su (pl q) else s.ho (pl q)) == 0) with
  | false =>
    rw [hst] at HS HX
    have HX2 : Hid (O = (s, m)) := HX.out
    clear hst HX HT HD HF
    generalize pl q = P at *
    go_enter Tryd.func34, Tryd.ntmps34
    go_wp2_with fail
    rw [← HW.out]
    go_quiet ((go_at_call 19; exact Calls.quiet_of_same (HP.out _)))
    go_wp2_with (go_at_call 35; refine (HS.out _).mono ?_; rintro e w' ⟨rfl, ew⟩; subst w')
    first | go_end0 | ((try simp only [Exit.inBlock, Exit.then]); refine bodyPost_ret (results_none rfl _ _ _) rfl ?_)
    exact ⟨rfl, by rw [HX2.out]; exact HR.out.drewN _, HWC.out.drewN _⟩
  | true =>
    rw [hst] at HS HX
    clear hst
    cases hf : fol4 H s (pl q) a b with
    | false =>
      rw [hf] at HF HX
      have HX2 : Hid (O = (s, m)) := HX.out
      clear hf HX HT HD
      generalize pl q = P at *
      go_enter Tryd.func34, Tryd.ntmps34
      go_wp2_with fail
      rw [← HW.out]
      go_quiet ((go_at_call 19; exact Calls.quiet_of_same (HP.out _)))
      go_wp2_with (first | (go_at_call 35; refine (HS.out _).mono ?_; rintro e w' ⟨rfl, ew⟩; subst w') | (go_at_call 36; refine (HF.out _).mono ?_; rintro e w' ⟨rfl, ew⟩; subst w'))
      first | go_end0 | ((try simp only [Exit.inBlock, Exit.then]); refine bodyPost_ret (results_none rfl _ _ _) rfl ?_)
      exact ⟨rfl, by rw [HX2.out]; exact (HR.out.drewN _).alloc _, (HWC.out.drewN _).alloc _⟩
    | true =>
      rw [hf] at HF HX
      have HX2 : Hid (O = (Z, true)) := HX.out
      clear hf HX
      obtain ⟨P, hP⟩ : ∃ P, P = pl q := ⟨_, rfl⟩
      rw [← hP] at HP HS HF HT HD HZ hp hpz
      clear hP
      go_enter Tryd.func34, Tryd.ntmps34
      go_wp2_with fail
      rw [← HW.out]
      go_quiet ((go_at_call 19; exact Calls.quiet_of_same (HP.out _)))
      have HG : Hid (∀ k, Calls Tryd.prog 36 #[.pointer (some ⟨bL, P * 5, none⟩), .agg #[.bool a, .bool b, .int .i64 q]] (W.drewN k) fun e w1 => e = .returned (.bool true) ∧ Run w1 bL bR hi H V kb bS bH cl ct cm s m ∧ w1.heap[w.heap.size]? = some (.cells #[.bool a, .bool b, .int .i64 q] 52) ∧ Chg [bL, bR, bS, bH, cm] w w1 ∧ Calls Tryd.prog 37 #[.pointer (some ⟨bL, P * 5, none⟩), .agg #[.bool a, .bool b, .int .i64 q]] w1 fun e w' => e = .returned (.tuple #[]) ∧ Net w' bL bR hi H V Z ∧ Chg [bL, bR] w1 w') := fun k => by
        refine (HF.out k).mono ?_
        rintro e w1 ⟨rfl, hw1⟩
        refine ⟨rfl, by rw [hw1]; exact (HR.out.drewN _).alloc _, by rw [hw1]; exact blk_kept (((Chg.refl [] W).drewN _).alloc _) HBk.out (by simp), by rw [hw1]; exact (HWC.out.drewN _).alloc _, by rw [hw1]; exact HT.out k⟩
      clear HF HT
      go_wp2_with (first | (go_at_call 35; refine (HS.out _).mono ?_; rintro e w' ⟨rfl, ew⟩; subst w') | (go_at_call 36; refine (HG.out _).mono ?_; rintro e W1 ⟨rfl, hR1, hB1, hD1, hT1⟩; obtain ⟨f0, f1, f2⟩ := HCe.out W1 hB1; have HQ1 := hidLL (And.intro hR1 (And.intro hB1 (And.intro hD1 hT1))); clear hR1 hB1 hD1 hT1) | fail)
      refine HQ1.out.2.2.2.mono ?_
      rintro e w1 ⟨rfl, hN1, hC1⟩
      obtain ⟨hR1, hB1, hD1, _⟩ := HQ1.out
      have hB2 := blk_kept hC1 hB1 (by simp; omega)
      have hT2 := blk_kept hC1 hR1.tell (by simp; omega)
      have hM2 := blk_kept hC1 hR1.more (by simp; omega)
      obtain ⟨d0, d1, d2⟩ := HCe.out w1 hB2
      have t0 : w1.cell? ⟨ct, 0, none⟩ = some (.func (.func 17) #[] #[.pointer (some ⟨kb, 0, none⟩)]) := by simp [World.cell?, hT2]
      have HDD := hidLL (HD.out w1 (hR1.kn.chg hC1 (by simp; omega) (by simp; omega) (by simp; omega)))
      have HQ := hidLL (And.intro hR1 (And.intro hC1 (And.intro hD1 (And.intro hN1 hM2))))
      clear hR1 hC1 hB1 hD1 hB2 hT2 hM2 hN1 HD
      go_wp2_with fail
      refine HDD.out.mono ?_
      rintro e w2 ⟨rfl, hK2, hC2⟩
      have hM3 := blk_kept hC2 HQ.out.2.2.2.2 (by simp; omega)
      have v0 : w2.cell? ⟨cm, 0, none⟩ = some (.bool m) := by simp [World.cell?, hM3]
      have v1 : w2.frozen? ⟨cm, 0, none⟩ = false := by simp [World.frozen?, hM3]
      have HQ2 := hidLL (And.intro hK2 hC2)
      clear hM3 hK2 hC2
      go_wp2
      go_end0
      obtain ⟨q1, q2, q3, q4, q5⟩ := HQ.out
      rw [HX2.out, HZ.out]
      rw [HZ.out] at q4
      refine ⟨rfl, q1.shown q4 q2 HQ2.out.1 HQ2.out.2, ?_⟩
      exact ((q3.trans (q2.mono (by simp))).trans (HQ2.out.2.mono (by intro k hk; simp at hk ⊢; omega))).setCell (p := ⟨cm, 0, none⟩) (by simp) _
end Go.Proofs.YtklognfecjffeaaDoor

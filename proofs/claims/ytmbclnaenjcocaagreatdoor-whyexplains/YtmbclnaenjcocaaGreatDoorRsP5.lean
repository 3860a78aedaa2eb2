/-
  Package reason: a claim is shown, if it follows (follow's own functions).
-/
import Derived.Test.YtmbclnaenjcocaaGreatDoorRsP4z
namespace Go.Proofs.YtmbclnaenjcocaaGreatDoor
open Go.RowKit
variable {w : World} {bL bR hi : Nat} {H : Sh} {V : Vs} {s : St}

/-- All blocks below a bound stay, but some. -/
structure Fr (top : Nat) (X : List Nat) (w w' : World) : Prop where
  os : w'.os = w.os
  tape : w'.tape = w.tape
  output : w'.output = w.output
  size : w.heap.size ≤ w'.heap.size
  block : ∀ k, k < top → k ∉ X → w'.heap[k]? = w.heap[k]?
theorem Fr.refl (top : Nat) (X : List Nat) (w : World) : Fr top X w w := ⟨rfl, rfl, rfl, Nat.le_refl _, fun _ _ _ => rfl⟩
theorem Fr.trans {top : Nat} {X : List Nat} {a b c : World} (h : Fr top X a b) (k : Fr top X b c) : Fr top X a c :=
  ⟨k.os.trans h.os, k.tape.trans h.tape, k.output.trans h.output, Nat.le_trans h.size k.size, fun i hi hx => (k.block i hi hx).trans (h.block i hi hx)⟩
theorem Fr.mono {top : Nat} {X Y : List Nat} {a b : World} (h : Fr top X a b) (hs : ∀ k, k ∈ X → k ∈ Y) : Fr top Y a b := ⟨h.os, h.tape, h.output, h.size, fun i hi hx => h.block i hi fun e => hx (hs i e)⟩
theorem Chg.fr {top : Nat} {X : List Nat} {w w' : World} (h : Chg X w w') (ht : top ≤ w.heap.size) : Fr top X w w' := ⟨h.os, h.tape, h.output, h.size, fun k hk hx => h.block k (by omega) hx⟩
theorem Below.fr {top B : Nat} {X : List Nat} {w w' : World} (h : Below B w w') (ht : top ≤ B) : Fr top X w w' := ⟨h.os, h.tape, h.output, h.size, fun k hk _ => h.block k (by omega)⟩
theorem Fr.chg {X : List Nat} {w w' : World} (h : Fr w.heap.size X w w') : Chg X w w' := ⟨h.os, h.tape, h.output, h.size, h.block⟩
theorem Fr.setCell {top : Nat} {X : List Nat} {a b : World} (h : Fr top X a b) {p : Addr} (hp : p.block ∈ X) (u : Value) : Fr top X a (b.setCell p u) :=
  h.trans ⟨rfl, rfl, rfl, by simp, fun k _ hx => Below.heap_setCell _ _ _ _ (fun e => hx (e ▸ hp))⟩
theorem Fr.blk {top : Nat} {X : List Nat} {w w' : World} (h : Fr top X w w') {k : Nat} {o : Obj} (hb : w.heap[k]? = some o) (hk : k < top) (hx : k ∉ X) : w'.heap[k]? = some o := (h.block k hk hx).trans hb
theorem Net.fr {top : Nat} {X : List Nat} {w' : World} (h : Net w bL bR hi H V s) (hf : Fr top X w w') (ht : hi ≤ top) (hx : ∀ k, k ∈ X → V.B ≤ k ∧ (k < bL ∨ hi ≤ k)) : Net w' bL bR hi H V s := by
  have h0 := h.lt0
  have h1 := h.lt
  have h2 := h.lt2
  exact h.on hf.size (fun k hk => hf.block k (by omega) fun e => by have := hx k e; omega) fun k a b => hf.block k (by omega) fun e => by have := hx k e; omega
/-- Is a claim to be shown now? -/
def toShow (H : Sh) (s : St) (p : Nat) (a b : Bool) : Bool := (if a then s.su p else s.ho p) == 0 && fol4 H s p a b
/-- What has been shown, and whether it is more than before. -/
def shw (H : Sh) (x : St × Bool) (p : Nat) (a b : Bool) : St × Bool := if toShow H x.1 p a b then (litTake H x.1 p a b, true) else x
theorem stTake_su (s : St) (i : Nat) (a b : Bool) (q : Int) : (stTake s i a b q).su = s.su ∧ (stTake s i a b q).ho = s.ho := by
  unfold stTake; split <;> split <;> (try split) <;> exact ⟨rfl, rfl⟩
theorem folT_su (a b : Bool) (q : Int) : ∀ (l : List Nat) (s : St), (folT l s a b q).su = s.su ∧ (folT l s a b q).ho = s.ho
  | [], s => ⟨rfl, rfl⟩
  | x :: l, s => by
    have h := folT_su a b q l (stTake s x a b q)
    have h2 := stTake_su s x a b q
    exact ⟨h.1.trans h2.1, h.2.trans h2.2⟩
theorem litTake_su (H : Sh) (s : St) (p : Nat) (a b : Bool) : (litTake H s p a b).su = (if a then upd s.su p (ansOf b) else s.su) ∧ (litTake H s p a b).ho = (if a then s.ho else upd s.ho p (ansOf b)) := by
  unfold litTake
  obtain ⟨h1, h2⟩ := folT_su a b (litOf p) (H.wi p) (litS s p a b)
  rw [h1, h2]
  unfold litS
  cases a <;> exact ⟨rfl, rfl⟩
def LitOk (H : Sh) (q : Int) : Prop := q ≠ 0 ∧ -1000000 ≤ q ∧ q ≤ 1000000 ∧ pl q < 2 * H.N
/-- What is asked of whom claims are told to: K: what it has heard, X: what it writes to. -/
structure Tel (H : Sh) (I : St → Prop) (K : World → St → Prop) (kb top : Nat) (X Y : List Nat) : Prop where
  on : ∀ (W W' : World) (s : St), K W s → W.heap.size ≤ W'.heap.size → (∀ k, k < W.heap.size → k ∉ Y → W'.heap[k]? = W.heap[k]?) → K W' s
  call : ∀ (W : World) (s : St) (a b : Bool) (q : Int) (ad : Option Addr) (n c : Nat), I s → LitOk H q → toShow H s (pl q) a b = true → K W s → CRow W top (.slice ad n c) (fromC H s (pl q) a b) → top ≤ W.heap.size →
    Calls Tryz.prog 19 #[.agg #[.bool a, .bool b, .int .i64 q], .slice ad n c, .pointer (some ⟨kb, 0, none⟩)] W fun e w' => e = .returned (.tuple #[]) ∧ K w' (litTake H s (pl q) a b) ∧ Fr top X W w'
/-- All that showing stands on. -/
structure Run (w : World) (bL bR hi : Nat) (H : Sh) (V : Vs) (K : World → St → Prop) (kb top : Nat) (X : List Nat) (cl ct cm : Nat) (s : St) (m : Bool) : Prop where
  net : Net w bL bR hi H V s
  kn : K w s
  lits : w.heap[cl]? = some (.cells #[.slice (some ⟨bL, 0, none⟩) (2 * H.N) (2 * H.N)] 92 (0, 0))
  tell : w.heap[ct]? = some (.cells #[.func (.func 19) #[] #[.pointer (some ⟨kb, 0, none⟩)]] 69 (0, 0))
  more : w.heap[cm]? = some (.cells #[.bool m] 4 (0, 0))
  o4 : ct < bL
  o5 : hi ≤ cl
  o6 : cl < cm
  o7 : cm < top
  o8 : top ≤ w.heap.size
  xs : ∀ k, k ∈ X → V.B ≤ k ∧ k < bL ∧ k ≠ ct
  few : H.N ≤ 1000
theorem blk_lt {w : World} {k : Nat} {o : Obj} (hb : w.heap[k]? = some o) : k < w.heap.size := by
  rcases Nat.lt_or_ge k w.heap.size with h1 | h1
  · exact h1
  · rw [Array.getElem?_eq_none h1] at hb; cases hb
variable {K : World → St → Prop} {kb top : Nat} {X : List Nat} {I : St → Prop}
theorem Run.grown {cl ct cm : Nat} {m : Bool} {w' : World} (h : Run w bL bR hi H V K kb top X cl ct cm s m) (hT : Tel H I K kb top X [bL, bR, cm]) (hb : Below w.heap.size w w') : Run w' bL bR hi H V K kb top X cl ct cm s m := by
  have hc : Chg [] w w' := Chg.of_below hb
  exact ⟨h.net.grown hb, hT.on w w' s h.kn hb.size fun k hk _ => hb.block k hk, blk_kept hc h.lits (by simp), blk_kept hc h.tell (by simp), blk_kept hc h.more (by simp), h.o4, h.o5, h.o6, h.o7, Nat.le_trans h.o8 hb.size, h.xs, h.few⟩
/-- What follows once a claim has been taken and told. -/
theorem Run.shown {cl ct cm : Nat} {m : Bool} {w0 w1 w2 : World} {p : Nat} {a b : Bool} (h : Run w0 bL bR hi H V K kb top X cl ct cm s m) (hT : Tel H I K kb top X [bL, bR, cm]) (h1 : Net w1 bL bR hi H V (litTake H s p a b)) (c1 : Chg [bL, bR] w0 w1)
    (h2 : K w2 (litTake H s p a b)) (c2 : Fr top X w1 w2) :
    Run (w2.setCell ⟨cm, 0, none⟩ (.bool true)) bL bR hi H V K kb top X cl ct cm (litTake H s p a b) true ∧ Fr top (bL :: bR :: cm :: X) w0 (w2.setCell ⟨cm, 0, none⟩ (.bool true)) := by
  have e0 := h.net.lt0
  have e1 := h.net.lt
  have e2 := h.net.lt2
  have g4 := h.o4
  have g5 := h.o5
  have g6 := h.o6
  have g7 := h.o7
  have g8 := h.o8
  have f1 : Fr top [bL, bR] w0 w1 := c1.fr g8
  have c3 : Fr top [cm] w2 (w2.setCell ⟨cm, 0, none⟩ (.bool true)) := (Fr.refl _ _ _).setCell (p := ⟨cm, 0, none⟩) (by simp) _
  have hn2 : Net w2 bL bR hi H V (litTake H s p a b) := h1.fr c2 (by omega) fun k hk => ⟨(h.xs k hk).1, .inl (h.xs k hk).2.1⟩
  have hn3 := hn2.fr c3 (by omega) (by intro k hk; simp at hk; subst hk; omega)
  have xn : ∀ k, bL ≤ k ∨ k = ct → k ∉ X := fun k hk e => by have := h.xs k e; omega
  refine ⟨⟨hn3, ?_, ?_, ?_, ?_, h.o4, h.o5, h.o6, h.o7, ?_, h.xs, h.few⟩, ?_⟩
  · exact hT.on w2 _ _ h2 c3.size fun k hk hy => Below.heap_setCell _ _ _ _ (by intro e; exact hy (by simp [e]))
  · exact c3.blk (c2.blk (f1.blk h.lits (by omega) (by simp; omega)) (by omega) (xn _ (by omega))) (by omega) (by simp; omega)
  · exact c3.blk (c2.blk (f1.blk h.tell (by omega) (by simp; omega)) (by omega) (xn _ (.inr rfl))) (by omega) (by simp; omega)
  · have := c2.blk (f1.blk h.more (by omega) (by simp; omega)) (by omega) (xn _ (by omega))
    exact one_setCell this
  · have := c1.size
    have := c2.size
    have := c3.size
    omega
  · exact ((f1.mono (by intro k hk; simp at hk ⊢; omega)).trans (c2.mono (by intro k hk; simp [hk]))).trans (c3.mono (by intro k hk; simp at hk ⊢; omega))
set_option maxHeartbeats 2000000 in
theorem show_p {cl ct cm : Nat} {m : Bool} (h : Run w bL bR hi H V K kb top X cl ct cm s m) (hT : Tel H I K kb top X [bL, bR, cm]) (hI : I s) (hb : Bd 200000 s) (hU : ∀ i, 0 ≤ s.uh i) (a b : Bool) (q : Int) (hq : LitOk H q) :
    Calls Tryz.prog 49 #[.agg #[.bool a, .bool b, .int .i64 q], .pointer (some ⟨cl, 0, none⟩), .pointer (some ⟨ct, 0, none⟩), .pointer (some ⟨cm, 0, none⟩)] w fun e w' => e = .returned (.tuple #[]) ∧ Run w' bL bR hi H V K kb top X cl ct cm (shw H (s, m) (pl q) a b).1 (shw H (s, m) (pl q) a b).2 ∧ Fr top (bL :: bR :: cm :: X) w w' := by
  have hqq := hq
  obtain ⟨h0, h1, h2, hp⟩ := hq
  have hbW : Below w.heap.size w (w.alloc (.cells #[.bool a, .bool b, .int .i64 q] 65)) := (Below.refl _ _).alloc (Nat.le_refl _) _
  have hA := h.grown hT hbW
  have HP : Hid (∀ w, Calls Tryz.prog 40 #[.int .i64 q] w fun e w' => e = .returned (.int .i64 (pl q)) ∧ w' = w) := fun w => place_p q h0 h1 h2 w
  obtain ⟨W, hW⟩ : ∃ W, W = w.alloc (.cells #[.bool a, .bool b, .int .i64 q] 65) := ⟨_, rfl⟩
  have hsz : w.heap.size < W.heap.size := by rw [hW]; simp
  have hblk : W.heap[w.heap.size]? = some (.cells #[.bool a, .bool b, .int .i64 q] 65) := by rw [hW]; exact blk_new _ _
  rw [← hW] at hA hbW
  have HW := hidLL hW
  have HWB := hidLL hbW
  clear hW hbW
  have cells : ∀ W' : World, W'.heap[w.heap.size]? = some (.cells #[.bool a, .bool b, .int .i64 q] 65) → W'.cell? ⟨w.heap.size, 0, none⟩ = some (.bool a) ∧ W'.cell? ⟨w.heap.size, 1, none⟩ = some (.bool b) ∧ W'.cell? ⟨w.heap.size, 2, none⟩ = some (.int .i64 q) := fun W' hb => ⟨by simp [World.cell?, hb], by simp [World.cell?, hb], by simp [World.cell?, hb]⟩
  obtain ⟨c0, c1, c2⟩ := cells W hblk
  have x0 : W.cell? ⟨cl, 0, none⟩ = some (.slice (some ⟨bL, 0, none⟩) (2 * H.N) (2 * H.N)) := by simp [World.cell?, hA.lits]
  have hpz : (pl q : Int) < ((2 * H.N : Nat) : Int) := by omega
  have hfew := h.few
  have hbq : ∀ k, Below W.heap.size W (W.drewN k) := fun k => ⟨rfl, rfl, rfl, Nat.le_refl _, fun _ _ => rfl⟩
  have HS : Hid (∀ k, Calls Tryz.prog 50 #[.pointer (some ⟨bL, pl q * 6, none⟩), .bool a] (W.drewN k) fun e w' => e = .returned (.bool (!((if a then s.su (pl q) else s.ho (pl q)) == 0))) ∧ w' = W.drewN k) := fun k => settled_p (hA.net.drewN k) hp a
  have HF : Hid (∀ k, Calls Tryz.prog 42 #[.pointer (some ⟨bL, pl q * 6, none⟩), .agg #[.bool a, .bool b, .int .i64 q]] (W.drewN k) fun e w1 => ∃ ad n c, e = .returned (.tuple #[.slice ad n c, .bool (fol4 H s (pl q) a b)]) ∧ Below W.heap.size W w1 ∧ (fol4 H s (pl q) a b = true → CRow w1 W.heap.size (.slice ad n c) (fromC H s (pl q) a b))) := fun k => by
    refine (from_p (hA.net.drewN k) hp (by rw [litOf_pl h0]; exact h1) (by rw [litOf_pl h0]; exact h2) hU a b q).mono ?_
    rintro e w1 ⟨ad, n, c, rfl, g1, g2⟩
    exact ⟨ad, n, c, rfl, (hbq k).trans g1, g2⟩
  have HT : Hid (∀ w1, Below W.heap.size W w1 → Calls Tryz.prog 43 #[.pointer (some ⟨bL, pl q * 6, none⟩), .agg #[.bool a, .bool b, .int .i64 q]] w1 fun e w' => e = .returned (.tuple #[]) ∧ Net w' bL bR hi H V (litTake H s (pl q) a b) ∧ Chg [bL, bR] w1 w') := fun w1 g => ltake_p (hA.net.grown g) hp hb a b q (litOf_pl h0)
  have HD : Hid (∀ w1 ad n c, toShow H s (pl q) a b = true → K w1 s → CRow w1 top (.slice ad n c) (fromC H s (pl q) a b) → top ≤ w1.heap.size → Calls Tryz.prog 19 #[.agg #[.bool a, .bool b, .int .i64 q], .slice ad n c, .pointer (some ⟨kb, 0, none⟩)] w1 fun e w' => e = .returned (.tuple #[]) ∧ K w' (litTake H s (pl q) a b) ∧ Fr top X w1 w') := fun w1 ad n c ht hk hc hz => hT.call w1 s a b q ad n c hI hqq ht hk hc hz
  have HR := hidLL hA
  have HBk := hidLL hblk
  have HCe := hidLL cells
  have HTel := hidLL hT
  have HX : Hid (shw H (s, m) (pl q) a b = if ((if a then s.su (pl q) else s.ho (pl q)) == 0 && fol4 H s (pl q) a b) then (litTake H s (pl q) a b, true) else (s, m)) := rfl
  have HTS : Hid (toShow H s (pl q) a b = ((if a then s.su (pl q) else s.ho (pl q)) == 0 && fol4 H s (pl q) a b)) := rfl
  have e1 := h.net.lt
  have e2 := h.net.lt2
  have e3 := h.net.lt3
  have l1 := blk_lt h.lits
  have l2 := blk_lt h.tell
  have l3 := blk_lt h.more
  have g4 := h.o4
  have g5 := h.o5
  have g6 := h.o6
  have g7 := h.o7
  have g8 := h.o8
  have hmW := blk_lt hA.more
  have HTX : Hid (ct ∉ X) := fun e => (h.xs ct e).2.2 rfl
  have HMX : Hid (cm ∉ X) := fun e => by have := (h.xs cm e).2.1; omega
  clear hA hblk cells h hb hT hU hI hqq hbq
  obtain ⟨O, hO⟩ : ∃ O, O = shw H (s, m) (pl q) a b := ⟨_, rfl⟩
  rw [← hO] at HX ⊢
  clear hO
  obtain ⟨Z, hZ⟩ : ∃ Z, Z = litTake H s (pl q) a b := ⟨_, rfl⟩
  have HZ := hidLL hZ
  rw [← hZ] at HT HX HD
  clear hZ
  cases hst : ((if a then s.su (pl q) else s.ho (pl q)) == 0) with
  | false =>
    rw [hst] at HS HX
    have HX2 : Hid (O = (s, m)) := HX.out
    clear hst HX HT HD HF HTS
    generalize pl q = P at *
    go_enter Tryz.func49, Tryz.ntmps49
    go_wp2_with fail
    rw [← HW.out]
    go_quiet ((go_at_call 40; exact Calls.quiet_of_same (HP.out _)))
    go_wp2_with (go_at_call 50; refine (HS.out _).mono ?_; rintro e w' ⟨rfl, ew⟩; subst w')
    first | go_end0 | ((try simp only [Exit.inBlock, Exit.then]); refine bodyPost_ret (results_none rfl _ _ _) rfl ?_)
    exact ⟨rfl, by rw [HX2.out]; exact HR.out.grown HTel.out ⟨rfl, rfl, rfl, Nat.le_refl _, fun _ _ => rfl⟩, Below.fr (HWB.out.trans ⟨rfl, rfl, rfl, Nat.le_refl _, fun _ _ => rfl⟩) g8⟩
  | true =>
    rw [hst] at HS HX HTS
    clear hst
    cases hf : fol4 H s (pl q) a b with
    | false =>
      rw [hf] at HF HX
      have HX2 : Hid (O = (s, m)) := HX.out
      clear hf HX HT HD HTS
      generalize fromC H s (pl q) a b = FC at *
      generalize pl q = P at *
      go_enter Tryz.func49, Tryz.ntmps49
      go_wp2_with fail
      rw [← HW.out]
      go_quiet ((go_at_call 40; exact Calls.quiet_of_same (HP.out _)))
      go_wp2_with (first | (go_at_call 50; refine (HS.out _).mono ?_; rintro e w' ⟨rfl, ew⟩; subst w') | (go_at_call 42; refine (HF.out _).mono ?_; rintro e w1 ⟨ad, n, c, rfl, hb1, _⟩; have HB1 := hidLL hb1; clear hb1))
      first | go_end0 | ((try simp only [Exit.inBlock, Exit.then]); refine bodyPost_ret (results_none rfl _ _ _) rfl ?_)
      exact ⟨rfl, by rw [HX2.out]; exact HR.out.grown HTel.out HB1.out, Below.fr (HWB.out.trans (HB1.out.mono HWB.out.size)) g8⟩
    | true =>
      rw [hf] at HF HX HTS
      have HX2 : Hid (O = (Z, true)) := HX.out
      have HTT : Hid (toShow H s (pl q) a b = true) := HTS.out
      clear hf HX HTS
      obtain ⟨FC, hFC⟩ : ∃ FC, FC = fromC H s (pl q) a b := ⟨_, rfl⟩
      rw [← hFC] at HF HD
      clear hFC
      obtain ⟨P, hP⟩ : ∃ P, P = pl q := ⟨_, rfl⟩
      rw [← hP] at HP HS HF HT HD HZ HTT hp hpz
      clear hP
      go_enter Tryz.func49, Tryz.ntmps49
      go_wp2_with fail
      rw [← HW.out]
      go_quiet ((go_at_call 40; exact Calls.quiet_of_same (HP.out _)))
      have HG : Hid (∀ k, Calls Tryz.prog 42 #[.pointer (some ⟨bL, P * 6, none⟩), .agg #[.bool a, .bool b, .int .i64 q]] (W.drewN k) fun e w1 => ∃ ad n c, e = .returned (.tuple #[.slice ad n c, .bool true]) ∧ Run w1 bL bR hi H V K kb top X cl ct cm s m ∧ w1.heap[w.heap.size]? = some (.cells #[.bool a, .bool b, .int .i64 q] 65) ∧ Below w.heap.size w w1 ∧ CRow w1 W.heap.size (.slice ad n c) FC ∧ Calls Tryz.prog 43 #[.pointer (some ⟨bL, P * 6, none⟩), .agg #[.bool a, .bool b, .int .i64 q]] w1 fun e w' => e = .returned (.tuple #[]) ∧ Net w' bL bR hi H V Z ∧ Chg [bL, bR] w1 w') := fun k => by
        refine (HF.out k).mono ?_
        rintro e w1 ⟨ad, n, c, rfl, g1, g2⟩
        exact ⟨ad, n, c, rfl, HR.out.grown HTel.out g1, blk_kept (Chg.of_below (X := []) g1) HBk.out (by simp), HWB.out.trans (g1.mono HWB.out.size), g2 (by first | rfl | trivial), HT.out w1 g1⟩
      clear HF HT
      go_wp2_with (first | (go_at_call 50; refine (HS.out _).mono ?_; rintro e w' ⟨rfl, ew⟩; subst w') | (go_at_call 42; refine (HG.out _).mono ?_; rintro e W1 ⟨ad, n, c, rfl, hR1, hB1, hD1, hF1, hT1⟩; obtain ⟨f0, f1, f2⟩ := HCe.out W1 hB1; have HQ1 := hidLL (And.intro hR1 (And.intro hB1 (And.intro hD1 (And.intro hF1 hT1)))); clear hR1 hB1 hD1 hF1 hT1) | fail)
      refine HQ1.out.2.2.2.2.mono ?_
      rintro e w1 ⟨rfl, hN1, hC1⟩
      obtain ⟨hR1, hB1, hD1, hF1, _⟩ := HQ1.out
      have hB2 := blk_kept hC1 hB1 (by simp; omega)
      have hT2 := blk_kept hC1 hR1.tell (by simp; omega)
      have hM2 := blk_kept hC1 hR1.more (by simp; omega)
      obtain ⟨d0, d1, d2⟩ := HCe.out w1 hB2
      have t0 : w1.cell? ⟨ct, 0, none⟩ = some (.func (.func 19) #[] #[.pointer (some ⟨kb, 0, none⟩)]) := by simp [World.cell?, hT2]
      have hK1 : K w1 s := HTel.out.on _ _ _ hR1.kn hC1.size fun k hk hy => hC1.block k hk (by intro e; apply hy; simp at e ⊢; omega)
      have hF2 : CRow w1 top (.slice ad n c) FC := (hF1.on fun g _ hg hl => hC1.block g hl (by simp; omega)).mono (by omega)
      have HDD := hidLL (HD.out w1 ad n c HTT.out hK1 hF2 (Nat.le_trans hR1.o8 hC1.size))
      have HQ := hidLL (And.intro hR1 (And.intro hC1 (And.intro hD1 (And.intro hN1 hM2))))
      clear hR1 hC1 hB1 hD1 hB2 hT2 hM2 hN1 HD hK1 hF2 hF1
      go_wp2_with fail
      refine HDD.out.mono ?_
      rintro e w2 ⟨rfl, hK2, hC2⟩
      have hM3 := hC2.blk HQ.out.2.2.2.2 (by omega) HMX.out
      have v0 : w2.cell? ⟨cm, 0, none⟩ = some (.bool m) := by simp [World.cell?, hM3]
      have v1 : w2.frozen? ⟨cm, 0, none⟩ = false := by simp [World.frozen?, hM3]
      have HQ2 := hidLL (And.intro hK2 hC2)
      clear hM3 hK2 hC2
      go_wp2
      go_end0
      obtain ⟨q1, q2, q3, q4, q5⟩ := HQ.out
      obtain ⟨q6, q7⟩ := HQ2.out
      rw [HX2.out, HZ.out]
      rw [HZ.out] at q4 q6
      have q8 := q1.shown HTel.out q4 q2 q6 q7
      exact ⟨rfl, q8.1, (Below.fr q3 g8).trans q8.2⟩
end Go.Proofs.YtmbclnaenjcocaaGreatDoor

/-
  Package reason: what is shown of a literal is taken, by all in whose bodies it is.
-/
import Derived.Test.YtmbclnaenjcocaaGreatDoorRsClm
namespace Go.Proofs.YtmbclnaenjcocaaGreatDoor
open Go.RowKit
variable {w : World} {bL bR hi : Nat} {H : Sh} {V : Vs} {s : St}

/-- One of a rule's body has been shown. -/
def stTake (s : St) (i : Nat) (a b : Bool) (q : Int) : St := if a then (if b then { s with us := upd s.us i (s.us i - 1) } else if s.ns i = 0 then { s with ns := upd s.ns i q } else s) else (if b then { s with uh := upd s.uh i (s.uh i - 1) } else if s.fa i = 0 then { s with fa := upd s.fa i q } else s)
def Bd (n : Int) (s : St) : Prop := ∀ i, -n ≤ s.us i ∧ s.us i ≤ n ∧ -n ≤ s.uh i ∧ s.uh i ≤ n
theorem Bd.take {n : Int} {s : St} (h : Bd n s) (i : Nat) (a b : Bool) (q : Int) : Bd (n + 1) (stTake s i a b q) := by
  intro j
  have h1 := h j
  have h2 := h i
  unfold stTake
  split <;> split <;> (try split) <;> (try simp only [upd]) <;> (try split) <;> omega
set_option maxHeartbeats 1000000 in
theorem stake_p (h : Net w bL bR hi H V s) {i : Nat} (hp : i < H.R) (hb : Bd 1000000 s) (a b : Bool) (q : Int) : Calls Tryz.prog 69 #[.pointer (some ⟨bR, i * 7, none⟩), .agg #[.bool a, .bool b, .int .i64 q]] w fun e w' => e = .returned (.tuple #[]) ∧ Net w' bL bR hi H V (stTake s i a b q) ∧ Chg [bR] w w' := by
  have HN := hidLL h
  obtain ⟨x0, x1, x2, x3, x4, x5, x6, xf⟩ := h.std hp
  have hlt := h.rowR.lt
  obtain ⟨b1, b2, b3, b4⟩ := hb i
  obtain ⟨u, hu⟩ : ∃ u, u = s.us i := ⟨_, rfl⟩
  obtain ⟨v, hv⟩ : ∃ v, v = s.uh i := ⟨_, rfl⟩
  obtain ⟨n1, hn1⟩ : ∃ u, u = s.ns i := ⟨_, rfl⟩
  obtain ⟨n2, hn2⟩ : ∃ u, u = s.fa i := ⟨_, rfl⟩
  rw [← hu] at b1 b2 x3
  rw [← hv] at b3 b4 x4
  rw [← hn1] at x5
  rw [← hn2] at x6
  have HE := hidLL (And.intro hu (And.intro hv (And.intro hn1 hn2)))
  clear h hb hu hv hn1 hn2
  generalize H.kd i = k at *
  generalize V.a i = va at *
  generalize V.b i = vb at *
  obtain ⟨X, hX⟩ : ∃ X, X = i * 7 := ⟨_, rfl⟩
  rw [← hX] at x0 x1 x2 x3 x4 x5 x6 ⊢
  have HX := hidLL hX
  clear hX
  cases a
  · cases b
    · by_cases h0 : n2 = 0
      · subst h0
        go_enter Tryz.func69, Tryz.ntmps69
        go_wp2
        go_end0
        have hz : stTake s i false false q = { s with fa := upd s.fa i q } := by
          unfold stTake
          simp [← HE.out.2.2.2]
        rw [hz, HX.out]
        refine ⟨rfl, ?_, ?_⟩
        · exact (HN.out.setR (i * 7 + 6) _ (fun x _ => stF_fa H V s i q x) (fun _ => rfl)).alloc _
        · exact ((Chg.refl [bR] w).setCell (p := ⟨bR, _, none⟩) (List.mem_singleton.2 rfl) _).alloc _
      · go_enter Tryz.func69, Tryz.ntmps69
        go_wp2
        go_end0
        have hz : stTake s i false false q = s := by
          unfold stTake
          simp [← HE.out.2.2.2, h0]
        rw [hz]
        exact ⟨rfl, HN.out.alloc _, (Chg.refl [bR] w).alloc _⟩
    · go_enter Tryz.func69, Tryz.ntmps69
      go_wp2
      go_end0
      refine ⟨rfl, ?_, ?_⟩
      · rw [HX.out, HE.out.2.1]
        exact (HN.out.setR (i * 7 + 4) _ (fun x _ => stF_uh H V s i _ x) (fun _ => rfl)).alloc _
      · exact ((Chg.refl [bR] w).setCell (p := ⟨bR, _, none⟩) (List.mem_singleton.2 rfl) _).alloc _
  · cases b
    · by_cases h0 : n1 = 0
      · subst h0
        go_enter Tryz.func69, Tryz.ntmps69
        go_wp2
        go_end0
        have hz : stTake s i true false q = { s with ns := upd s.ns i q } := by
          unfold stTake
          simp [← HE.out.2.2.1]
        rw [hz, HX.out]
        refine ⟨rfl, ?_, ?_⟩
        · exact (HN.out.setR (i * 7 + 5) _ (fun x _ => stF_ns H V s i q x) (fun _ => rfl)).alloc _
        · exact ((Chg.refl [bR] w).setCell (p := ⟨bR, _, none⟩) (List.mem_singleton.2 rfl) _).alloc _
      · go_enter Tryz.func69, Tryz.ntmps69
        go_wp2
        go_end0
        have hz : stTake s i true false q = s := by
          unfold stTake
          simp [← HE.out.2.2.1, h0]
        rw [hz]
        exact ⟨rfl, HN.out.alloc _, (Chg.refl [bR] w).alloc _⟩
    · go_enter Tryz.func69, Tryz.ntmps69
      go_wp2
      go_end0
      refine ⟨rfl, ?_, ?_⟩
      · rw [HX.out, HE.out.1]
        exact (HN.out.setR (i * 7 + 3) _ (fun x _ => stF_us H V s i _ x) (fun _ => rfl)).alloc _
      · exact ((Chg.refl [bR] w).setCell (p := ⟨bR, _, none⟩) (List.mem_singleton.2 rfl) _).alloc _
def litS (s : St) (p : Nat) (a b : Bool) : St := if a then { s with su := upd s.su p (ansOf b) } else { s with ho := upd s.ho p (ansOf b) }
def folT (l : List Nat) (s : St) (a b : Bool) (q : Int) : St := l.foldl (fun s i => stTake s i a b q) s
def litTake (H : Sh) (s : St) (p : Nat) (a b : Bool) : St := folT (H.wi p) (litS s p a b) a b (litOf p)
theorem folT_snoc (l : List Nat) (j i : Nat) (s : St) (a b : Bool) (q : Int) (h : l[j]? = some i) : folT (l.take (j + 1)) s a b q = stTake (folT (l.take j) s a b q) i a b q := by
  obtain ⟨hj, e⟩ := List.getElem?_eq_some_iff.1 h
  unfold folT
  rw [List.take_succ_eq_append_getElem hj, List.foldl_append, e]
  rfl
theorem Bd.mono {n m : Int} {s : St} (h : Bd n s) (hn : n ≤ m) : Bd m s := fun i => by have := h i; omega
theorem Bd.fol {n : Int} (a b : Bool) (q : Int) : ∀ (l : List Nat) (s : St), Bd n s → Bd (n + l.length) (folT l s a b q)
  | [], s, h => by simpa [folT] using h
  | x :: l, s, h => by
    have := Bd.fol (n := n + 1) a b q l _ (h.take x a b q)
    unfold folT at this ⊢
    rw [List.foldl_cons]
    exact this.mono (by simp only [List.length_cons]; omega)
theorem Bd.lit {n : Int} {s : St} (h : Bd n s) (p : Nat) (a b : Bool) : Bd n (litS s p a b) := by
  intro i
  have := h i
  unfold litS
  split <;> exact this
theorem blk_kept {X : List Nat} {w w' : World} (h : Chg X w w') {k : Nat} {o : Obj} (hb : w.heap[k]? = some o) (hx : k ∉ X) : w'.heap[k]? = some o := by
  have hk : k < w.heap.size := by
    rcases Nat.lt_or_ge k w.heap.size with h1 | h1
    · exact h1
    · rw [Array.getElem?_eq_none h1] at hb; cases hb
  rw [h.block k hk hx, hb]
theorem blk_new (w : World) (o : Obj) : (w.alloc o).heap[w.heap.size]? = some o := Go.Deep.blk_alloc_new _ _
set_option maxHeartbeats 1000000 in
theorem ltake_p (h : Net w bL bR hi H V s) {p : Nat} (hp : p < 2 * H.N) (hb : Bd 200000 s) (a b : Bool) (q : Int) (hq : litOf p = q) : Calls Tryz.prog 43 #[.pointer (some ⟨bL, p * 6, none⟩), .agg #[.bool a, .bool b, .int .i64 q]] w fun e w' => e = .returned (.tuple #[]) ∧ Net w' bL bR hi H V (litTake H s p a b) ∧ Chg [bL, bR] w w' := by
  obtain ⟨x0, x1, x2, x3, x4, x5, xf⟩ := h.lit hp
  have hlt := h.rowL.lt
  have hltR := h.rowR.lt
  obtain ⟨a0, c0, e1, hl, _⟩ := h.wi p hp
  have HE := hidLL e1
  rw [e1] at x3
  have HB : Hid (∀ j : Nat, Bd (200000 + j) (folT ((H.wi p).take j) (litS s p a b) a b q)) := fun j => (Bd.fol a b q _ _ (hb.lit p a b)).mono (by have := List.length_take_le j (H.wi p); omega)
  have HS : Hid (Net (w.setCell ⟨bL, p * 6 + (if a then 4 else 5), none⟩ (.int .i64 (ansOf b))) bL bR hi H V (litS s p a b)) := by
    cases a
    · exact h.setL (p * 6 + 5) _ (fun x _ => litF_ho bL V s p _ x) (fun _ => rfl)
    · exact h.setL (p * 6 + 4) _ (fun x _ => litF_su bL V s p _ x) (fun _ => rfl)
  have HT : Hid (litTake H s p a b = folT ((H.wi p).take (H.wi p).length) (litS s p a b) a b q) := by show _ = _; rw [List.take_length, ← hq]; rfl
  have HW := hidLL h.lt
  clear e1 h hb x0 x1 x2
  generalize litTake H s p a b = Z at *
  obtain ⟨l, hll⟩ : ∃ l, l = H.wi p := ⟨_, rfl⟩
  rw [← hll] at HB HT HE hl x3
  have HLL := hidLL hll
  clear hll
  obtain ⟨n, hn⟩ : ∃ n, n = l.length := ⟨_, rfl⟩
  rw [← hn] at HE HT hl x3
  have HNN := hidLL hn
  clear hn
  generalize litS s p a b = s0 at *
  obtain ⟨u, hu⟩ : ∃ u, u = ansOf b := ⟨_, rfl⟩
  rw [← hu] at HS
  have HA : Hid (∀ w, Calls Tryz.prog 64 #[.agg #[.bool a, .bool b, .int .i64 q]] w fun e w' => e = .returned (.int .i64 u) ∧ w' = w.alloc (.cells #[.bool a, .bool b, .int .i64 q] 65)) := fun w => by rw [hu]; exact answer_p a b q w
  clear hu
  generalize s.su p = k1 at *
  generalize s.ho p = k2 at *
  obtain ⟨X, hX⟩ : ∃ X, X = p * 6 := ⟨_, rfl⟩
  rw [← hX] at x3 x4 x5 HS ⊢
  have HX := hidLL hX
  clear hX
  cases a
  · go_enter Tryz.func43, Tryz.ntmps43
    go_wp2_with (go_at_call 64; refine (HA.out _).mono ?_; rintro e w' ⟨rfl, ew⟩; subst w')
    go_loopw [23] (fun t wr => ∃ j : Nat, j ≤ n ∧ t = .int .i64 j ∧ Net wr bL bR hi H V (folT (l.take j) s0 false b q) ∧ Chg [bL, bR] w wr ∧ wr.heap[w.heap.size]? = some (.cells #[.bool false, .bool b, .int .i64 q] 65)) (fun t _ => n - (RowKit.intOf t).toNat)
    case atStart =>
      refine ⟨0, by omega, rfl, (HS.out.alloc _).alloc _, (((Chg.refl _ w).setCell (p := ⟨bL, _, none⟩) (by simp) _).alloc _).alloc _, ?_⟩
      have e2 := blk_new (w.setCell ⟨bL, X + 5, none⟩ (.int .i64 u)) (.cells #[.bool false, .bool b, .int .i64 q] 65)
      rw [World.size_setCell] at e2
      exact blk_kept ((Chg.refl [] _).alloc _) e2 (by simp)
    case round =>
      obtain ⟨j, hj, rfl, hN, hC, hB⟩ := hrel
      by_cases hlt2 : j < n
      · obtain ⟨i, hi2⟩ : ∃ i, l[j]? = some i := ⟨_, List.getElem?_eq_getElem (by have := HNN.out; omega)⟩
        have hjz : (j : Int) < n := by omega
        have hPR := hN.wi p hp
        rw [HE.out, ← HLL.out] at hPR
        obtain ⟨a1, c1, e3, _, hx⟩ := hPR
        obtain rfl : a0 = a1 := by injection e3
        clear e3
        obtain ⟨hiR, g, rfl, _, _, cx⟩ := hx j i hi2
        have HC2 := hidLL (stake_p hN hiR ((HB.out j).mono (m := 1000000) (by have := HNN.out; omega)) false b q)
        rw [← folT_snoc l j i s0 false b q hi2] at HC2
        have y0 : wr.cell? ⟨w.heap.size, 0, none⟩ = some (.bool false) := by simp [World.cell?, hB]
        have y1 : wr.cell? ⟨w.heap.size, 1, none⟩ = some (.bool b) := by simp [World.cell?, hB]
        have y2 : wr.cell? ⟨w.heap.size, 2, none⟩ = some (.int .i64 q) := by simp [World.cell?, hB]
        have HR := hidLL (And.intro hC hB)
        clear hx hN hC hB hi2
        go_wp2_with fail
        refine HC2.out.mono ?_
        rintro e w2 ⟨rfl, hN2, hC2⟩
        have HQ := hidLL (And.intro hN2 hC2)
        clear hN2 hC2
        go_wp2
        go_roundw
        case rel => exact ⟨j + 1, by omega, by go_num, HQ.out.1, HR.out.1.trans (HQ.out.2.mono (by simp)), blk_kept HQ.out.2 HR.out.2 (by simp; omega)⟩
        case measure => simp [RowKit.intOf]; omega
      · obtain rfl : j = n := by omega
        have HR := hidLL (And.intro hN hC)
        clear hN hC hB
        go_wp2
        go_end0
        exact ⟨rfl, by rw [HT.out]; exact HR.out.1, HR.out.2⟩
  · go_enter Tryz.func43, Tryz.ntmps43
    go_wp2_with (go_at_call 64; refine (HA.out _).mono ?_; rintro e w' ⟨rfl, ew⟩; subst w')
    go_loopw [23] (fun t wr => ∃ j : Nat, j ≤ n ∧ t = .int .i64 j ∧ Net wr bL bR hi H V (folT (l.take j) s0 true b q) ∧ Chg [bL, bR] w wr ∧ wr.heap[w.heap.size]? = some (.cells #[.bool true, .bool b, .int .i64 q] 65)) (fun t _ => n - (RowKit.intOf t).toNat)
    case atStart =>
      refine ⟨0, by omega, rfl, (HS.out.alloc _).alloc _, (((Chg.refl _ w).setCell (p := ⟨bL, _, none⟩) (by simp) _).alloc _).alloc _, ?_⟩
      have e2 := blk_new (w.setCell ⟨bL, X + 4, none⟩ (.int .i64 u)) (.cells #[.bool true, .bool b, .int .i64 q] 65)
      rw [World.size_setCell] at e2
      exact blk_kept ((Chg.refl [] _).alloc _) e2 (by simp)
    case round =>
      obtain ⟨j, hj, rfl, hN, hC, hB⟩ := hrel
      by_cases hlt2 : j < n
      · obtain ⟨i, hi2⟩ : ∃ i, l[j]? = some i := ⟨_, List.getElem?_eq_getElem (by have := HNN.out; omega)⟩
        have hjz : (j : Int) < n := by omega
        have hPR := hN.wi p hp
        rw [HE.out, ← HLL.out] at hPR
        obtain ⟨a1, c1, e3, _, hx⟩ := hPR
        obtain rfl : a0 = a1 := by injection e3
        clear e3
        obtain ⟨hiR, g, rfl, _, _, cx⟩ := hx j i hi2
        have HC2 := hidLL (stake_p hN hiR ((HB.out j).mono (m := 1000000) (by have := HNN.out; omega)) true b q)
        rw [← folT_snoc l j i s0 true b q hi2] at HC2
        have y0 : wr.cell? ⟨w.heap.size, 0, none⟩ = some (.bool true) := by simp [World.cell?, hB]
        have y1 : wr.cell? ⟨w.heap.size, 1, none⟩ = some (.bool b) := by simp [World.cell?, hB]
        have y2 : wr.cell? ⟨w.heap.size, 2, none⟩ = some (.int .i64 q) := by simp [World.cell?, hB]
        have HR := hidLL (And.intro hC hB)
        clear hx hN hC hB hi2
        go_wp2_with fail
        refine HC2.out.mono ?_
        rintro e w2 ⟨rfl, hN2, hC2⟩
        have HQ := hidLL (And.intro hN2 hC2)
        clear hN2 hC2
        go_wp2
        go_roundw
        case rel => exact ⟨j + 1, by omega, by go_num, HQ.out.1, HR.out.1.trans (HQ.out.2.mono (by simp)), blk_kept HQ.out.2 HR.out.2 (by simp; omega)⟩
        case measure => simp [RowKit.intOf]; omega
      · obtain rfl : j = n := by omega
        have HR := hidLL (And.intro hN hC)
        clear hN hC hB
        go_wp2
        go_end0
        exact ⟨rfl, by rw [HT.out]; exact HR.out.1, HR.out.2⟩
end Go.Proofs.YtmbclnaenjcocaaGreatDoor

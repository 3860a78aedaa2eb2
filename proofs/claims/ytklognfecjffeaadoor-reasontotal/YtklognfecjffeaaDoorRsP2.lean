/-
  Package reason: what follows of a literal; what is taken.
-/
import Derived.Test.YtklognfecjffeaaDoorRsP1
namespace Go.Proofs.YtklognfecjffeaaDoor
open Go.RowKit
variable {w : World} {bL bR hi : Nat} {H : Sh} {V : Vs} {s : St}

theorem opp_lt {p n : Nat} (h : p < 2 * n) : opp p < 2 * n := by unfold opp; split <;> omega
theorem fSure_p (h : Net w bL bR hi H V s) {p : Nat} (hp : p < 2 * H.N) : Calls Tryd.prog 53 #[.pointer (some ⟨bL, p * 5, none⟩)] w fun e w' => e = .returned (.bool ((H.ru p).any (bSure H s))) ∧ w' = w := by
  have HC := hidLL (has_sure h (h.ru p hp))
  obtain ⟨x0, x1, x2, x3, x4, xf⟩ := h.lit hp
  obtain ⟨a, c, e1, _, _⟩ := h.ru p hp
  rw [e1] at x1 HC
  clear h e1 x0 x2 x3 x4 xf
  generalize (H.ru p).any (bSure H s) = C at *
  generalize (H.ru p).length = L at *
  generalize p * 5 = X at *
  go_enter Tryd.func53, Tryd.ntmps53
  go_wp2_with fail
  refine HC.out.mono ?_
  rintro e w' ⟨rfl, ew⟩
  subst w'
  go_wp2
  go_ret
  exact ⟨rfl, rfl⟩
theorem fNot_p (h : Net w bL bR hi H V s) {p : Nat} (hp : p < 2 * H.N) : Calls Tryd.prog 54 #[.pointer (some ⟨bL, p * 5, none⟩)] w fun e w' => e = .returned (.bool (!(H.ru p).any (bNot H s))) ∧ w' = w := by
  have HC := hidLL (has_not h (h.ru p hp))
  obtain ⟨x0, x1, x2, x3, x4, xf⟩ := h.lit hp
  obtain ⟨a, c, e1, _, _⟩ := h.ru p hp
  rw [e1] at x1 HC
  clear h e1 x0 x2 x3 x4 xf
  generalize (H.ru p).any (bNot H s) = C at *
  generalize (H.ru p).length = L at *
  generalize p * 5 = X at *
  go_enter Tryd.func54, Tryd.ntmps54
  go_wp2_with fail
  refine HC.out.mono ?_
  rintro e w' ⟨rfl, ew⟩
  subst w'
  go_wp2
  go_ret
  exact ⟨rfl, rfl⟩
def fHold (H : Sh) (s : St) (p : Nat) : Bool := s.su p == 1 || (s.su (opp p) == 2 && (H.ru p).any (bCar H s) && !(H.ru (opp p)).any (bWay H s))
def fFail (H : Sh) (s : St) (p : Nat) : Bool := s.su p == 2 && (s.su (opp p) == 1 || !(H.ru p).any (bMay H s) || (H.ru (opp p)).any (bStop H s))
set_option maxHeartbeats 1000000 in
theorem fHold_p (h : Net w bL bR hi H V s) {p : Nat} (hp : p < 2 * H.N) : Calls Tryd.prog 55 #[.pointer (some ⟨bL, p * 5, none⟩)] w fun e w' => e = .returned (.bool (fHold H s p)) ∧ w' = w := by
  have HC := hidLL (has_car h (h.ru p hp))
  have HD := hidLL (has_way h (h.ru (opp p) (opp_lt hp)))
  have HF : Hid (fHold H s p = (s.su p == 1 || (s.su (opp p) == 2 && (H.ru p).any (bCar H s) && !(H.ru (opp p)).any (bWay H s)))) := rfl
  obtain ⟨x0, x1, x2, x3, x4, xf⟩ := h.lit hp
  obtain ⟨y0, y1, y2, y3, y4, yf⟩ := h.lit (opp_lt hp)
  obtain ⟨a, c, e1, _, _⟩ := h.ru p hp
  obtain ⟨a', c', e2, _, _⟩ := h.ru (opp p) (opp_lt hp)
  rw [e1] at x1 HC
  rw [e2] at y1 HD
  clear h e1 e2 x2 x4 xf y0 y2 y4 yf
  generalize fHold H s p = F at *
  generalize (H.ru p).any (bCar H s) = C at *
  generalize (H.ru (opp p)).any (bWay H s) = D at *
  generalize (H.ru p).length = L at *
  generalize (H.ru (opp p)).length = L' at *
  generalize s.su p = k1 at *
  generalize s.su (opp p) = k2 at *
  generalize p * 5 = X at *
  generalize opp p * 5 = Y at *
  by_cases h1 : k1 = 1
  · subst h1
    go_enter Tryd.func55, Tryd.ntmps55
    go_wp2
    go_ret
    exact ⟨retB (by rw [HF.out]; rfl), rfl⟩
  · by_cases h2 : k2 = 2
    · subst h2
      cases C
      · go_enter Tryd.func55, Tryd.ntmps55
        go_wp2_with (go_at_call 70; refine HC.out.mono ?_; rintro e w' ⟨rfl, ew⟩; subst w')
        go_ret
        exact ⟨retB (by rw [HF.out]; simp [h1]), rfl⟩
      · go_enter Tryd.func55, Tryd.ntmps55
        go_wp2_with fail
        refine HC.out.mono ?_
        rintro e w' ⟨rfl, ew⟩
        subst w'
        go_wp2_with fail
        refine HD.out.mono ?_
        rintro e w' ⟨rfl, ew⟩
        subst w'
        go_wp2
        go_ret
        exact ⟨retB (by rw [HF.out]; simp [h1]), rfl⟩
    · go_enter Tryd.func55, Tryd.ntmps55
      go_wp2
      go_ret
      exact ⟨retB (by rw [HF.out]; simp [h1, h2]), rfl⟩
set_option maxHeartbeats 1000000 in
theorem fFail_p (h : Net w bL bR hi H V s) {p : Nat} (hp : p < 2 * H.N) : Calls Tryd.prog 56 #[.pointer (some ⟨bL, p * 5, none⟩)] w fun e w' => e = .returned (.bool (fFail H s p)) ∧ w' = w := by
  have HC := hidLL (has_may h (h.ru p hp))
  have HD := hidLL (has_stop h (h.ru (opp p) (opp_lt hp)))
  have HF : Hid (fFail H s p = (s.su p == 2 && (s.su (opp p) == 1 || !(H.ru p).any (bMay H s) || (H.ru (opp p)).any (bStop H s)))) := rfl
  obtain ⟨x0, x1, x2, x3, x4, xf⟩ := h.lit hp
  obtain ⟨y0, y1, y2, y3, y4, yf⟩ := h.lit (opp_lt hp)
  obtain ⟨a, c, e1, _, _⟩ := h.ru p hp
  obtain ⟨a', c', e2, _, _⟩ := h.ru (opp p) (opp_lt hp)
  rw [e1] at x1 HC
  rw [e2] at y1 HD
  clear h e1 e2 x2 x4 xf y0 y2 y4 yf
  generalize fFail H s p = F at *
  generalize (H.ru p).any (bMay H s) = C at *
  generalize (H.ru (opp p)).any (bStop H s) = D at *
  generalize (H.ru p).length = L at *
  generalize (H.ru (opp p)).length = L' at *
  generalize s.su p = k1 at *
  generalize s.su (opp p) = k2 at *
  generalize p * 5 = X at *
  generalize opp p * 5 = Y at *
  by_cases h1 : k1 = 2
  · subst h1
    by_cases h2 : k2 = 1
    · subst h2
      go_enter Tryd.func56, Tryd.ntmps56
      go_wp2
      go_ret
      exact ⟨retB (by rw [HF.out]; rfl), rfl⟩
    · cases C
      · go_enter Tryd.func56, Tryd.ntmps56
        go_wp2_with (go_at_call 70; refine HC.out.mono ?_; rintro e w' ⟨rfl, ew⟩; subst w')
        go_ret
        exact ⟨retB (by rw [HF.out]; simp), rfl⟩
      · go_enter Tryd.func56, Tryd.ntmps56
        go_wp2_with fail
        refine HC.out.mono ?_
        rintro e w' ⟨rfl, ew⟩
        subst w'
        go_wp2_with fail
        refine HD.out.mono ?_
        rintro e w' ⟨rfl, ew⟩
        subst w'
        go_wp2
        go_ret
        exact ⟨retB (by rw [HF.out]; simp), rfl⟩
  · go_enter Tryd.func56, Tryd.ntmps56
    go_wp2
    go_ret
    exact ⟨retB (by rw [HF.out]; simp [h1]), rfl⟩
/-- Does a claim of a literal follow? -/
def fol4 (H : Sh) (s : St) (p : Nat) (a b : Bool) : Bool := if a then (if b then (H.ru p).any (bSure H s) else !(H.ru p).any (bNot H s)) else (if b then fHold H s p else fFail H s p)
set_option maxHeartbeats 1000000 in
theorem follows_p (h : Net w bL bR hi H V s) {p : Nat} (hp : p < 2 * H.N) (a b : Bool) (q : Int) : Calls Tryd.prog 36 #[.pointer (some ⟨bL, p * 5, none⟩), .agg #[.bool a, .bool b, .int .i64 q]] w fun e w' => e = .returned (.bool (fol4 H s p a b)) ∧ w' = w.alloc (.cells #[.bool a, .bool b, .int .i64 q] 52) := by
  have h' := h.alloc (.cells #[.bool a, .bool b, .int .i64 q] 52)
  have H1 := hidLL (fSure_p h' hp)
  have H2 := hidLL (fNot_p h' hp)
  have H3 := hidLL (fHold_p h' hp)
  have H4 := hidLL (fFail_p h' hp)
  have HF : Hid (fol4 H s p a b = if a then (if b then (H.ru p).any (bSure H s) else !(H.ru p).any (bNot H s)) else (if b then fHold H s p else fFail H s p)) := rfl
  clear h h'
  generalize fol4 H s p a b = F at *
  generalize (H.ru p).any (bSure H s) = C1 at *
  generalize (H.ru p).any (bNot H s) = C2 at *
  generalize fHold H s p = C3 at *
  generalize fFail H s p = C4 at *
  generalize p * 5 = X at *
  cases a
  · cases b
    · go_enter Tryd.func36, Tryd.ntmps36
      go_wp2_with (go_at_call 56; refine H4.out.mono ?_; rintro e w' ⟨rfl, ew⟩; subst w')
      go_ret
      exact ⟨retB (by rw [HF.out]; rfl), rfl⟩
    · go_enter Tryd.func36, Tryd.ntmps36
      go_wp2_with (go_at_call 55; refine H3.out.mono ?_; rintro e w' ⟨rfl, ew⟩; subst w')
      go_ret
      exact ⟨retB (by rw [HF.out]; rfl), rfl⟩
  · cases b
    · go_enter Tryd.func36, Tryd.ntmps36
      go_wp2_with (go_at_call 54; refine H2.out.mono ?_; rintro e w' ⟨rfl, ew⟩; subst w')
      go_ret
      exact ⟨retB (by rw [HF.out]; rfl), rfl⟩
    · go_enter Tryd.func36, Tryd.ntmps36
      go_wp2_with (go_at_call 53; refine H1.out.mono ?_; rintro e w' ⟨rfl, ew⟩; subst w')
      go_ret
      exact ⟨retB (by rw [HF.out]; rfl), rfl⟩
/-- One of a rule's body has been shown. -/
def stTake (s : St) (i : Nat) (a b : Bool) : St := if a then (if b then { s with us := upd s.us i (s.us i - 1) } else { s with ns := upd s.ns i true }) else (if b then { s with uh := upd s.uh i (s.uh i - 1) } else { s with fa := upd s.fa i true })
def Bd (n : Int) (s : St) : Prop := ∀ i, -n ≤ s.us i ∧ s.us i ≤ n ∧ -n ≤ s.uh i ∧ s.uh i ≤ n
theorem Bd.take {n : Int} {s : St} (h : Bd n s) (i : Nat) (a b : Bool) : Bd (n + 1) (stTake s i a b) := by
  intro j
  have h1 := h j
  have h2 := h i
  unfold stTake
  split <;> split <;> simp only [upd] <;> (try split) <;> omega
set_option maxHeartbeats 1000000 in
theorem stake_p (h : Net w bL bR hi H V s) {i : Nat} (hp : i < H.R) (hb : Bd 1000000 s) (a b : Bool) (q : Int) : Calls Tryd.prog 57 #[.pointer (some ⟨bR, i * 6, none⟩), .agg #[.bool a, .bool b, .int .i64 q]] w fun e w' => e = .returned (.tuple #[]) ∧ Net w' bL bR hi H V (stTake s i a b) ∧ Chg [bR] w w' := by
  have HN := hidLL h
  obtain ⟨x0, x1, x2, x3, x4, x5, xf⟩ := h.std hp
  have hlt := h.rowR.lt
  obtain ⟨b1, b2, b3, b4⟩ := hb i
  have HU := hidLL (show s.us i = s.us i from rfl)
  obtain ⟨u, hu⟩ : ∃ u, u = s.us i := ⟨_, rfl⟩
  obtain ⟨v, hv⟩ : ∃ v, v = s.uh i := ⟨_, rfl⟩
  rw [← hu] at b1 b2 x2
  rw [← hv] at b3 b4 x3
  have HE := hidLL (And.intro hu hv)
  clear h hb hu hv HU
  generalize s.ns i = a3 at *
  generalize s.fa i = a4 at *
  generalize H.kd i = k at *
  generalize V.a i = va at *
  obtain ⟨X, hX⟩ : ∃ X, X = i * 6 := ⟨_, rfl⟩
  rw [← hX] at x0 x1 x2 x3 x4 x5 ⊢
  have HX := hidLL hX
  clear hX
  cases a
  · cases b
    · go_enter Tryd.func57, Tryd.ntmps57
      go_wp2
      go_end0
      refine ⟨rfl, ?_, ?_⟩
      · rw [HX.out]
        exact (HN.out.setR (i * 6 + 5) _ (fun x _ => stF_fa H V s i true x) (fun _ => rfl)).alloc _
      · exact ((Chg.refl [bR] w).setCell (p := ⟨bR, _, none⟩) (List.mem_singleton.2 rfl) _).alloc _
    · go_enter Tryd.func57, Tryd.ntmps57
      go_wp2
      go_end0
      refine ⟨rfl, ?_, ?_⟩
      · rw [HX.out, HE.out.2]
        exact (HN.out.setR (i * 6 + 3) _ (fun x _ => stF_uh H V s i _ x) (fun _ => rfl)).alloc _
      · exact ((Chg.refl [bR] w).setCell (p := ⟨bR, _, none⟩) (List.mem_singleton.2 rfl) _).alloc _
  · cases b
    · go_enter Tryd.func57, Tryd.ntmps57
      go_wp2
      go_end0
      refine ⟨rfl, ?_, ?_⟩
      · rw [HX.out]
        exact (HN.out.setR (i * 6 + 4) _ (fun x _ => stF_ns H V s i true x) (fun _ => rfl)).alloc _
      · exact ((Chg.refl [bR] w).setCell (p := ⟨bR, _, none⟩) (List.mem_singleton.2 rfl) _).alloc _
    · go_enter Tryd.func57, Tryd.ntmps57
      go_wp2
      go_end0
      refine ⟨rfl, ?_, ?_⟩
      · rw [HX.out, HE.out.1]
        exact (HN.out.setR (i * 6 + 2) _ (fun x _ => stF_us H V s i _ x) (fun _ => rfl)).alloc _
      · exact ((Chg.refl [bR] w).setCell (p := ⟨bR, _, none⟩) (List.mem_singleton.2 rfl) _).alloc _
end Go.Proofs.YtklognfecjffeaaDoor

/-
  Theories, plain: what follows (the four things of P81), coherence, totality. No program.
-/
import Derived.RowKit
namespace Go.Proofs.YtmbclnaenjcocaaGreatDoor

structure Rl where
  kind : Int
  head : Int
  body : List Int
structure Thy where
  names : Int
  rules : List Rl
  over : List (Int × Int)
/-- What is shown: by kind (0 SURE, 1 NOT SURE, 2 HOLDS, 3 FAILS) and literal. -/
abbrev Marks := Nat → Int → Prop
def Thy.rl (T : Thy) (i : Nat) (r : Rl) : Prop := T.rules[i]? = some r
def IsLit (T : Thy) (q : Int) : Prop := q ≠ 0 ∧ -T.names ≤ q ∧ q ≤ T.names
def Rl.every (r : Rl) (S : Marks) (k : Nat) : Prop := ∀ b, b ∈ r.body → S k b
def Rl.some (r : Rl) (S : Marks) (k : Nat) : Prop := ∃ b, b ∈ r.body ∧ S k b
def Ovr (T : Thy) (a b : Nat) : Prop := ((a : Int), (b : Int)) ∈ T.over
def CanSure (T : Thy) (S : Marks) (q : Int) : Prop := ∃ i r, T.rl i r ∧ r.kind = 0 ∧ r.head = q ∧ r.every S 0
def CanNot (T : Thy) (S : Marks) (q : Int) : Prop := ∀ i r, T.rl i r → r.kind = 0 → r.head = q → r.some S 1
/-- A strict or defeasible rule for q, one of some, all of whose body holds. -/
def Help (T : Thy) (S : Marks) (q : Int) (P : Nat → Prop) : Prop := ∃ i r, T.rl i r ∧ r.head = q ∧ r.kind ≠ 2 ∧ P i ∧ r.every S 2
def Lost (T : Thy) (S : Marks) (q : Int) (P : Nat → Prop) : Prop := ∀ i r, T.rl i r → r.head = q → r.kind ≠ 2 → P i → r.some S 3
def CanHold (T : Thy) (S : Marks) (q : Int) : Prop := S 0 q ∨ (S 1 (-q) ∧ Help T S q (fun _ => True) ∧ ∀ k r, T.rl k r → r.head = -q → r.some S 3 ∨ Help T S q (fun i => Ovr T i k))
def CanFail (T : Thy) (S : Marks) (q : Int) : Prop := S 1 q ∧ (S 0 (-q) ∨ Lost T S q (fun _ => True) ∨ ∃ k r, T.rl k r ∧ r.head = -q ∧ r.every S 2 ∧ Lost T S q (fun i => Ovr T i k))
def Can (T : Thy) (S : Marks) : Nat → Int → Prop
  | 0, q => CanSure T S q
  | 1, q => CanNot T S q
  | 2, q => CanHold T S q
  | 3, q => CanFail T S q
  | _, _ => False
def Subm (S S' : Marks) : Prop := ∀ k q, S k q → S' k q
theorem Rl.every_mono {r : Rl} {S S' : Marks} (h : Subm S S') {k : Nat} (e : r.every S k) : r.every S' k := fun b hb => h _ _ (e b hb)
theorem Rl.some_mono {r : Rl} {S S' : Marks} (h : Subm S S') {k : Nat} (e : r.some S k) : r.some S' k := e.imp fun _ hb => ⟨hb.1, h _ _ hb.2⟩
theorem Help.mono {T : Thy} {S S' : Marks} (h : Subm S S') {q : Int} {P : Nat → Prop} : Help T S q P → Help T S' q P := fun ⟨i, r, h1, h2, h3, h4, h5⟩ => ⟨i, r, h1, h2, h3, h4, Rl.every_mono h h5⟩
theorem Lost.mono {T : Thy} {S S' : Marks} (h : Subm S S') {q : Int} {P : Nat → Prop} : Lost T S q P → Lost T S' q P := fun H i r h1 h2 h3 h4 => Rl.some_mono h (H i r h1 h2 h3 h4)
theorem Can.mono {T : Thy} {S S' : Marks} (h : Subm S S') : ∀ (k : Nat) (q : Int), Can T S k q → Can T S' k q
  | 0, q, ⟨i, r, h1, h2, h3, h4⟩ => ⟨i, r, h1, h2, h3, Rl.every_mono h h4⟩
  | 1, q, H => fun i r h1 h2 h3 => Rl.some_mono h (H i r h1 h2 h3)
  | 2, q, H => by
    rcases H with H | ⟨h1, h2, h3⟩
    · exact .inl (h _ _ H)
    · exact .inr ⟨h _ _ h1, h2.mono h, fun k r a b => (h3 k r a b).imp (fun e => Rl.some_mono h e) (fun e => e.mono h)⟩
  | 3, q, H => by
    obtain ⟨h1, H⟩ := H
    refine ⟨h _ _ h1, ?_⟩
    rcases H with H | H | ⟨k, r, a, b, c, d⟩
    · exact .inl (h _ _ H)
    · exact .inr (.inl (H.mono h))
    · exact .inr (.inr ⟨k, r, a, b, Rl.every_mono h c, d.mono h⟩)
  | _ + 4, _, H => H.elim
/-- Nothing is shown with its contrary. -/
structure Coh (S : Marks) : Prop where
  sure : ∀ q, S 0 q → S 1 q → False
  holds : ∀ q, S 2 q → S 3 q → False
theorem Coh.sure_step {T : Thy} {S : Marks} (h : Coh S) {q : Int} (a : Can T S 0 q) (b : Can T S 1 q) : False := by
  obtain ⟨i, r, h1, h2, h3, h4⟩ := a
  obtain ⟨c, hc, hs⟩ := b i r h1 h2 h3
  exact h.sure c (h4 c hc) hs
theorem Coh.fails {S : Marks} (h : Coh S) {r : Rl} (a : r.every S 2) (b : r.some S 3) : False := by
  obtain ⟨c, hc, hs⟩ := b
  exact h.holds c (a c hc) hs
theorem Coh.holds_step {T : Thy} {S : Marks} (h : Coh S) {q : Int} (a : Can T S 2 q) (b : Can T S 3 q) : False := by
  obtain ⟨n, b⟩ := b
  rcases a with a | ⟨m, ⟨i, r, h1, h2, h3, h4, h5⟩, h6⟩
  · exact h.sure q a n
  · rcases b with b | b | ⟨k, r', h1', h2', h3', h4'⟩
    · exact h.sure _ b m
    · exact h.fails h5 (b i r h1 h2 h3 trivial)
    · rcases h6 k r' h1' h2' with c | ⟨j, r2, c1, c2, c3, c4, c5⟩
      · exact h.fails h3' c
      · exact h.fails c5 (h4' j r2 c1 c2 c3 c4)
/-- The least that has all of these. -/
def Fol (T : Thy) (k : Nat) (q : Int) : Prop := ∀ S : Marks, (∀ k q, IsLit T q → Can T S k q → S k q) → S k q
/-- What has been shown, step by step. -/
structure Shw (T : Thy) (S : Marks) : Prop where
  fol : ∀ k q, S k q → Fol T k q
  sup : ∀ k q, S k q → Can T S k q
  lit : ∀ k q, S k q → IsLit T q
  coh : Coh S
theorem Shw.none (T : Thy) : Shw T (fun _ _ => False) := ⟨fun _ _ h => h.elim, fun _ _ h => h.elim, fun _ _ h => h.elim, ⟨fun _ h => h.elim, fun _ h => h.elim⟩⟩
def addM (S : Marks) (k : Nat) (q : Int) : Marks := fun k' q' => S k' q' ∨ (k' = k ∧ q' = q)
theorem addM_sub (S : Marks) (k : Nat) (q : Int) : Subm S (addM S k q) := fun _ _ h => .inl h
theorem Shw.add {T : Thy} {S : Marks} (h : Shw T S) {k : Nat} {q : Int} (hq : IsLit T q) (hc : Can T S k q) : Shw T (addM S k q) := by
  have hk : k < 4 := by
    rcases Nat.lt_or_ge k 4 with h | h
    · exact h
    · obtain ⟨j, rfl⟩ : ∃ j, k = j + 4 := ⟨k - 4, by omega⟩
      exact hc.elim
  refine ⟨?_, ?_, ?_, ?_, ?_⟩
  · rintro k' q' (a | ⟨rfl, rfl⟩)
    · exact h.fol _ _ a
    · exact fun S' hS => hS _ _ hq (Can.mono (fun _ _ e => h.fol _ _ e S' hS) _ _ hc)
  · rintro k' q' (a | ⟨rfl, rfl⟩)
    · exact Can.mono (addM_sub _ _ _) _ _ (h.sup _ _ a)
    · exact Can.mono (addM_sub _ _ _) _ _ hc
  · rintro k' q' (a | ⟨rfl, rfl⟩)
    · exact h.lit _ _ a
    · exact hq
  · rintro q' (a | ⟨e1, e2⟩) (b | ⟨e3, e4⟩)
    · exact h.coh.sure _ a b
    · subst e3 e4; exact h.coh.sure_step (h.sup _ _ a) hc
    · subst e1 e2; exact h.coh.sure_step hc (h.sup _ _ b)
    · omega
  · rintro q' (a | ⟨e1, e2⟩) (b | ⟨e3, e4⟩)
    · exact h.coh.holds _ a b
    · subst e3 e4; exact h.coh.holds_step (h.sup _ _ a) hc
    · subst e1 e2; exact h.coh.holds_step hc (h.sup _ _ b)
    · omega
/-- Whatever can be shown is. -/
def Closed (T : Thy) (S : Marks) : Prop := ∀ k q, IsLit T q → Can T S k q → S k q
theorem Shw.all {T : Thy} {S : Marks} (h : Shw T S) (hc : Closed T S) (k : Nat) (q : Int) : S k q ↔ Fol T k q := ⟨h.fol k q, fun e => e S hc⟩
/-- Where what can be shown is settled, one way or the other, it is shown. -/
theorem Shw.closed {T : Thy} {S : Marks} (h : Shw T S) (hs : ∀ q, IsLit T q → (Can T S 0 q ∨ Can T S 1 q → S 0 q ∨ S 1 q) ∧ (Can T S 2 q ∨ Can T S 3 q → S 2 q ∨ S 3 q)) : Closed T S := by
  intro k q hq hc
  obtain ⟨h1, h2⟩ := hs q hq
  match k, hc with
  | 0, hc => exact (h1 (.inl hc)).resolve_right fun e => h.coh.sure_step hc (h.sup _ _ e)
  | 1, hc => exact (h1 (.inr hc)).resolve_left fun e => h.coh.sure_step (h.sup _ _ e) hc
  | 2, hc => exact (h2 (.inl hc)).resolve_right fun e => h.coh.holds_step hc (h.sup _ _ e)
  | 3, hc => exact (h2 (.inr hc)).resolve_left fun e => h.coh.holds_step (h.sup _ _ e) hc
  | _ + 4, hc => exact hc.elim
/-- No rule is above itself: there is a rank. -/
def Ranked (T : Thy) : Prop := ∃ f : Nat → Nat, ∀ a b, Ovr T a b → f a < f b
theorem chain {T : Thy} {f : Nat → Nat} (hf : ∀ a b, Ovr T a b → f a < f b) {P : Nat → Prop} (hs : ∀ k, P k → ∃ i, P i ∧ Ovr T i k) : ∀ n k, f k ≤ n → P k → False
  | n, k, hn, hp => by
    obtain ⟨i, h1, h2⟩ := hs k hp
    have := hf i k h2
    match n, hn with
    | 0, hn => omega
    | n + 1, hn => exact chain hf hs n i (by omega) h1
/-- A literal and its opposite hold only if both are sure. -/
theorem Shw.firm {T : Thy} {S : Marks} (h : Shw T S) (hr : Ranked T) {q : Int} (a : S 2 q) (b : S 2 (-q)) : S 0 q ∧ S 0 (-q) := by
  have ha := h.sup _ _ a
  have hb := h.sup _ _ b
  rcases ha with ha | ⟨a1, ⟨i, r, i1, i2, i3, _, i5⟩, a3⟩
  · rcases hb with hb | ⟨b1, _⟩
    · exact ⟨ha, hb⟩
    · rw [Int.neg_neg] at b1
      exact (h.coh.sure _ ha b1).elim
  · rcases hb with hb | ⟨b1, b2, b3⟩
    · exact (h.coh.sure _ hb a1).elim
    · rw [Int.neg_neg] at b3
      obtain ⟨f, hf⟩ := hr
      exfalso
      refine chain hf (P := fun k => ∃ r, T.rl k r ∧ (r.head = q ∨ r.head = -q) ∧ r.every S 2) ?_ (f i) i (Nat.le_refl _) ⟨r, i1, .inl i2, i5⟩
      rintro k ⟨r', h1, h2 | h2, h3⟩
      · rcases b3 k r' h1 h2 with c | ⟨j, r2, c1, c2, _, c4, c5⟩
        · exact (h.coh.fails h3 c).elim
        · exact ⟨j, ⟨r2, c1, .inr c2, c5⟩, c4⟩
      · rcases a3 k r' h1 h2 with c | ⟨j, r2, c1, c2, _, c4, c5⟩
        · exact (h.coh.fails h3 c).elim
        · exact ⟨j, ⟨r2, c1, .inl c2, c5⟩, c4⟩
theorem Shw.sure_holds {T : Thy} {S : Marks} (h : Shw T S) (hc : Closed T S) {q : Int} (a : S 0 q) : S 2 q := hc 2 q (h.lit _ _ a) (.inl a)
theorem Shw.fails_not {T : Thy} {S : Marks} (h : Shw T S) {q : Int} (a : S 3 q) : S 1 q := (h.sup _ _ a).1
/-- Where bodies speak of names ahead of their head's alone, nothing is open. -/
theorem total {T : Thy} {S : Marks} (hc : Closed T S) (hw : ∀ i r, T.rl i r → IsLit T r.head ∧ ∀ b, b ∈ r.body → IsLit T b) (hl : ∀ i r, T.rl i r → ∀ b, b ∈ r.body → b.natAbs < r.head.natAbs) :
    ∀ (n : Nat) (q : Int), IsLit T q → q.natAbs ≤ n → (S 0 q ∨ S 1 q) ∧ (S 2 q ∨ S 3 q)
  | 0, q, hq, hn => by
    obtain ⟨h0, _⟩ := hq
    omega
  | n + 1, q, hq, hn => by
    have ih := total hc hw hl n
    have hnq : IsLit T (-q) := ⟨by have := hq.1; omega, by have := hq.2.2; omega, by have := hq.2.1; omega⟩
    have hb : ∀ i r, T.rl i r → (r.head = q ∨ r.head = -q) → ∀ b, b ∈ r.body → (S 0 b ∨ S 1 b) ∧ (S 2 b ∨ S 3 b) := fun i r h1 h2 b h3 =>
      ih b ((hw i r h1).2 b h3) (by have := hl i r h1 b h3; rcases h2 with e | e <;> rw [e] at this <;> omega)
    have ev : ∀ i r, T.rl i r → (r.head = q ∨ r.head = -q) → r.every S 2 ∨ r.some S 3 := fun i r h1 h2 => by
      by_cases e : r.every S 2
      · exact .inl e
      · refine .inr ?_
        apply Classical.byContradiction
        intro ne
        exact e fun b h3 => ((hb i r h1 h2 b h3).2).resolve_right fun s => ne ⟨b, h3, s⟩
    have su : ∀ p, IsLit T p → (p = q ∨ p = -q) → S 0 p ∨ S 1 p := fun p hp h2 => by
      by_cases c : CanSure T S p
      · exact .inl (hc 0 p hp c)
      · refine .inr (hc 1 p hp ?_)
        intro i r h1 hk hh
        apply Classical.byContradiction
        intro ne
        exact c ⟨i, r, h1, hk, hh, fun b h3 => ((hb i r h1 (by rw [hh]; exact h2) b h3).1).resolve_right fun s => ne ⟨b, h3, s⟩⟩
    refine ⟨su q hq (.inl rfl), ?_⟩
    rcases su q hq (.inl rfl) with s | s
    · exact .inl (hc 2 q hq (.inl s))
    · rcases su (-q) hnq (.inr rfl) with t | t
      · exact .inr (hc 3 q hq ⟨s, .inl t⟩)
      · by_cases f : CanFail T S q
        · exact .inr (hc 3 q hq f)
        · refine .inl (hc 2 q hq (.inr ⟨t, ?_, fun k r h1 h2 => ?_⟩))
          · apply Classical.byContradiction
            intro ne
            refine f ⟨s, .inr (.inl fun i r h1 h2 h3 _ => ?_)⟩
            exact (ev i r h1 (.inl h2)).resolve_left fun e => ne ⟨i, r, h1, h2, h3, trivial, e⟩
          · rcases ev k r h1 (.inr h2) with e | e
            · refine .inr ?_
              apply Classical.byContradiction
              intro ne
              refine f ⟨s, .inr (.inr ⟨k, r, h1, h2, e, fun i r' h1' h2' h3' h4' => ?_⟩)⟩
              exact (ev i r' h1' (.inl h2')).resolve_left fun e => ne ⟨i, r', h1', h2', h3', h4', e⟩
            · exact .inl e
end Go.Proofs.YtmbclnaenjcocaaGreatDoor

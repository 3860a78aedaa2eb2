/-
  The document's answer for rules, plain: its tests are P81's. No walk.
-/
import Derived.Test.YtmbclnaenjcocaaGreatDoorRfCan2
namespace Go.Proofs.YtmbclnaenjcocaaGreatDoor
open Go.RowKit
section
variable {T : Thy} {m : Nat → Nat → Bool}

def mkB (T : Thy) (m : Nat → Nat → Bool) : Marks := fun k q => IsLit T q ∧ k < 4 ∧ m (pl q) k = true
theorem ball_iff (hT : Okt T) {i : Nat} {r : Rl} (hr : T.rl i r) {k : Nat} (hk : k < 4) : r.body.all (fun b => m (pl b) k) = true ↔ r.every (mkB T m) k := by
  rw [List.all_eq_true]
  exact ⟨fun h b hb => ⟨(hT.lit i r hr).2 b hb, hk, h b hb⟩, fun h b hb => (h b hb).2.2⟩
theorem bany_iff (hT : Okt T) {i : Nat} {r : Rl} (hr : T.rl i r) {k : Nat} (hk : k < 4) : r.body.any (fun b => m (pl b) k) = true ↔ r.some (mkB T m) k := by
  rw [List.any_eq_true]
  exact ⟨fun ⟨b, hb, e⟩ => ⟨b, hb, (hT.lit i r hr).2 b hb, hk, e⟩, fun ⟨b, hb, e⟩ => ⟨b, hb, e.2.2⟩⟩
theorem rng_iff {f : Nat → Bool} : (List.range T.rules.length).any f = true ↔ ∃ i r, T.rl i r ∧ f i = true := by
  rw [List.any_eq_true]
  exact ⟨fun ⟨i, hi, hf⟩ => ⟨i, _, rl_of (List.mem_range.1 hi), hf⟩, fun ⟨i, r, hr, hf⟩ => ⟨i, List.mem_range.2 (rl_lt hr), hf⟩⟩
theorem ovB_iff {a b : Nat} : ovB T a b = true ↔ Ovr T a b := by
  unfold ovB Ovr
  rw [List.any_eq_true]
  constructor
  · rintro ⟨⟨x, y⟩, hx, e⟩
    simp only [Bool.and_eq_true, beq_iff_eq] at e
    rw [← e.1, ← e.2]
    exact hx
  · exact fun h => ⟨_, h, by simp⟩
theorem canSure_iff (hT : Okt T) {q : Int} : canSureB T m q = true ↔ CanSure T (mkB T m) q := by
  unfold canSureB
  rw [rng_iff]
  constructor
  · rintro ⟨i, r, hr, hf⟩
    unfold csB at hf
    rw [rlAt_of hr] at hf
    simp only [Bool.and_eq_true, beq_iff_eq] at hf
    exact ⟨i, r, hr, hf.1.1, hf.1.2, (ball_iff hT hr (by omega)).1 hf.2⟩
  · rintro ⟨i, r, hr, h1, h2, h3⟩
    refine ⟨i, r, hr, ?_⟩
    unfold csB
    rw [rlAt_of hr, (ball_iff hT hr (by omega)).2 h3]
    simp [h1, h2]
theorem canNot_iff (hT : Okt T) {q : Int} : canNotB T m q = true ↔ CanNot T (mkB T m) q := by
  unfold canNotB
  rw [Bool.not_eq_true', ← Bool.not_eq_true, rng_iff]
  constructor
  · intro hn i r hr h1 h2
    apply Classical.byContradiction
    intro h3
    refine hn ⟨i, r, hr, ?_⟩
    unfold cnB
    rw [rlAt_of hr]
    have : r.body.any (fun b => m (pl b) 1) = false := by
      rw [← Bool.not_eq_true, bany_iff hT hr (by omega)]; exact h3
    rw [this]
    simp [h1, h2]
  · rintro hc ⟨i, r, hr, hf⟩
    unfold cnB at hf
    rw [rlAt_of hr] at hf
    simp only [Bool.and_eq_true, beq_iff_eq, Bool.not_eq_true'] at hf
    have := (bany_iff (m := m) hT hr (k := 1) (by omega)).2 (hc i r hr hf.1.1 hf.1.2)
    rw [hf.2] at this
    cases this
theorem help_iff' (hT : Okt T) {q ab : Int} {P : Nat → Prop} (hP : ∀ i : Nat, (decide (ab < 0) || ovB T i ab) = true ↔ P i) : helpB T m q ab = true ↔ Help T (mkB T m) q P := by
  unfold helpB
  rw [rng_iff]
  constructor
  · rintro ⟨i, r, hr, hf⟩
    unfold hpB at hf
    rw [rlAt_of hr, Bool.and_eq_true, Bool.and_eq_true, Bool.and_eq_true, hP] at hf
    exact ⟨i, r, hr, by simpa using hf.1.1.1, by simpa using hf.1.1.2, hf.1.2, (ball_iff hT hr (by omega)).1 hf.2⟩
  · rintro ⟨i, r, hr, h1, h2, h3, h4⟩
    refine ⟨i, r, hr, ?_⟩
    unfold hpB
    rw [rlAt_of hr, Bool.and_eq_true, Bool.and_eq_true, Bool.and_eq_true, hP]
    exact ⟨⟨⟨by simpa using h1, by simpa using h2⟩, h3⟩, (ball_iff hT hr (by omega)).2 h4⟩
theorem lost_iff' (hT : Okt T) {q ab : Int} {P : Nat → Prop} (hP : ∀ i : Nat, (decide (ab < 0) || ovB T i ab) = true ↔ P i) : lostB T m q ab = true ↔ Lost T (mkB T m) q P := by
  unfold lostB
  rw [Bool.not_eq_true', ← Bool.not_eq_true, rng_iff]
  constructor
  · intro hn i r hr h1 h2 h3
    apply Classical.byContradiction
    intro h4
    refine hn ⟨i, r, hr, ?_⟩
    unfold lsB
    rw [rlAt_of hr, Bool.and_eq_true, Bool.and_eq_true, Bool.and_eq_true, hP]
    refine ⟨⟨⟨by simpa using h1, by simpa using h2⟩, h3⟩, ?_⟩
    rw [Bool.not_eq_true', ← Bool.not_eq_true, bany_iff hT hr (by omega)]
    exact h4
  · rintro hc ⟨i, r, hr, hf⟩
    unfold lsB at hf
    rw [rlAt_of hr, Bool.and_eq_true, Bool.and_eq_true, Bool.and_eq_true, hP] at hf
    have := (bany_iff (m := m) hT hr (k := 3) (by omega)).2 (hc i r hr (by simpa using hf.1.1.1) (by simpa using hf.1.1.2) hf.1.2)
    have h2 := hf.2
    rw [this] at h2
    cases h2
theorem any_neg (i : Nat) : (decide ((-1 : Int) < 0) || ovB T i (-1)) = true ↔ True := by simp
theorem any_pos (k i : Nat) : (decide ((k : Int) < 0) || ovB T i k) = true ↔ Ovr T i k := by
  rw [decide_eq_false (by omega), Bool.false_or, ovB_iff]
theorem canHold_iff (hT : Okt T) {q : Int} (hq : IsLit T q) : canHoldB T m q = true ↔ CanHold T (mkB T m) q := by
  unfold canHoldB CanHold
  rw [Bool.or_eq_true, Bool.and_eq_true, Bool.and_eq_true, help_iff' hT any_neg, Bool.not_eq_true', ← Bool.not_eq_true, rng_iff]
  have e1 : m (pl q) 0 = true ↔ mkB T m 0 q := ⟨fun e => ⟨hq, by omega, e⟩, fun e => e.2.2⟩
  have e2 : m (pl (-q)) 1 = true ↔ mkB T m 1 (-q) := ⟨fun e => ⟨hq.neg, by omega, e⟩, fun e => e.2.2⟩
  rw [e1, e2, and_assoc]
  refine or_congr Iff.rfl (and_congr Iff.rfl (and_congr Iff.rfl ?_))
  constructor
  · intro hn k r hr hh
    apply Classical.byContradiction
    intro h3
    refine hn ⟨k, r, hr, ?_⟩
    unfold chB
    rw [rlAt_of hr, Bool.and_eq_true, Bool.and_eq_true]
    refine ⟨⟨by simpa using hh, ?_⟩, ?_⟩
    · rw [Bool.not_eq_true', ← Bool.not_eq_true, bany_iff hT hr (by omega)]
      exact fun e => h3 (.inl e)
    · rw [Bool.not_eq_true', ← Bool.not_eq_true, help_iff' hT (any_pos k)]
      exact fun e => h3 (.inr e)
  · rintro hc ⟨k, r, hr, hf⟩
    unfold chB at hf
    rw [rlAt_of hr, Bool.and_eq_true, Bool.and_eq_true, Bool.not_eq_true', ← Bool.not_eq_true, bany_iff hT hr (by omega), Bool.not_eq_true', ← Bool.not_eq_true, help_iff' hT (any_pos k)] at hf
    rcases hc k r hr (by simpa using hf.1.1) with e | e
    · exact hf.1.2 e
    · exact hf.2 e
theorem canFail_iff (hT : Okt T) {q : Int} (hq : IsLit T q) : canFailB T m q = true ↔ CanFail T (mkB T m) q := by
  unfold canFailB CanFail
  rw [Bool.and_eq_true, Bool.or_eq_true, Bool.or_eq_true, lost_iff' hT any_neg, rng_iff]
  have e1 : m (pl q) 1 = true ↔ mkB T m 1 q := ⟨fun e => ⟨hq, by omega, e⟩, fun e => e.2.2⟩
  have e2 : m (pl (-q)) 0 = true ↔ mkB T m 0 (-q) := ⟨fun e => ⟨hq.neg, by omega, e⟩, fun e => e.2.2⟩
  rw [e1, e2, or_assoc]
  refine and_congr Iff.rfl (or_congr Iff.rfl (or_congr Iff.rfl ?_))
  constructor
  · rintro ⟨k, r, hr, hf⟩
    unfold cfB at hf
    rw [rlAt_of hr, Bool.and_eq_true, Bool.and_eq_true, ball_iff hT hr (by omega), lost_iff' hT (any_pos k)] at hf
    exact ⟨k, r, hr, by simpa using hf.1.1, hf.1.2, hf.2⟩
  · rintro ⟨k, r, hr, h1, h2, h3⟩
    refine ⟨k, r, hr, ?_⟩
    unfold cfB
    rw [rlAt_of hr, Bool.and_eq_true, Bool.and_eq_true, ball_iff hT hr (by omega), lost_iff' hT (any_pos k)]
    exact ⟨⟨by simpa using h1, h2⟩, h3⟩
/-- The document's answer tests what P81 says. -/
theorem canB_iff (hT : Okt T) {q : Int} (hq : IsLit T q) {k : Nat} (hk : k < 4) : canB T m k q = true ↔ Can T (mkB T m) k q := by
  have e : k = 0 ∨ k = 1 ∨ k = 2 ∨ k = 3 := by omega
  rcases e with rfl | rfl | rfl | rfl
  · exact canSure_iff hT
  · exact canNot_iff hT
  · exact canHold_iff hT hq
  · exact canFail_iff hT hq
def updM (m : Nat → Nat → Bool) (p k : Nat) : Nat → Nat → Bool := fun p' k' => if p' = p ∧ k' = k then true else m p' k'
theorem mkB_upd {q : Int} (hq : IsLit T q) {k : Nat} (hk : k < 4) : mkB T (updM m (pl q) k) = addM (mkB T m) k q := by
  funext k' q'
  apply propext
  unfold mkB addM updM
  constructor
  · rintro ⟨h1, h2, h3⟩
    by_cases e : pl q' = pl q ∧ k' = k
    · exact .inr ⟨e.2, pl_inj h1.1 hq.1 e.1⟩
    · rw [if_neg e] at h3
      exact .inl ⟨h1, h2, h3⟩
  · rintro (⟨h1, h2, h3⟩ | ⟨h1, h2⟩)
    · refine ⟨h1, h2, ?_⟩
      split
      · rfl
      · exact h3
    · subst h1 h2
      exact ⟨hq, hk, by rw [if_pos ⟨rfl, rfl⟩]⟩
theorem mkB_none : mkB T (fun _ _ => false) = fun _ _ => False := by
  funext k q
  apply propext
  unfold mkB
  simp
/-- How much is not marked. -/
def zM (n : Nat) (m : Nat → Nat → Bool) : Nat := (List.range (n * 4)).countP (fun x => !m (x / 4) (x % 4))
theorem zM_upd {n p k : Nat} (hp : p < n) (hk : k < 4) (h0 : m p k = false) : zM n (updM m p k) < zM n m := by
  unfold zM
  have hin : p * 4 + k ∈ List.range (n * 4) := List.mem_range.2 (by omega)
  have e : ∀ l : List Nat, l.countP (fun x => !m (x / 4) (x % 4)) = l.countP (fun x => !updM m p k (x / 4) (x % 4)) + l.count (p * 4 + k) := fun l => by
    induction l with
    | nil => rfl
    | cons x l ih =>
      rw [List.countP_cons, List.countP_cons, List.count_cons, ih]
      by_cases hx : x = p * 4 + k
      · have e1 : x / 4 = p := by omega
        have e2 : x % 4 = k := by omega
        have e3 : updM m p k (x / 4) (x % 4) = true := by unfold updM; rw [if_pos ⟨e1, e2⟩]
        rw [e3, e1, e2, h0]
        simp [hx]
        omega
      · have e3 : updM m p k (x / 4) (x % 4) = m (x / 4) (x % 4) := by unfold updM; rw [if_neg (by omega)]
        rw [e3]
        simp [hx]
        omega
  have h1 := e (List.range (n * 4))
  have h2 : 1 ≤ (List.range (n * 4)).count (p * 4 + k) := List.count_pos_iff.2 hin
  omega
theorem litOf_lit (hT : Okt T) {p : Nat} (hp : p < 2 * T.names.toNat) : IsLit T (litOf p) ∧ pl (litOf p) = p := by
  have := hT.n0
  unfold litOf
  split
  · refine ⟨⟨by omega, by omega, by omega⟩, ?_⟩
    unfold pl
    rw [if_neg (by omega)]
    omega
  · refine ⟨⟨by omega, by omega, by omega⟩, ?_⟩
    unfold pl
    rw [if_pos (by omega)]
    omega
/-- A pass over all kinds and places, from m0 on: what has been looked at. -/
structure Pas (T : Thy) (m0 : Nat → Nat → Bool) (L : Nat → Nat → Prop) (m : Nat → Nat → Bool) (ag : Bool) : Prop where
  no : ag = false → m = m0 ∧ ∀ k p, k < 4 → p < 2 * T.names.toNat → L k p → m0 p k = true ∨ canB T m0 k (litOf p) = false
  yes : ag = true → zM (2 * T.names.toNat) m < zM (2 * T.names.toNat) m0
theorem Pas.start (m0 : Nat → Nat → Bool) : Pas T m0 (fun _ _ => False) m0 false := ⟨fun _ => ⟨rfl, fun _ _ _ _ h => h.elim⟩, fun e => by cases e⟩
theorem Pas.conv {m0 : Nat → Nat → Bool} {L L' : Nat → Nat → Prop} {ag : Bool} (h : Pas T m0 L m ag) (hl : ∀ k p, k < 4 → p < 2 * T.names.toNat → L' k p → L k p) : Pas T m0 L' m ag :=
  ⟨fun e => ⟨(h.no e).1, fun k p hk hp hL => (h.no e).2 k p hk hp (hl k p hk hp hL)⟩, h.yes⟩
theorem Pas.skip {m0 : Nat → Nat → Bool} {L : Nat → Nat → Prop} {ag : Bool} (h : Pas T m0 L m ag) {k p : Nat} (hs : m p k = true ∨ canB T m k (litOf p) = false) : Pas T m0 (fun k' p' => L k' p' ∨ (k' = k ∧ p' = p)) m ag :=
  ⟨fun e => ⟨(h.no e).1, fun k' p' hk hp hL => by
    rcases hL with hL | ⟨rfl, rfl⟩
    · exact (h.no e).2 k' p' hk hp hL
    · rw [← (h.no e).1]; exact hs⟩, h.yes⟩
theorem Pas.set {m0 : Nat → Nat → Bool} {L L' : Nat → Nat → Prop} {ag : Bool} (h : Pas T m0 L m ag) {k p : Nat} (hp : p < 2 * T.names.toNat) (hk : k < 4) (h0 : m p k = false) : Pas T m0 L' (updM m p k) true := by
  refine ⟨(fun e => by cases e), fun _ => ?_⟩
  have h1 := zM_upd (m := m) hp hk h0
  cases ag with
  | false => rw [(h.no rfl).1] at h1 ⊢; exact h1
  | true => have := h.yes rfl; omega
theorem Pas.closed {m0 : Nat → Nat → Bool} {L : Nat → Nat → Prop} (hT : Okt T) (h : Pas T m0 L m false) (hL : ∀ k p, k < 4 → p < 2 * T.names.toNat → L k p) : Closed T (mkB T m) := by
  obtain ⟨h1, h2⟩ := h.no rfl
  subst h1
  intro k q hq hc
  have hk : k < 4 := by
    rcases Nat.lt_or_ge k 4 with h | h
    · exact h
    · obtain ⟨j, rfl⟩ : ∃ j, k = j + 4 := ⟨k - 4, by omega⟩
      exact hc.elim
  have hp := hq.pl
  rcases h2 k (pl q) hk hp (hL k (pl q) hk hp) with e | e
  · exact ⟨hq, hk, e⟩
  · rw [litOf_pl hq.1] at e
    rw [(canB_iff hT hq hk).2 hc] at e
    cases e
end
end Go.Proofs.YtmbclnaenjcocaaGreatDoor

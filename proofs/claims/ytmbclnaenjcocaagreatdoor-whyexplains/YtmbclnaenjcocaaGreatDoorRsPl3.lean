/-
  Theories, plain: what the program shows is what follows. No walk.
-/
import Derived.Test.YtmbclnaenjcocaaGreatDoorRsPl2
namespace Go.Proofs.YtmbclnaenjcocaaGreatDoor

section
variable {T : Thy} {s : St}
theorem mem_ru (i p : Nat) : i ∈ (shOf T).ru p ↔ i < T.rules.length ∧ pl (rlAt T i).head = p := by
  show i ∈ (List.range T.rules.length).filter _ ↔ _
  simp [List.mem_filter]
theorem mem_ab {i j : Nat} : j ∈ (shOf T).ab i ↔ ∃ x, x ∈ T.over ∧ x.2 = (i : Int) ∧ (rlAt T x.1.toNat).head = -(rlAt T i).head ∧ x.1.toNat = j := by
  show j ∈ (T.over.filter _).map _ ↔ _
  rw [List.mem_map]
  constructor
  · rintro ⟨x, hx, e⟩
    rw [List.mem_filter] at hx
    simp only [Bool.and_eq_true, beq_iff_eq] at hx
    exact ⟨x, hx.1, hx.2.1, hx.2.2, e⟩
  · rintro ⟨x, h1, h2, h3, e⟩
    refine ⟨x, ?_, e⟩
    rw [List.mem_filter]
    simp only [Bool.and_eq_true, beq_iff_eq]
    exact ⟨h1, h2, h3⟩
theorem any_ru (hT : Okt T) {q : Int} (hq : IsLit T q) (f : Nat → Bool) : ((shOf T).ru (pl q)).any f = true ↔ ∃ i r, T.rl i r ∧ r.head = q ∧ f i = true := by
  rw [List.any_eq_true]
  constructor
  · rintro ⟨i, hi, hf⟩
    rw [mem_ru] at hi
    have hr := rl_of hi.1
    exact ⟨i, _, hr, pl_inj (hT.lit i _ hr).1.1 hq.1 hi.2, hf⟩
  · rintro ⟨i, r, hr, hh, hf⟩
    refine ⟨i, (mem_ru i _).2 ⟨rl_lt hr, ?_⟩, hf⟩
    rw [rlAt_of hr, hh]
theorem any_ab (hT : Okt T) {k : Nat} {r : Rl} (hk : T.rl k r) {q : Int} (hh : r.head = -q) (f : Nat → Bool) : ((shOf T).ab k).any f = true ↔ ∃ i r', T.rl i r' ∧ r'.head = q ∧ Ovr T i k ∧ f i = true := by
  rw [List.any_eq_true]
  constructor
  · rintro ⟨j, hj, hf⟩
    obtain ⟨⟨xa, xb⟩, h1, h2, h3, rfl⟩ := mem_ab.1 hj
    obtain ⟨o1, o2, _, _⟩ := hT.over _ _ h1
    have hr := rl_of (T := T) (i := xa.toNat) (by omega)
    refine ⟨_, _, hr, ?_, ?_, hf⟩
    · have h3 : (rlAt T xa.toNat).head = -(rlAt T k).head := h3
      rw [h3, rlAt_of hk, hh]; omega
    · have h2 : xb = (k : Int) := h2
      show (((xa.toNat : Nat) : Int), (k : Int)) ∈ T.over
      rw [show ((xa.toNat : Nat) : Int) = xa by omega, ← h2]
      exact h1
  · rintro ⟨i, r', hr, hh', ho, hf⟩
    refine ⟨i, mem_ab.2 ⟨_, ho, rfl, ?_, by simp⟩, hf⟩
    show (rlAt T ((i : Int)).toNat).head = _
    rw [show ((i : Int)).toNat = i by omega, rlAt_of hr, rlAt_of hk, hh, hh']; omega
theorem us_zero (hT : Okt T) (h : Inv T s) {i : Nat} {r : Rl} (hr : T.rl i r) : s.us i = 0 ↔ r.every (mk T s) 0 := by
  rw [h.us i, rlAt_of hr]
  constructor
  · intro e b hb
    have e2 : r.body.countP (fun b => !(s.su (pl b) == 1)) = 0 := by omega
    rw [List.countP_eq_zero] at e2
    exact ⟨(hT.lit i r hr).2 b hb, by have := e2 b hb; simpa using this⟩
  · intro e
    have e2 : r.body.countP (fun b => !(s.su (pl b) == 1)) = 0 := by
      rw [List.countP_eq_zero]
      intro b hb
      have h2 : s.su (pl b) = 1 := (e b hb).2
      simp [h2]
    omega
theorem uh_zero (hT : Okt T) (h : Inv T s) {i : Nat} {r : Rl} (hr : T.rl i r) : s.uh i = 0 ↔ r.every (mk T s) 2 := by
  rw [h.uh i, rlAt_of hr]
  constructor
  · intro e b hb
    have e2 : r.body.countP (fun b => !(s.ho (pl b) == 1)) = 0 := by omega
    rw [List.countP_eq_zero] at e2
    exact ⟨(hT.lit i r hr).2 b hb, by have := e2 b hb; simpa using this⟩
  · intro e
    have e2 : r.body.countP (fun b => !(s.ho (pl b) == 1)) = 0 := by
      rw [List.countP_eq_zero]
      intro b hb
      have h2 : s.ho (pl b) = 1 := (e b hb).2
      simp [h2]
    omega
theorem ns_zero (hT : Okt T) (h : Inv T s) {i : Nat} {r : Rl} (hr : T.rl i r) : (s.ns i == 0) = true ↔ ¬ r.some (mk T s) 1 := by
  have h1 := h.ns i
  rw [rlAt_of hr] at h1
  rw [← Bool.not_eq_false, ← Bool.not_eq_true', h1, List.any_eq_true]
  refine not_congr ?_
  constructor
  · rintro ⟨b, hb, e⟩
    exact ⟨b, hb, (hT.lit i r hr).2 b hb, by simpa using e⟩
  · rintro ⟨b, hb, e⟩
    exact ⟨b, hb, by have h2 : s.su (pl b) = 2 := e.2; simp [h2]⟩
theorem fa_zero (hT : Okt T) (h : Inv T s) {i : Nat} {r : Rl} (hr : T.rl i r) : (s.fa i == 0) = true ↔ ¬ r.some (mk T s) 3 := by
  have h1 := h.fa i
  rw [rlAt_of hr] at h1
  rw [← Bool.not_eq_false, ← Bool.not_eq_true', h1, List.any_eq_true]
  refine not_congr ?_
  constructor
  · rintro ⟨b, hb, e⟩
    exact ⟨b, hb, (hT.lit i r hr).2 b hb, by simpa using e⟩
  · rintro ⟨b, hb, e⟩
    exact ⟨b, hb, by have h2 : s.ho (pl b) = 2 := e.2; simp [h2]⟩
theorem kd_of {i : Nat} {r : Rl} (hr : T.rl i r) : (shOf T).kd i = r.kind := by show (rlAt T i).kind = _; rw [rlAt_of hr]
theorem bSure_iff (hT : Okt T) (h : Inv T s) {i : Nat} {r : Rl} (hr : T.rl i r) : bSure (shOf T) s i = true ↔ r.kind = 0 ∧ r.every (mk T s) 0 := by
  unfold bSure
  rw [kd_of hr, ← us_zero hT h hr]
  simp
theorem bNot_iff (hT : Okt T) (h : Inv T s) {i : Nat} {r : Rl} (hr : T.rl i r) : bNot (shOf T) s i = true ↔ r.kind = 0 ∧ ¬ r.some (mk T s) 1 := by
  unfold bNot
  rw [kd_of hr, Bool.and_eq_true, ns_zero hT h hr]
  simp
theorem bCar_iff (hT : Okt T) (h : Inv T s) {i : Nat} {r : Rl} (hr : T.rl i r) : bCar (shOf T) s i = true ↔ r.kind ≠ 2 ∧ r.every (mk T s) 2 := by
  unfold bCar
  rw [kd_of hr, ← uh_zero hT h hr]
  simp
theorem bMay_iff (hT : Okt T) (h : Inv T s) {i : Nat} {r : Rl} (hr : T.rl i r) : bMay (shOf T) s i = true ↔ r.kind ≠ 2 ∧ ¬ r.some (mk T s) 3 := by
  unfold bMay
  rw [kd_of hr, Bool.and_eq_true, fa_zero hT h hr]
  simp
theorem help_iff (hT : Okt T) (h : Inv T s) {k : Nat} {r : Rl} (hk : T.rl k r) {q : Int} (hh : r.head = -q) : ((shOf T).ab k).any (bCar (shOf T) s) = true ↔ Help T (mk T s) q (fun i => Ovr T i k) := by
  rw [any_ab hT hk hh]
  constructor
  · rintro ⟨i, r', h1, h2, h3, h4⟩
    rw [bCar_iff hT h h1] at h4
    exact ⟨i, r', h1, h2, h4.1, h3, h4.2⟩
  · rintro ⟨i, r', h1, h2, h3, h4, h5⟩
    exact ⟨i, r', h1, h2, h4, (bCar_iff hT h h1).2 ⟨h3, h5⟩⟩
theorem lost_iff (hT : Okt T) (h : Inv T s) {k : Nat} {r : Rl} (hk : T.rl k r) {q : Int} (hh : r.head = -q) : ((shOf T).ab k).any (bMay (shOf T) s) = false ↔ Lost T (mk T s) q (fun i => Ovr T i k) := by
  rw [← Bool.not_eq_true, any_ab hT hk hh]
  constructor
  · intro hn i r' h1 h2 h3 h4
    apply Classical.byContradiction
    intro h5
    exact hn ⟨i, r', h1, h2, h4, (bMay_iff hT h h1).2 ⟨h3, h5⟩⟩
  · rintro hl ⟨i, r', h1, h2, h3, h4⟩
    rw [bMay_iff hT h h1] at h4
    exact h4.2 (hl i r' h1 h2 h4.1 h3)
def kOf (a b : Bool) : Nat := if a then (if b then 0 else 1) else (if b then 2 else 3)
theorem fHold_iff (hT : Okt T) (h : Inv T s) {q : Int} (hq : IsLit T q) : fHold (shOf T) s (pl q) = true ↔ CanHold T (mk T s) q := by
  unfold fHold CanHold
  rw [pl_opp hq.1]
  simp only [Bool.or_eq_true, Bool.and_eq_true, beq_iff_eq, Bool.not_eq_true']
  have e1 : s.su (pl q) = 1 ↔ mk T s 0 q := ⟨fun e => ⟨hq, e⟩, fun e => e.2⟩
  have e2 : s.su (pl (-q)) = 2 ↔ mk T s 1 (-q) := ⟨fun e => ⟨hq.neg, e⟩, fun e => e.2⟩
  have e3 : ((shOf T).ru (pl q)).any (bCar (shOf T) s) = true ↔ Help T (mk T s) q (fun _ => True) := by
    rw [any_ru hT hq]
    constructor
    · rintro ⟨i, r, h1, h2, h3⟩
      rw [bCar_iff hT h h1] at h3
      exact ⟨i, r, h1, h2, h3.1, trivial, h3.2⟩
    · rintro ⟨i, r, h1, h2, h3, _, h5⟩
      exact ⟨i, r, h1, h2, (bCar_iff hT h h1).2 ⟨h3, h5⟩⟩
  have e4 : ((shOf T).ru (pl (-q))).any (bWay (shOf T) s) = false ↔ ∀ k r, T.rl k r → r.head = -q → r.some (mk T s) 3 ∨ Help T (mk T s) q (fun i => Ovr T i k) := by
    rw [← Bool.not_eq_true, any_ru hT hq.neg]
    constructor
    · intro hn k r h1 h2
      apply Classical.byContradiction
      intro h3
      refine hn ⟨k, r, h1, h2, ?_⟩
      unfold bWay
      rw [Bool.and_eq_true, Bool.not_eq_true', ← Bool.not_eq_true, fa_zero hT h h1, help_iff hT h h1 h2]
      exact ⟨fun e => h3 (.inl e), fun e => h3 (.inr e)⟩
    · rintro hn ⟨k, r, h1, h2, h3⟩
      unfold bWay at h3
      rw [Bool.and_eq_true, Bool.not_eq_true', ← Bool.not_eq_true, fa_zero hT h h1, help_iff hT h h1 h2] at h3
      rcases hn k r h1 h2 with e | e
      · exact h3.1 e
      · exact h3.2 e
  rw [e1, e2, e3, e4, and_assoc]
theorem fFail_iff (hT : Okt T) (h : Inv T s) {q : Int} (hq : IsLit T q) : fFail (shOf T) s (pl q) = true ↔ CanFail T (mk T s) q := by
  unfold fFail CanFail
  rw [pl_opp hq.1]
  simp only [Bool.or_eq_true, Bool.and_eq_true, beq_iff_eq, Bool.not_eq_true']
  have e1 : s.su (pl q) = 2 ↔ mk T s 1 q := ⟨fun e => ⟨hq, e⟩, fun e => e.2⟩
  have e2 : s.su (pl (-q)) = 1 ↔ mk T s 0 (-q) := ⟨fun e => ⟨hq.neg, e⟩, fun e => e.2⟩
  have e3 : ((shOf T).ru (pl q)).any (bMay (shOf T) s) = false ↔ Lost T (mk T s) q (fun _ => True) := by
    rw [← Bool.not_eq_true, any_ru hT hq]
    constructor
    · intro hn i r h1 h2 h3 _
      apply Classical.byContradiction
      intro h5
      exact hn ⟨i, r, h1, h2, (bMay_iff hT h h1).2 ⟨h3, h5⟩⟩
    · rintro hl ⟨i, r, h1, h2, h3⟩
      rw [bMay_iff hT h h1] at h3
      exact h3.2 (hl i r h1 h2 h3.1 trivial)
  have e4 : ((shOf T).ru (pl (-q))).any (bStop (shOf T) s) = true ↔ ∃ k r, T.rl k r ∧ r.head = -q ∧ r.every (mk T s) 2 ∧ Lost T (mk T s) q (fun i => Ovr T i k) := by
    rw [any_ru hT hq.neg]
    have hs : ∀ k r, T.rl k r → r.head = -q → (bStop (shOf T) s k = true ↔ r.every (mk T s) 2 ∧ Lost T (mk T s) q (fun i => Ovr T i k)) := fun k r h1 h2 => by
      unfold bStop
      rw [Bool.and_eq_true, Bool.not_eq_true', beq_iff_eq, uh_zero hT h h1, lost_iff hT h h1 h2]
    constructor
    · rintro ⟨k, r, h1, h2, h3⟩
      exact ⟨k, r, h1, h2, (hs k r h1 h2).1 h3⟩
    · rintro ⟨k, r, h1, h2, h3⟩
      exact ⟨k, r, h1, h2, (hs k r h1 h2).2 h3⟩
  rw [e1, e2, e3, e4, or_assoc]
/-- What the program tests is what P81 says. -/
theorem fol4_iff (hT : Okt T) (h : Inv T s) {q : Int} (hq : IsLit T q) (a b : Bool) : fol4 (shOf T) s (pl q) a b = true ↔ Can T (mk T s) (kOf a b) q := by
  cases a <;> cases b
  · exact fFail_iff hT h hq
  · exact fHold_iff hT h hq
  · show (!((shOf T).ru (pl q)).any (bNot (shOf T) s)) = true ↔ CanNot T (mk T s) q
    rw [Bool.not_eq_true', ← Bool.not_eq_true, any_ru hT hq]
    constructor
    · intro hn i r h1 h2 h3
      apply Classical.byContradiction
      intro h5
      exact hn ⟨i, r, h1, h3, (bNot_iff hT h h1).2 ⟨h2, h5⟩⟩
    · rintro hl ⟨i, r, h1, h2, h3⟩
      rw [bNot_iff hT h h1] at h3
      exact h3.2 (hl i r h1 h3.1 h2)
  · show ((shOf T).ru (pl q)).any (bSure (shOf T) s) = true ↔ CanSure T (mk T s) q
    rw [any_ru hT hq]
    constructor
    · rintro ⟨i, r, h1, h2, h3⟩
      rw [bSure_iff hT h h1] at h3
      exact ⟨i, r, h1, h3.1, h2, h3.2⟩
    · rintro ⟨i, r, h1, h2, h3, h4⟩
      exact ⟨i, r, h1, h3, (bSure_iff hT h h1).2 ⟨h2, h4⟩⟩
theorem mk_take {q : Int} (hq : IsLit T q) (a b : Bool) (h0 : (if a then s.su (pl q) else s.ho (pl q)) = 0) : mk T (litTake (shOf T) s (pl q) a b) = addM (mk T s) (kOf a b) q := by
  obtain ⟨e1, e2⟩ := litTake_su (shOf T) s (pl q) a b
  funext k x
  apply propext
  have up : ∀ (f : Nat → Int) (v : Int), IsLit T x → upd f (pl q) v (pl x) = if x = q then v else f (pl x) := fun f v h => by
    unfold upd
    by_cases e : x = q
    · rw [if_pos (by rw [e]), if_pos e]
    · rw [if_neg (fun e2 => e (pl_inj h.1 hq.1 e2)), if_neg e]
  have f1 : IsLit T x → (litTake (shOf T) s (pl q) a b).su (pl x) = if a = true ∧ x = q then ansOf b else s.su (pl x) := fun h => by
    rw [e1]
    cases a
    · simp
    · simp [up _ _ h]
  have f2 : IsLit T x → (litTake (shOf T) s (pl q) a b).ho (pl x) = if a = false ∧ x = q then ansOf b else s.ho (pl x) := fun h => by
    rw [e2]
    cases a
    · simp [up _ _ h]
    · simp
  clear e1 e2 up
  generalize litTake (shOf T) s (pl q) a b = s' at *
  by_cases hl : IsLit T x
  · have g1 := f1 hl
    have g2 := f2 hl
    clear f1 f2
    by_cases e : x = q
    · subst e
      match k with
      | 0 =>
        show (IsLit T x ∧ s'.su (pl x) = 1) ↔ ((IsLit T x ∧ s.su (pl x) = 1) ∨ (0 = kOf a b ∧ x = x))
        rw [g1]
        cases a <;> cases b <;> simp [hl, ansOf, kOf] at h0 ⊢ <;> omega
      | 1 =>
        show (IsLit T x ∧ s'.su (pl x) = 2) ↔ ((IsLit T x ∧ s.su (pl x) = 2) ∨ (1 = kOf a b ∧ x = x))
        rw [g1]
        cases a <;> cases b <;> simp [hl, ansOf, kOf] at h0 ⊢ <;> omega
      | 2 =>
        show (IsLit T x ∧ s'.ho (pl x) = 1) ↔ ((IsLit T x ∧ s.ho (pl x) = 1) ∨ (2 = kOf a b ∧ x = x))
        rw [g2]
        cases a <;> cases b <;> simp [hl, ansOf, kOf] at h0 ⊢ <;> omega
      | 3 =>
        show (IsLit T x ∧ s'.ho (pl x) = 2) ↔ ((IsLit T x ∧ s.ho (pl x) = 2) ∨ (3 = kOf a b ∧ x = x))
        rw [g2]
        cases a <;> cases b <;> simp [hl, ansOf, kOf] at h0 ⊢ <;> omega
      | n + 4 =>
        show (IsLit T x ∧ False) ↔ ((IsLit T x ∧ False) ∨ (n + 4 = kOf a b ∧ x = x))
        have : n + 4 ≠ kOf a b := by unfold kOf; split <;> split <;> omega
        simp [this]
    · rw [if_neg (fun h => e h.2)] at g1 g2
      unfold mk addM
      rw [g1, g2]
      constructor
      · exact fun h => .inl h
      · rintro (h | h)
        · exact h
        · exact absurd h.2 e
  · unfold mk addM
    constructor
    · exact fun h => absurd h.1 hl
    · rintro (h | h)
      · exact absurd h.1 hl
      · rw [h.2] at hl; exact absurd hq hl
/-- What stays: the counts are right, and all that is shown follows. -/
def Fine (T : Thy) (s : St) : Prop := Inv T s ∧ Shw T (mk T s)
theorem toShow_iff {H : Sh} {p : Nat} {a b : Bool} : toShow H s p a b = true ↔ (if a then s.su p else s.ho p) = 0 ∧ fol4 H s p a b = true := by
  unfold toShow; simp
theorem stays (hT : Okt T) : Stays (shOf T) (Fine T) := by
  refine ⟨fun s h => h.1.bd hT, fun s h i => by rw [h.1.uh i]; omega, fun s q a b hq h ht => ?_⟩
  have hl := hq.lit hT
  rw [toShow_iff, fol4_iff hT h.1 hl] at ht
  refine ⟨h.1.take hT hl.1 a b ht.1, ?_⟩
  rw [mk_take hl a b ht.1]
  exact h.2.add hl ht.2
theorem Fine.start (T : Thy) : Fine T (st0 T) := by
  refine ⟨Inv.start T, ?_⟩
  have e : mk T (st0 T) = fun _ _ => False := by
    funext k q
    apply propext
    unfold mk
    constructor
    · rintro ⟨_, h⟩
      match k, h with
      | 0, h => cases h
      | 1, h => cases h
      | 2, h => cases h
      | 3, h => cases h
      | _ + 4, h => exact h
    · exact fun h => h.elim
  rw [e]
  exact Shw.none T
/-- Nothing more of a literal can be shown. -/
def Quiet (H : Sh) (s : St) (q : Int) : Prop := ∀ a b, toShow H s (pl q) a b = false
theorem closed_of (hT : Okt T) (h : Fine T s) (hq : ∀ q, IsLit T q → Quiet (shOf T) s q) : Closed T (mk T s) := by
  refine h.2.closed fun q hl => ⟨fun hc => ?_, fun hc => ?_⟩
  · rcases h.1.t1 (pl q) with e | e | e
    · exfalso
      rcases hc with hc | hc
      · have := hq q hl true true
        rw [(toShow_iff (a := true) (b := true)).2 ⟨e, (fol4_iff hT h.1 hl true true).2 hc⟩] at this
        cases this
      · have := hq q hl true false
        rw [(toShow_iff (a := true) (b := false)).2 ⟨e, (fol4_iff hT h.1 hl true false).2 hc⟩] at this
        cases this
    · exact .inl ⟨hl, e⟩
    · exact .inr ⟨hl, e⟩
  · rcases h.1.t2 (pl q) with e | e | e
    · exfalso
      rcases hc with hc | hc
      · have := hq q hl false true
        rw [(toShow_iff (a := false) (b := true)).2 ⟨e, (fol4_iff hT h.1 hl false true).2 hc⟩] at this
        cases this
      · have := hq q hl false false
        rw [(toShow_iff (a := false) (b := false)).2 ⟨e, (fol4_iff hT h.1 hl false false).2 hc⟩] at this
        cases this
    · exact .inl ⟨hl, e⟩
    · exact .inr ⟨hl, e⟩
end
end Go.Proofs.YtmbclnaenjcocaaGreatDoor

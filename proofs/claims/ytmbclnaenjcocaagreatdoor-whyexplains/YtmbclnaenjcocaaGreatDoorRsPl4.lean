/-
  Theories, plain: showing comes to an end, and nothing is left out. No walk.
-/
import Derived.Test.YtmbclnaenjcocaaGreatDoorRsPl3
namespace Go.Proofs.YtmbclnaenjcocaaGreatDoor

/-- How much is unsettled. -/
def zc (H : Sh) (s : St) : Nat := (List.range (2 * H.N)).countP (fun p => s.su p == 0) + (List.range (2 * H.N)).countP (fun p => s.ho p == 0)
theorem countP_settle (f : Nat → Int) (p : Nat) (v : Int) (hv : v ≠ 0) (h0 : f p = 0) : ∀ (l : List Nat), l.countP (fun x => f x == 0) = l.countP (fun x => upd f p v x == 0) + l.count p
  | [] => by simp
  | x :: l => by
    have ih := countP_settle f p v hv h0 l
    simp only [List.countP_cons, List.count_cons]
    by_cases hx : x = p
    · have e1 : (f x == 0) = true := by rw [hx, h0]; rfl
      have e2 : (upd f p v x == 0) = false := by unfold upd; rw [if_pos hx]; simp [hv]
      have e3 : (x == p) = true := by simp [hx]
      simp only [e1, e2, e3]
      simp
      omega
    · have e2 : upd f p v x = f x := by unfold upd; rw [if_neg hx]
      have e3 : (x == p) = false := by simp [hx]
      simp only [e2, e3]
      simp
      omega
theorem ansOf_ne (b : Bool) : ansOf b ≠ 0 := by cases b <;> decide
theorem zc_take {H : Sh} {s : St} {p : Nat} (hp : p < 2 * H.N) (a b : Bool) (h0 : (if a then s.su p else s.ho p) = 0) : zc H (litTake H s p a b) < zc H s := by
  obtain ⟨e1, e2⟩ := litTake_su H s p a b
  unfold zc
  rw [e1, e2]
  have hc : 1 ≤ (List.range (2 * H.N)).count p := List.count_pos_iff.2 (List.mem_range.2 hp)
  cases a
  · have := countP_settle s.ho p (ansOf b) (ansOf_ne b) h0 (List.range (2 * H.N))
    simp only [Bool.false_eq_true, if_false]
    omega
  · have := countP_settle s.su p (ansOf b) (ansOf_ne b) h0 (List.range (2 * H.N))
    simp only [if_true]
    omega
theorem shw_or {H : Sh} (x : St × Bool) {p : Nat} (hp : p < 2 * H.N) (a b : Bool) : (toShow H x.1 p a b = false ∧ shw H x p a b = x) ∨ ((shw H x p a b).2 = true ∧ zc H (shw H x p a b).1 < zc H x.1) := by
  unfold shw
  cases h : toShow H x.1 p a b
  · exact .inl ⟨rfl, rfl⟩
  · exact .inr ⟨rfl, zc_take hp a b (toShow_iff.1 h).1⟩
theorem shw_le {H : Sh} (x : St × Bool) {p : Nat} (hp : p < 2 * H.N) (a b : Bool) : zc H (shw H x p a b).1 ≤ zc H x.1 ∧ (x.2 = true → (shw H x p a b).2 = true) := by
  rcases shw_or x hp a b with ⟨_, e⟩ | ⟨e1, e2⟩
  · rw [e]; exact ⟨Nat.le_refl _, id⟩
  · exact ⟨by omega, fun _ => e1⟩
theorem four_or {H : Sh} (x : St × Bool) {p : Nat} (hp : p < 2 * H.N) : ((∀ a b, toShow H x.1 p a b = false) ∧ four H x p = x) ∨ ((four H x p).2 = true ∧ zc H (four H x p).1 < zc H x.1) := by
  unfold four
  rcases shw_or x hp true true with ⟨t1, e1⟩ | ⟨e1, z1⟩
  · rw [e1]
    rcases shw_or x hp true false with ⟨t2, e2⟩ | ⟨e2, z2⟩
    · rw [e2]
      rcases shw_or x hp false true with ⟨t3, e3⟩ | ⟨e3, z3⟩
      · rw [e3]
        rcases shw_or x hp false false with ⟨t4, e4⟩ | ⟨e4, z4⟩
        · exact .inl ⟨fun a b => by cases a <;> cases b <;> assumption, e4⟩
        · exact .inr ⟨e4, z4⟩
      · have l4 := shw_le (shw H x p false true) hp false false
        exact .inr ⟨l4.2 e3, by omega⟩
    · have l3 := shw_le (shw H x p true false) hp false true
      have l4 := shw_le (shw H (shw H x p true false) p false true) hp false false
      exact .inr ⟨l4.2 (l3.2 e2), by omega⟩
  · have l2 := shw_le (shw H x p true true) hp true false
    have l3 := shw_le (shw H (shw H x p true true) p true false) hp false true
    have l4 := shw_le (shw H (shw H (shw H x p true true) p true false) p false true) hp false false
    exact .inr ⟨l4.2 (l3.2 (l2.2 e1)), by omega⟩
theorem four_le {H : Sh} (x : St × Bool) {p : Nat} (hp : p < 2 * H.N) : zc H (four H x p).1 ≤ zc H x.1 ∧ (x.2 = true → (four H x p).2 = true) := by
  rcases four_or x hp with ⟨_, e⟩ | ⟨e1, e2⟩
  · rw [e]; exact ⟨Nat.le_refl _, id⟩
  · exact ⟨by omega, fun _ => e1⟩
theorem both_or {H : Sh} (x : St × Bool) {q : Int} (hp : LitOk H q) (hn : LitOk H (-q)) : (Quiet H x.1 q ∧ Quiet H x.1 (-q) ∧ both H x q = x) ∨ ((both H x q).2 = true ∧ zc H (both H x q).1 < zc H x.1) := by
  unfold both
  rcases four_or x hp.2.2.2 with ⟨t1, e1⟩ | ⟨e1, z1⟩
  · rw [e1]
    rcases four_or x hn.2.2.2 with ⟨t2, e2⟩ | ⟨e2, z2⟩
    · exact .inl ⟨t1, t2, e2⟩
    · exact .inr ⟨e2, z2⟩
  · have l2 := four_le (four H x (pl q)) hn.2.2.2
    exact .inr ⟨l2.2 e1, by omega⟩
theorem both_le {H : Sh} (x : St × Bool) {q : Int} (hp : LitOk H q) (hn : LitOk H (-q)) : zc H (both H x q).1 ≤ zc H x.1 ∧ (x.2 = true → (both H x q).2 = true) := by
  rcases both_or x hp hn with ⟨_, _, e⟩ | ⟨e1, e2⟩
  · rw [e]; exact ⟨Nat.le_refl _, id⟩
  · exact ⟨by omega, fun _ => e1⟩
/-! What is settled stays so. -/
def Sett (s : St) (p : Nat) : Prop := s.su p ≠ 0 ∧ s.ho p ≠ 0
theorem take_keeps {H : Sh} {s : St} {p p' : Nat} (a b : Bool) : (s.su p' ≠ 0 → (litTake H s p a b).su p' ≠ 0) ∧ (s.ho p' ≠ 0 → (litTake H s p a b).ho p' ≠ 0) := by
  obtain ⟨e1, e2⟩ := litTake_su H s p a b
  rw [e1, e2]
  have := ansOf_ne b
  cases a <;> simp only [upd, Bool.false_eq_true, if_false, if_true] <;> refine ⟨fun h => ?_, fun h => ?_⟩ <;> (try split) <;> assumption
theorem shw_keeps {H : Sh} (x : St × Bool) (p p' : Nat) (a b : Bool) : (x.1.su p' ≠ 0 → (shw H x p a b).1.su p' ≠ 0) ∧ (x.1.ho p' ≠ 0 → (shw H x p a b).1.ho p' ≠ 0) := by
  unfold shw
  split
  · exact take_keeps a b
  · exact ⟨id, id⟩
theorem four_keeps {H : Sh} (x : St × Bool) (p p' : Nat) (h : Sett x.1 p') : Sett (four H x p).1 p' := by
  have h1 := shw_keeps (H := H) x p p' true true
  have h2 := shw_keeps (H := H) (shw H x p true true) p p' true false
  have h3 := shw_keeps (H := H) (shw H (shw H x p true true) p true false) p p' false true
  have h4 := shw_keeps (H := H) (shw H (shw H (shw H x p true true) p true false) p false true) p p' false false
  exact ⟨h4.1 (h3.1 (h2.1 (h1.1 h.1))), h4.2 (h3.2 (h2.2 (h1.2 h.2)))⟩
theorem both_keeps {H : Sh} (x : St × Bool) (q : Int) (p' : Nat) (h : Sett x.1 p') : Sett (both H x q).1 p' := four_keeps _ _ _ (four_keeps _ _ _ h)
theorem Sett.quiet {H : Sh} {s : St} {q : Int} (h : Sett s (pl q)) : Quiet H s q := fun a b => by
  unfold toShow
  cases a
  · simp [h.2]
  · simp [h.1]
theorem shw_su {H : Sh} (x : St × Bool) (p : Nat) (b : Bool) : (shw H x p false b).1.su = x.1.su := by
  unfold shw
  split
  · exact (litTake_su H x.1 p false b).1
  · rfl
/-- What no rule is about is settled at once. -/
theorem four_bare {H : Sh} (x : St × Bool) {p : Nat} (hr : H.ru p = []) (h1 : ∀ p, x.1.su p = 0 ∨ x.1.su p = 1 ∨ x.1.su p = 2) : (four H x p).1.su p ≠ 0 ∧ ((four H x p).1.ho p ≠ 0 ∨ x.1.su p = 1) := by
  have f1 : ∀ s, fol4 H s p true true = false := fun s => by unfold fol4; rw [if_pos rfl, if_pos rfl, hr]; rfl
  have f2 : ∀ s, fol4 H s p true false = true := fun s => by unfold fol4; rw [if_pos rfl, hr]; rfl
  have e1 : shw H x p true true = x := by unfold shw toShow; rw [f1, Bool.and_false]; rfl
  unfold four
  rw [e1]
  have hs2 : (shw H x p true false).1.su p ≠ 0 ∧ (x.1.su p ≠ 1 → (shw H x p true false).1.su p = 2) := by
    unfold shw toShow
    rw [f2, Bool.and_true]
    rcases h1 p with e | e | e
    · simp only [e, if_true, beq_self_eq_true]
      rw [(litTake_su H x.1 p true false).1]
      simp [upd, ansOf]
    · simp [e]
    · simp [e]
  have hk3 := shw_keeps (H := H) (shw H x p true false) p p false true
  have hk4 := shw_keeps (H := H) (shw H (shw H x p true false) p false true) p p false false
  refine ⟨hk4.1 (hk3.1 hs2.1), ?_⟩
  by_cases hx : x.1.su p = 1
  · exact .inr hx
  · refine .inl ?_
    have hsu : (shw H x p true false).1.su p = 2 := hs2.2 hx
    have hsu3 : (shw H (shw H x p true false) p false true).1.su p = 2 := by rw [shw_su]; exact hsu
    by_cases h0 : (shw H (shw H x p true false) p false true).1.ho p = 0
    · have hf : fol4 H (shw H (shw H x p true false) p false true).1 p false false = true := by
        unfold fol4 fFail
        rw [hsu3, hr]
        simp
      have ht : toShow H (shw H (shw H x p true false) p false true).1 p false false = true := toShow_iff.2 ⟨h0, hf⟩
      rw [show shw H (shw H (shw H x p true false) p false true) p false false = (litTake H (shw H (shw H x p true false) p false true).1 p false false, true) by
        show (if toShow H (shw H (shw H x p true false) p false true).1 p false false then _ else _) = _
        rw [if_pos ht]]
      rw [(litTake_su H _ p false false).2]
      simp [upd, ansOf]
    · exact hk4.2 h0
section
variable {T : Thy}
theorem four_fine (hT : Okt T) {x : St × Bool} {q : Int} (hq : IsLit T q) (h : Fine T x.1) : Fine T (four (shOf T) x (pl q)).1 := by
  have st := stays hT
  have one : ∀ (x : St × Bool) a b, Fine T x.1 → Fine T (shw (shOf T) x (pl q) a b).1 := fun x a b h => by
    unfold shw
    split
    · rename_i ht
      exact st.step _ q a b (hq.ok hT) h ht
    · exact h
  exact one _ _ _ (one _ _ _ (one _ _ _ (one _ _ _ h)))
theorem both_bare (hT : Okt T) {x : St × Bool} {q : Int} (hq : IsLit T q) (h : Fine T x.1) (h1 : (shOf T).ru (pl q) = []) (h2 : (shOf T).ru (pl (-q)) = []) : Sett (both (shOf T) x q).1 (pl q) ∧ Sett (both (shOf T) x q).1 (pl (-q)) := by
  have ne : ∀ {s : St} {q : Int}, IsLit T q → Fine T s → (shOf T).ru (pl q) = [] → s.su (pl q) ≠ 1 := fun {s q} hq hf hr e => by
    obtain ⟨i, r, i1, _, i3, _⟩ := hf.2.sup 0 q ⟨hq, e⟩
    have : i ∈ (shOf T).ru (pl q) := (mem_ru i _).2 ⟨rl_lt i1, by rw [rlAt_of i1, i3]⟩
    rw [hr] at this
    cases this
  have f1 := four_fine hT hq h
  have a1 := four_bare (H := shOf T) x h1 h.1.t1
  have a2 := four_bare (H := shOf T) (four (shOf T) x (pl q)) h2 f1.1.t1
  unfold both
  refine ⟨four_keeps _ _ _ ⟨a1.1, a1.2.resolve_right (ne hq h h1)⟩, ⟨a2.1, a2.2.resolve_right (ne hq.neg f1 h2)⟩⟩
/-- No rule is about it. -/
def Bare (T : Thy) (q : Int) : Prop := (shOf T).ru (pl q) = [] ∧ (shOf T).ru (pl (-q)) = []
/-- Names are looked at, k of them. -/
structure P1 (T : Thy) (k : Nat) (x : St × Bool) : Prop where
  q : x.2 = false → x.1 = st0 T ∧ ∀ j : Nat, j < k → Quiet (shOf T) (st0 T) ((j : Int) + 1) ∧ Quiet (shOf T) (st0 T) (-((j : Int) + 1))
  b : ∀ j : Nat, j < k → Bare T ((j : Int) + 1) → Sett x.1 (pl ((j : Int) + 1)) ∧ Sett x.1 (pl (-((j : Int) + 1)))
theorem lit_name (hT : Okt T) {k : Nat} (h : k < (shOf T).N) : IsLit T ((k : Int) + 1) := by
  have h : k < T.names.toNat := h
  have := hT.n0
  exact ⟨by omega, by omega, by omega⟩
theorem P1.next (hT : Okt T) {k : Nat} {x : St × Bool} (h : P1 T k x) (hf : Fine T x.1) (hk : k < (shOf T).N) : P1 T (k + 1) (both (shOf T) x ((k : Int) + 1)) := by
  have hl := lit_name hT hk
  refine ⟨fun e => ?_, fun j hj hb => ?_⟩
  · rcases both_or x (hl.ok hT) (hl.neg.ok hT) with ⟨q1, q2, e2⟩ | ⟨e2, _⟩
    · rw [e2] at e ⊢
      obtain ⟨h1, h2⟩ := h.q e
      refine ⟨h1, fun j hj => ?_⟩
      rcases Nat.lt_or_ge j k with c | c
      · exact h2 j c
      · obtain rfl : j = k := by omega
        rw [h1] at q1 q2
        exact ⟨q1, q2⟩
    · rw [e2] at e; cases e
  · rcases Nat.lt_or_ge j k with c | c
    · have := h.b j c hb
      exact ⟨both_keeps _ _ _ this.1, both_keeps _ _ _ this.2⟩
    · obtain rfl : j = k := by omega
      exact both_bare hT hl hf hb.1 hb.2
/-- All that can be shown of bare names is. -/
def BareAll (T : Thy) (s : St) : Prop := ∀ q, IsLit T q → Bare T q → Sett s (pl q)
def AllQ (T : Thy) (s : St) : Prop := ∀ q, IsLit T q → Quiet (shOf T) s q
theorem lit_cases (hT : Okt T) {q : Int} (hq : IsLit T q) : ∃ j : Nat, j < (shOf T).N ∧ (q = (j : Int) + 1 ∨ q = -((j : Int) + 1)) := by
  have := hT.n0
  obtain ⟨h0, h1, h2⟩ := hq
  refine ⟨q.natAbs - 1, ?_, by omega⟩
  show q.natAbs - 1 < T.names.toNat
  omega
theorem P1.end (hT : Okt T) {x : St × Bool} (h : P1 T (shOf T).N x) : BareAll T x.1 ∧ (x.2 = false → AllQ T x.1) := by
  refine ⟨fun q hq hb => ?_, fun e q hq => ?_⟩
  · obtain ⟨j, hj, e | e⟩ := lit_cases hT hq
    · rw [e] at hb ⊢
      exact (h.b j hj hb).1
    · rw [e] at hb ⊢
      refine (h.b j hj ⟨?_, hb.1⟩).2
      have := hb.2
      rw [Int.neg_neg] at this
      exact this
  · obtain ⟨h1, h2⟩ := h.q e
    rw [h1]
    obtain ⟨j, hj, e | e⟩ := lit_cases hT hq
    · rw [e]; exact (h2 j hj).1
    · rw [e]; exact (h2 j hj).2
/-- Rules are looked at, i of them, from s on. -/
structure P2 (T : Thy) (s : St) (i : Nat) (x : St × Bool) : Prop where
  q : x.2 = false → x.1 = s ∧ ∀ j : Nat, j < i → Quiet (shOf T) s (rlAt T j).head ∧ Quiet (shOf T) s (-(rlAt T j).head)
  z : x.2 = true → zc (shOf T) x.1 < zc (shOf T) s
  b : BareAll T x.1
theorem P2.next (hT : Okt T) {s : St} {i : Nat} {x : St × Bool} (h : P2 T s i x) (hi : i < T.rules.length) : P2 T s (i + 1) (both (shOf T) x (rlAt T i).head) := by
  have hl := (hT.lit i _ (rl_of hi)).1
  have lo := hl.ok hT
  have ln := hl.neg.ok hT
  refine ⟨fun e => ?_, fun e => ?_, fun q hq hb => both_keeps _ _ _ (h.b q hq hb)⟩
  · rcases both_or x lo ln with ⟨q1, q2, e2⟩ | ⟨e2, _⟩
    · rw [e2] at e ⊢
      obtain ⟨h1, h2⟩ := h.q e
      refine ⟨h1, fun j hj => ?_⟩
      rcases Nat.lt_or_ge j i with c | c
      · exact h2 j c
      · obtain rfl : j = i := by omega
        rw [h1] at q1 q2
        exact ⟨q1, q2⟩
    · rw [e2] at e; cases e
  · rcases both_or x lo ln with ⟨_, _, e2⟩ | ⟨_, z2⟩
    · rw [e2] at e ⊢
      exact h.z e
    · cases hx : x.2
      · have := (h.q hx).1
        rw [this] at z2
        exact z2
      · have := h.z hx
        omega
theorem P2.end (hT : Okt T) {s : St} {x : St × Bool} (h : P2 T s T.rules.length x) : x.2 = false → AllQ T x.1 := fun e q hq => by
  obtain ⟨h1, h2⟩ := h.q e
  by_cases hb : Bare T q
  · exact (h.b q hq hb).quiet
  · rw [h1]
    have hx : ∃ j, j < T.rules.length ∧ (pl (rlAt T j).head = pl q ∨ pl (rlAt T j).head = pl (-q)) := by
      apply Classical.byContradiction
      intro hn
      refine hb ⟨?_, ?_⟩
      · refine List.eq_nil_iff_forall_not_mem.2 fun j hj => ?_
        rw [mem_ru] at hj
        exact hn ⟨j, hj.1, .inl hj.2⟩
      · refine List.eq_nil_iff_forall_not_mem.2 fun j hj => ?_
        rw [mem_ru] at hj
        exact hn ⟨j, hj.1, .inr hj.2⟩
    obtain ⟨j, hj, e1⟩ := hx
    have hl := h2 j hj
    have d : ∀ {a b : Int}, pl a = pl b → Quiet (shOf T) s a → Quiet (shOf T) s b := fun {a b} e h => by unfold Quiet at h ⊢; rw [← e]; exact h
    rcases e1 with e1 | e1
    · exact d e1 hl.1
    · have e3 : (rlAt T j).head = -q := pl_inj (hT.lit j _ (rl_of hj)).1.1 hq.neg.1 e1
      have h4 := hl.2
      rw [e3, Int.neg_neg] at h4
      exact h4
end
end Go.Proofs.YtmbclnaenjcocaaGreatDoor

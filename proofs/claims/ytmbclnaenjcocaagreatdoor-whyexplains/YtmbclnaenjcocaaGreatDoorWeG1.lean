/-
  Explanations, plain: from which claims one follows, what has been told in order, and the steps that a claim needs. No walk.
-/
import Derived.Test.YtmbclnaenjcocaaGreatDoorWhPl
import Derived.DeepKeys4
import Derived.Maps.OwnSet
import Derived.Maps.Ext
namespace Go.Proofs.YtmbclnaenjcocaaGreatDoor
section
variable {T : Thy} {s : St}

/-- The marks of claims. -/
def mkL (l : List Clm) : Marks := fun k q => ∃ c, c ∈ l ∧ kOf c.1 c.2.1 = k ∧ c.2.2 = q
theorem mkL_sub {l l' : List Clm} (h : ∀ c, c ∈ l → c ∈ l') : Subm (mkL l) (mkL l') := fun _ _ ⟨c, h1, h2⟩ => ⟨c, h c h1, h2⟩
/-- All claims of a list are shown. -/
def AllM (T : Thy) (s : St) (l : List Clm) : Prop := ∀ c, c ∈ l → mk T s (kOf c.1 c.2.1) c.2.2
theorem AllM.app {l l' : List Clm} (h : AllM T s l) (h' : AllM T s l') : AllM T s (l ++ l') := fun c hc => (List.mem_append.1 hc).elim (h c) (h' c)
theorem AllM.cons {c : Clm} {l : List Clm} (h : mk T s (kOf c.1 c.2.1) c.2.2) (h' : AllM T s l) : AllM T s (c :: l) := fun x hx => by
  rcases List.mem_cons.1 hx with rfl | hx
  · exact h
  · exact h' x hx
theorem AllM.flat {f : Nat → List Clm} {l : List Nat} (h : ∀ i, i ∈ l → AllM T s (f i)) : AllM T s (l.flatMap f) := fun c hc => by
  obtain ⟨i, hi, hc⟩ := List.mem_flatMap.1 hc
  exact h i hi c hc
theorem AllM.nil : AllM T s [] := fun c hc => by cases hc
theorem find_any {f : Nat → Bool} {l : List Nat} (h : l.any f = true) : ∃ i, l.find? f = some i ∧ i ∈ l ∧ f i = true := by
  cases e : l.find? f with
  | none =>
    rw [List.find?_eq_none] at e
    obtain ⟨i, h1, h2⟩ := List.any_eq_true.1 h
    exact absurd h2 (e i h1)
  | some i => exact ⟨i, rfl, List.mem_of_find?_eq_some e, List.find?_some e⟩
theorem ru_of (hT : Okt T) {q : Int} (hq : IsLit T q) {i : Nat} : i ∈ (shOf T).ru (pl q) ↔ ∃ r, T.rl i r ∧ r.head = q := by
  rw [mem_ru]
  constructor
  · rintro ⟨h1, h2⟩
    have hr := rl_of h1
    exact ⟨_, hr, pl_inj (hT.lit i _ hr).1.1 hq.1 h2⟩
  · rintro ⟨r, hr, hh⟩
    exact ⟨rl_lt hr, by rw [rlAt_of hr, hh]⟩
theorem ab_of (hT : Okt T) {k : Nat} {r : Rl} (hk : T.rl k r) {q : Int} (hh : r.head = -q) {j : Nat} : j ∈ (shOf T).ab k ↔ ∃ r', T.rl j r' ∧ r'.head = q ∧ Ovr T j k := by
  have h := any_ab hT hk hh (fun i => i == j)
  rw [List.any_eq_true] at h
  constructor
  · intro hj
    obtain ⟨i, r', h1, h2, h3, h4⟩ := h.1 ⟨j, hj, by simp⟩
    obtain rfl : i = j := by simpa using h4
    exact ⟨r', h1, h2, h3⟩
  · rintro ⟨r', h1, h2, h3⟩
    obtain ⟨i, hi, h4⟩ := h.2 ⟨j, r', h1, h2, h3, by simp⟩
    obtain rfl : i = j := by simpa using h4
    exact hi
theorem mem_all {i : Nat} {r : Rl} (hr : T.rl i r) {a : Bool} {b : Int} (hb : b ∈ r.body) : (a, true, b) ∈ allC (shOf T) i a := by
  unfold allC
  refine List.mem_map.2 ⟨b, ?_, rfl⟩
  show b ∈ (rlAt T i).body
  rw [rlAt_of hr]; exact hb
theorem all_m {i : Nat} {r : Rl} (hr : T.rl i r) {a : Bool} (h : r.every (mk T s) (kOf a true)) : AllM T s (allC (shOf T) i a) := fun c hc => by
  unfold allC at hc
  obtain ⟨b, hb, rfl⟩ := List.mem_map.1 hc
  have hb : b ∈ (rlAt T i).body := hb
  rw [rlAt_of hr] at hb
  exact h b hb
theorem every_all {i : Nat} {r : Rl} (hr : T.rl i r) {a : Bool} {l : List Clm} (h : ∀ c, c ∈ allC (shOf T) i a → c ∈ l) : r.every (mkL l) (kOf a true) := fun _ hb => ⟨_, h _ (mem_all hr hb), rfl, rfl⟩
theorem ns_of (hT : Okt T) (h : Inv T s) {i : Nat} {r : Rl} (hr : T.rl i r) (h0 : s.ns i ≠ 0) : s.ns i ∈ r.body ∧ mk T s 1 (s.ns i) := by
  obtain ⟨h1, h2⟩ := h.nm i h0
  rw [rlAt_of hr] at h1
  exact ⟨h1, (hT.lit i r hr).2 _ h1, h2⟩
theorem fa_of (hT : Okt T) (h : Inv T s) {i : Nat} {r : Rl} (hr : T.rl i r) (h0 : s.fa i ≠ 0) : s.fa i ∈ r.body ∧ mk T s 3 (s.fa i) := by
  obtain ⟨h1, h2⟩ := h.fm i h0
  rw [rlAt_of hr] at h1
  exact ⟨h1, (hT.lit i r hr).2 _ h1, h2⟩
theorem any_false {f : Nat → Bool} {l : List Nat} (h : l.any f = false) {i : Nat} (hi : i ∈ l) : f i = false := by
  rw [List.any_eq_false] at h
  simpa using h i hi
/-- The rules that could carry a literal, none of which does: what of their bodies fails. -/
theorem may_m (hT : Okt T) (h : Inv T s) {i : Nat} {r : Rl} (hr : T.rl i r) (hm : bMay (shOf T) s i = false) : AllM T s (gMay (shOf T) s i) ∧ (r.kind ≠ 2 → ∀ l : List Clm, (∀ c, c ∈ gMay (shOf T) s i → c ∈ l) → r.some (mkL l) 3) := by
  have hk := kd_of hr
  unfold gMay
  rw [hk]
  by_cases e : r.kind = 2
  · rw [if_pos e]
    exact ⟨AllM.nil, fun h => absurd e h⟩
  · rw [if_neg e]
    have h0 : s.fa i ≠ 0 := fun e0 => by
      unfold bMay at hm
      rw [hk, e0] at hm
      simp [e] at hm
    obtain ⟨h1, h2⟩ := fa_of hT h hr h0
    exact ⟨AllM.cons h2 AllM.nil, fun _ l hl => ⟨_, h1, _, hl _ (List.mem_cons_self ..), rfl, rfl⟩⟩
theorem from_ok (hT : Okt T) (h : Inv T s) {q : Int} (hq : IsLit T q) (a b : Bool) (hf : fol4 (shOf T) s (pl q) a b = true) : AllM T s (fromC (shOf T) s (pl q) a b) ∧ Can T (mkL (fromC (shOf T) s (pl q) a b)) (kOf a b) q := by
  have hlq : litOf (pl q) = q := litOf_pl hq.1
  cases a <;> cases b
  · -- FAILS
    have hf : fFail (shOf T) s (pl q) = true := hf
    show AllM T s (failC (shOf T) s (pl q)) ∧ CanFail T (mkL (failC (shOf T) s (pl q))) q
    unfold fFail at hf
    rw [pl_opp hq.1] at hf
    simp only [Bool.and_eq_true, Bool.or_eq_true, beq_iff_eq, Bool.not_eq_true'] at hf
    obtain ⟨h1, h2⟩ := hf
    have m1 : mk T s 1 q := ⟨hq, h1⟩
    unfold failC
    rw [pl_opp hq.1, hlq]
    by_cases e1 : s.su (pl (-q)) = 1
    · rw [if_pos e1]
      exact ⟨AllM.cons m1 (AllM.cons (c := (true, true, -q)) ⟨hq.neg, e1⟩ AllM.nil), ⟨_, List.mem_cons_self .., rfl, rfl⟩, .inl ⟨_, List.mem_cons_of_mem _ (List.mem_cons_self ..), rfl, rfl⟩⟩
    · rw [if_neg e1]
      by_cases e2 : ((shOf T).ru (pl q)).any (bMay (shOf T) s) = true
      · rw [if_pos e2]
        have h3 : ((shOf T).ru (pl (-q))).any (bStop (shOf T) s) = true := by
          rcases h2 with (h2 | h2) | h2
          · exact absurd h2 e1
          · rw [e2] at h2; cases h2
          · exact h2
        obtain ⟨k, ek, hk1, hk2⟩ := find_any h3
        rw [ek]
        obtain ⟨r, hr, hh⟩ := (ru_of hT hq.neg).1 hk1
        unfold bStop at hk2
        simp only [Bool.and_eq_true, beq_iff_eq, Bool.not_eq_true'] at hk2
        have hev := (uh_zero hT h hr).1 hk2.1
        refine ⟨AllM.cons m1 ((all_m hr hev).app (AllM.flat fun j hj => ?_)), ⟨_, List.mem_cons_self .., rfl, rfl⟩, .inr (.inr ⟨k, r, hr, hh, every_all (a := false) hr fun c hc => List.mem_cons_of_mem _ (List.mem_append_left _ hc), fun i r' hr' hh' hk' ho => ?_⟩)⟩
        · obtain ⟨r', hr', _⟩ := (ab_of hT hr hh).1 hj
          exact (may_m hT h hr' (any_false hk2.2 hj)).1
        · have hi := (ab_of hT hr hh).2 ⟨r', hr', hh', ho⟩
          exact (may_m hT h hr' (any_false hk2.2 hi)).2 hk' _ fun c hc => List.mem_cons_of_mem _ (List.mem_append_right _ (List.mem_flatMap.2 ⟨i, hi, hc⟩))
      · rw [if_neg e2]
        have e3 : ((shOf T).ru (pl q)).any (bMay (shOf T) s) = false := by simpa using e2
        refine ⟨AllM.cons m1 (AllM.flat fun j hj => ?_), ⟨_, List.mem_cons_self .., rfl, rfl⟩, .inr (.inl fun i r hr hh hk _ => ?_)⟩
        · obtain ⟨r', hr', _⟩ := (ru_of hT hq).1 hj
          exact (may_m hT h hr' (any_false e3 hj)).1
        · have hi := (ru_of hT hq).2 ⟨r, hr, hh⟩
          exact (may_m hT h hr (any_false e3 hi)).2 hk _ fun c hc => List.mem_cons_of_mem _ (List.mem_flatMap.2 ⟨i, hi, hc⟩)
  · -- HOLDS
    have hf : fHold (shOf T) s (pl q) = true := hf
    show AllM T s (holdC (shOf T) s (pl q)) ∧ CanHold T (mkL (holdC (shOf T) s (pl q))) q
    unfold fHold at hf
    rw [pl_opp hq.1] at hf
    simp only [Bool.and_eq_true, Bool.or_eq_true, beq_iff_eq, Bool.not_eq_true'] at hf
    unfold holdC
    rw [pl_opp hq.1, hlq]
    by_cases e1 : s.su (pl q) = 1
    · rw [if_pos e1]
      exact ⟨AllM.cons (c := (true, true, q)) ⟨hq, e1⟩ AllM.nil, .inl ⟨_, List.mem_cons_self .., rfl, rfl⟩⟩
    · rw [if_neg e1]
      obtain ⟨⟨h1, h2⟩, h3⟩ := hf.resolve_left e1
      obtain ⟨i, ei, hi1, hi2⟩ := find_any h2
      rw [ei]
      obtain ⟨r, hr, hh⟩ := (ru_of hT hq).1 hi1
      obtain ⟨hk, hev⟩ := (bCar_iff hT h hr).1 hi2
      have way : ∀ k r', T.rl k r' → r'.head = -q → bWay (shOf T) s k = false → AllM T s (gWay (shOf T) s k) ∧ ∀ l : List Clm, (∀ c, c ∈ gWay (shOf T) s k → c ∈ l) → r'.some (mkL l) 3 ∨ Help T (mkL l) q (fun i => Ovr T i k) := fun k r' hr' hh' hw => by
        unfold gWay
        by_cases e : s.fa k = 0
        · rw [if_pos e]
          unfold bWay at hw
          have hc : ((shOf T).ab k).any (bCar (shOf T) s) = true := by
            rw [e] at hw
            simpa using hw
          obtain ⟨j, ej, hj1, hj2⟩ := find_any hc
          rw [ej]
          obtain ⟨r2, hr2, hh2, ho2⟩ := (ab_of hT hr' hh').1 hj1
          obtain ⟨hk2, hev2⟩ := (bCar_iff hT h hr2).1 hj2
          exact ⟨all_m hr2 hev2, fun l hl => .inr ⟨j, r2, hr2, hh2, hk2, ho2, every_all (a := false) hr2 hl⟩⟩
        · rw [if_neg e]
          obtain ⟨g1, g2⟩ := fa_of hT h hr' e
          exact ⟨AllM.cons g2 AllM.nil, fun l hl => .inl ⟨_, g1, _, hl _ (List.mem_cons_self ..), rfl, rfl⟩⟩
      refine ⟨((all_m hr hev).app (AllM.cons (c := (true, false, -q)) ⟨hq.neg, h1⟩ AllM.nil)).app (AllM.flat fun k hk1 => ?_), .inr ⟨⟨_, List.mem_append_left _ (List.mem_append_right _ (List.mem_cons_self ..)), rfl, rfl⟩, ⟨i, r, hr, hh, hk, trivial, every_all (a := false) hr fun c hc => List.mem_append_left _ (List.mem_append_left _ hc)⟩, fun k r' hr' hh' => ?_⟩⟩
      · obtain ⟨r', hr', hh'⟩ := (ru_of hT hq.neg).1 hk1
        exact (way k r' hr' hh' (any_false h3 hk1)).1
      · have hk1 := (ru_of hT hq.neg).2 ⟨r', hr', hh'⟩
        exact (way k r' hr' hh' (any_false h3 hk1)).2 _ fun c hc => List.mem_append_right _ (List.mem_flatMap.2 ⟨k, hk1, hc⟩)
  · -- NOT SURE
    have hf : (!((shOf T).ru (pl q)).any (bNot (shOf T) s)) = true := hf
    rw [Bool.not_eq_true'] at hf
    show AllM T s (((shOf T).ru (pl q)).flatMap (gNot (shOf T) s)) ∧ CanNot T (mkL (((shOf T).ru (pl q)).flatMap (gNot (shOf T) s))) q
    have one : ∀ i r, T.rl i r → r.kind = 0 → bNot (shOf T) s i = false → s.ns i ≠ 0 := fun i r hr hk hb e0 => by
      unfold bNot at hb
      rw [kd_of hr, hk, e0] at hb
      simp at hb
    refine ⟨AllM.flat fun i hi => ?_, fun i r hr hk hh => ?_⟩
    · obtain ⟨r, hr, _⟩ := (ru_of hT hq).1 hi
      unfold gNot
      rw [kd_of hr]
      by_cases e : r.kind = 0
      · rw [if_pos e]
        exact AllM.cons (ns_of hT h hr (one i r hr e (any_false hf hi))).2 AllM.nil
      · rw [if_neg e]
        exact AllM.nil
    · have hi := (ru_of hT hq).2 ⟨r, hr, hh⟩
      refine ⟨_, (ns_of hT h hr (one i r hr hk (any_false hf hi))).1, (true, false, s.ns i), List.mem_flatMap.2 ⟨i, hi, ?_⟩, rfl, rfl⟩
      unfold gNot
      rw [kd_of hr, if_pos hk]
      exact List.mem_cons_self ..
  · -- SURE
    have hf : ((shOf T).ru (pl q)).any (bSure (shOf T) s) = true := hf
    show AllM T s (sureC (shOf T) s (pl q)) ∧ CanSure T (mkL (sureC (shOf T) s (pl q))) q
    obtain ⟨i, ei, hi1, hi2⟩ := find_any hf
    unfold sureC
    rw [ei]
    obtain ⟨r, hr, hh⟩ := (ru_of hT hq).1 hi1
    obtain ⟨hk, hev⟩ := (bSure_iff hT h hr).1 hi2
    exact ⟨all_m hr hev, i, r, hr, hk, hh, every_all (a := true) hr fun c hc => hc⟩
end
/-! What has been told, the newest first. -/
def Trc (T : Thy) : List (Clm × List Clm) → Prop
  | [] => True
  | x :: tr => Trc T tr ∧ IsLit T x.1.2.2 ∧ (∀ c, c ∈ x.2 → c ∈ tr.map (·.1)) ∧ Can T (mkL x.2) (kOf x.1.1 x.1.2.1) x.1.2.2 ∧ x.1 ∉ tr.map (·.1)
/-- The steps that are needed, the last one first. -/
def pick (N : Clm → Bool) : List (Clm × List Clm) → List Clm
  | [] => []
  | x :: tr => if N x.1 then x.1 :: pick (fun c => N c || x.2.contains c) tr else pick N tr
theorem pick_mem : ∀ (tr : List (Clm × List Clm)) (N : Clm → Bool) (c : Clm), c ∈ tr.map (·.1) → N c = true → c ∈ pick N tr
  | [], N, c, h, _ => by cases h
  | x :: tr, N, c, h, hn => by
    unfold pick
    rw [List.map_cons] at h
    rcases List.mem_cons.1 h with rfl | h
    · rw [if_pos hn]; exact List.mem_cons_self ..
    · by_cases e : N x.1 = true
      · rw [if_pos e]
        exact List.mem_cons_of_mem _ (pick_mem tr _ c h (by simp [hn]))
      · rw [if_neg e]
        exact pick_mem tr N c h hn
theorem pick_sub : ∀ (tr : List (Clm × List Clm)) (N : Clm → Bool), (pick N tr).Sublist (tr.map (·.1))
  | [], N => List.Sublist.slnil
  | x :: tr, N => by
    unfold pick
    rw [List.map_cons]
    by_cases e : N x.1 = true
    · rw [if_pos e]; exact (pick_sub tr _).cons_cons _
    · rw [if_neg e]; exact (pick_sub tr N).cons _
theorem Trc.nodup {T : Thy} : ∀ (tr : List (Clm × List Clm)), Trc T tr → (tr.map (·.1)).Nodup
  | [], _ => List.nodup_nil
  | x :: tr, h => by
    rw [List.map_cons]
    exact List.nodup_cons.2 ⟨h.2.2.2.2, Trc.nodup tr h.1⟩
theorem Trc.lit {T : Thy} : ∀ (tr : List (Clm × List Clm)), Trc T tr → ∀ c, c ∈ tr.map (·.1) → IsLit T c.2.2
  | [], _, c, hc => by cases hc
  | x :: tr, h, c, hc => by
    rw [List.map_cons] at hc
    rcases List.mem_cons.1 hc with rfl | hc
    · exact h.2.1
    · exact Trc.lit tr h.1 c hc
theorem goodL_snoc {T : Thy} : ∀ (l : List Clm) (S : Marks) (c : Clm), goodL T S (l ++ [c]) ↔ goodL T S l ∧ IsLit T c.2.2 ∧ Can T (fun k q => S k q ∨ mkL l k q) (kOf c.1 c.2.1) c.2.2
  | [], S, c => by
    have e : (fun k q => S k q ∨ mkL [] k q) = S := by
      funext k q
      apply propext
      constructor
      · rintro (h | ⟨_, h, _⟩)
        · exact h
        · cases h
      · exact fun h => .inl h
    show (IsLit T c.2.2 ∧ Can T S (kOf c.1 c.2.1) c.2.2 ∧ True) ↔ _
    rw [e]
    exact ⟨fun h => ⟨trivial, h.1, h.2.1⟩, fun h => ⟨h.2.1, h.2.2, trivial⟩⟩
  | x :: l, S, c => by
    have e : (fun k q => addM S (kOf x.1 x.2.1) x.2.2 k q ∨ mkL l k q) = (fun k q => S k q ∨ mkL (x :: l) k q) := by
      funext k q
      apply propext
      constructor
      · rintro ((h | ⟨h1, h2⟩) | ⟨d, h1, h2⟩)
        · exact .inl h
        · exact .inr ⟨x, List.mem_cons_self .., h1.symm, h2.symm⟩
        · exact .inr ⟨d, List.mem_cons_of_mem _ h1, h2⟩
      · rintro (h | ⟨d, h1, h2, h3⟩)
        · exact .inl (.inl h)
        · rcases List.mem_cons.1 h1 with rfl | h1
          · exact .inl (.inr ⟨h2.symm, h3.symm⟩)
          · exact .inr ⟨d, h1, h2, h3⟩
    show (IsLit T x.2.2 ∧ Can T S (kOf x.1 x.2.1) x.2.2 ∧ goodL T (addM S (kOf x.1 x.2.1) x.2.2) (l ++ [c])) ↔ (IsLit T x.2.2 ∧ Can T S (kOf x.1 x.2.1) x.2.2 ∧ goodL T (addM S (kOf x.1 x.2.1) x.2.2) l) ∧ _
    rw [goodL_snoc l, e]
    exact ⟨fun h => ⟨⟨h.1, h.2.1, h.2.2.1⟩, h.2.2.2⟩, fun h => ⟨h.1.1, h.1.2.1, h.1.2.2, h.2⟩⟩
/-- What is picked, in the order told, is an explanation. -/
theorem pick_good {T : Thy} : ∀ (tr : List (Clm × List Clm)) (N : Clm → Bool), Trc T tr → goodL T (fun _ _ => False) (pick N tr).reverse
  | [], N, _ => trivial
  | x :: tr, N, h => by
    unfold pick
    by_cases e : N x.1 = true
    · rw [if_pos e, List.reverse_cons, goodL_snoc]
      refine ⟨pick_good tr _ h.1, h.2.1, Can.mono ?_ _ _ h.2.2.2.1⟩
      rintro k q ⟨c, h1, h2⟩
      exact .inr ⟨c, List.mem_reverse.2 (pick_mem tr _ c (h.2.2.1 c h1) (by simp [h1])), h2⟩
    · rw [if_neg e]
      exact pick_good tr N h.1
/-- What one wants to have explained is the last step. -/
theorem pick_goal (g : Clm) : ∀ (tr : List (Clm × List Clm)), g ∈ tr.map (·.1) → ∃ l, pick (fun c => c == g) tr = g :: l
  | [], h => by cases h
  | x :: tr, h => by
    unfold pick
    by_cases e : x.1 = g
    · rw [if_pos (by simp [e]), e]; exact ⟨_, rfl⟩
    · rw [if_neg (by simp [e])]
      rw [List.map_cons] at h
      rcases List.mem_cons.1 h with h | h
      · exact absurd h.symm e
      · exact pick_goal g tr h
theorem pick_none (g : Clm) : ∀ (tr : List (Clm × List Clm)), g ∉ tr.map (·.1) → pick (fun c => c == g) tr = []
  | [], h => rfl
  | x :: tr, h => by
    unfold pick
    rw [List.map_cons, List.mem_cons, not_or] at h
    rw [if_neg (by simp; exact fun e => h.1 e.symm)]
    exact pick_none g tr h.2
/-- What has been told is what has been shown. -/
structure Told (T : Thy) (s : St) (tr : List (Clm × List Clm)) : Prop where
  trc : Trc T tr
  all : ∀ c : Clm, c ∈ tr.map (·.1) ↔ mk T s (kOf c.1 c.2.1) c.2.2
theorem Told.start (T : Thy) : Told T (st0 T) [] := ⟨trivial, fun c => by rw [mk_st0]; exact ⟨fun h => (by cases h), fun h => h.elim⟩⟩
theorem kOf_inj {a b a' b' : Bool} (h : kOf a b = kOf a' b') : a = a' ∧ b = b' := by
  cases a <;> cases b <;> cases a' <;> cases b' <;> first | exact ⟨rfl, rfl⟩ | (exact absurd h (by decide))
theorem Told.tell {T : Thy} {s : St} {tr : List (Clm × List Clm)} (hT : Okt T) (h : Told T s tr) (hI : Inv T s) {q : Int} (hq : IsLit T q) {a b : Bool} (ht : toShow (shOf T) s (pl q) a b = true) : Told T (litTake (shOf T) s (pl q) a b) (((a, b, q), fromC (shOf T) s (pl q) a b) :: tr) := by
  obtain ⟨h0, hf⟩ := toShow_iff.1 ht
  obtain ⟨h1, h2⟩ := from_ok hT hI hq a b hf
  refine ⟨⟨h.trc, hq, fun c hc => (h.all c).2 (h1 c hc), h2, fun hc => ?_⟩, fun c => ?_⟩
  · have h9 := (h.all _).1 hc
    cases a <;> cases b
    · have := h9.2; simp at h0; exact absurd (h0.symm.trans this) (by decide)
    · have := h9.2; simp at h0; exact absurd (h0.symm.trans this) (by decide)
    · have := h9.2; simp at h0; exact absurd (h0.symm.trans this) (by decide)
    · have := h9.2; simp at h0; exact absurd (h0.symm.trans this) (by decide)
  · rw [mk_take hq a b h0, List.map_cons, List.mem_cons, h.all c]
    obtain ⟨ca, cb, cq⟩ := c
    constructor
    · rintro (e | e)
      · injection e with e1 e2
        injection e2 with e2 e3
        rw [e1, e2, e3]
        exact .inr ⟨rfl, rfl⟩
      · exact .inl e
    · rintro (e | ⟨e1, e2⟩)
      · exact .inr e
      · obtain ⟨rfl, rfl⟩ := kOf_inj e1
        have e2 : cq = q := e2
        rw [e2]
        exact .inl rfl
end Go.Proofs.YtmbclnaenjcocaaGreatDoor
namespace Go.Proofs.YtmbclnaenjcocaaGreatDoor
open Go.RowKit

/-- A claim, and the slice of those that it follows from. -/
abbrev Hrd := Clm × Option Addr × Nat × Nat
def Hrd.v (x : Hrd) : Value := .slice x.2.1 x.2.2.1 x.2.2.2
def hrdC : List Hrd → List Value
  | [] => []
  | x :: l => .bool x.1.1 :: .bool x.1.2.1 :: .int .i64 x.1.2.2 :: x.v :: hrdC l
theorem hrdC_len : ∀ l : List Hrd, (hrdC l).length = l.length * 4
  | [] => rfl
  | x :: l => by rw [hrdC]; simp only [List.length_cons, hrdC_len l]; omega
theorem hrdC_app : ∀ (a b : List Hrd), hrdC (a ++ b) = hrdC a ++ hrdC b
  | [], b => rfl
  | x :: a, b => by rw [List.cons_append, hrdC, hrdC, hrdC_app a b]; rfl
theorem hrdC_get : ∀ (l : List Hrd) (i : Nat) (x : Hrd), l[i]? = some x → (hrdC l)[i * 4]? = some (.bool x.1.1) ∧ (hrdC l)[i * 4 + 1]? = some (.bool x.1.2.1) ∧ (hrdC l)[i * 4 + 2]? = some (.int .i64 x.1.2.2) ∧ (hrdC l)[i * 4 + 3]? = some x.v
  | a :: l, 0, x, h => by
    obtain rfl : a = x := by simpa using h
    exact ⟨rfl, rfl, rfl, rfl⟩
  | a :: l, i + 1, x, h => by
    have := hrdC_get l i x (by simpa using h)
    rw [hrdC, show (i + 1) * 4 = i * 4 + 1 + 1 + 1 + 1 by omega]
    simpa using this
theorem hrdC_one : ∀ (l : List Hrd) (u : Value), u ∈ hrdC l → u.oneCell' = true
  | [], u, h => by cases h
  | x :: l, u, h => by
    rw [hrdC, List.mem_cons, List.mem_cons, List.mem_cons, List.mem_cons] at h
    rcases h with rfl | rfl | rfl | rfl | h
    · rfl
    · rfl
    · rfl
    · rfl
    · exact hrdC_one l u h
/-- What has been heard, in a row of the call's own. -/
structure HRow (w : World) (B : Nat) (v : Value) (l : List Hrd) : Prop where
  row : w.ownsRow B 68 4 v l.length (hrdC l)
  len : l.length ≤ 1000000
theorem HRow.nil (w : World) (B : Nat) : HRow w B (.slice none 0 0) [] := ⟨World.ownsRow_nil w B _ _, by simp⟩
theorem HRow.any {w : World} {B : Nat} {v : Value} {l : List Hrd} (h : HRow w B v l) : ∃ a c, v = .slice a l.length c := by
  rcases h.row.2 with ⟨rfl, e⟩ | ⟨g, cap, cur, rfl, _⟩
  · exact ⟨_, _, by rw [e]⟩
  · exact ⟨_, _, rfl⟩
theorem HRow.on {w w' : World} {B : Nat} {v : Value} {l : List Hrd} (h : HRow w B v l) (hk : ∀ g, v.ownBlock = some g → B ≤ g → g < w.heap.size → w'.heap[g]? = w.heap[g]?) : HRow w' B v l := by
  refine ⟨⟨h.row.1, ?_⟩, h.len⟩
  rcases h.row.2 with hn | ⟨g, cap, cur, rfl, hb, hgg, rest⟩
  · exact .inl hn
  · exact .inr ⟨g, cap, cur, rfl, hb, (hk g rfl hb (Array.getElem?_eq_some_iff.1 hgg).1).trans hgg, rest⟩
theorem Tryz.infoHrd : ∃ i z, Tryz.prog.info? 68 = some i ∧ i.zero = some z ∧ i.size = 4 ∧ i.bytes = 40 ∧ z.cells.size = 4 := by
  have h : (Tryz.prog.info? 68).map (fun i => (i.zero, i.size, i.bytes)) = some (some (.agg #[.bool false, .bool false, .int .i64 0, .slice none 0 0]), 4, 40) := by kernel_rfl
  obtain ⟨i, h1, h2⟩ := Option.map_eq_some_iff.1 h
  simp only [Prod.mk.injEq] at h2
  exact ⟨i, _, h1, h2.1, h2.2.1, h2.2.2, rfl⟩
/-- A row of what has been heard is no row of claims. -/
theorem apart {w : World} {B : Nat} {v u : Value} {l : List Hrd} {m : List Clm} (h : HRow w B v l) (hm : CRow w B u m) {g : Nat} (e1 : v.ownBlock = some g) (e2 : u.ownBlock = some g) : False := by
  rcases h.row.2 with ⟨rfl, _⟩ | ⟨g1, _, _, rfl, _, hb1, _⟩
  · cases e1
  · rcases hm.row.2 with ⟨rfl, _⟩ | ⟨g2, _, _, rfl, _, hb2, _⟩
    · cases e2
    · injection e1 with e1
      injection e2 with e2
      have e1 : g1 = g := e1
      have e2 : g2 = g := e2
      subst e1
      subst e2
      have h9 := hb1.symm.trans hb2
      injection h9 with h9
      injection h9 with _ h9 _
      exact absurd h9 (by decide)
/-- All claims of up to 120 names. -/
def allClm : List Clm := [true, false].flatMap fun a => [true, false].flatMap fun b => (List.range 241).map (fun (i : Nat) => ((a, b, ((i : Nat) : Int) - 120) : Clm))
theorem allClm_len : allClm.length = 964 := by unfold allClm; simp
theorem mem_allClm {c : Clm} (h1 : -120 ≤ c.2.2) (h2 : c.2.2 ≤ 120) : c ∈ allClm := by
  obtain ⟨a, b, q⟩ := c
  unfold allClm
  refine List.mem_flatMap.2 ⟨a, by cases a <;> simp, List.mem_flatMap.2 ⟨b, by cases b <;> simp, List.mem_map.2 ⟨(q + 120).toNat, (by have h1 : -120 ≤ q := h1; have h2 : q ≤ 120 := h2; rw [List.mem_range]; omega), ?_⟩⟩⟩
  have h1 : -120 ≤ q := h1
  rw [show (((q + 120).toNat : Nat) : Int) - 120 = q by omega]
/-- What has been heard: the newest claim first. -/
structure Hea (T : Thy) (kb top : Nat) (w : World) (s : St) (tr : List (Clm × List Clm)) (hl : List Hrd) (v : Value) : Prop where
  told : Told T s tr
  blk : w.heap[kb]? = some (.cells #[v] 63 (0, 0))
  row : HRow w top v hl
  len : hl.length = tr.length
  each : ∀ (j : Nat) (x : Hrd) (y : Clm × List Clm), hl[j]? = some x → tr.reverse[j]? = some y → x.1 = y.1 ∧ CRow w top x.v y.2
def KH (T : Thy) (kb : Nat) (top : Nat) (w : World) (s : St) : Prop := ∃ tr hl v, Hea T kb top w s tr hl v
theorem Hea.on {T : Thy} {kb top : Nat} {w w' : World} {s : St} {tr : List (Clm × List Clm)} {hl : List Hrd} {v : Value} (h : Hea T kb top w s tr hl v) (h0 : w'.heap[kb]? = w.heap[kb]?) (hk : ∀ k, top ≤ k → k < w.heap.size → w'.heap[k]? = w.heap[k]?) : Hea T kb top w' s tr hl v :=
  ⟨h.told, h0.trans h.blk, h.row.on fun g _ a b => hk g a b, h.len, fun j x y hx hy => ⟨(h.each j x y hx hy).1, (h.each j x y hx hy).2.on fun g _ a b => hk g a b⟩⟩
theorem Hea.start (T : Thy) {kb top : Nat} {w : World} (hb : w.heap[kb]? = some (.cells #[.slice none 0 0] 63 (0, 0))) : Hea T kb top w (st0 T) [] [] (.slice none 0 0) :=
  ⟨Told.start T, hb, HRow.nil _ _, rfl, fun j x y hx => by simp at hx⟩
/-- No more than four claims of each literal are told. -/
theorem told_few {T : Thy} (hT : Okt T) {kb top : Nat} {w : World} {s : St} {tr : List (Clm × List Clm)} {hl : List Hrd} {v : Value} (h : Hea T kb top w s tr hl v) : hl.length + 1 ≤ 1000000 := by
  have hn := hT.n1
  have hn0 := hT.n0
  have hnd := h.told.trc.nodup
  have hsub : ∀ c, c ∈ tr.map (·.1) → c ∈ allClm := fun c hc => by
    have hl := h.told.trc.lit _ c hc
    exact mem_allClm (by have := hl.2.1; omega) (by have := hl.2.2; omega)
  have h9 := List.Nodup.length_le_of_subset hnd hsub
  rw [List.length_map, allClm_len] at h9
  rw [h.len]
  omega
/-- One more, which has just been laid. -/
theorem wpList_push_hrd {W : World} {ops : Array Oper} {rest : List Oper} {o : Oper} {a : Act} {Q : Exit → Act → World → Prop} (hgd : o.guard = none) (s x : Operand)
    (ho : o.op = .call { callee := .builtin .append, args := #[s, x], argTypes := #[63, 63] }) (B : Nat) (v : Value) (l : List Hrd) (c1 c2 : Bool) (c3 : Int) (ad : Option Addr) (n c : Nat) (hs : a.eval s = v) (hown : HRow W B v l)
    (hx : a.eval x = .slice (some ⟨W.heap.size, 0, none⟩) 1 1) (hB : B ≤ W.heap.size) (hl : l.length + 1 ≤ 1000000)
    (h : ∀ v' w', HRow w' B v' (l ++ [((c1, c2, c3), ad, n, c)]) → Below B W w' → (∀ k, k < W.heap.size → some k ≠ v.ownBlock → w'.heap[k]? = W.heap[k]?) → wpList Tryz.prog ops Q rest (a.put o.dst v') w') : wpList Tryz.prog ops Q (o :: rest) a (W.alloc (.cells #[.bool c1, .bool c2, .int .i64 c3, .slice ad n c] 68)) := by
  obtain ⟨i0, z, h1, h2, h3, h4, h5⟩ := Tryz.infoHrd
  have hn : ∀ (j : Nat) (u : Value), (hrdC [((c1, c2, c3), ad, n, c)])[j]? = some u → (W.alloc (.cells #[.bool c1, .bool c2, .int .i64 c3, .slice ad n c] 68)).cell? ((⟨W.heap.size, 0, none⟩ : Addr).add j) = some u := fun j u hj => alloc_cellC W (hrdC [((c1, c2, c3), ad, n, c)]) 68 j u hj
  have hal : HRow (W.alloc (.cells #[.bool c1, .bool c2, .int .i64 c3, .slice ad n c] 68)) B v l := hown.on fun g _ _ hg => ((Below.refl W.heap.size W).alloc (Nat.le_refl _) _).block g hg
  refine wpList_append_own _ hgd s x 63 ho B 68 i0 z 4 40 Tryz.underlying63 h1 h2 h3 h4 h5 (by decide) v l.length (hrdC l) hs hal.row ⟨W.heap.size, 0, none⟩ 1 1 (hrdC [((c1, c2, c3), ad, n, c)]) hx rfl hn (hrdC_one _) (by unfold maxLen; omega) (by omega) (by simp; omega) ?_
  intro v' w' hown' hgrow _
  refine h v' w' ⟨?_, by rw [List.length_append]; exact hl⟩ (((Below.refl B W).alloc hB _).grown hgrow (by simp; omega) (fun k hk => (hown.row.lt k hk).1)) fun k hk hne => (hgrow.block k (by simp; omega) hne).trans (((Below.refl W.heap.size W).alloc (Nat.le_refl _) _).block k hk)
  rw [List.length_append, hrdC_app]
  exact hown'
set_option maxHeartbeats 2000000 in
set_option maxRecDepth 100000 in
theorem hear_p {T : Thy} {kb top : Nat} {W : World} {s : St} {tr : List (Clm × List Clm)} {hl : List Hrd} {v : Value} (h : Hea T kb top W s tr hl v) (hkb : kb < top) (htop : top ≤ W.heap.size) (hfew : hl.length + 1 ≤ 1000000) (a b : Bool) (q : Int) (ad : Option Addr) (n c : Nat) (l : List Clm) (hC : CRow W top (.slice ad n c) l) (s' : St) (hT : Told T s' (((a, b, q), l) :: tr)) :
    Calls Tryz.prog 19 #[.agg #[.bool a, .bool b, .int .i64 q], .slice ad n c, .pointer (some ⟨kb, 0, none⟩)] W fun e w' => e = .returned (.tuple #[]) ∧ KH T kb top w' s' ∧ Fr top [kb] W w' := by
  obtain ⟨va, vc, hv⟩ := h.row.any
  obtain ⟨W1, hW1⟩ : ∃ W1 : World, W1 = W.alloc (.cells #[.bool a, .bool b, .int .i64 q] 65) := ⟨_, rfl⟩
  have hb1 : Below W.heap.size W W1 := by rw [hW1]; exact (Below.refl _ _).alloc (Nat.le_refl _) _
  have h1 : Hea T kb top W1 s tr hl v := h.on (hb1.block _ (by omega)) fun k _ hk => hb1.block k hk
  have hC1 : CRow W1 top (.slice ad n c) l := hC.below hb1
  have x0 : W1.cell? ⟨kb, 0, none⟩ = some v := by simp [World.cell?, h1.blk]
  have hk1 : W1.heap[W.heap.size]? = some (.cells #[.bool a, .bool b, .int .i64 q] 65) := by rw [hW1]; exact blk_new _ _
  have y0 : W1.cell? ⟨W.heap.size, 0, none⟩ = some (.bool a) := by simp [World.cell?, hk1]
  have y1 : W1.cell? ⟨W.heap.size, 1, none⟩ = some (.bool b) := by simp [World.cell?, hk1]
  have y2 : W1.cell? ⟨W.heap.size, 2, none⟩ = some (.int .i64 q) := by simp [World.cell?, hk1]
  have hz1 : W.heap.size ≤ W1.heap.size := hb1.size
  have HW1 := hidLL hW1
  have HH := hidLL (And.intro h1 (And.intro hC1 (And.intro hb1 hT)))
  clear h hC hW1 hb1 h1 hC1 hT hk1
  subst hv
  go_enter Tryz.func19, Tryz.ntmps19
  go_upto_region 1 with fail
  rw [← HW1.out]
  go_wp2_with (at_builtin; refine wpList_push_hrd (W := W1) rfl _ _ rfl top (.slice va hl.length vc) hl a b q ad n c rfl HH.out.1.row rfl (by omega) hfew ?_; intro v' w' hrow hbel hoth; obtain ⟨va', vc', hv'⟩ := hrow.any; rw [List.length_append] at hv'; have HVE := hidLL hv'; have HR := hidLL (And.intro hrow (And.intro hbel hoth)); have hf : w'.frozen? ⟨kb, 0, none⟩ = false := (by have h9 := (hbel.block kb hkb).trans HH.out.1.blk; simp [World.frozen?, h9]); have hc9 : w'.cell? ⟨kb, 0, none⟩ = some (.slice va hl.length vc) := (by have h9 := (hbel.block kb hkb).trans HH.out.1.blk; simp [World.cell?, h9]); have hl9 : kb < w'.heap.size := cell_lt hc9; clear hrow hbel hoth)
  go_end0
  have hset : ∀ (u : Value) (g : Nat), top ≤ g → (w'.setCell ⟨kb, 0, none⟩ u).heap[g]? = w'.heap[g]? := fun u g hg => Below.heap_setCell _ _ _ _ (fun e => by have e : g = kb := e; omega)
  have hrow2 : HRow w' top (.slice va' (hl.length + 1) vc') (hl ++ [((a, b, q), ad, n, c)]) := by
    have h9 := HR.out.1
    rw [HVE.out] at h9
    exact h9
  refine ⟨rfl, ⟨((a, b, q), l) :: tr, hl ++ [((a, b, q), ad, n, c)], .slice va' (hl.length + 1) vc', ⟨HH.out.2.2.2, one_setCell ((HR.out.2.1.block kb hkb).trans HH.out.1.blk), ?_, ?_, ?_⟩⟩, ?_⟩
  · exact hrow2.on fun g _ hg _ => hset _ g hg
  · simp [HH.out.1.len]
  · have key : ∀ (u0 u : Value) (m : List Clm), CRow W1 top u m → CRow (w'.setCell ⟨kb, 0, none⟩ u0) top u m := fun u0 u m hu => (hu.on fun g e _ hg => HR.out.2.2 g hg (fun e2 => apart HH.out.1.row hu e2.symm e)).on fun g _ hg _ => hset _ g hg
    intro j x y hx hy
    rw [List.reverse_cons] at hy
    have hlen := HH.out.1.len
    rcases Nat.lt_or_ge j hl.length with hj | hj
    · rw [List.getElem?_append_left hj] at hx
      rw [List.getElem?_append_left (by rw [List.length_reverse]; omega)] at hy
      have h9 := HH.out.1.each j x y hx hy
      exact ⟨h9.1, key _ _ _ h9.2⟩
    · have hj2 : j = hl.length := by
        have := (List.getElem?_eq_some_iff.1 hx).1
        simp at this
        omega
      subst hj2
      rw [List.getElem?_append_right (Nat.le_refl _), Nat.sub_self] at hx
      rw [List.getElem?_append_right (by rw [List.length_reverse]; omega), List.length_reverse, ← hlen, Nat.sub_self] at hy
      injection hx with hx
      injection hy with hy
      subst hx hy
      exact ⟨rfl, key _ _ _ HH.out.2.1⟩
  · exact ((Below.fr HH.out.2.2.1 htop).trans (Below.fr HR.out.2.1 (Nat.le_refl _))).setCell (p := ⟨kb, 0, none⟩) (by simp) _
/-- Explain's teller hears what it is told. -/
theorem kh_tel {T : Thy} (hT : Okt T) {kb z : Nat} (h1 : kb < z) : ∀ bL bR cm top, z ≤ bL → z ≤ bR → z ≤ cm → z ≤ top → bL < top → bR < top → cm < top → Tel (shOf T) (Fine T) (KH T kb top) kb top [kb] [bL, bR, cm] := by
  intro bL bR cm top l1 l2 l3 l4 m1 m2 m3
  refine ⟨fun W W' s hK hs hb => ?_, fun W s a b q ad n c hF hq ht hK hC htop => ?_⟩
  · obtain ⟨tr, hl, v, hK⟩ := hK
    exact ⟨tr, hl, v, hK.on (hb kb (blk_lt hK.blk) (by simp; omega)) fun k hk hk2 => hb k hk2 (by simp; omega)⟩
  · obtain ⟨tr, hl, v, hK⟩ := hK
    exact hear_p hK (by omega) htop (told_few hT hK) a b q ad n c _ hC _ (hK.told.tell hT hF.1 (hq.lit hT) ht)
end Go.Proofs.YtmbclnaenjcocaaGreatDoor
namespace Go.Proofs.YtmbclnaenjcocaaGreatDoor
open Go.RowKit

/-- The cells of steps, and what lies behind them. -/
def c3 (c : Nat → Clm) (n : Nat) (R : Nat → Value) (x : Nat) : Value := if x < n * 3 then (if x % 3 = 0 then .bool (c (x / 3)).1 else if x % 3 = 1 then .bool (c (x / 3)).2.1 else .int .i64 (c (x / 3)).2.2) else R x
theorem c3_at (c : Nat → Clm) {n : Nat} (R : Nat → Value) {j : Nat} (hj : j < n) : c3 c n R (j * 3) = .bool (c j).1 ∧ c3 c n R (j * 3 + 1) = .bool (c j).2.1 ∧ c3 c n R (j * 3 + 2) = .int .i64 (c j).2.2 := by
  unfold c3
  refine ⟨?_, ?_, ?_⟩
  · rw [if_pos (by omega), if_pos (by omega), show j * 3 / 3 = j by omega]
  · rw [if_pos (by omega), if_neg (by omega), if_pos (by omega), show (j * 3 + 1) / 3 = j by omega]
  · rw [if_pos (by omega), if_neg (by omega), if_neg (by omega), show (j * 3 + 2) / 3 = j by omega]
def updC (c : Nat → Clm) (i : Nat) (x : Clm) : Nat → Clm := fun j => if j = i then x else c j
theorem row_set3 {w : World} {g t M n : Nat} {c : Nat → Clm} {R : Nat → Value} (h : w.rowIs g t M (c3 c n R)) {i : Nat} (hi : i < n) (x : Clm) : (((w.setCell ⟨g, i * 3, none⟩ (.bool x.1)).setCell ⟨g, i * 3 + 1, none⟩ (.bool x.2.1)).setCell ⟨g, i * 3 + 2, none⟩ (.int .i64 x.2.2)).rowIs g t M (c3 (updC c i x) n R) := by
  refine (((h.set (i * 3) _).set (i * 3 + 1) _).set (i * 3 + 2) _).congr fun y _ => ?_
  by_cases e2 : y = i * 3 + 2
  · rw [if_pos e2, e2, (c3_at _ R hi).2.2]; unfold updC; rw [if_pos rfl]
  · rw [if_neg e2]
    by_cases e1 : y = i * 3 + 1
    · rw [if_pos e1, e1, (c3_at _ R hi).2.1]; unfold updC; rw [if_pos rfl]
    · rw [if_neg e1]
      by_cases e0 : y = i * 3
      · rw [if_pos e0, e0, (c3_at _ R hi).1]; unfold updC; rw [if_pos rfl]
      · rw [if_neg e0]
        unfold c3 updC
        by_cases hy : y < n * 3
        · have e : y / 3 ≠ i := by omega
          simp only [if_neg e]
        · rw [if_neg hy, if_neg hy]
theorem c3_congr {c c' : Nat → Clm} {n : Nat} {R : Nat → Value} (h : ∀ j, j < n → c j = c' j) : ∀ x, c3 c n R x = c3 c' n R x := fun x => by
  unfold c3
  by_cases hx : x < n * 3
  · rw [if_pos hx, if_pos hx, h (x / 3) (by omega)]
  · rw [if_neg hx, if_neg hx]
theorem row_drew {W : World} {g t M : Nat} {f : Nat → Value} (h : W.rowIs g t M f) : W.drew.rowIs g t M f := h.of_block rfl
theorem chg_drew {X : List Nat} {w W : World} (h : Chg X w W) : Chg X w W.drew := h.drew
theorem reverse_nil (w : World) : Calls Tryz.prog 31 #[.slice none 0 0] w fun e w' => e = .returned (.tuple #[]) ∧ w' = w := by
  go_enter Tryz.func31, Tryz.ntmps31
  go_wp2_with fail
  go_loopw [2, 3] (fun t2 t3 wr => t2 = .int .i64 0 ∧ t3 = .int .i64 (-1) ∧ wr = w) (fun _ _ _ => 0)
  case atStart => exact ⟨rfl, rfl, rfl⟩
  case round =>
    obtain ⟨rfl, rfl, ew⟩ := hrel
    subst ew
    go_wp2
    go_end0
    exact ⟨rfl, rfl⟩
/-- What stands after some swaps. -/
def revC (c : Nat → Clm) (n i : Nat) : Nat → Clm := fun j => if j < i ∨ n ≤ j + i then c (n - 1 - j) else c j
set_option maxHeartbeats 4000000 in
set_option maxRecDepth 100000 in
theorem reverse_p {w : World} {g M n cap : Nat} {c : Nat → Clm} {R : Nat → Value} (h : w.rowIs g 37 M (c3 c n R)) (hM : n * 3 ≤ M) (hn : n ≤ 1000000) : Calls Tryz.prog 31 #[.slice (some ⟨g, 0, none⟩) n cap] w fun e w' => e = .returned (.tuple #[]) ∧ w'.rowIs g 37 M (c3 (fun j => c (n - 1 - j)) n R) ∧ Chg [g] w w' := by
  have H0 := hidLL h
  clear h
  go_enter Tryz.func31, Tryz.ntmps31
  go_wp2_with fail
  go_loopw [2, 3] (fun t2 t3 wr => ∃ i : Nat, i ≤ n ∧ t2 = .int .i64 i ∧ t3 = .int .i64 ((n : Int) - 1 - i) ∧ wr.rowIs g 37 M (c3 (revC c n i) n R) ∧ Chg [g] w wr) (fun t2 _ _ => n - (RowKit.intOf t2).toNat)
  case atStart =>
    refine ⟨0, by omega, rfl, by first | (go_num; done) | (congr 1; omega), H0.out.congr fun x _ => ?_, Chg.refl _ _⟩
    exact c3_congr (fun j hj => by unfold revC; rw [if_neg (by omega)]) x
  case round =>
    obtain ⟨i, hi, rfl, rfl, hrow, hch⟩ := hrel
    obtain ⟨w3, hw3⟩ : ∃ w3 : World, w3 = wr := ⟨_, rfl⟩
    subst hw3
    by_cases hlt : (i : Int) < (n : Int) - 1 - i
    · obtain ⟨j, hj⟩ : ∃ j : Nat, j = n - 1 - i := ⟨_, rfl⟩
      have hjz : (n : Int) - 1 - i = (j : Int) := by omega
      rw [hjz] at hlt ⊢
      have hin : (i : Int) < (n : Int) := by omega
      have hjn : (j : Int) < (n : Int) := by omega
      have hin' : i < n := by omega
      have hjn' : j < n := by omega
      have hij : i ≠ j := by omega
      obtain ⟨a0, a1, a2⟩ := c3_at (revC c n i) R hin'
      obtain ⟨b0, b1, b2⟩ := c3_at (revC c n i) R hjn'
      have x0 := hrow.cell (i := i * 3) (by omega)
      have x1 := hrow.cell (i := i * 3 + 1) (by omega)
      have x2 := hrow.cell (i := i * 3 + 2) (by omega)
      have y0 := hrow.cell (i := j * 3) (by omega)
      have y1 := hrow.cell (i := j * 3 + 1) (by omega)
      have y2 := hrow.cell (i := j * 3 + 2) (by omega)
      rw [a0] at x0
      rw [a1] at x1
      rw [a2] at x2
      rw [b0] at y0
      rw [b1] at y1
      rw [b2] at y2
      have fz : ∀ x, w3.frozen? ⟨g, x, none⟩ = false := fun x => hrow.frozen x
      have hg := hrow.lt
      have HN : Hid ((((((((w3.setCell ⟨g, i * 3, none⟩ (.bool (revC c n i j).1)).setCell ⟨g, i * 3 + 1, none⟩ (.bool (revC c n i j).2.1)).setCell ⟨g, i * 3 + 2, none⟩ (.int .i64 (revC c n i j).2.2)).setCell ⟨g, j * 3, none⟩ (.bool (revC c n i i).1)).setCell ⟨g, j * 3 + 1, none⟩ (.bool (revC c n i i).2.1)).setCell ⟨g, j * 3 + 2, none⟩ (.int .i64 (revC c n i i).2.2)).rowIs g 37 M (c3 (revC c n (i + 1)) n R))) := by
        refine ((row_set3 (row_set3 hrow hin' (revC c n i j)) hjn' (revC c n i i)).congr fun x _ => c3_congr (fun k hk => ?_) x)
        unfold updC
        by_cases e1 : k = j
        · rw [if_pos e1]; unfold revC; rw [if_neg (by omega), if_pos (by omega)]; congr 1; omega
        · rw [if_neg e1]
          by_cases e2 : k = i
          · rw [if_pos e2]; unfold revC; rw [if_neg (by omega), if_pos (by omega)]; congr 1; omega
          · rw [if_neg e2]
            unfold revC
            by_cases e3 : k < i ∨ n ≤ k + i
            · rw [if_pos e3, if_pos (by omega)]
            · rw [if_neg e3, if_neg (by omega)]
      have HC6 : Hid (Chg [g] w ((((((w3.setCell ⟨g, i * 3, none⟩ (.bool (revC c n i j).1)).setCell ⟨g, i * 3 + 1, none⟩ (.bool (revC c n i j).2.1)).setCell ⟨g, i * 3 + 2, none⟩ (.int .i64 (revC c n i j).2.2)).setCell ⟨g, j * 3, none⟩ (.bool (revC c n i i).1)).setCell ⟨g, j * 3 + 1, none⟩ (.bool (revC c n i i).2.1)).setCell ⟨g, j * 3 + 2, none⟩ (.int .i64 (revC c n i i).2.2))) :=
        (((((hch.setCell (p := ⟨g, i * 3, none⟩) (by simp) _).setCell (p := ⟨g, i * 3 + 1, none⟩) (by simp) _).setCell (p := ⟨g, i * 3 + 2, none⟩) (by simp) _).setCell (p := ⟨g, j * 3, none⟩) (by simp) _).setCell (p := ⟨g, j * 3 + 1, none⟩) (by simp) _).setCell (p := ⟨g, j * 3 + 2, none⟩) (by simp) _
      have HJ := hidLL hj
      clear hrow hch a0 a1 a2 b0 b1 b2 hj hjz
      generalize (revC c n i j).1 = u0 at *
      generalize (revC c n i j).2.1 = u1 at *
      generalize (revC c n i j).2.2 = u2 at *
      generalize (revC c n i i).1 = v0 at *
      generalize (revC c n i i).2.1 = v1 at *
      generalize (revC c n i i).2.2 = v2 at *
      have fi0 := fz (i * 3)
      have fi1 := fz (i * 3 + 1)
      have fi2 := fz (i * 3 + 2)
      have fj0 := fz (j * 3)
      have fj1 := fz (j * 3 + 1)
      have fj2 := fz (j * 3 + 2)
      clear fz
      go_wp2_with fail
      go_region
      all_goals
        go_wp2
        go_roundw
        case rel =>
          refine ⟨i + 1, by omega, by go_num, ?_, ?_, ?_⟩
          · have := HJ.out
            first | (go_num; done) | (congr 1; omega)
          · exact row_drew HN.out
          · exact chg_drew HC6.out
        case measure => simp [RowKit.intOf]; omega
    · have HR : Hid (w3.rowIs g 37 M (c3 (fun j => c (n - 1 - j)) n R)) := hrow.congr fun x _ => c3_congr (fun j hj => by
        unfold revC
        by_cases e : j < i ∨ n ≤ j + i
        · rw [if_pos e]
        · rw [if_neg e]; congr 1; omega) x
      have HC := hidLL hch
      clear hrow hch
      go_wp2
      go_end0
      exact ⟨rfl, HR.out, HC.out⟩
end Go.Proofs.YtmbclnaenjcocaaGreatDoor
namespace Go.Proofs.YtmbclnaenjcocaaGreatDoor
open Go.RowKit Go.Maps

def clmV (c : Clm) : Value := .agg #[.bool c.1, .bool c.2.1, .int .i64 c.2.2]
theorem Tryz.laidOutW : laidOutB Tryz.prog = true := by kernel_rfl
theorem Tryz.rowClm : (65 : TypeId) < Tryz.prog.types.size := of_decide_eq_true (by kernel_rfl)
theorem Tryz.ktClm : Tryz.prog.keyTypeAt 2 65 = true := by kernel_rfl
set_option maxRecDepth 100000 in
theorem lawClm : Keyed Tryz.prog 65 := Keyed.of_law (deep_law_laid Tryz.laidOutW (m := 2) (by omega) Tryz.rowClm Tryz.ktClm (by rw [Tryz.underlying65]))
def ClmWf (c : Clm) : Prop := (Lit.int .i64 c.2.2).wf = true
set_option maxRecDepth 100000 in
theorem keyClm (c : Clm) (h : ClmWf c) : ∃ kl, keyOf Tryz.prog 65 (clmV c) = some kl := by
  have h1 : Tryz.prog.keyType 65 = true := by kernel_rfl
  have h2 : Tryz.prog.cellsOf 65 = 3 := by kernel_rfl
  have h3 : Tryz.prog.cellsOf 4 = 1 := by kernel_rfl
  have h4 : Tryz.prog.cellsOf 3 = 1 := by kernel_rfl
  obtain ⟨n, hn⟩ : ∃ n, Tryz.prog.types.size = n + 1 := ⟨Tryz.prog.types.size - 1, by have h0 : 0 < Tryz.prog.types.size := Nat.lt_of_le_of_lt (Nat.zero_le _) Tryz.rowClm; omega⟩
  have hw : (Lit.int .i64 c.2.2).wf = true := h
  unfold keyOf clmV
  simp only [Tryz.underlying65]
  rw [if_pos (by simp [h1, Value.formed, Tryz.underlying65, h2]), hn]
  simp [Program.keyLits, Tryz.underlying65, Tryz.underlying4, Tryz.underlying3, h2, h3, h4, hw, Value.cells]
theorem clmV_inj {c c' : Clm} (h : clmV c = clmV c') : c = c' := by
  obtain ⟨a, b, q⟩ := c
  obtain ⟨a', b', q'⟩ := c'
  unfold clmV at h
  simp at h
  rw [h.1, h.2.1, h.2.2]
/-- The map holds 1 under each claim that is needed, and nothing else. -/
structure NMap {H : Type} (D : DataW H) (N : Clm → Bool) : Prop where
  is : IsMap D
  at' : ∀ c kl, ClmWf c → keyOf Tryz.prog 65 (clmV c) = some kl → D.atKey kl (.lit (.int .i64 0)) = .lit (.int .i64 (if N c then 1 else 0))
theorem NMap.start {H : Type} : NMap (.map [] : DataW H) (fun _ => false) := ⟨isMap_empty, fun _ _ _ _ => rfl⟩
set_option maxRecDepth 100000 in
theorem NMap.put {H : Type} {D : DataW H} {N : Clm → Bool} (h : NMap D N) {c : Clm} {kl : Lit} (hk : keyOf Tryz.prog 65 (clmV c) = some kl) : NMap (D.put kl (.lit (.int .i64 1))) (fun x => N x || x == c) := by
  refine ⟨h.is.put _ _, fun x xl hx hxl => ?_⟩
  by_cases e : x = c
  · subst e
    rw [hk] at hxl
    injection hxl with hxl
    subst hxl
    rw [atKey_put_same h.is (lawClm.key hk)]
    simp
  · have hne : xl ≠ kl := fun e2 => by
      rw [e2] at hxl
      exact e (clmV_inj (lawClm.inj hxl hk))
    rw [atKey_put_other hne, h.at' x xl hx hxl]
    have e3 : (x == c) = false := by simpa using e
    rw [e3, Bool.or_false]
theorem NMap.congr {H : Type} {D : DataW H} {N N' : Clm → Bool} (h : NMap D N) (e : ∀ c, N' c = N c) : NMap D N' := ⟨h.is, fun c kl hc hk => by rw [e]; exact h.at' c kl hc hk⟩
end Go.Proofs.YtmbclnaenjcocaaGreatDoor

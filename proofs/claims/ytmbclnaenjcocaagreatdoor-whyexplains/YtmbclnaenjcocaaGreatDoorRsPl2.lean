/-
  Theories, plain: the program's counts against the marks of P81. No walk.
-/
import Derived.Test.YtmbclnaenjcocaaGreatDoorRsP6
namespace Go.Proofs.YtmbclnaenjcocaaGreatDoor

def rlAt (T : Thy) (i : Nat) : Rl := T.rules.getD i ⟨0, 0, []⟩
def shOf (T : Thy) : Sh where
  N := T.names.toNat
  R := T.rules.length
  kd i := (rlAt T i).kind
  bd i := (rlAt T i).body
  ru p := (List.range T.rules.length).filter (fun i => pl (rlAt T i).head == p)
  wi p := (List.range T.rules.length).flatMap (fun i => ((rlAt T i).body.filter (fun b => pl b == p)).map (fun _ => i))
  ab i := (T.over.filter (fun x => x.2 == (i : Int) && (rlAt T x.1.toNat).head == -(rlAt T i).head)).map (fun x => x.1.toNat)
def st0 (T : Thy) : St := ⟨fun _ => 0, fun _ => 0, fun i => (rlAt T i).body.length, fun i => (rlAt T i).body.length, fun _ => 0, fun _ => 0⟩
/-- A theory that is right, but for the order. -/
structure Okt (T : Thy) : Prop where
  n0 : 0 ≤ T.names
  n1 : T.names ≤ 120
  r : T.rules.length ≤ 120
  o : T.over.length ≤ 1200
  body : ∀ i r, T.rl i r → r.body.length ≤ 120
  lit : ∀ i r, T.rl i r → IsLit T r.head ∧ ∀ b, b ∈ r.body → IsLit T b
  over : ∀ a b, (a, b) ∈ T.over → 0 ≤ a ∧ a < T.rules.length ∧ 0 ≤ b ∧ b < T.rules.length
theorem rlAt_of {T : Thy} {i : Nat} {r : Rl} (h : T.rl i r) : rlAt T i = r := by
  unfold rlAt; rw [List.getD_eq_getElem?_getD, h]; rfl
theorem rl_of {T : Thy} {i : Nat} (h : i < T.rules.length) : T.rl i (rlAt T i) := by
  unfold Thy.rl rlAt; rw [List.getD_eq_getElem?_getD, List.getElem?_eq_getElem h]; rfl
theorem rl_lt {T : Thy} {i : Nat} {r : Rl} (h : T.rl i r) : i < T.rules.length := (List.getElem?_eq_some_iff.1 h).1
theorem rlAt_out {T : Thy} {i : Nat} (h : T.rules.length ≤ i) : rlAt T i = ⟨0, 0, []⟩ := by
  unfold rlAt; rw [List.getD_eq_getElem?_getD, List.getElem?_eq_none h]; rfl
theorem pl_inj {a b : Int} (ha : a ≠ 0) (hb : b ≠ 0) (h : pl a = pl b) : a = b := by
  unfold pl at h
  split at h <;> split at h <;> omega
theorem pl_opp {q : Int} (h : q ≠ 0) : opp (pl q) = pl (-q) := by
  unfold opp pl
  split <;> split <;> split <;> omega
theorem IsLit.pl {T : Thy} {q : Int} (h : IsLit T q) : pl q < 2 * T.names.toNat := by
  obtain ⟨h0, h1, h2⟩ := h
  unfold Proofs.YtmbclnaenjcocaaGreatDoor.pl
  split <;> omega
theorem IsLit.neg {T : Thy} {q : Int} (h : IsLit T q) : IsLit T (-q) := ⟨by have := h.1; omega, by have := h.2.2; omega, by have := h.2.1; omega⟩
theorem IsLit.ok {T : Thy} (hT : Okt T) {q : Int} (h : IsLit T q) : LitOk (shOf T) q := by
  have h1 := hT.n0
  have h2 := hT.n1
  obtain ⟨h0, h3, h4⟩ := h
  exact ⟨h0, by omega, by omega, IsLit.pl ⟨h0, h3, h4⟩⟩
theorem LitOk.lit {T : Thy} (hT : Okt T) {q : Int} (h : LitOk (shOf T) q) : IsLit T q := by
  have h1 := hT.n0
  obtain ⟨h0, _, _, h4⟩ := h
  have h5 : pl q < 2 * T.names.toNat := h4
  unfold pl at h5
  refine ⟨h0, ?_, ?_⟩ <;> (split at h5 <;> omega)
/-- What has been shown, as marks. -/
def mk (T : Thy) (s : St) : Marks := fun k q => IsLit T q ∧ match k with
  | 0 => s.su (pl q) = 1
  | 1 => s.su (pl q) = 2
  | 2 => s.ho (pl q) = 1
  | 3 => s.ho (pl q) = 2
  | _ => False
structure Inv (T : Thy) (s : St) : Prop where
  t1 : ∀ p, s.su p = 0 ∨ s.su p = 1 ∨ s.su p = 2
  t2 : ∀ p, s.ho p = 0 ∨ s.ho p = 1 ∨ s.ho p = 2
  us : ∀ i, s.us i = (rlAt T i).body.countP (fun b => !(s.su (pl b) == 1))
  uh : ∀ i, s.uh i = (rlAt T i).body.countP (fun b => !(s.ho (pl b) == 1))
  ns : ∀ i, (!(s.ns i == 0)) = (rlAt T i).body.any (fun b => s.su (pl b) == 2)
  fa : ∀ i, (!(s.fa i == 0)) = (rlAt T i).body.any (fun b => s.ho (pl b) == 2)
  nm : ∀ i, s.ns i ≠ 0 → s.ns i ∈ (rlAt T i).body ∧ s.su (pl (s.ns i)) = 2
  fm : ∀ i, s.fa i ≠ 0 → s.fa i ∈ (rlAt T i).body ∧ s.ho (pl (s.fa i)) = 2
theorem Inv.start (T : Thy) : Inv T (st0 T) := by
  refine ⟨fun _ => .inl rfl, fun _ => .inl rfl, fun i => ?_, fun i => ?_, fun i => ?_, fun i => ?_, fun i h => absurd rfl h, fun i h => absurd rfl h⟩
  · show ((rlAt T i).body.length : Int) = _
    simp [st0]
  · show ((rlAt T i).body.length : Int) = _
    simp [st0]
  · simp [st0]
  · simp [st0]
theorem Inv.bd {T : Thy} (hT : Okt T) {s : St} (h : Inv T s) : Bd 200000 s := by
  intro i
  have hl : (rlAt T i).body.length ≤ 120 := by
    rcases Nat.lt_or_ge i T.rules.length with h1 | h1
    · exact hT.body i _ (rl_of h1)
    · rw [rlAt_out h1]; simp
  have h1 := List.countP_le_length (l := (rlAt T i).body) (p := fun b => !(s.su (pl b) == 1))
  have h2 := List.countP_le_length (l := (rlAt T i).body) (p := fun b => !(s.ho (pl b) == 1))
  rw [h.us i, h.uh i]
  omega
/-! What taking a claim does. -/
theorem folT_us (q : Int) : ∀ (l : List Nat) (s : St) (i : Nat), (folT l s true true q).us i = s.us i - l.count i
  | [], s, i => by simp [folT]
  | x :: l, s, i => by
    have h := folT_us q l (stTake s x true true q) i
    have e : folT (x :: l) s true true q = folT l (stTake s x true true q) true true q := rfl
    rw [e, h, List.count_cons]
    have e2 : (stTake s x true true q).us i = if i = x then s.us x - 1 else s.us i := rfl
    rw [e2]
    by_cases hx : i = x
    · subst hx; simp; omega
    · rw [if_neg hx, if_neg (by simp; exact fun e => hx e.symm)]; simp
theorem folT_uh (q : Int) : ∀ (l : List Nat) (s : St) (i : Nat), (folT l s false true q).uh i = s.uh i - l.count i
  | [], s, i => by simp [folT]
  | x :: l, s, i => by
    have h := folT_uh q l (stTake s x false true q) i
    have e : folT (x :: l) s false true q = folT l (stTake s x false true q) false true q := rfl
    rw [e, h, List.count_cons]
    have e2 : (stTake s x false true q).uh i = if i = x then s.uh x - 1 else s.uh i := rfl
    rw [e2]
    by_cases hx : i = x
    · subst hx; simp; omega
    · rw [if_neg hx, if_neg (by simp; exact fun e => hx e.symm)]; simp
theorem folT_ns {q : Int} (hq : q ≠ 0) : ∀ (l : List Nat) (s : St) (i : Nat), (folT l s true false q).ns i = if s.ns i = 0 ∧ i ∈ l then q else s.ns i
  | [], s, i => by simp [folT]
  | x :: l, s, i => by
    have h := folT_ns hq l (stTake s x true false q) i
    have e : folT (x :: l) s true false q = folT l (stTake s x true false q) true false q := rfl
    have e2 : (stTake s x true false q).ns i = if i = x ∧ s.ns x = 0 then q else s.ns i := by
      unfold stTake
      by_cases h0 : s.ns x = 0
      · simp [h0, upd]
      · simp [h0]
    rw [e, h, e2]
    by_cases hx : i = x
    · subst hx
      by_cases h0 : s.ns i = 0
      · simp [h0, hq]
      · simp [h0]
    · simp [hx]
theorem folT_fa {q : Int} (hq : q ≠ 0) : ∀ (l : List Nat) (s : St) (i : Nat), (folT l s false false q).fa i = if s.fa i = 0 ∧ i ∈ l then q else s.fa i
  | [], s, i => by simp [folT]
  | x :: l, s, i => by
    have h := folT_fa hq l (stTake s x false false q) i
    have e : folT (x :: l) s false false q = folT l (stTake s x false false q) false false q := rfl
    have e2 : (stTake s x false false q).fa i = if i = x ∧ s.fa x = 0 then q else s.fa i := by
      unfold stTake
      by_cases h0 : s.fa x = 0
      · simp [h0, upd]
      · simp [h0]
    rw [e, h, e2]
    by_cases hx : i = x
    · subst hx
      by_cases h0 : s.fa i = 0
      · simp [h0, hq]
      · simp [h0]
    · simp [hx]
theorem stTake_keep (a b : Bool) (q : Int) (s : St) (x : Nat) : (¬ (a = true ∧ b = true) → (stTake s x a b q).us = s.us) ∧ (¬ (a = false ∧ b = true) → (stTake s x a b q).uh = s.uh) ∧ (¬ (a = true ∧ b = false) → (stTake s x a b q).ns = s.ns) ∧ (¬ (a = false ∧ b = false) → (stTake s x a b q).fa = s.fa) := by
  unfold stTake
  cases a <;> cases b <;> simp only [Bool.false_eq_true, if_true, if_false] <;> (try split) <;> simp
/-- What a claim of one kind leaves. -/
theorem folT_keep (a b : Bool) (q : Int) : ∀ (l : List Nat) (s : St), (¬ (a = true ∧ b = true) → (folT l s a b q).us = s.us) ∧ (¬ (a = false ∧ b = true) → (folT l s a b q).uh = s.uh) ∧ (¬ (a = true ∧ b = false) → (folT l s a b q).ns = s.ns) ∧ (¬ (a = false ∧ b = false) → (folT l s a b q).fa = s.fa)
  | [], s => ⟨fun _ => rfl, fun _ => rfl, fun _ => rfl, fun _ => rfl⟩
  | x :: l, s => by
    obtain ⟨h1, h2, h3, h4⟩ := folT_keep a b q l (stTake s x a b q)
    obtain ⟨k1, k2, k3, k4⟩ := stTake_keep a b q s x
    have e : folT (x :: l) s a b q = folT l (stTake s x a b q) a b q := rfl
    rw [e]
    exact ⟨fun h => (h1 h).trans (k1 h), fun h => (h2 h).trans (k2 h), fun h => (h3 h).trans (k3 h), fun h => (h4 h).trans (k4 h)⟩
theorem count_const (i j : Nat) (l : List Int) : (l.map (fun _ => j)).count i = if j = i then l.length else 0 := by
  induction l with
  | nil => simp
  | cons x l ih =>
    rw [List.map_cons, List.count_cons, ih]
    by_cases h : j = i <;> simp [h]
theorem count_flat (f : Nat → List Int) (i : Nat) : ∀ n, ((List.range n).flatMap (fun j => (f j).map (fun _ => j))).count i = if i < n then (f i).length else 0
  | 0 => by simp
  | n + 1 => by
    rw [List.range_succ, List.flatMap_append, List.count_append, count_flat f i n]
    simp only [List.flatMap_cons, List.flatMap_nil, List.append_nil]
    rw [count_const]
    by_cases h : i < n
    · rw [if_pos h, if_neg (by omega), if_pos (by omega)]; rfl
    · by_cases h2 : n = i
      · subst h2; simp
      · rw [if_neg h, if_neg h2, if_neg (by omega)]
theorem wi_count (T : Thy) (p i : Nat) : ((shOf T).wi p).count i = (rlAt T i).body.countP (fun b => pl b == p) := by
  show ((List.range T.rules.length).flatMap (fun j => ((rlAt T j).body.filter (fun b => pl b == p)).map (fun _ => j))).count i = _
  rw [count_flat (fun j => (rlAt T j).body.filter (fun b => pl b == p)) i]
  split
  · exact List.countP_eq_length_filter.symm
  · rename_i h
    rw [rlAt_out (by omega)]
    simp
theorem countP_upd (f : Nat → Int) (p : Nat) (v : Int) (hv : v = 1) (h0 : f p = 0) : ∀ (l : List Int), l.countP (fun b => !(f (pl b) == 1)) = l.countP (fun b => !(upd f p v (pl b) == 1)) + l.countP (fun b => pl b == p)
  | [] => by simp
  | x :: l => by
    have ih := countP_upd f p v hv h0 l
    simp only [List.countP_cons]
    by_cases hx : pl x = p
    · have e1 : (!(f (pl x) == 1)) = true := by rw [hx, h0]; rfl
      have e2 : (!(upd f p v (pl x) == 1)) = false := by unfold upd; rw [if_pos hx, hv]; rfl
      have e3 : (pl x == p) = true := by simp [hx]
      simp only [e1, e2, e3]
      simp
      omega
    · have e2 : upd f p v (pl x) = f (pl x) := by unfold upd; rw [if_neg hx]
      have e3 : (pl x == p) = false := by simp [hx]
      simp only [e2, e3]
      simp
      omega
theorem countP_upd2 (f : Nat → Int) (p : Nat) (v : Int) (hv : v = 2) (h0 : f p = 0) (l : List Int) : l.countP (fun b => !(f (pl b) == 1)) = l.countP (fun b => !(upd f p v (pl b) == 1)) := by
  congr 1
  funext b
  unfold upd
  split
  · rename_i h; rw [h, h0, hv]; rfl
  · rfl
theorem any_upd (f : Nat → Int) (p : Nat) (v : Int) (hv : v = 2) (h0 : f p = 0) : ∀ (l : List Int), (l.any (fun b => f (pl b) == 2) || decide (0 < l.countP (fun b => pl b == p))) = l.any (fun b => upd f p v (pl b) == 2)
  | [] => by simp
  | x :: l => by
    have ih := any_upd f p v hv h0 l
    rw [List.any_cons, List.any_cons, ← ih, List.countP_cons]
    by_cases hx : pl x = p
    · have e2 : (upd f p v (pl x) == 2) = true := by unfold upd; rw [if_pos hx, hv]; rfl
      rw [e2]; simp [hx]
    · have e2 : (upd f p v (pl x) == 2) = (f (pl x) == 2) := by unfold upd; rw [if_neg hx]
      rw [e2]; simp [hx, Bool.or_assoc]
theorem any_upd1 (f : Nat → Int) (p : Nat) (v : Int) (hv : v = 1) (h0 : f p = 0) (l : List Int) : l.any (fun b => f (pl b) == 2) = l.any (fun b => upd f p v (pl b) == 2) := by
  congr 1
  funext b
  unfold upd
  split
  · rename_i h; rw [h, h0, hv]; rfl
  · rfl
theorem contains_count (l : List Nat) (i : Nat) : l.contains i = decide (0 < l.count i) := by
  rw [Bool.eq_iff_iff]; simp [List.count_pos_iff]
theorem tri_upd {f : Nat → Int} (h : ∀ p, f p = 0 ∨ f p = 1 ∨ f p = 2) (p : Nat) (b : Bool) : ∀ x, upd f p (ansOf b) x = 0 ∨ upd f p (ansOf b) x = 1 ∨ upd f p (ansOf b) x = 2 := fun x => by
  unfold upd
  split
  · cases b <;> simp [ansOf]
  · exact h x
theorem mem_wi {T : Thy} (hT : Okt T) {q : Int} (hq : q ≠ 0) {i : Nat} : i ∈ (shOf T).wi (pl q) ↔ q ∈ (rlAt T i).body := by
  have h1 := wi_count T (pl q) i
  rw [← List.count_pos_iff, h1, List.countP_pos_iff]
  constructor
  · rintro ⟨b, hb, e⟩
    have hi : i < T.rules.length := by
      rcases Nat.lt_or_ge i T.rules.length with c | c
      · exact c
      · rw [rlAt_out c] at hb; cases hb
    have : b = q := pl_inj ((hT.lit i _ (rl_of hi)).2 b hb).1 hq (by simpa using e)
    rw [← this]; exact hb
  · exact fun h => ⟨q, h, by simp⟩
theorem wi_pos {T : Thy} (hT : Okt T) {q : Int} (hq : q ≠ 0) {i : Nat} : decide (0 < (rlAt T i).body.countP (fun b => pl b == pl q)) = decide (q ∈ (rlAt T i).body) := by
  rw [← wi_count T (pl q) i]
  rw [decide_eq_decide, List.count_pos_iff, mem_wi hT hq]
theorem one_upd {f : Nat → Int} {p : Nat} {v : Int} {x : Nat} (h0 : f p = 0) (hx : f x ≠ 0) : upd f p v x = f x := by
  unfold upd
  split
  · rename_i e; rw [e] at hx; exact absurd h0 hx
  · rfl
/-- The first that is so is kept. -/
theorem first_is {T : Thy} (hT : Okt T) {q : Int} (hq : q ≠ 0) {f g : Nat → Int} {i : Nat} (h1 : (!(g i == 0)) = (rlAt T i).body.any (fun b => f (pl b) == 2)) (h2 : g i ≠ 0 → g i ∈ (rlAt T i).body ∧ f (pl (g i)) = 2) (h0 : f (pl q) = 0) {n : Int} (hn : n = if g i = 0 ∧ i ∈ (shOf T).wi (pl q) then q else g i) :
    (!(n == 0)) = (rlAt T i).body.any (fun b => upd f (pl q) 2 (pl b) == 2) ∧ (n ≠ 0 → n ∈ (rlAt T i).body ∧ upd f (pl q) 2 (pl n) = 2) := by
  simp only [mem_wi hT hq] at hn
  by_cases hg : g i = 0
  · by_cases hm : q ∈ (rlAt T i).body
    · rw [if_pos ⟨hg, hm⟩] at hn
      subst hn
      have hu : upd f (pl n) 2 (pl n) = 2 := by unfold upd; rw [if_pos rfl]
      refine ⟨?_, fun _ => ⟨hm, hu⟩⟩
      have : (rlAt T i).body.any (fun b => upd f (pl n) 2 (pl b) == 2) = true := List.any_eq_true.2 ⟨n, hm, by rw [hu]; rfl⟩
      rw [this]
      simp [hq]
    · rw [if_neg (fun h => hm h.2)] at hn
      subst hn
      refine ⟨?_, fun h => absurd hg h⟩
      rw [h1, ← any_upd f (pl q) 2 rfl h0, wi_pos hT hq]
      simp [hm]
  · rw [if_neg (fun h => hg h.1)] at hn
    subst hn
    have h3 := h2 hg
    have hu : upd f (pl q) 2 (pl (g i)) = 2 := by
      rw [one_upd h0 (by rw [h3.2]; decide)]
      exact h3.2
    refine ⟨?_, fun _ => ⟨h3.1, hu⟩⟩
    have : (rlAt T i).body.any (fun b => upd f (pl q) 2 (pl b) == 2) = true := List.any_eq_true.2 ⟨_, h3.1, by rw [hu]; rfl⟩
    rw [this]
    simp [hg]
theorem Inv.take {T : Thy} (hT : Okt T) {s : St} (h : Inv T s) {q : Int} (hq : q ≠ 0) (a b : Bool) (h0 : (if a then s.su (pl q) else s.ho (pl q)) = 0) : Inv T (litTake (shOf T) s (pl q) a b) := by
  obtain ⟨e1, e2⟩ := litTake_su (shOf T) s (pl q) a b
  have d : litTake (shOf T) s (pl q) a b = folT ((shOf T).wi (pl q)) (litS s (pl q) a b) a b q := by unfold litTake; rw [litOf_pl hq]
  obtain ⟨k1, k2, k3, k4⟩ := folT_keep a b q ((shOf T).wi (pl q)) (litS s (pl q) a b)
  cases a
  · have h0 : s.ho (pl q) = 0 := h0
    have e1 : (litTake (shOf T) s (pl q) false b).su = s.su := e1
    have e2 : (litTake (shOf T) s (pl q) false b).ho = upd s.ho (pl q) (ansOf b) := e2
    refine ⟨by rw [e1]; exact h.t1, by rw [e2]; exact tri_upd h.t2 (pl q) b, ?_, ?_, ?_, ?_, ?_, ?_⟩
    · intro i
      rw [e1, d, k1 (by simp)]
      exact h.us i
    · intro i
      rw [e2, d]
      cases b
      · rw [k2 (by simp), ← countP_upd2 s.ho (pl q) (ansOf false) rfl h0]
        exact h.uh i
      · rw [folT_uh, wi_count]
        have := countP_upd s.ho (pl q) (ansOf true) rfl h0 (rlAt T i).body
        have h2 : (litS s (pl q) false true).uh i = _ := h.uh i
        rw [h2]
        omega
    · intro i
      rw [e1, d, k3 (by simp)]
      exact h.ns i
    · intro i
      rw [e2, d]
      cases b
      · exact (first_is hT hq (h.fa i) (h.fm i) h0 (folT_fa hq _ (litS s (pl q) false false) i)).1
      · rw [k4 (by simp), ← any_upd1 s.ho (pl q) (ansOf true) rfl h0]
        exact h.fa i
    · intro i
      rw [e1, d, k3 (by simp)]
      exact h.nm i
    · intro i
      rw [e2, d]
      cases b
      · exact (first_is hT hq (h.fa i) (h.fm i) h0 (folT_fa hq _ (litS s (pl q) false false) i)).2
      · rw [k4 (by simp)]
        intro hn
        have hn : s.fa i ≠ 0 := hn
        have h3 := h.fm i hn
        exact ⟨h3.1, (one_upd h0 (by show s.ho (pl (s.fa i)) ≠ 0; rw [h3.2]; decide)).trans h3.2⟩
  · have h0 : s.su (pl q) = 0 := h0
    have e1 : (litTake (shOf T) s (pl q) true b).su = upd s.su (pl q) (ansOf b) := e1
    have e2 : (litTake (shOf T) s (pl q) true b).ho = s.ho := e2
    refine ⟨by rw [e1]; exact tri_upd h.t1 (pl q) b, by rw [e2]; exact h.t2, ?_, ?_, ?_, ?_, ?_, ?_⟩
    · intro i
      rw [e1, d]
      cases b
      · rw [k1 (by simp), ← countP_upd2 s.su (pl q) (ansOf false) rfl h0]
        exact h.us i
      · rw [folT_us, wi_count]
        have := countP_upd s.su (pl q) (ansOf true) rfl h0 (rlAt T i).body
        have h2 : (litS s (pl q) true true).us i = _ := h.us i
        rw [h2]
        omega
    · intro i
      rw [e2, d, k2 (by simp)]
      exact h.uh i
    · intro i
      rw [e1, d]
      cases b
      · exact (first_is hT hq (h.ns i) (h.nm i) h0 (folT_ns hq _ (litS s (pl q) true false) i)).1
      · rw [k3 (by simp), ← any_upd1 s.su (pl q) (ansOf true) rfl h0]
        exact h.ns i
    · intro i
      rw [e2, d, k4 (by simp)]
      exact h.fa i
    · intro i
      rw [e1, d]
      cases b
      · exact (first_is hT hq (h.ns i) (h.nm i) h0 (folT_ns hq _ (litS s (pl q) true false) i)).2
      · rw [k3 (by simp)]
        intro hn
        have hn : s.ns i ≠ 0 := hn
        have h3 := h.nm i hn
        exact ⟨h3.1, (one_upd h0 (by show s.su (pl (s.ns i)) ≠ 0; rw [h3.2]; decide)).trans h3.2⟩
    · intro i
      rw [e2, d, k4 (by simp)]
      exact h.fm i
end Go.Proofs.YtmbclnaenjcocaaGreatDoor

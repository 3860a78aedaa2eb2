/-
  Theories, plain: the program's counts against the marks of P81. No walk.
-/
import Derived.Test.YtklognfecjffeaaDoorRsP6
namespace Go.Proofs.YtklognfecjffeaaDoor

def rlAt (T : Thy) (i : Nat) : Rl := T.rules.getD i ⟨0, 0, []⟩
def shOf (T : Thy) : Sh where
  N := T.names.toNat
  R := T.rules.length
  kd i := (rlAt T i).kind
  ru p := (List.range T.rules.length).filter (fun i => pl (rlAt T i).head == p)
  wi p := (List.range T.rules.length).flatMap (fun i => ((rlAt T i).body.filter (fun b => pl b == p)).map (fun _ => i))
  ab i := (T.over.filter (fun x => x.2 == (i : Int) && (rlAt T x.1.toNat).head == -(rlAt T i).head)).map (fun x => x.1.toNat)
def st0 (T : Thy) : St := ⟨fun _ => 0, fun _ => 0, fun i => (rlAt T i).body.length, fun i => (rlAt T i).body.length, fun _ => false, fun _ => false⟩
/-- A theory that is right, but for the order. -/
structure Okt (T : Thy) : Prop where
  n0 : 0 ≤ T.names
  n1 : T.names ≤ 120
  r : T.rules.length ≤ 120
  o : T.over.length ≤ 1200
  body : ∀ i r, T.rl i r → r.body.length ≤ 120
  lit : ∀ i r, T.rl i r → IsLit T r.head ∧ ∀ b, b ∈ r.body → IsLit T b
  over : ∀ a b, (a, b) ∈ T.over → 0 ≤ a ∧ a < T.rules.length ∧ 0 ≤ b ∧ b < T.rules.length
theorem rlAt_of {T : Thy} {i : Nat} {r : Rl} (h : T.rl i r) : rlAt T i = r := by
  unfold rlAt; rw [List.getD_eq_getElem?_getD, h]; rfl
theorem rl_of {T : Thy} {i : Nat} (h : i < T.rules.length) : T.rl i (rlAt T i) := by
  unfold Thy.rl rlAt; rw [List.getD_eq_getElem?_getD, List.getElem?_eq_getElem h]; rfl
theorem rl_lt {T : Thy} {i : Nat} {r : Rl} (h : T.rl i r) : i < T.rules.length := (List.getElem?_eq_some_iff.1 h).1
theorem rlAt_out {T : Thy} {i : Nat} (h : T.rules.length ≤ i) : rlAt T i = ⟨0, 0, []⟩ := by
  unfold rlAt; rw [List.getD_eq_getElem?_getD, List.getElem?_eq_none h]; rfl
theorem pl_inj {a b : Int} (ha : a ≠ 0) (hb : b ≠ 0) (h : pl a = pl b) : a = b := by
  unfold pl at h
  split at h <;> split at h <;> omega
theorem pl_opp {q : Int} (h : q ≠ 0) : opp (pl q) = pl (-q) := by
  unfold opp pl
  split <;> split <;> split <;> omega
theorem IsLit.pl {T : Thy} {q : Int} (h : IsLit T q) : pl q < 2 * T.names.toNat := by
  obtain ⟨h0, h1, h2⟩ := h
  unfold Proofs.YtklognfecjffeaaDoor.pl
  split <;> omega
theorem IsLit.neg {T : Thy} {q : Int} (h : IsLit T q) : IsLit T (-q) := ⟨by have := h.1; omega, by have := h.2.2; omega, by have := h.2.1; omega⟩
theorem IsLit.ok {T : Thy} (hT : Okt T) {q : Int} (h : IsLit T q) : LitOk (shOf T) q := by
  have h1 := hT.n0
  have h2 := hT.n1
  obtain ⟨h0, h3, h4⟩ := h
  exact ⟨h0, by omega, by omega, IsLit.pl ⟨h0, h3, h4⟩⟩
theorem LitOk.lit {T : Thy} (hT : Okt T) {q : Int} (h : LitOk (shOf T) q) : IsLit T q := by
  have h1 := hT.n0
  obtain ⟨h0, _, _, h4⟩ := h
  have h5 : pl q < 2 * T.names.toNat := h4
  unfold pl at h5
  refine ⟨h0, ?_, ?_⟩ <;> (split at h5 <;> omega)
/-- What has been shown, as marks. -/
def mk (T : Thy) (s : St) : Marks := fun k q => IsLit T q ∧ match k with
  | 0 => s.su (pl q) = 1
  | 1 => s.su (pl q) = 2
  | 2 => s.ho (pl q) = 1
  | 3 => s.ho (pl q) = 2
  | _ => False
structure Inv (T : Thy) (s : St) : Prop where
  t1 : ∀ p, s.su p = 0 ∨ s.su p = 1 ∨ s.su p = 2
  t2 : ∀ p, s.ho p = 0 ∨ s.ho p = 1 ∨ s.ho p = 2
  us : ∀ i, s.us i = (rlAt T i).body.countP (fun b => !(s.su (pl b) == 1))
  uh : ∀ i, s.uh i = (rlAt T i).body.countP (fun b => !(s.ho (pl b) == 1))
  ns : ∀ i, s.ns i = (rlAt T i).body.any (fun b => s.su (pl b) == 2)
  fa : ∀ i, s.fa i = (rlAt T i).body.any (fun b => s.ho (pl b) == 2)
theorem Inv.start (T : Thy) : Inv T (st0 T) := by
  refine ⟨fun _ => .inl rfl, fun _ => .inl rfl, fun i => ?_, fun i => ?_, fun i => ?_, fun i => ?_⟩
  · show ((rlAt T i).body.length : Int) = _
    simp [st0]
  · show ((rlAt T i).body.length : Int) = _
    simp [st0]
  · simp [st0]
  · simp [st0]
theorem Inv.bd {T : Thy} (hT : Okt T) {s : St} (h : Inv T s) : Bd 200000 s := by
  intro i
  have hl : (rlAt T i).body.length ≤ 120 := by
    rcases Nat.lt_or_ge i T.rules.length with h1 | h1
    · exact hT.body i _ (rl_of h1)
    · rw [rlAt_out h1]; simp
  have h1 := List.countP_le_length (l := (rlAt T i).body) (p := fun b => !(s.su (pl b) == 1))
  have h2 := List.countP_le_length (l := (rlAt T i).body) (p := fun b => !(s.ho (pl b) == 1))
  rw [h.us i, h.uh i]
  omega
/-! What taking a claim does. -/
theorem folT_us : ∀ (l : List Nat) (s : St) (i : Nat), (folT l s true true).us i = s.us i - l.count i
  | [], s, i => by simp [folT]
  | x :: l, s, i => by
    have h := folT_us l (stTake s x true true) i
    have e : folT (x :: l) s true true = folT l (stTake s x true true) true true := rfl
    rw [e, h, List.count_cons]
    have e2 : (stTake s x true true).us i = if i = x then s.us x - 1 else s.us i := rfl
    rw [e2]
    by_cases hx : i = x
    · subst hx; simp; omega
    · rw [if_neg hx, if_neg (by simp; exact fun e => hx e.symm)]; simp
theorem folT_uh : ∀ (l : List Nat) (s : St) (i : Nat), (folT l s false true).uh i = s.uh i - l.count i
  | [], s, i => by simp [folT]
  | x :: l, s, i => by
    have h := folT_uh l (stTake s x false true) i
    have e : folT (x :: l) s false true = folT l (stTake s x false true) false true := rfl
    rw [e, h, List.count_cons]
    have e2 : (stTake s x false true).uh i = if i = x then s.uh x - 1 else s.uh i := rfl
    rw [e2]
    by_cases hx : i = x
    · subst hx; simp; omega
    · rw [if_neg hx, if_neg (by simp; exact fun e => hx e.symm)]; simp
theorem folT_ns : ∀ (l : List Nat) (s : St) (i : Nat), (folT l s true false).ns i = (s.ns i || l.contains i)
  | [], s, i => by simp [folT]
  | x :: l, s, i => by
    have h := folT_ns l (stTake s x true false) i
    have e : folT (x :: l) s true false = folT l (stTake s x true false) true false := rfl
    rw [e, h]
    have e2 : (stTake s x true false).ns i = if i = x then true else s.ns i := rfl
    rw [e2]
    by_cases hx : i = x
    · subst hx; simp
    · rw [if_neg hx, List.contains_cons, beq_false_of_ne hx, Bool.false_or]
theorem folT_fa : ∀ (l : List Nat) (s : St) (i : Nat), (folT l s false false).fa i = (s.fa i || l.contains i)
  | [], s, i => by simp [folT]
  | x :: l, s, i => by
    have h := folT_fa l (stTake s x false false) i
    have e : folT (x :: l) s false false = folT l (stTake s x false false) false false := rfl
    rw [e, h]
    have e2 : (stTake s x false false).fa i = if i = x then true else s.fa i := rfl
    rw [e2]
    by_cases hx : i = x
    · subst hx; simp
    · rw [if_neg hx, List.contains_cons, beq_false_of_ne hx, Bool.false_or]
/-- What a claim of one kind leaves. -/
theorem folT_keep (a b : Bool) : ∀ (l : List Nat) (s : St), (¬ (a = true ∧ b = true) → (folT l s a b).us = s.us) ∧ (¬ (a = false ∧ b = true) → (folT l s a b).uh = s.uh) ∧ (¬ (a = true ∧ b = false) → (folT l s a b).ns = s.ns) ∧ (¬ (a = false ∧ b = false) → (folT l s a b).fa = s.fa)
  | [], s => ⟨fun _ => rfl, fun _ => rfl, fun _ => rfl, fun _ => rfl⟩
  | x :: l, s => by
    obtain ⟨h1, h2, h3, h4⟩ := folT_keep a b l (stTake s x a b)
    have e : folT (x :: l) s a b = folT l (stTake s x a b) a b := rfl
    rw [e]
    cases a <;> cases b
    · exact ⟨fun _ => h1 (by simp), fun _ => h2 (by simp), fun _ => h3 (by simp), fun h => absurd ⟨rfl, rfl⟩ h⟩
    · exact ⟨fun _ => h1 (by simp), fun h => absurd ⟨rfl, rfl⟩ h, fun _ => h3 (by simp), fun _ => h4 (by simp)⟩
    · exact ⟨fun _ => h1 (by simp), fun _ => h2 (by simp), fun h => absurd ⟨rfl, rfl⟩ h, fun _ => h4 (by simp)⟩
    · exact ⟨fun h => absurd ⟨rfl, rfl⟩ h, fun _ => h2 (by simp), fun _ => h3 (by simp), fun _ => h4 (by simp)⟩
theorem count_const (i j : Nat) (l : List Int) : (l.map (fun _ => j)).count i = if j = i then l.length else 0 := by
  induction l with
  | nil => simp
  | cons x l ih =>
    rw [List.map_cons, List.count_cons, ih]
    by_cases h : j = i <;> simp [h]
theorem count_flat (f : Nat → List Int) (i : Nat) : ∀ n, ((List.range n).flatMap (fun j => (f j).map (fun _ => j))).count i = if i < n then (f i).length else 0
  | 0 => by simp
  | n + 1 => by
    rw [List.range_succ, List.flatMap_append, List.count_append, count_flat f i n]
    simp only [List.flatMap_cons, List.flatMap_nil, List.append_nil]
    rw [count_const]
    by_cases h : i < n
    · rw [if_pos h, if_neg (by omega), if_pos (by omega)]; rfl
    · by_cases h2 : n = i
      · subst h2; simp
      · rw [if_neg h, if_neg h2, if_neg (by omega)]
theorem wi_count (T : Thy) (p i : Nat) : ((shOf T).wi p).count i = (rlAt T i).body.countP (fun b => pl b == p) := by
  show ((List.range T.rules.length).flatMap (fun j => ((rlAt T j).body.filter (fun b => pl b == p)).map (fun _ => j))).count i = _
  rw [count_flat (fun j => (rlAt T j).body.filter (fun b => pl b == p)) i]
  split
  · exact List.countP_eq_length_filter.symm
  · rename_i h
    rw [rlAt_out (by omega)]
    simp
theorem countP_upd (f : Nat → Int) (p : Nat) (v : Int) (hv : v = 1) (h0 : f p = 0) : ∀ (l : List Int), l.countP (fun b => !(f (pl b) == 1)) = l.countP (fun b => !(upd f p v (pl b) == 1)) + l.countP (fun b => pl b == p)
  | [] => by simp
  | x :: l => by
    have ih := countP_upd f p v hv h0 l
    simp only [List.countP_cons]
    by_cases hx : pl x = p
    · have e1 : (!(f (pl x) == 1)) = true := by rw [hx, h0]; rfl
      have e2 : (!(upd f p v (pl x) == 1)) = false := by unfold upd; rw [if_pos hx, hv]; rfl
      have e3 : (pl x == p) = true := by simp [hx]
      simp only [e1, e2, e3]
      simp
      omega
    · have e2 : upd f p v (pl x) = f (pl x) := by unfold upd; rw [if_neg hx]
      have e3 : (pl x == p) = false := by simp [hx]
      simp only [e2, e3]
      simp
      omega
theorem countP_upd2 (f : Nat → Int) (p : Nat) (v : Int) (hv : v = 2) (h0 : f p = 0) (l : List Int) : l.countP (fun b => !(f (pl b) == 1)) = l.countP (fun b => !(upd f p v (pl b) == 1)) := by
  congr 1
  funext b
  unfold upd
  split
  · rename_i h; rw [h, h0, hv]; rfl
  · rfl
theorem any_upd (f : Nat → Int) (p : Nat) (v : Int) (hv : v = 2) (h0 : f p = 0) : ∀ (l : List Int), (l.any (fun b => f (pl b) == 2) || decide (0 < l.countP (fun b => pl b == p))) = l.any (fun b => upd f p v (pl b) == 2)
  | [] => by simp
  | x :: l => by
    have ih := any_upd f p v hv h0 l
    rw [List.any_cons, List.any_cons, ← ih, List.countP_cons]
    by_cases hx : pl x = p
    · have e2 : (upd f p v (pl x) == 2) = true := by unfold upd; rw [if_pos hx, hv]; rfl
      rw [e2]; simp [hx]
    · have e2 : (upd f p v (pl x) == 2) = (f (pl x) == 2) := by unfold upd; rw [if_neg hx]
      rw [e2]; simp [hx, Bool.or_assoc]
theorem any_upd1 (f : Nat → Int) (p : Nat) (v : Int) (hv : v = 1) (h0 : f p = 0) (l : List Int) : l.any (fun b => f (pl b) == 2) = l.any (fun b => upd f p v (pl b) == 2) := by
  congr 1
  funext b
  unfold upd
  split
  · rename_i h; rw [h, h0, hv]; rfl
  · rfl
theorem contains_count (l : List Nat) (i : Nat) : l.contains i = decide (0 < l.count i) := by
  rw [Bool.eq_iff_iff]; simp [List.count_pos_iff]
theorem tri_upd {f : Nat → Int} (h : ∀ p, f p = 0 ∨ f p = 1 ∨ f p = 2) (p : Nat) (b : Bool) : ∀ x, upd f p (ansOf b) x = 0 ∨ upd f p (ansOf b) x = 1 ∨ upd f p (ansOf b) x = 2 := fun x => by
  unfold upd
  split
  · cases b <;> simp [ansOf]
  · exact h x
theorem Inv.take {T : Thy} {s : St} (h : Inv T s) (p : Nat) (a b : Bool) (h0 : (if a then s.su p else s.ho p) = 0) : Inv T (litTake (shOf T) s p a b) := by
  obtain ⟨e1, e2⟩ := litTake_su (shOf T) s p a b
  obtain ⟨k1, k2, k3, k4⟩ := folT_keep a b ((shOf T).wi p) (litS s p a b)
  have d : litTake (shOf T) s p a b = folT ((shOf T).wi p) (litS s p a b) a b := rfl
  cases a
  · have h0 : s.ho p = 0 := h0
    have e1 : (litTake (shOf T) s p false b).su = s.su := e1
    have e2 : (litTake (shOf T) s p false b).ho = upd s.ho p (ansOf b) := e2
    refine ⟨by rw [e1]; exact h.t1, by rw [e2]; exact tri_upd h.t2 p b, ?_, ?_, ?_, ?_⟩
    · intro i
      rw [e1, d, k1 (by simp)]
      exact h.us i
    · intro i
      rw [e2, d]
      cases b
      · rw [k2 (by simp), ← countP_upd2 s.ho p (ansOf false) rfl h0]
        exact h.uh i
      · rw [folT_uh, wi_count]
        have := countP_upd s.ho p (ansOf true) rfl h0 (rlAt T i).body
        have h2 : (litS s p false true).uh i = _ := h.uh i
        rw [h2]
        omega
    · intro i
      rw [e1, d, k3 (by simp)]
      exact h.ns i
    · intro i
      rw [e2, d]
      cases b
      · rw [folT_fa, contains_count, wi_count]
        have h2 : (litS s p false false).fa i = _ := h.fa i
        rw [h2]
        exact any_upd s.ho p (ansOf false) rfl h0 _
      · rw [k4 (by simp), ← any_upd1 s.ho p (ansOf true) rfl h0]
        exact h.fa i
  · have h0 : s.su p = 0 := h0
    have e1 : (litTake (shOf T) s p true b).su = upd s.su p (ansOf b) := e1
    have e2 : (litTake (shOf T) s p true b).ho = s.ho := e2
    refine ⟨by rw [e1]; exact tri_upd h.t1 p b, by rw [e2]; exact h.t2, ?_, ?_, ?_, ?_⟩
    · intro i
      rw [e1, d]
      cases b
      · rw [k1 (by simp), ← countP_upd2 s.su p (ansOf false) rfl h0]
        exact h.us i
      · rw [folT_us, wi_count]
        have := countP_upd s.su p (ansOf true) rfl h0 (rlAt T i).body
        have h2 : (litS s p true true).us i = _ := h.us i
        rw [h2]
        omega
    · intro i
      rw [e2, d, k2 (by simp)]
      exact h.uh i
    · intro i
      rw [e1, d]
      cases b
      · rw [folT_ns, contains_count, wi_count]
        have h2 : (litS s p true false).ns i = _ := h.ns i
        rw [h2]
        exact any_upd s.su p (ansOf false) rfl h0 _
      · rw [k3 (by simp), ← any_upd1 s.su p (ansOf true) rfl h0]
        exact h.ns i
    · intro i
      rw [e2, d, k4 (by simp)]
      exact h.fa i
end Go.Proofs.YtklognfecjffeaaDoor

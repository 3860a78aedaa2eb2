/-
  Facts: what is kept, what counts, who stands so, which days turn something. Plain: no program.
-/
import Derived.Test.YtagdenpmonedlaaDoorSentRead
namespace Go.Proofs.YtagdenpmonedlaaDoor

structure Fct where
  who : Int
  nm : ByteArray
  oth : Int
  val : Int
  frm : Int
  til : Int
  lrn : Int

def isWordB (s : ByteArray) : Bool := decide (0 < s.size) && decide (s.size ≤ 24) && (match s.data.toList with | [] => false | c :: r => lowC c && r.all wordC)
def perB (n : Int) : Bool := decide (0 ≤ n) && decide (n < 40)
def valB (n : Int) : Bool := decide (-1000000000000 ≤ n) && decide (n ≤ 1000000000000)
def dyB (n : Int) : Bool := decide (1 ≤ n) && decide (n ≤ 3652059)
def badKind (x : Fct) : Bool := !perB x.who || (!decide (x.oth = -1) && !perB x.oth) || decide (x.oth = x.who)
def badDay (x : Fct) : Bool := !dyB x.frm || !dyB x.lrn || (!decide (x.til = 0) && (!dyB x.til || decide (x.til ≤ x.frm)))
/-- What Add tells: an error's number. -/
def addC (n : Nat) (x : Fct) : Nat :=
  if 500 ≤ n then 2 else if isWordB x.nm = false then 7 else if badKind x then 9 else if valB x.val = false then 3 else if badDay x then 4 else 0
/-- What is kept. -/
def keep (L : List Fct) (x : Fct) : List Fct := if addC L.length x = 0 then L ++ [x] else L
def filesL (l : List Fct) : List Fct := l.foldl keep []
theorem addC_bound {n : Nat} {x : Fct} (h : addC n x = 0) : n < 500 := by
  unfold addC at h
  split at h
  · cases h
  · omega
/-- A fact that may be kept. -/
def Good (x : Fct) : Prop := addC 0 x = 0
theorem addC_good {n : Nat} {x : Fct} (h : addC n x = 0) : Good x := by
  have hb := addC_bound h
  unfold Good
  unfold addC at h ⊢
  rw [if_neg (by omega)] at h
  rw [if_neg (by omega)]
  exact h
theorem addC_of_good {n : Nat} {x : Fct} (h : Good x) (hn : n < 500) : addC n x = 0 := by
  unfold Good at h
  unfold addC at h ⊢
  rw [if_neg (by omega)] at h
  rw [if_neg (by omega)]
  exact h
theorem Good.all {x : Fct} (h : Good x) : isWordB x.nm = true ∧ badKind x = false ∧ valB x.val = true ∧ badDay x = false := by
  unfold Good addC at h
  rw [if_neg (by omega)] at h
  cases h1 : isWordB x.nm
  · rw [if_pos h1] at h; cases h
  · rw [if_neg (by rw [h1]; simp)] at h
    cases h2 : badKind x
    · rw [if_neg (by rw [h2]; simp)] at h
      cases h3 : valB x.val
      · rw [if_pos h3] at h; cases h
      · rw [if_neg (by rw [h3]; simp)] at h
        cases h4 : badDay x
        · exact ⟨rfl, rfl, rfl, rfl⟩
        · rw [if_pos h4] at h; cases h
    · rw [if_pos h2] at h; cases h
theorem Good.oth {x : Fct} (h : Good x) : (x.oth = -1 ∨ (0 ≤ x.oth ∧ x.oth < 40)) ∧ 0 ≤ x.who ∧ x.who < 40 := by
  obtain ⟨_, h2, _, _⟩ := h.all
  unfold badKind perB at h2
  simp at h2
  obtain ⟨⟨⟨a, b⟩, c⟩, d⟩ := h2
  refine ⟨?_, a, b⟩
  by_cases e : x.oth = -1
  · exact .inl e
  · obtain ⟨c1, c2⟩ := c e
    exact .inr ⟨c1, c2⟩
theorem Good.days {x : Fct} (h : Good x) : 1 ≤ x.frm ∧ 1 ≤ x.lrn ∧ (x.til = 0 ∨ x.frm < x.til) := by
  obtain ⟨_, _, _, h4⟩ := h.all
  unfold badDay dyB at h4
  simp at h4
  obtain ⟨⟨⟨a, _⟩, ⟨b, _⟩⟩, c⟩ := h4
  refine ⟨a, b, ?_⟩
  by_cases e : x.til = 0
  · exact .inl e
  · exact .inr (c e).2
theorem keep_cases (L : List Fct) (x : Fct) : (addC L.length x = 0 ∧ keep L x = L ++ [x]) ∨ (addC L.length x ≠ 0 ∧ keep L x = L) := by
  unfold keep
  by_cases h : addC L.length x = 0
  · exact .inl ⟨h, by rw [if_pos h]⟩
  · exact .inr ⟨h, by rw [if_neg h]⟩
theorem keep_fold (l : List Fct) : ∀ L : List Fct, L.length ≤ 500 → (∀ x ∈ L, Good x) → (l.foldl keep L).length ≤ 500 ∧ (∀ x ∈ l.foldl keep L, Good x) := by
  induction l with
  | nil => intro L h1 h2; exact ⟨h1, h2⟩
  | cons x r ih =>
    intro L h1 h2
    rw [List.foldl_cons]
    rcases keep_cases L x with ⟨h, e⟩ | ⟨_, e⟩
    · rw [e]
      refine ih _ (by rw [List.length_append]; have := addC_bound h; simp; omega) ?_
      intro y hy
      rcases List.mem_append.1 hy with k | k
      · exact h2 y k
      · obtain rfl : y = x := by simpa using k
        exact addC_good h
    · rw [e]; exact ih L h1 h2
theorem files_ok (l : List Fct) : (filesL l).length ≤ 500 ∧ ∀ x ∈ filesL l, Good x := keep_fold l [] (by simp) (by simp)
theorem files_snoc (l : List Fct) (i : Nat) (x : Fct) (h : l[i]? = some x) : filesL (l.take (i + 1)) = keep (filesL (l.take i)) x := by
  obtain ⟨hi, e⟩ := List.getElem?_eq_some_iff.1 h
  unfold filesL
  rw [List.take_succ_eq_append_getElem hi, List.foldl_append, e]
  rfl

/-- Does a fact speak of this, on a day, as known? -/
def soB (x : Fct) (who : Int) (nm : ByteArray) (on known : Int) : Bool :=
  decide (x.who = who) && decide (x.nm = nm) && decide (x.lrn ≤ known) && decide (x.frm ≤ on) && (decide (x.til = 0) || decide (on < x.til))
def pick (b : Option Fct) (x : Fct) : Option Fct :=
  match b with
  | none => some x
  | some y => if y.lrn ≤ x.lrn then some x else some y
def stepL (who : Int) (nm : ByteArray) (oth on known : Int) (b : Option Fct) (x : Fct) : Option Fct :=
  if soB x who nm on known = true ∧ x.oth = oth then pick b x else b
def latestL (L : List Fct) (who : Int) (nm : ByteArray) (oth on known : Int) : Option Fct := L.foldl (stepL who nm oth on known) none
theorem latest_snoc (L : List Fct) (i : Nat) (x : Fct) (h : L[i]? = some x) (who : Int) (nm : ByteArray) (oth on known : Int) :
    latestL (L.take (i + 1)) who nm oth on known = stepL who nm oth on known (latestL (L.take i) who nm oth on known) x := by
  obtain ⟨hi, e⟩ := List.getElem?_eq_some_iff.1 h
  unfold latestL
  rw [List.take_succ_eq_append_getElem hi, List.foldl_append, e]
  rfl
theorem latest_mem (who : Int) (nm : ByteArray) (oth on known : Int) : ∀ (L : List Fct) (b : Option Fct) (x : Fct), L.foldl (stepL who nm oth on known) b = some x → b = some x ∨ (x ∈ L ∧ x.oth = oth ∧ soB x who nm on known = true)
  | [], b, x, h => .inl h
  | y :: r, b, x, h => by
    rw [List.foldl_cons] at h
    rcases latest_mem who nm oth on known r _ x h with k | ⟨k1, k2⟩
    · unfold stepL at k
      split at k
      · rename_i hc
        unfold pick at k
        split at k
        · injection k with k; subst k; exact .inr ⟨List.mem_cons_self .., hc.2, hc.1⟩
        · split at k
          · injection k with k; subst k; exact .inr ⟨List.mem_cons_self .., hc.2, hc.1⟩
          · exact .inl k
      · exact .inl k
    · exact .inr ⟨List.mem_cons_of_mem _ k1, k2⟩
theorem latest_in {L : List Fct} {who : Int} {nm : ByteArray} {oth on known : Int} {x : Fct} (h : latestL L who nm oth on known = some x) : x ∈ L ∧ x.oth = oth ∧ soB x who nm on known = true := by
  rcases latest_mem who nm oth on known L none x h with k | k
  · cases k
  · exact k

/-- Value's answers. -/
def valL (L : List Fct) (who : Int) (nm : ByteArray) (on known : Int) : Int × Bool := match latestL L who nm (-1) on known with | none => (0, false) | some x => (x.val, true)
/-- Does o stand so? -/
def stands (L : List Fct) (who : Int) (nm : ByteArray) (on known : Int) (o : Nat) : Bool := match latestL L who nm o on known with | none => false | some x => !decide (x.val = 0)
def othersL (L : List Fct) (who : Int) (nm : ByteArray) (on known : Int) : List Int := ((List.range 40).filter (stands L who nm on known)).map (fun o : Nat => (o : Int))

/-- Does a fact turn something? -/
def turnB (x : Fct) (who known : Int) : Bool := decide (x.lrn ≤ known) && (decide (who < 0) || decide (x.who = who))
def daysOf (x : Fct) : List Int := if x.til = 0 then [x.frm] else [x.frm, x.til]
def turnsRaw (L : List Fct) (who known : Int) : List Int := (L.filter (fun x => turnB x who known)).flatMap daysOf
/-- A day put into rising days. -/
def insL : List Int → Int → List Int
  | [], n => [n]
  | a :: r, n => if a < n then a :: insL r n else if a = n then n :: r else n :: a :: r
def turnsL (L : List Fct) (who known : Int) : List Int := (turnsRaw L who known).foldl insL []
def learntL (L : List Fct) : List Int := (L.map Fct.lrn).foldl insL []
def Rise : List Int → Prop := List.Pairwise (· < ·)
theorem ins_mem (n m : Int) : ∀ l : List Int, m ∈ insL l n ↔ m = n ∨ m ∈ l
  | [] => by simp [insL]
  | a :: r => by
    unfold insL
    split
    · rw [List.mem_cons, ins_mem n m r, List.mem_cons]; constructor <;> (intro h; rcases h with h | h | h <;> simp [h])
    · split
      · rename_i e; rw [e]; simp
      · simp
theorem ins_rise (n : Int) : ∀ l : List Int, Rise l → Rise (insL l n)
  | [], _ => by simp [insL, Rise]
  | a :: r, h => by
    unfold Rise at h ⊢
    have ht := (List.pairwise_cons.1 h)
    unfold insL
    split
    · rename_i hlt
      refine List.pairwise_cons.2 ⟨fun y hy => ?_, ins_rise n r ht.2⟩
      rcases (ins_mem n y r).1 hy with rfl | k
      · exact hlt
      · exact ht.1 y k
    · split
      · rename_i e; rw [← e]; exact h
      · refine List.pairwise_cons.2 ⟨fun y hy => ?_, h⟩
        rcases List.mem_cons.1 hy with rfl | k
        · omega
        · have := ht.1 y k; omega
theorem insF_mem (m : Int) : ∀ (l acc : List Int), m ∈ l.foldl insL acc ↔ m ∈ l ∨ m ∈ acc
  | [], acc => by simp
  | a :: r, acc => by
    rw [List.foldl_cons, insF_mem m r, ins_mem, List.mem_cons]
    constructor
    · rintro (h | h | h) <;> simp [h]
    · rintro ((h | h) | h) <;> simp [h]
theorem insF_rise : ∀ (l acc : List Int), Rise acc → Rise (l.foldl insL acc)
  | [], acc, h => h
  | a :: r, acc, h => by rw [List.foldl_cons]; exact insF_rise r _ (ins_rise a acc h)
theorem rise_eq : ∀ {l₁ l₂ : List Int}, Rise l₁ → Rise l₂ → (∀ m, m ∈ l₁ ↔ m ∈ l₂) → l₁ = l₂
  | [], [], _, _, _ => rfl
  | [], b :: s, _, _, h => by have := (h b).2 (List.mem_cons_self ..); cases this
  | a :: r, [], _, _, h => by have := (h a).1 (List.mem_cons_self ..); cases this
  | a :: r, b :: s, h1, h2, h => by
    unfold Rise at h1 h2
    have p1 := List.pairwise_cons.1 h1
    have p2 := List.pairwise_cons.1 h2
    have e : a = b := by
      rcases List.mem_cons.1 ((h a).1 (List.mem_cons_self ..)) with k | k
      · exact k
      · rcases List.mem_cons.1 ((h b).2 (List.mem_cons_self ..)) with k' | k'
        · exact k'.symm
        · have := p1.1 b k'; have := p2.1 a k; omega
    subst e
    congr 1
    refine rise_eq p1.2 p2.2 fun m => ⟨fun hm => ?_, fun hm => ?_⟩
    · rcases List.mem_cons.1 ((h m).1 (List.mem_cons_of_mem _ hm)) with k | k
      · have := p1.1 m hm; omega
      · exact k
    · rcases List.mem_cons.1 ((h m).2 (List.mem_cons_of_mem _ hm)) with k | k
      · have := p2.1 m hm; omega
      · exact k
theorem others_rise (L : List Fct) (who : Int) (nm : ByteArray) (on known : Int) : Rise (othersL L who nm on known) := by
  unfold Rise othersL
  refine List.pairwise_map.2 (List.Pairwise.imp ?_ ((List.pairwise_lt_range (n := 40)).filter _))
  intro a b h
  omega
theorem others_mem (L : List Fct) (who : Int) (nm : ByteArray) (on known : Int) (m : Int) : m ∈ othersL L who nm on known ↔ 0 ≤ m ∧ m < 40 ∧ ∃ x, latestL L who nm m on known = some x ∧ x.val ≠ 0 := by
  unfold othersL
  rw [List.mem_map]
  constructor
  · rintro ⟨o, ho, rfl⟩
    rw [List.mem_filter, List.mem_range] at ho
    refine ⟨by omega, by omega, ?_⟩
    have h2 := ho.2
    unfold stands at h2
    cases hl : latestL L who nm o on known with
    | none => rw [hl] at h2; cases h2
    | some x => rw [hl] at h2; exact ⟨x, rfl, by simpa using h2⟩
  · rintro ⟨h1, h2, x, hx, hv⟩
    refine ⟨m.toNat, ?_, by omega⟩
    rw [List.mem_filter, List.mem_range]
    refine ⟨by omega, ?_⟩
    unfold stands
    rw [show ((m.toNat : Nat) : Int) = m by omega, hx]
    simpa using hv
end Go.Proofs.YtagdenpmonedlaaDoor

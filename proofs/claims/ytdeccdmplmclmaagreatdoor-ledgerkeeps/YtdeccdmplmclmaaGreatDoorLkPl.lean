/-
  Ledgers, plain: which entries are taken, and what accounts come to.
-/
import Derived.Test.YtdeccdmplmclmaaGreatDoorLePl
import Derived.Test.YtdeccdmplmclmaaGreatDoorRefSmall
namespace Go.Proofs.YtdeccdmplmclmaaGreatDoor
open Go.RowKit

def accIn (a : ByteArray) (ls : List Ln) : Bool := ls.any fun x => decide (x.acc = a)
def hasL (a : ByteArray) (L : List En) : Bool := L.any fun e => accIn a e.lines
def lastDay (L : List En) : Int := match L.getLast? with
  | none => 0
  | some e => e.day
theorem lastDay_nil : lastDay [] = 0 := rfl
theorem lastDay_snoc (L : List En) (e : En) : lastDay (L ++ [e]) = e.day := by unfold lastDay; simp
def tooB (L : List En) (ls : List Ln) : Bool := ls.any fun x => !okC (balE x.acc L + balL x.acc ls)
/-- What is wrong with an entry: the number of the error's sentinel. -/
noncomputable def postK (L : List En) (e : En) : Option Nat :=
  if (decide (400 ≤ L.length) || decide (20 < e.lines.length)) = true then some 1
  else if (!isDayB e.day || decide (e.day < lastDay L)) = true then some 3
  else if lineB e.text = false then some 0
  else if (e.lines.any fun x => !isWordB x.acc) = true then some 6
  else if (e.lines.any fun x => !okC x.cents) = true then some 2
  else if tooB L e.lines = true then some 2
  else if sumL e.lines ≠ 0 then some 7 else none
noncomputable def postL (L : List En) (e : En) : List En := if postK L e = none then L ++ [e] else L
theorem postK_lt {L : List En} {e : En} {k : Nat} (h : postK L e = some k) : k < 11 := by
  unfold postK at h
  (repeat' split at h) <;> first | (injection h with h; omega) | cases h
structure Fine (L : List En) (e : En) : Prop where
  room : L.length < 400
  few : e.lines.length ≤ 20
  day : isDayB e.day = true
  later : lastDay L ≤ e.day
  line : lineB e.text = true
  word : ∀ x, x ∈ e.lines → isWordB x.acc = true
  cent : ∀ x, x ∈ e.lines → -1000000000000 ≤ x.cents ∧ x.cents ≤ 1000000000000
  bal : ∀ x, x ∈ e.lines → okC (balE x.acc L + balL x.acc e.lines) = true
  sum : sumL e.lines = 0
theorem postK_none {L : List En} {e : En} (h : postK L e = none) : Fine L e := by
  unfold postK at h
  split at h
  · cases h
  split at h
  · cases h
  split at h
  · cases h
  split at h
  · cases h
  split at h
  · cases h
  split at h
  · cases h
  split at h
  · cases h
  rename_i h1 h2 h3 h4 h5 h6 h7
  rw [Bool.not_eq_true, Bool.or_eq_false_iff] at h1 h2
  rw [Bool.not_eq_true] at h4 h5 h6
  refine ⟨by have := h1.1; simp at this; omega, by have := h1.2; simp at this; omega, by have := h2.1; simpa using this, by have := h2.2; simp at this; omega, by simpa using h3, fun x hx => ?_, fun x hx => ?_, fun x hx => ?_, by simpa using h7⟩
  · have := (List.any_eq_false.1 h4) x hx
    simpa using this
  · have := (List.any_eq_false.1 h5) x hx
    exact okC_iff.1 (by simpa using this)
  · have := (List.any_eq_false.1 h6) x hx
    simpa using this
theorem Fine.none {L : List En} {e : En} (h : Fine L e) : postK L e = none := by
  unfold postK
  have a1 : (decide (400 ≤ L.length) || decide (20 < e.lines.length)) = false := by
    have := h.room
    have := h.few
    simp
    omega
  have a2 : (!isDayB e.day || decide (e.day < lastDay L)) = false := by
    have := h.later
    rw [h.day]
    simp
    omega
  have a3 : (e.lines.any fun x => !isWordB x.acc) = false := List.any_eq_false.2 fun x hx => by rw [h.word x hx]; simp
  have a4 : (e.lines.any fun x => !okC x.cents) = false := List.any_eq_false.2 fun x hx => by rw [okC_iff.2 (h.cent x hx)]; simp
  have a5 : tooB L e.lines = false := List.any_eq_false.2 fun x hx => by rw [h.bal x hx]; simp
  rw [if_neg (by rw [a1]; decide), if_neg (by rw [a2]; decide), if_neg (by rw [h.line]; decide), if_neg (by rw [a3]; decide), if_neg (by rw [a4]; decide), if_neg (by rw [a5]; decide), if_neg (by rw [h.sum]; decide)]
/-- Entries as they were posted, one behind the other. -/
inductive Good : List En → Prop
  | nil : Good []
  | snoc {L : List En} {e : En} (h : Good L) (k : Fine L e) : Good (L ++ [e])
theorem balL_app' (a : ByteArray) : ∀ x y : List Ln, balL a (x ++ y) = balL a x + balL a y
  | [], y => by simp [balL]
  | c :: x, y => by rw [List.cons_append, balL, balL, balL_app' a x y]; omega
theorem balE_app' (a : ByteArray) : ∀ x y : List En, balE a (x ++ y) = balE a x + balE a y
  | [], y => by simp [balE]
  | c :: x, y => by rw [List.cons_append, balE, balE, balE_app' a x y]; omega
theorem sumL_app' : ∀ x y : List Ln, sumL (x ++ y) = sumL x + sumL y
  | [], y => by simp [sumL]
  | c :: x, y => by rw [List.cons_append, sumL, sumL, sumL_app' x y]; omega
theorem balE_one' (a : ByteArray) (x : En) : balE a [x] = balL a x.lines := by simp [balE]
theorem balL_none {a : ByteArray} : ∀ {ls : List Ln}, accIn a ls = false → balL a ls = 0
  | [], _ => rfl
  | x :: ls, h => by
    unfold accIn at h
    rw [List.any_cons, Bool.or_eq_false_iff] at h
    have h1 : ¬ x.acc = a := by simpa using h.1
    rw [balL, if_neg h1, balL_none (ls := ls) h.2]
    rfl
theorem balL_bd (a : ByteArray) : ∀ ls : List Ln, (∀ x, x ∈ ls → -1000000000000 ≤ x.cents ∧ x.cents ≤ 1000000000000) → -(1000000000000 * (ls.length : Int)) ≤ balL a ls ∧ balL a ls ≤ 1000000000000 * (ls.length : Int)
  | [], _ => by simp [balL]
  | x :: l, h => by
    have h1 := balL_bd a l (fun y hy => h y (List.mem_cons_of_mem _ hy))
    have h2 := h x (List.mem_cons_self ..)
    rw [balL, List.length_cons]
    split <;> omega
theorem Good.len {L : List En} (h : Good L) : L.length ≤ 400 := by
  cases h with
  | nil => simp
  | snoc h k => have := k.room; simp; omega
theorem Good.bal {L : List En} (h : Good L) (a : ByteArray) : -1000000000000 ≤ balE a L ∧ balE a L ≤ 1000000000000 := by
  induction h with
  | nil => simp [balE]
  | @snoc L e h k ih =>
    rw [balE_app', balE_one']
    by_cases ha : accIn a e.lines = true
    · obtain ⟨x, hx, hxa⟩ := List.any_eq_true.1 ha
      have hxa : x.acc = a := by simpa using hxa
      have := okC_iff.1 (k.bal x hx)
      rw [hxa] at this
      exact this
    · rw [balL_none (by simpa using ha)]
      omega
theorem Good.each {L : List En} (h : Good L) : ∀ e, e ∈ L → e.lines.length ≤ 20 ∧ isDayB e.day = true ∧ e.day ≤ lastDay L ∧ sumL e.lines = 0 ∧ (∀ x, x ∈ e.lines → -1000000000000 ≤ x.cents ∧ x.cents ≤ 1000000000000) ∧ ∀ x, x ∈ e.lines → isWordB x.acc = true := by
  induction h with
  | nil => intro e he; cases he
  | @snoc L x h k ih =>
    intro e he
    rcases List.mem_append.1 he with he | he
    · obtain ⟨h1, h2, h3, h4, h5, h6⟩ := ih e he
      refine ⟨h1, h2, ?_, h4, h5, h6⟩
      rw [lastDay_snoc]
      have := k.later
      omega
    · obtain rfl : e = x := by simpa using he
      exact ⟨k.few, k.day, by rw [lastDay_snoc]; omega, k.sum, k.cent, k.word⟩
theorem Good.take {L : List En} (h : Good L) : ∀ i, Good (L.take i) := by
  induction h with
  | nil => intro i; rw [List.take_nil]; exact .nil
  | @snoc L e h k ih =>
    intro i
    rcases Nat.lt_or_ge i (L.length + 1) with hi | hi
    · rw [List.take_append_of_le_length (by omega)]
      exact ih i
    · rw [List.take_of_length_le (by simp; omega)]
      exact .snoc h k
theorem Good.at {L : List En} (h : Good L) : ∀ i e, L[i]? = some e → Fine (L.take i) e := by
  induction h with
  | nil => intro i e he; simp at he
  | @snoc L x h k ih =>
    intro i e he
    rcases Nat.lt_or_ge i L.length with hi | hi
    · rw [List.getElem?_append_left hi] at he
      rw [List.take_append_of_le_length (by omega)]
      exact ih i e he
    · have hin : i = L.length := by
        have := (List.getElem?_eq_some_iff.1 he).1
        simp at this
        omega
      subst hin
      simp at he
      subst he
      rw [List.take_append_of_le_length (Nat.le_refl _), List.take_length]
      exact k
theorem Good.sorted {L : List En} (h : Good L) : L.Pairwise (fun a b => a.day ≤ b.day) := by
  induction h with
  | nil => exact .nil
  | @snoc L e h k ih =>
    refine List.pairwise_append.2 ⟨ih, List.pairwise_singleton _ _, fun a ha b hb => ?_⟩
    obtain rfl : b = e := by simpa using hb
    have := (h.each a ha).2.2.1
    have := k.later
    omega
/-- What an account comes to on a day. -/
def balOn (a : ByteArray) (on : Int) (L : List En) : Int := balE a (L.filter fun e => decide (e.day ≤ on))
def upTo (on : Int) (L : List En) : List En := L.takeWhile fun e => decide (e.day ≤ on)
theorem upTo_sorted (on : Int) : ∀ {L : List En}, L.Pairwise (fun a b => a.day ≤ b.day) → upTo on L = L.filter fun e => decide (e.day ≤ on)
  | [], _ => rfl
  | e :: L, h => by
    obtain ⟨h1, h2⟩ := List.pairwise_cons.1 h
    unfold upTo
    by_cases hd : e.day ≤ on
    · rw [List.takeWhile_cons_of_pos (by simpa using hd), List.filter_cons_of_pos (by simpa using hd)]
      congr 1
      exact upTo_sorted on h2
    · rw [List.takeWhile_cons_of_neg (by simpa using hd), List.filter_cons_of_neg (by simpa using hd)]
      symm
      refine List.filter_eq_nil_iff.2 fun x hx => ?_
      have := h1 x hx
      simp
      omega
theorem upTo_take (on : Int) (L : List En) : ∃ k, upTo on L = L.take k := ⟨(upTo on L).length, by
  have h : upTo on L <+: L := List.takeWhile_prefix _
  exact List.prefix_iff_eq_take.1 h⟩
theorem Good.on {L : List En} (h : Good L) (a : ByteArray) (on : Int) : balOn a on L = balE a (upTo on L) := by unfold balOn; rw [upTo_sorted on h.sorted]
theorem Good.onBd {L : List En} (h : Good L) (a : ByteArray) (on : Int) : -1000000000000 ≤ balOn a on L ∧ balOn a on L ≤ 1000000000000 := by
  rw [h.on]
  obtain ⟨k, hk⟩ := upTo_take on L
  rw [hk]
  exact (h.take k).bal a
theorem Good.onAll {L : List En} (h : Good L) (a : ByteArray) : balOn a 3652059 L = balE a L := by
  unfold balOn
  congr 1
  refine List.filter_eq_self.2 fun e he => ?_
  have h2 := (h.each e he).2.1
  unfold isDayB at h2
  rw [Bool.and_eq_true] at h2
  exact h2.2
/-! All accounts together. -/
def sumN (f : ByteArray → Int) : List ByteArray → Int
  | [] => 0
  | a :: l => f a + sumN f l
theorem sumN_add (f g : ByteArray → Int) : ∀ l, sumN (fun a => f a + g a) l = sumN f l + sumN g l
  | [] => rfl
  | a :: l => by rw [sumN, sumN, sumN, sumN_add f g l]; omega
theorem sumN_zero : ∀ l, sumN (fun _ => 0) l = 0
  | [] => rfl
  | a :: l => by rw [sumN, sumN_zero l]; rfl
theorem sumN_congr {f g : ByteArray → Int} : ∀ {l : List ByteArray}, (∀ a, a ∈ l → f a = g a) → sumN f l = sumN g l
  | [], _ => rfl
  | a :: l, h => by rw [sumN, sumN, h a (List.mem_cons_self ..), sumN_congr fun b hb => h b (List.mem_cons_of_mem _ hb)]
theorem sumN_one (b : ByteArray) (c : Int) : ∀ {l : List ByteArray}, l.Nodup → b ∈ l → sumN (fun a => if b = a then c else 0) l = c
  | a :: l, hn, hb => by
    obtain ⟨h1, h2⟩ := List.nodup_cons.1 hn
    rw [sumN]
    by_cases e : b = a
    · rw [if_pos e, sumN_congr (g := fun _ => 0) (fun x hx => if_neg (fun q => h1 (by rw [← e, q]; exact hx))), sumN_zero]
      omega
    · rw [if_neg e, sumN_one b c h2 (by rcases List.mem_cons.1 hb with h | h; exact absurd h e; exact h)]
      omega
theorem sumN_lines {names : List ByteArray} (hn : names.Nodup) : ∀ {ls : List Ln}, (∀ x, x ∈ ls → x.acc ∈ names) → sumN (fun a => balL a ls) names = sumL ls
  | [], _ => sumN_zero names
  | x :: ls, h => by
    show sumN (fun a => (if x.acc = a then x.cents else 0) + balL a ls) names = x.cents + sumL ls
    rw [sumN_add, sumN_one x.acc x.cents hn (h x (List.mem_cons_self ..)), sumN_lines hn fun y hy => h y (List.mem_cons_of_mem _ hy)]
theorem sumN_all {names : List ByteArray} (hn : names.Nodup) : ∀ {M : List En}, (∀ e, e ∈ M → sumL e.lines = 0 ∧ ∀ x, x ∈ e.lines → x.acc ∈ names) → sumN (fun a => balE a M) names = 0
  | [], _ => sumN_zero names
  | e :: M, h => by
    show sumN (fun a => balL a e.lines + balE a M) names = 0
    rw [sumN_add, sumN_lines hn (h e (List.mem_cons_self ..)).2, sumN_all hn fun y hy => h y (List.mem_cons_of_mem _ hy), (h e (List.mem_cons_self ..)).1]
    rfl
theorem sumN_app (f : ByteArray → Int) : ∀ x y, sumN f (x ++ y) = sumN f x + sumN f y
  | [], y => by simp [sumN]
  | a :: x, y => by rw [List.cons_append, sumN, sumN, sumN_app f x y]; omega
theorem hasL_iff {a : ByteArray} {L : List En} : hasL a L = true ↔ ∃ e, e ∈ L ∧ ∃ x, x ∈ e.lines ∧ x.acc = a := by
  unfold hasL accIn
  rw [List.any_eq_true]
  constructor
  · rintro ⟨e, he, h⟩
    obtain ⟨x, hx, hxa⟩ := List.any_eq_true.1 h
    exact ⟨e, he, x, hx, by simpa using hxa⟩
  · rintro ⟨e, he, x, hx, hxa⟩
    exact ⟨e, he, List.any_eq_true.2 ⟨x, hx, by simpa using hxa⟩⟩
theorem hasL_snoc {a : ByteArray} {L : List En} {e : En} : hasL a (L ++ [e]) = (hasL a L || accIn a e.lines) := by
  unfold hasL
  rw [List.any_append]
  simp
end Go.Proofs.YtdeccdmplmclmaaGreatDoor

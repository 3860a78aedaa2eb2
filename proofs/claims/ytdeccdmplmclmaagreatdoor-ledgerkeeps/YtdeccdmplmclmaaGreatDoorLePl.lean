/-
  Claims and what is posted when they come, plain. No program.
-/
import Derived.RowKit
namespace Go.Proofs.YtdeccdmplmclmaaGreatDoor

/-- A pay; a claim; a line; an entry. -/
structure Py where
  frm : Int
  til : Int
  cents : Int
structure Cl where
  day : Int
  due : List Py
structure Ln where
  acc : ByteArray
  cents : Int
structure En where
  day : Int
  text : ByteArray
  lines : List Ln
def isDayB (n : Int) : Bool := decide (1 ≤ n) && decide (n ≤ 3652059)
def szB (n m : Int) : Bool := decide (-m ≤ n ∧ n ≤ m)
theorem szB_iff {n m : Int} : szB n m = true ↔ -m ≤ n ∧ n ≤ m := by simp [szB]
def okC (n : Int) : Bool := szB n 1000000000000
theorem okC_iff {n : Int} : okC n = true ↔ -1000000000000 ≤ n ∧ n ≤ 1000000000000 := szB_iff
def noTime (p : Py) : Bool := !isDayB p.frm || !isDayB p.til || decide (p.til ≤ p.frm)
def great (p : Py) : Bool := !okC p.cents
def many (c : Cl) : Bool := decide (400 < c.due.length)
/-- Does each claim have a day, behind that of the one ahead? -/
def upB : Int → List Cl → Bool
  | _, [] => true
  | a, c :: l => isDayB c.day && decide (a < c.day) && upB c.day l
/-- What is wrong with claims and a rate: the number of the error's sentinel. -/
def claimsK (l : List Cl) (rate : Int) : Option Nat :=
  if (decide (400 < l.length) || l.any many) = true then some 1
  else if (!upB 0 l || l.any (fun c => c.due.any noTime)) = true then some 3
  else if (l.any (fun c => c.due.any great) || (decide (rate < 0) || decide (10000 < rate))) = true then some 2 else none
/-- What those pays come to whose time is over. -/
def rightL (d : Int) : List Py → Int
  | [] => 0
  | p :: l => (if p.til ≤ d then p.cents else 0) + rightL d l
def Cl.right (c : Cl) : Int := rightL c.day c.due
def offB (debt m rate : Int) : Int := if 0 < m then min debt (m * rate / 10000) else m
def tRights : ByteArray := ⟨#[114, 105, 103, 104, 116, 115]⟩
def tPaid : ByteArray := ⟨#[112, 97, 105, 100]⟩
def tDebts : ByteArray := ⟨#[100, 101, 98, 116, 115]⟩
def tAnew : ByteArray := ⟨#[97, 110, 101, 119]⟩
def nz (l : Ln) : Bool := !(l.cents == 0)
def linesOf (m o : Int) : List Ln := [⟨tRights, -m⟩, ⟨tPaid, m - o⟩, ⟨tDebts, o⟩].filter nz
/-- The entries; none: something is too great. -/
def setL (rate : Int) : Int → Int → List Cl → Option (List En)
  | _, _, [] => some []
  | r, d, c :: l =>
    if (okC c.right && okC (c.right - r)) = true then
      if (okC (d - offB d (c.right - r) rate) && okC (c.right + (d - offB d (c.right - r) rate))) = true then
        (setL rate c.right (d - offB d (c.right - r) rate) l).map fun es => if c.right - r = 0 then es else ⟨c.day, tAnew, linesOf (c.right - r) (offB d (c.right - r) rate)⟩ :: es
      else none
    else none
/-- What is answered. -/
def settleL (l : List Cl) (rate : Int) : Nat ⊕ List En :=
  match claimsK l rate with
  | some k => .inl k
  | none => match setL rate 0 0 l with
    | none => .inl 2
    | some es => .inr es
theorem offB_le {d m rate : Int} (hd : 0 ≤ d) : 0 ≤ d - offB d m rate := by
  unfold offB
  split <;> omega
theorem offB_bd {d m rate : Int} (hd : 0 ≤ d) (hr : 0 ≤ rate) : m ≤ 0 ∧ offB d m rate = m ∨ 0 < m ∧ 0 ≤ offB d m rate ∧ offB d m rate ≤ d := by
  unfold offB
  by_cases h : 0 < m
  · right
    rw [if_pos h]
    have : 0 ≤ m * rate / 10000 := Int.ediv_nonneg (Int.mul_nonneg (by omega) hr) (by decide)
    omega
  · left
    rw [if_neg h]
    omega
theorem offB_rate {d m rate : Int} (hd : 0 ≤ d) (hr : 0 ≤ rate) (hr2 : rate ≤ 10000) : m ≤ 0 ∧ offB d m rate = m ∨ 0 < m ∧ 0 ≤ offB d m rate ∧ offB d m rate ≤ m := by
  unfold offB
  by_cases h : 0 < m
  · right
    rw [if_pos h]
    have h1 : 0 ≤ m * rate / 10000 := Int.ediv_nonneg (Int.mul_nonneg (by omega) hr) (by decide)
    have h2 : m * rate ≤ m * 10000 := Int.mul_le_mul_of_nonneg_left hr2 (by omega)
    have h3 : m * rate / 10000 ≤ m := Int.ediv_le_of_le_mul (by decide) h2
    omega
  · left
    rw [if_neg h]
    omega
theorem rightL_bd (d : Int) : ∀ l : List Py, l.any great = false → -(1000000000000 * (l.length : Int)) ≤ rightL d l ∧ rightL d l ≤ 1000000000000 * (l.length : Int)
  | [], _ => by simp [rightL]
  | p :: l, h => by
    rw [List.any_cons, Bool.or_eq_false_iff] at h
    have h1 := rightL_bd d l h.2
    have h2 : okC p.cents = true := by have := h.1; unfold great at this; simpa using this
    have h2 := okC_iff.1 h2
    rw [rightL, List.length_cons]
    split <;> omega
/-! What comes of it. -/
def balL (a : ByteArray) : List Ln → Int
  | [] => 0
  | x :: l => (if x.acc = a then x.cents else 0) + balL a l
def balE (a : ByteArray) : List En → Int
  | [] => 0
  | x :: l => balL a x.lines + balE a l
def sumL : List Ln → Int
  | [] => 0
  | x :: l => x.cents + sumL l
theorem sumL_nz : ∀ l : List Ln, sumL (l.filter nz) = sumL l
  | [] => rfl
  | x :: l => by
    rw [List.filter_cons]
    by_cases h : nz x = true
    · rw [if_pos h, sumL, sumL, sumL_nz l]
    · rw [if_neg h, sumL, sumL_nz l]
      have : x.cents = 0 := by unfold nz at h; simpa using h
      omega
theorem balL_nz (a : ByteArray) : ∀ l : List Ln, balL a (l.filter nz) = balL a l
  | [] => rfl
  | x :: l => by
    rw [List.filter_cons]
    by_cases h : nz x = true
    · rw [if_pos h, balL, balL, balL_nz a l]
    · rw [if_neg h, balL, balL_nz a l]
      have : x.cents = 0 := by unfold nz at h; simpa using h
      split <;> omega
theorem ne1 : tPaid ≠ tRights := by decide
theorem ne2 : tDebts ≠ tRights := by decide
theorem ne3 : tRights ≠ tPaid := by decide
theorem ne4 : tDebts ≠ tPaid := by decide
theorem ne5 : tRights ≠ tDebts := by decide
theorem ne6 : tPaid ≠ tDebts := by decide
theorem lines_sum (m o : Int) : sumL (linesOf m o) = 0 := by
  unfold linesOf
  rw [sumL_nz]
  simp only [sumL]
  omega
theorem lines_rights (m o : Int) : balL tRights (linesOf m o) = -m := by
  unfold linesOf
  rw [balL_nz]
  simp only [balL, if_neg ne1, if_neg ne2, if_true]
  omega
theorem lines_paid (m o : Int) : balL tPaid (linesOf m o) = m - o := by
  unfold linesOf
  rw [balL_nz]
  simp only [balL, if_neg ne3, if_neg ne4, if_true]
  omega
theorem lines_debts (m o : Int) : balL tDebts (linesOf m o) = o := by
  unfold linesOf
  rw [balL_nz]
  simp only [balL, if_neg ne5, if_neg ne6, if_true]
  omega
theorem lines_len (m o : Int) : (linesOf m o).length ≤ 3 := List.length_filter_le _ _
theorem lines_bd {m o : Int} {x : Ln} (hm : -1000000000000 ≤ m ∧ m ≤ 1000000000000) (ho : -1000000000000 ≤ o ∧ o ≤ 1000000000000) (h : x ∈ linesOf m o) : -2000000000000 ≤ x.cents ∧ x.cents ≤ 2000000000000 := by
  have h := (List.mem_filter.1 h).1
  simp only [List.mem_cons, List.not_mem_nil, or_false] at h
  rcases h with rfl | rfl | rfl
  · exact ⟨by show _ ≤ -m; omega, by show -m ≤ _; omega⟩
  · exact ⟨by show _ ≤ m - o; omega, by show m - o ≤ _; omega⟩
  · exact ⟨by show _ ≤ o; omega, by show o ≤ _; omega⟩
def rLast : Int → List Cl → Int
  | r, [] => r
  | _, c :: l => rLast c.right l
/-- What is so of an entry of the settling. -/
structure EnOk (e : En) : Prop where
  sum : sumL e.lines = 0
  three : sumL e.lines = balL tRights e.lines + balL tPaid e.lines + balL tDebts e.lines
  len : e.lines.length ≤ 3
  bd : ∀ x, x ∈ e.lines → -2000000000000 ≤ x.cents ∧ x.cents ≤ 2000000000000
theorem setL_len (rate : Int) : ∀ (l : List Cl) (r d : Int) (es : List En), setL rate r d l = some es → es.length ≤ l.length
  | [], r, d, es, h => by
    obtain rfl : [] = es := Option.some.inj h
    simp
  | c :: l, r, d, es, h => by
    rw [setL] at h
    split at h
    · split at h
      · obtain ⟨es', h1, h2⟩ := Option.map_eq_some_iff.1 h
        have := setL_len rate l _ _ _ h1
        split at h2
        · subst h2; simp; omega
        · subst h2; simp; omega
      · cases h
    · cases h
theorem setL_ok (rate : Int) (hr0 : 0 ≤ rate) : ∀ (l : List Cl) (r d : Int) (es : List En), 0 ≤ d → d ≤ 1000000000000 → setL rate r d l = some es →
    (∀ e, e ∈ es → EnOk e) ∧ balE tRights es = r - rLast r l ∧ balE tRights es + balE tPaid es + balE tDebts es = 0 ∧ ∀ i, 0 ≤ d - balE tDebts (es.take i)
  | [], r, d, es, hd, _, h => by
    obtain rfl : [] = es := Option.some.inj h
    refine ⟨fun e he => by simp at he, by simp [balE, rLast], by simp [balE], fun i => by simp [balE]; exact hd⟩
  | c :: l, r, d, es, hd, hd2, h => by
    rw [setL] at h
    split at h
    case isFalse => cases h
    case isTrue hc1 =>
      split at h
      case isFalse => cases h
      case isTrue hc2 =>
        rw [Bool.and_eq_true] at hc1 hc2
        have k1 := okC_iff.1 hc1.1
        have k2 := okC_iff.1 hc1.2
        have k3 := okC_iff.1 hc2.1
        have hle := offB_le (m := c.right - r) (rate := rate) hd
        have hbd := offB_bd (m := c.right - r) hd hr0
        obtain ⟨es', h1, h2⟩ := Option.map_eq_some_iff.1 h
        obtain ⟨a1, a2, a3, a4⟩ := setL_ok rate hr0 l _ _ _ hle (by omega) h1
        generalize offB d (c.right - r) rate = o at *
        by_cases hm : c.right - r = 0
        · rw [if_pos hm] at h2
          subst h2
          have ho : o = 0 := by omega
          refine ⟨a1, by rw [a2, rLast]; omega, a3, fun i => ?_⟩
          have := a4 i
          omega
        · rw [if_neg hm] at h2
          subst h2
          refine ⟨fun e he => ?_, ?_, ?_, fun i => ?_⟩
          · rcases List.mem_cons.1 he with rfl | he
            · refine ⟨lines_sum _ _, ?_, lines_len _ _, fun x hx => lines_bd k2 (by omega) hx⟩
              show sumL (linesOf _ _) = balL tRights (linesOf _ _) + balL tPaid (linesOf _ _) + balL tDebts (linesOf _ _)
              rw [lines_sum, lines_rights, lines_paid, lines_debts]
              omega
            · exact a1 e he
          · simp only [balE, lines_rights, a2, rLast]
            omega
          · simp only [balE, lines_rights, lines_paid, lines_debts]
            omega
          · cases i with
            | zero => simp [balE]; exact hd
            | succ i =>
              have := a4 i
              simp only [List.take_succ_cons, balE, lines_debts]
              omega
theorem rLast_last (r : Int) : ∀ (l : List Cl) (c : Cl), l.getLast? = some c → rLast r l = c.right
  | [], c, h => by cases h
  | [x], c, h => by
    obtain rfl : x = c := by simpa using h
    rfl
  | x :: y :: l, c, h => by
    rw [rLast]
    exact rLast_last x.right (y :: l) c (by rw [List.getLast?_cons_cons] at h; exact h)
theorem claimsK_none {l : List Cl} {rate : Int} (h : claimsK l rate = none) : l.length ≤ 400 ∧ l.any many = false ∧ upB 0 l = true ∧ l.any (fun c => c.due.any noTime) = false ∧ l.any (fun c => c.due.any great) = false ∧ 0 ≤ rate ∧ rate ≤ 10000 := by
  unfold claimsK at h
  split at h
  · cases h
  · split at h
    · cases h
    · split at h
      · cases h
      · rename_i h1 h2 h3
        rw [Bool.not_eq_true, Bool.or_eq_false_iff] at h1 h2 h3
        rw [Bool.or_eq_false_iff] at h3
        exact ⟨by have := h1.1; simp at this; omega, h1.2, by have := h2.1; simpa using this, h2.2, h3.1, by have := h3.2.1; simp at this; omega, by have := h3.2.2; simp at this; omega⟩
theorem claimsK_lt {l : List Cl} {rate : Int} {k : Nat} (h : claimsK l rate = some k) : k < 11 := by
  unfold claimsK at h
  (repeat' split at h) <;> first | (injection h with h; omega) | cases h
end Go.Proofs.YtdeccdmplmclmaaGreatDoor

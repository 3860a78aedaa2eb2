/-
  Reading amounts, plainly: groups, their scan, the digits' worth. No program in this text.
-/
import Derived.Lib.Split
import Derived.Lib.IndexBytes
namespace Go.Proofs.YtlpkaelgeeecoaaDoor

def isDg (c : UInt8) : Bool := 48 ≤ c && c ≤ 57
def isW (c : UInt8) : Bool := isDg c || c == 44
def runLen (fb : UInt8 → Bool) (l : List UInt8) : Nat := (l.takeWhile fb).length

/-- The lengths of the groups between commas. -/
def gl : List UInt8 → List Nat
  | [] => [0]
  | c :: r => if c = 44 then 0 :: gl r else match gl r with | [] => [1] | g :: t => (g + 1) :: t

theorem gl_ne : ∀ l, gl l ≠ []
  | [] => by simp [gl]
  | c :: r => by
    unfold gl
    split
    · simp
    · split <;> simp

theorem gl_digit (c : UInt8) (r : List UInt8) (h : c ≠ 44) {g : Nat} {t : List Nat} (e : gl r = g :: t) : gl (c :: r) = (g + 1) :: t := by
  rw [gl, if_neg h, e]
theorem gl_comma (r : List UInt8) : gl (44 :: r) = 0 :: gl r := by rw [gl, if_pos rfl]

theorem gl_len : ∀ l : List UInt8, (gl l).length ≤ l.length + 1
  | [] => by simp [gl]
  | c :: r => by
    have := gl_len r
    unfold gl
    split
    · simp; omega
    · split
      · simp
      · rename_i g t e
        rw [e] at this
        simp at this ⊢
        omega

theorem ib_ne (c : UInt8) (r : List UInt8) (h : c ≠ 44) : Lib.indexByte (c :: r) 44 = if Lib.indexByte r 44 = -1 then -1 else Lib.indexByte r 44 + 1 := by
  have h1 : ¬ (c == 44) = true := by simpa using h
  rw [Lib.indexByte, if_neg h1]
  by_cases h2 : Lib.indexByte r 44 = -1
  · rw [if_pos (by simpa using h2), if_pos h2]
  · rw [if_neg (by simpa using h2), if_neg h2]
theorem ib_eq (r : List UInt8) : Lib.indexByte (44 :: r) 44 = 0 := by
  rw [Lib.indexByte, if_pos (by simp)]

theorem gl_none : ∀ l : List UInt8, Lib.indexByte l 44 = -1 → gl l = [l.length]
  | [], _ => rfl
  | c :: r, h => by
    by_cases hc : c = 44
    · subst hc; rw [ib_eq] at h; cases h
    · rw [ib_ne c r hc] at h
      have := Lib.indexByte_ge r 44
      have h2 : Lib.indexByte r 44 = -1 := by
        by_cases h3 : Lib.indexByte r 44 = -1
        · exact h3
        · rw [if_neg h3] at h; omega
      rw [gl_digit c r hc (gl_none r h2)]
      simp

theorem gl_hit : ∀ (l : List UInt8) (i : Nat), Lib.indexByte l 44 = i → gl l = i :: gl (l.drop (i + 1))
  | [], i, h => by
    rw [Lib.indexByte] at h
    omega
  | c :: r, i, h => by
    by_cases hc : c = 44
    · subst hc
      rw [ib_eq] at h
      obtain rfl : i = 0 := by omega
      rw [gl_comma]; simp
    · rw [ib_ne c r hc] at h
      have := Lib.indexByte_ge r 44
      have h3 : ¬ Lib.indexByte r 44 = -1 := fun h3 => by rw [if_pos h3] at h; omega
      rw [if_neg h3] at h
      obtain ⟨j, rfl⟩ : ∃ j, i = j + 1 := ⟨i - 1, by omega⟩
      have h2 : Lib.indexByte r 44 = j := by omega
      rw [gl_digit c r hc (gl_hit r j h2)]
      simp

theorem gl_splitK : ∀ (n : Nat) (l : List UInt8), l.length ≤ n → (Lib.splitK [44] 0 (Lib.count l [44]) l).map List.length = gl l
  | n, l, hn => by
    by_cases h : Lib.index l [44] = -1
    · rw [Lib.count_miss h]
      show [l.length] = _
      rw [Lib.index_one] at h
      exact (gl_none l h).symm
    · have hge := Lib.index_ge l [44]
      obtain ⟨i, hi⟩ : ∃ i : Nat, Lib.index l [44] = i := ⟨(Lib.index l [44]).toNat, by omega⟩
      have hlt := Lib.drop_shorter (s := l) (sub := [44]) (by simp) (by simpa using h)
      rw [hi] at hlt
      rw [Lib.count_hit (by simp) hi, Nat.add_comm 1, Lib.splitK, if_neg (by simpa using h), hi]
      have hi' := hi
      rw [Lib.index_one] at hi'
      rw [gl_hit l i hi']
      simp only [Int.toNat_natCast, List.length_cons, List.length_nil, Nat.zero_add] at hlt ⊢
      cases n with
      | zero => omega
      | succ n =>
        rw [List.map_cons, gl_splitK n (l.drop (i + 1)) (by omega)]
        congr 1
        have : i ≤ l.length := by have := Lib.index_le l [44]; omega
        simp; omega

/-- Where digits and commas are no amount's; -1: they are. -/
def wf (l : List UInt8) : Int :=
  match l with
  | [] => 0
  | _ => match gl l with
    | [] => -1
    | g :: t => if t = [] then -1 else if g < 1 ∨ 3 < g then g else if t.all (· == 3) then -1 else g

/-! ### The reference's scan -/

structure Scan where
  comma : Int
  group : Int
  wrong : Bool
  n : Int

def rstep (n : Int) (c : UInt8) : Int := if n < 1125899906842624 then n * 10 + (c.toNat - 48) else n
def pstep (n : Int) (c : UInt8) : Int := if isDg c then min (n * 10 + (c.toNat - 48)) 1000000000001 else n
/-- One character at place p. -/
def sstep (s : Scan) (p : Int) (c : UInt8) : Scan :=
  if isDg c then ⟨s.comma, s.group + 1, s.wrong, rstep s.n c⟩
  else if s.comma < 0 then ⟨p, 0, decide (3 < s.group), s.n⟩ else ⟨s.comma, 0, s.wrong || s.group != 3, s.n⟩
def scan (s : Scan) (p : Int) : List UInt8 → Scan
  | [] => s
  | c :: r => scan (sstep s p c) (p + 1) r
def pv (l : List UInt8) : Int := l.foldl pstep 0
def Scan.bad (s : Scan) : Bool := decide (0 ≤ s.comma) && (s.wrong || s.group != 3)

theorem scan_snoc : ∀ (l : List UInt8) (c : UInt8) (s : Scan) (p : Int), scan s p (l ++ [c]) = sstep (scan s p l) (p + l.length) c
  | [], c, s, p => by simp [scan]
  | x :: l, c, s, p => by
    rw [List.cons_append, scan, scan_snoc l c, scan]
    congr 1
    simp; omega

theorem w_not {c : UInt8} (h : isW c = true) (hd : ¬ isDg c = true) : c = 44 := by
  simp [isW] at h
  rcases h with h | h
  · exact absurd h hd
  · exact h
theorem dg_ne {c : UInt8} (h : isDg c = true) : c ≠ 44 := by
  rintro rfl
  revert h; decide

theorem scan2 : ∀ (l : List UInt8) (s : Scan) (p : Int), (∀ c, c ∈ l → isW c = true) → 0 ≤ s.comma → ∀ g t, gl l = g :: t →
    (scan s p l).comma = s.comma ∧ ((scan s p l).wrong || (scan s p l).group != 3) = (s.wrong || (s.group + g != 3) || !(t.all (· == 3)))
  | [], s, p, _, _, g, t, e => by
    cases e
    simp [scan]
  | c :: r, s, p, ha, hc, g, t, e => by
    obtain ⟨g1, t1, e1⟩ : ∃ g1 t1, gl r = g1 :: t1 := by
      cases h : gl r with
      | nil => exact absurd h (gl_ne r)
      | cons a b => exact ⟨a, b, rfl⟩
    by_cases hd : isDg c = true
    · rw [gl_digit c r (dg_ne hd) e1] at e
      obtain ⟨rfl, rfl⟩ : g1 + 1 = g ∧ t1 = t := by simpa using e
      obtain ⟨h1, h2⟩ := scan2 r (sstep s p c) (p + 1) (fun c h => ha c (List.mem_cons_of_mem _ h)) (by simp [sstep, hd]; exact hc) g1 t1 e1
      rw [scan]
      refine ⟨by rw [h1]; simp [sstep, hd], ?_⟩
      rw [h2]
      have e2 : (sstep s p c).wrong = s.wrong := by simp [sstep, hd]
      have e3 : (sstep s p c).group = s.group + 1 := by simp [sstep, hd]
      rw [e2, e3]
      congr 3
      push_cast
      omega
    · obtain rfl := w_not (ha c (List.mem_cons_self ..)) hd
      rw [gl_comma, e1] at e
      obtain ⟨rfl, rfl⟩ : 0 = g ∧ g1 :: t1 = t := by simpa using e
      obtain ⟨h1, h2⟩ := scan2 r (sstep s p 44) (p + 1) (fun c h => ha c (List.mem_cons_of_mem _ h)) (by simp [sstep, hd, Int.not_lt.2 hc]; exact hc) g1 t1 e1
      rw [scan]
      refine ⟨by rw [h1]; simp [sstep, hd, Int.not_lt.2 hc], ?_⟩
      rw [h2]
      have e2 : (sstep s p 44).wrong = (s.wrong || s.group != 3) := by simp [sstep, hd, Int.not_lt.2 hc]
      have e3 : (sstep s p 44).group = 0 := by simp [sstep, hd, Int.not_lt.2 hc]
      rw [e2, e3]
      simp only [List.all_cons, Bool.not_and]
      have e4 : ((0 : Int) + (g1 : Int) != 3) = !(g1 == 3) := by
        rw [Bool.eq_iff_iff]; simp; omega
      rw [e4]
      have e5 : (s.group + ((0 : Nat) : Int) != 3) = (s.group != 3) := by simp
      rw [e5, Bool.or_assoc, Bool.or_assoc]

theorem scan1 : ∀ (l : List UInt8) (s : Scan) (p : Int), (∀ c, c ∈ l → isW c = true) → s.comma < 0 → s.wrong = false → 0 ≤ p → ∀ g t, gl l = g :: t →
    (t = [] → (scan s p l).comma = s.comma) ∧ (t ≠ [] → (scan s p l).comma = p + g ∧ ((scan s p l).wrong || (scan s p l).group != 3) = (decide (3 < s.group + g) || !(t.all (· == 3))))
  | [], s, p, _, _, _, _, g, t, e => by
    cases e
    exact ⟨fun _ => rfl, fun h => absurd rfl h⟩
  | c :: r, s, p, ha, hc, hw, hp, g, t, e => by
    obtain ⟨g1, t1, e1⟩ : ∃ g1 t1, gl r = g1 :: t1 := by
      cases h : gl r with
      | nil => exact absurd h (gl_ne r)
      | cons a b => exact ⟨a, b, rfl⟩
    by_cases hd : isDg c = true
    · rw [gl_digit c r (dg_ne hd) e1] at e
      obtain ⟨rfl, rfl⟩ : g1 + 1 = g ∧ t1 = t := by simpa using e
      obtain ⟨h1, h2⟩ := scan1 r (sstep s p c) (p + 1) (fun c h => ha c (List.mem_cons_of_mem _ h)) (by simp [sstep, hd]; exact hc) (by simp [sstep, hd, hw]) (by omega) g1 t1 e1
      have e3 : (sstep s p c).group = s.group + 1 := by simp [sstep, hd]
      rw [scan]
      refine ⟨fun h => by rw [h1 h]; simp [sstep, hd], fun h => ⟨by rw [(h2 h).1]; push_cast; omega, ?_⟩⟩
      rw [(h2 h).2, e3]
      congr 2
      push_cast
      rw [eq_iff_iff]; omega
    · obtain rfl := w_not (ha c (List.mem_cons_self ..)) hd
      rw [gl_comma, e1] at e
      obtain ⟨rfl, rfl⟩ : 0 = g ∧ g1 :: t1 = t := by simpa using e
      have e0 : (sstep s p 44) = ⟨p, 0, decide (3 < s.group), s.n⟩ := by simp [sstep, hd, hc]
      obtain ⟨h1, h2⟩ := scan2 r (sstep s p 44) (p + 1) (fun c h => ha c (List.mem_cons_of_mem _ h)) (by rw [e0]; exact hp) g1 t1 e1
      rw [scan]
      refine ⟨fun h => (by cases h), fun _ => ⟨by rw [h1, e0]; simp, ?_⟩⟩
      rw [h2, e0]
      simp only [List.all_cons, Bool.not_and]
      have e4 : ((0 : Int) + (g1 : Int) != 3) = !(g1 == 3) := by
        rw [Bool.eq_iff_iff]; simp; omega
      rw [e4]
      have e5 : decide (3 < s.group + ((0 : Nat) : Int)) = decide (3 < s.group) := by simp
      rw [e5, Bool.or_assoc]

/-- What the reference says of digits and commas, by where they are wrong. -/
theorem scan_wf (l : List UInt8) (p : Int) (hp : 0 ≤ p) (ha : ∀ c, c ∈ l → isW c = true) (c : UInt8) (r : List UInt8) (hl : l = c :: r) (hd : isDg c = true) :
    (wf l < 0 → (scan ⟨-1, 0, false, 0⟩ p l).bad = false) ∧ (0 ≤ wf l → (scan ⟨-1, 0, false, 0⟩ p l).bad = true ∧ (scan ⟨-1, 0, false, 0⟩ p l).comma = p + wf l) := by
  obtain ⟨g1, t1, e1⟩ : ∃ g1 t1, gl r = g1 :: t1 := by
    cases h : gl r with
    | nil => exact absurd h (gl_ne r)
    | cons a b => exact ⟨a, b, rfl⟩
  have e : gl l = (g1 + 1) :: t1 := by rw [hl]; exact gl_digit c r (dg_ne hd) e1
  obtain ⟨h1, h2⟩ := scan1 l ⟨-1, 0, false, 0⟩ p ha (by simp) rfl hp _ _ e
  have ew : wf l = if t1 = [] then -1 else if g1 + 1 < 1 ∨ 3 < g1 + 1 then ((g1 + 1 : Nat) : Int) else if t1.all (· == 3) then -1 else ((g1 + 1 : Nat) : Int) := by
    subst hl
    unfold wf
    simp only [e]
  rw [ew]
  by_cases ht : t1 = []
  · rw [if_pos ht]
    refine ⟨fun _ => ?_, fun h => absurd h (by decide)⟩
    unfold Scan.bad
    rw [h1 ht]
    rfl
  · obtain ⟨h3, h4⟩ := h2 ht
    rw [if_neg ht]
    have hb : (scan ⟨-1, 0, false, 0⟩ p l).bad = (decide ((3 : Int) < 0 + ((g1 + 1 : Nat) : Int)) || !(t1.all (· == 3))) := by
      unfold Scan.bad
      rw [h4, h3]
      have : decide (0 ≤ p + ((g1 + 1 : Nat) : Int)) = true := by simp; omega
      rw [this, Bool.true_and]
    rw [hb, h3]
    by_cases hg : g1 + 1 < 1 ∨ 3 < g1 + 1
    · rw [if_pos hg]
      refine ⟨fun h => absurd h (by omega), fun _ => ⟨?_, rfl⟩⟩
      have : decide ((3 : Int) < 0 + ((g1 + 1 : Nat) : Int)) = true := by simp; omega
      rw [this, Bool.true_or]
    · rw [if_neg hg]
      have h3' : decide ((3 : Int) < 0 + ((g1 + 1 : Nat) : Int)) = false := by simp; omega
      rw [h3', Bool.false_or]
      cases hall : t1.all (· == 3)
      · refine ⟨fun h => absurd h (by simp; omega), fun _ => ⟨rfl, by simp⟩⟩
      · exact ⟨fun _ => rfl, fun h => absurd h (by simp)⟩

/-! ### The digits' worth -/

def Same (a b : Int) : Prop := (a = b ∧ 0 ≤ a ∧ a ≤ 1000000000000) ∨ (a = 1000000000001 ∧ 1000000000000 < b ∧ b ≤ 11258999068426250)

theorem dg_bd {c : UInt8} (h : isDg c = true) : 48 ≤ c.toNat ∧ c.toNat ≤ 57 := by
  simp [isDg, UInt8.le_iff_toNat_le] at h
  exact h

theorem same_step {a b : Int} (h : Same a b) (c : UInt8) (hd : isDg c = true) : Same (pstep a c) (rstep b c) := by
  have := dg_bd hd
  unfold Same pstep rstep at *
  rw [if_pos hd]
  rw [Int.min_def]
  split <;> split <;> omega

theorem same_scan : ∀ (l : List UInt8) (s : Scan) (p a : Int), (∀ c, c ∈ l → isW c = true) → Same a s.n → Same (l.foldl pstep a) (scan s p l).n
  | [], _, _, _, _, h => h
  | c :: r, s, p, a, ha, h => by
    rw [List.foldl_cons, scan]
    refine same_scan r _ _ _ (fun c h => ha c (List.mem_cons_of_mem _ h)) ?_
    by_cases hd : isDg c = true
    · have : (sstep s p c).n = rstep s.n c := by simp [sstep, hd]
      rw [this]
      exact same_step h c hd
    · have e : (sstep s p c).n = s.n := by unfold sstep; rw [if_neg hd]; split <;> rfl
      have e2 : pstep a c = a := by unfold pstep; rw [if_neg hd]
      rw [e, e2]
      exact h

theorem pv_bd : ∀ (l : List UInt8) (a : Int), 0 ≤ a → a ≤ 1000000000001 → 0 ≤ l.foldl pstep a ∧ l.foldl pstep a ≤ 1000000000001
  | [], _, h1, h2 => ⟨h1, h2⟩
  | c :: r, a, h1, h2 => by
    rw [List.foldl_cons]
    refine pv_bd r _ ?_ ?_
    · unfold pstep
      split
      · rename_i hd
        have := dg_bd hd
        rw [Int.min_def]
        split <;> omega
      · exact h1
    · unfold pstep
      split
      · rw [Int.min_def]
        split <;> omega
      · exact h2

/-- Where what follows the digits is wrong; -1: nowhere. -/
def cf (l : List UInt8) : Int :=
  match l with
  | [] => -1
  | c :: r => if c ≠ 46 then 0 else if min (runLen isDg r) 2 = 2 ∧ r.length = 2 then -1 else 1 + (min (runLen isDg r) 2 : Nat)
end Go.Proofs.YtlpkaelgeeecoaaDoor

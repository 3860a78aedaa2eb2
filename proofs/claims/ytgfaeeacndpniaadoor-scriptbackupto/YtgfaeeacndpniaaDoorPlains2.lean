/-
  Laws as trees: plain, no program.
-/
import Derived.WalkKit
import Derived.Test.YtgfaeeacndpniaaDoorProg
import Derived.Test.YtgfaeeacndpniaaDoorLineAll
import Derived.Test.YtgfaeeacndpniaaDoorLabR0
import Derived.Lib.Split
import Derived.Lib.IndexMore
namespace Go.Proofs.YtgfaeeacndpniaaDoor
open Go.RowKit Go.Extern.Stop Go.Stop Go.Extern

/-- A provision: its label, its heading, its lines, its kids. -/
inductive It where
  | mk (label head : ByteArray) (lines : List ByteArray) (kids : List It)
def It.label : It → ByteArray | .mk a _ _ _ => a
def It.head : It → ByteArray | .mk _ b _ _ => b
def It.lines : It → List ByteArray | .mk _ _ c _ => c
def It.kids : It → List It | .mk _ _ _ d => d
theorem It.eta : ∀ t : It, t = .mk t.label t.head t.lines t.kids | .mk _ _ _ _ => rfl
def It.addKid (t k : It) : It := .mk t.label t.head t.lines (t.kids ++ [k])
def It.addLine (t : It) (s : ByteArray) : It := .mk t.label t.head (t.lines ++ [s]) t.kids
def It.none : It := .mk ⟨#[]⟩ ⟨#[]⟩ [] []
/-- The open items put into one another: the law. -/
def closeAll : List It → It
  | [] => It.none
  | [a] => a
  | a :: b :: r => a.addKid (closeAll (b :: r))
theorem closeAll_two (a b : It) (r : List It) : closeAll (a :: b :: r) = a.addKid (closeAll (b :: r)) := by rw [closeAll]
theorem closeAll_one (a : It) : closeAll [a] = a := by rw [closeAll]
theorem closeAll_drop (z : List It) (k : Nat) (a : It) (h : z[k]? = some a) (h2 : k + 1 < z.length) : closeAll (z.drop k) = a.addKid (closeAll (z.drop (k + 1))) := by
  obtain ⟨hk, e⟩ := List.getElem?_eq_some_iff.1 h
  rw [List.drop_eq_getElem_cons hk, e]
  rw [List.drop_eq_getElem_cons h2, closeAll_two]
theorem closeAll_last (z : List It) (k : Nat) (a : It) (h : z[k]? = some a) (h2 : z.length = k + 1) : closeAll (z.drop k) = a := by
  obtain ⟨hk, e⟩ := List.getElem?_eq_some_iff.1 h
  rw [List.drop_eq_getElem_cons hk, e, List.drop_eq_nil_of_le (by omega), closeAll_one]
/-- What is open if the items behind the k-th are put into it. -/
def shutB (k : Nat) (z : List It) : List It := z.take k ++ [closeAll (z.drop k)]
theorem shutB_len {k : Nat} {z : List It} (h : k < z.length) : (shutB k z).length = k + 1 := by unfold shutB; simp; omega
theorem shutB_last {z : List It} {k : Nat} (h : z.length = k + 1) : shutB k z = z := by
  unfold shutB
  obtain ⟨a, ha⟩ : ∃ a, z[k]? = some a := ⟨_, List.getElem?_eq_getElem (by omega)⟩
  rw [closeAll_last z k a ha h]
  obtain ⟨hk, e⟩ := List.getElem?_eq_some_iff.1 ha
  conv => rhs; rw [← List.take_append_drop k z]
  rw [List.drop_eq_getElem_cons hk, e, List.drop_eq_nil_of_le (by omega)]
theorem shutB_at {k : Nat} {z : List It} (h : k < z.length) : (shutB k z)[k]? = some (closeAll (z.drop k)) := by
  unfold shutB
  rw [List.getElem?_append_right (by simp; omega)]
  simp
  rw [show k - min k z.length = 0 by omega]
  rfl
theorem shutB_lt {k j : Nat} {z : List It} (h : j < k) (hk : k < z.length) : (shutB k z)[j]? = z[j]? := by
  unfold shutB
  rw [List.getElem?_append_left (by simp; omega), List.getElem?_take, if_pos h]

end Go.Proofs.YtgfaeeacndpniaaDoor
namespace Go.Proofs.YtgfaeeacndpniaaDoor
open Go.RowKit Go.Extern.Stop Go.Stop Go.Extern

/-- The text behind what a line begins with: an error's number, the text. -/
noncomputable def rt (r : ByteArray) : Nat × ByteArray :=
  if h : r.size = 0 then (0, ⟨#[]⟩)
  else if r[0].toNat = 32 then
    (if 300 < (r.extract 1 r.size).size then (2, ⟨#[]⟩) else if (r.extract 1 r.size).size = 0 ∨ lineB (r.extract 1 r.size) = false then (1, ⟨#[]⟩) else (0, r.extract 1 r.size))
  else if 300 < r.size then (2, ⟨#[]⟩) else (1, ⟨#[]⟩)
def blN (x : Nat) : Bool := x == 32
def nbN (x : Nat) : Bool := x != 32
def startsAt (s : ByteArray) (c : Nat) : Bool := if h : 0 < s.size then s[0].toNat == c else false
/-- A step of the reader: the error's number, or the open items and the count. -/
inductive Step where
  | bad (c : Nat)
  | good (z : List It) (n : Nat)
noncomputable def lawS (row : ByteArray) : Step :=
  if Lib.hasPrefix (bl row) [108, 97, 119] = true ∧ ((row.extract 3 row.size).size = 0 ∨ startsAt (row.extract 3 row.size) 32 = true) then
    (if (rt (row.extract 3 row.size)).1 = 0 then .good [It.mk ⟨#[]⟩ (rt (row.extract 3 row.size)).2 [] []] 0 else .bad (rt (row.extract 3 row.size)).1)
  else .bad 1
noncomputable def lineS (z : List It) (n : Nat) (d : Nat) (rest : ByteArray) : Step :=
  if d + 1 ≠ z.length then .bad 1
  else if (closeAll (z.drop d)).lines.length = 40 then .bad 2
  else if (rt rest).1 = 0 then .good (z.set d ((closeAll (z.drop d)).addLine (rt rest).2)) n
  else .bad (rt rest).1
noncomputable def isLab (s : ByteArray) : Bool := open Classical in decide (∃ k l, Lab s k l)
noncomputable def hasKid (t : It) (s : ByteArray) : Bool := t.kids.any fun k => k.label.toList == s.toList
noncomputable def provS (z : List It) (n : Nat) (d : Nat) (body : ByteArray) : Step :=
  if isLab (body.extract 0 (runP nbN body)) = false ∨ hasKid (closeAll (z.drop d)) (body.extract 0 (runP nbN body)) = true then .bad 7
  else if 6 ≤ d ∨ 300 ≤ n then .bad 2
  else if (rt (body.extract (runP nbN body) body.size)).1 = 0 then .good (shutB d z ++ [It.mk (body.extract 0 (runP nbN body)) (rt (body.extract (runP nbN body) body.size)).2 [] []]) (n + 1)
  else .bad (rt (body.extract (runP nbN body) body.size)).1
def lawAt (n : Nat) : Step → Step
  | .good z' _ => .good z' n
  | .bad c => .bad c
noncomputable def takeS (z : List It) (n : Nat) (row : ByteArray) : Step :=
  if plainB row = false then .bad 1
  else if z.length = 0 then lawAt n (lawS row)
  else if runP blN row % 2 ≠ 0 ∨ z.length ≤ runP blN row / 2 then .bad 1
  else if startsAt (row.extract (runP blN row) row.size) 124 = true then lineS z n (runP blN row / 2) ((row.extract (runP blN row) row.size).extract 1 (row.extract (runP blN row) row.size).size)
  else provS z n (runP blN row / 2) (row.extract (runP blN row) row.size)
end Go.Proofs.YtgfaeeacndpniaaDoor
namespace Go.Proofs.YtgfaeeacndpniaaDoor
open Go.RowKit Go.Extern.Stop Go.Stop Go.Extern

/-- A text cut at each byte 10. -/
def spl : List UInt8 → List (List UInt8)
  | [] => [[]]
  | c :: r => if c = 10 then [] :: spl r else match spl r with | [] => [[c]] | h :: t => (c :: h) :: t
theorem spl_ne : ∀ l, spl l ≠ []
  | [] => by simp [spl]
  | c :: r => by
    rw [spl]
    split
    · simp
    · split <;> simp
theorem spl_10 (r : List UInt8) : spl (10 :: r) = [] :: spl r := by rw [spl, if_pos rfl]
theorem spl_c {c : UInt8} {r : List UInt8} (h : c ≠ 10) {g : List UInt8} {t : List (List UInt8)} (e : spl r = g :: t) : spl (c :: r) = (c :: g) :: t := by rw [spl, if_neg h, e]
theorem spl_snoc10 : ∀ l : List UInt8, spl (l ++ [10]) = spl l ++ [[]]
  | [] => rfl
  | c :: r => by
    have ih := spl_snoc10 r
    by_cases hc : c = 10
    · subst hc
      rw [List.cons_append, spl_10, ih, spl_10]; rfl
    · obtain ⟨g, t, e⟩ : ∃ g t, spl r = g :: t := by
        cases h : spl r with
        | nil => exact absurd h (spl_ne r)
        | cons g t => exact ⟨g, t, rfl⟩
      rw [List.cons_append, spl_c hc (g := g) (t := t ++ [[]]) (by rw [ih, e]; rfl), spl_c hc e]; rfl
theorem spl_snoc {d : UInt8} (hd : d ≠ 10) : ∀ (l : List UInt8) (o : List (List UInt8)) (x : List UInt8), spl l = o ++ [x] → spl (l ++ [d]) = o ++ [x ++ [d]]
  | [], o, x, h => by
    have h : [[]] = o ++ [x] := h
    cases o with
    | nil => simp at h; subst h; rw [List.nil_append, spl, if_neg hd]; rfl
    | cons a o => simp at h
  | c :: r, o, x, h => by
    by_cases hc : c = 10
    · subst hc
      rw [spl_10] at h
      cases o with
      | nil => exact absurd (by simpa using (List.cons.inj h).2) (spl_ne r)
      | cons a o =>
        rw [List.cons_append] at h
        obtain ⟨h1, h2⟩ := List.cons.inj h
        rw [List.cons_append, spl_10, spl_snoc hd r o x h2, ← h1]; rfl
    · obtain ⟨g, t, e⟩ : ∃ g t, spl r = g :: t := by
        cases h : spl r with
        | nil => exact absurd h (spl_ne r)
        | cons g t => exact ⟨g, t, rfl⟩
      rw [spl_c hc e] at h
      cases o with
      | nil =>
        obtain ⟨h1, h2⟩ := List.cons.inj h
        subst h2
        have := spl_snoc hd r [] g e
        rw [List.cons_append, spl_c hc (g := g ++ [d]) (t := []) this, ← h1]; rfl
      | cons a o =>
        rw [List.cons_append] at h
        obtain ⟨h1, h2⟩ := List.cons.inj h
        have := spl_snoc hd r (g :: o) x (by rw [e, h2]; rfl)
        rw [List.cons_append, spl_c hc (g := g) (t := o ++ [x ++ [d]]) this, ← h1]; rfl
theorem spl_last : ∀ (l : List UInt8) (o : List (List UInt8)) (x : List UInt8), spl l = o ++ [x] → (x = [] ↔ l = [] ∨ ∃ m, l = m ++ [10])
  | l, o, x, h => by
    rcases List.eq_nil_or_concat l with rfl | ⟨m, d, rfl⟩
    · have h : [[]] = o ++ [x] := h
      cases o with
      | nil => simp at h; subst h; simp
      | cons a o => simp at h
    · rw [List.concat_eq_append] at h ⊢
      by_cases hd : d = 10
      · subst hd
        rw [spl_snoc10] at h
        have := (List.append_inj' h rfl).2
        simp at this
        subst this
        simp
      · obtain ⟨o', x', e⟩ : ∃ o' x', spl m = o' ++ [x'] := by
          rcases List.eq_nil_or_concat (spl m) with h0 | ⟨a, b, hab⟩
          · exact absurd h0 (spl_ne m)
          · exact ⟨a, b, by rw [hab, List.concat_eq_append]⟩
        rw [spl_snoc hd m o' x' e] at h
        have := (List.append_inj' h rfl).2
        simp at this
        subst this
        constructor
        · intro h; simp at h
        · rintro (h | ⟨q, h⟩)
          · simp at h
          · have := (List.append_inj' h rfl).2
            simp at this
            exact absurd this hd
/-- The lines of a text. -/
def rowsL (l : List UInt8) : List (List UInt8) := if (spl l).getLast? = some [] then (spl l).dropLast else spl l
theorem rowsL_split (l : List UInt8) (h : l ≠ []) : rowsL l = spl (Lib.trimSuffix l [10]) := by
  obtain ⟨o, x, e⟩ : ∃ o x, spl l = o ++ [x] := by
    rcases List.eq_nil_or_concat (spl l) with h0 | ⟨a, b, hab⟩
    · exact absurd h0 (spl_ne l)
    · exact ⟨a, b, by rw [hab, List.concat_eq_append]⟩
  have hx := spl_last l o x e
  unfold rowsL Lib.trimSuffix
  rw [e, List.getLast?_concat]
  by_cases hm : ∃ m, l = m ++ [10]
  · obtain ⟨m, rfl⟩ := hm
    have hx' : x = [] := hx.2 (.inr ⟨m, rfl⟩)
    subst hx'
    rw [if_pos rfl, List.dropLast_concat]
    have hs : Lib.hasSuffix (m ++ [10]) [10] = true := by unfold Lib.hasSuffix; rw [List.isSuffixOf_iff_suffix]; exact ⟨m, rfl⟩
    rw [if_pos hs]
    rw [spl_snoc10] at e
    have e1 := (List.append_inj' e rfl).1
    simp only [List.length_append, List.length_cons, List.length_nil]
    rw [show m.length + (0 + 1) - (0 + 1) = m.length by omega, List.take_left, e1]
  · have hx' : x ≠ [] := fun h0 => by rcases hx.1 h0 with h1 | h1; exact h h1; exact hm h1
    rw [if_neg (by simpa using hx')]
    have hs : ¬ Lib.hasSuffix l [10] = true := by
      unfold Lib.hasSuffix
      rw [List.isSuffixOf_iff_suffix]
      rintro ⟨m, hm2⟩
      exact hm ⟨m, hm2.symm⟩
    rw [if_neg hs]
    exact e.symm
theorem ib10_ne (c : UInt8) (r : List UInt8) (h : c ≠ 10) : Lib.indexByte (c :: r) 10 = if Lib.indexByte r 10 = -1 then -1 else Lib.indexByte r 10 + 1 := by
  rw [Lib.indexByte, if_neg (by simpa using h)]
  simp only [beq_iff_eq]
theorem spl_none : ∀ l : List UInt8, Lib.indexByte l 10 = -1 → spl l = [l]
  | [], _ => rfl
  | c :: r, h => by
    by_cases hc : c = 10
    · subst hc
      rw [Lib.indexByte, if_pos (by simp)] at h
      cases h
    · rw [ib10_ne c r hc] at h
      have h2 : Lib.indexByte r 10 = -1 := by
        by_cases h3 : Lib.indexByte r 10 = -1
        · exact h3
        · rw [if_neg h3] at h
          have := Lib.indexByte_ge r 10
          omega
      exact spl_c hc (spl_none r h2)
theorem spl_hit : ∀ (l : List UInt8) (i : Nat), Lib.indexByte l 10 = i → spl l = l.take i :: spl (l.drop (i + 1))
  | [], i, h => by
    rw [Lib.indexByte] at h
    omega
  | c :: r, i, h => by
    by_cases hc : c = 10
    · subst hc
      rw [Lib.indexByte, if_pos (by simp)] at h
      obtain rfl : i = 0 := by omega
      rw [spl_10]; simp
    · rw [ib10_ne c r hc] at h
      have := Lib.indexByte_ge r 10
      have h3 : ¬ Lib.indexByte r 10 = -1 := fun h3 => by rw [if_pos h3] at h; omega
      rw [if_neg h3] at h
      obtain ⟨j, rfl⟩ : ∃ j, i = j + 1 := ⟨i - 1, by omega⟩
      have h2 : Lib.indexByte r 10 = j := by omega
      rw [spl_c hc (spl_hit r j h2)]
      simp
theorem spl_splitK : ∀ (n : Nat) (l : List UInt8), l.length ≤ n → Lib.splitK [10] 0 (Lib.count l [10]) l = spl l
  | n, l, hn => by
    by_cases h : Lib.index l [10] = -1
    · rw [Lib.count_miss h]
      show [l] = _
      rw [Lib.index_one] at h
      exact (spl_none l h).symm
    · have hge := Lib.index_ge l [10]
      obtain ⟨i, hi⟩ : ∃ i : Nat, Lib.index l [10] = i := ⟨(Lib.index l [10]).toNat, by omega⟩
      have hlt := Lib.drop_shorter (s := l) (sub := [10]) (by simp) (by simpa using h)
      rw [hi] at hlt
      rw [Lib.count_hit (by simp) hi, Nat.add_comm 1, Lib.splitK, if_neg (by simpa using h), hi]
      have hi' := hi
      rw [Lib.index_one] at hi'
      rw [spl_hit l i hi']
      simp only [Int.toNat_natCast, List.length_cons, List.length_nil, Nat.zero_add] at hlt ⊢
      cases n with
      | zero => omega
      | succ n =>
        rw [spl_splitK n (l.drop (i + 1)) (by omega)]
        congr 1
def ofL (l : List UInt8) : ByteArray := ⟨l.toArray⟩
theorem bl_ofL (l : List UInt8) : bl (ofL l) = l := by unfold ofL; simp [bl]
theorem ofL_bl (s : ByteArray) : ofL (bl s) = s := by unfold ofL; simp [bl]
/-- The lines of a text, as texts. -/
def rowsB (s : ByteArray) : List ByteArray := (rowsL (bl s)).map ofL
theorem spl_len : ∀ l : List UInt8, (spl l).length ≤ l.length + 1
  | [] => by simp [spl]
  | c :: r => by
    have ih := spl_len r
    by_cases hc : c = 10
    · subst hc; rw [spl_10]; simp; omega
    · obtain ⟨g, t, e⟩ : ∃ g t, spl r = g :: t := by
        cases h : spl r with
        | nil => exact absurd h (spl_ne r)
        | cons g t => exact ⟨g, t, rfl⟩
      rw [spl_c hc e]; rw [e] at ih; simp at ih ⊢; omega
theorem spl_size : ∀ (l x : List UInt8), x ∈ spl l → x.length ≤ l.length
  | [], x, h => by simp [spl] at h; subst h; simp
  | c :: r, x, h => by
    by_cases hc : c = 10
    · subst hc; rw [spl_10] at h
      rcases List.mem_cons.1 h with h | h
      · subst h; simp
      · have := spl_size r x h; simp; omega
    · obtain ⟨g, t, e⟩ : ∃ g t, spl r = g :: t := by
        cases h : spl r with
        | nil => exact absurd h (spl_ne r)
        | cons g t => exact ⟨g, t, rfl⟩
      rw [spl_c hc e] at h
      rcases List.mem_cons.1 h with h | h
      · have := spl_size r g (by rw [e]; simp); subst h; simp; omega
      · have := spl_size r x (by rw [e]; simp [h]); simp; omega
theorem rowsB_len (s : ByteArray) : (rowsB s).length ≤ s.size + 1 := by
  unfold rowsB rowsL
  rw [List.length_map]
  have := spl_len (bl s)
  have e : (bl s).length = s.size := size_bl s
  split
  · rw [List.length_dropLast]; omega
  · omega
theorem rowsB_size (s x : ByteArray) (h : x ∈ rowsB s) : x.size ≤ s.size := by
  unfold rowsB rowsL at h
  obtain ⟨y, hy, rfl⟩ := List.mem_map.1 h
  have hy' : y ∈ spl (bl s) := by
    split at hy
    · exact List.dropLast_subset _ hy
    · exact hy
  have := spl_size _ _ hy'
  have e : (bl s).length = s.size := size_bl s
  have e2 : (ofL y).size = y.length := by unfold ofL; simp [ByteArray.size]
  omega
theorem rowsB_nil {s : ByteArray} (h : s.size = 0) : rowsB s = [] := by
  have : bl s = [] := List.eq_nil_of_length_eq_zero (by rw [size_bl]; exact h)
  unfold rowsB
  rw [this]; rfl

/-- A line that says nothing. -/
def blankB (s : ByteArray) : Bool := decide (runP blN s = s.size)
/-- What a text says: the law; or an error's number and the line. -/
inductive Out where
  | bad (c at_ : Nat)
  | good (t : It)
noncomputable def goR (z : List It) (n i : Nat) : List ByteArray → Out
  | [] => if z.length = 0 then .bad 1 i else .good (closeAll z)
  | row :: r => if blankB row then goR z n (i + 1) r else match takeS z n row with
    | .bad c => .bad c i
    | .good z' n' => goR z' n' (i + 1) r
noncomputable def readB (s : ByteArray) : Out := if 30000 < s.size then .bad 2 0 else goR [] 0 0 (rowsB s)
theorem goR_nil {z : List It} {n i : Nat} {rows : List ByteArray} (h : rows.length ≤ i) : goR z n i (rows.drop i) = if z.length = 0 then .bad 1 i else .good (closeAll z) := by
  rw [List.drop_eq_nil_of_le h, goR]
theorem goR_blank {z : List It} {n i : Nat} {rows : List ByteArray} {row : ByteArray} (h : rows[i]? = some row) (hb : blankB row = true) : goR z n i (rows.drop i) = goR z n (i + 1) (rows.drop (i + 1)) := by
  obtain ⟨hi, e⟩ := List.getElem?_eq_some_iff.1 h
  rw [List.drop_eq_getElem_cons hi, e, goR, if_pos hb]
theorem goR_bad {z : List It} {n i : Nat} {rows : List ByteArray} {row : ByteArray} (h : rows[i]? = some row) (hb : blankB row = false) {c : Nat} (hc : takeS z n row = .bad c) : goR z n i (rows.drop i) = .bad c i := by
  obtain ⟨hi, e⟩ := List.getElem?_eq_some_iff.1 h
  rw [List.drop_eq_getElem_cons hi, e, goR, if_neg (by rw [hb]; decide), hc]
theorem goR_good {z : List It} {n i : Nat} {rows : List ByteArray} {row : ByteArray} (h : rows[i]? = some row) (hb : blankB row = false) {z' : List It} {n' : Nat} (hc : takeS z n row = .good z' n') : goR z n i (rows.drop i) = goR z' n' (i + 1) (rows.drop (i + 1)) := by
  obtain ⟨hi, e⟩ := List.getElem?_eq_some_iff.1 h
  rw [List.drop_eq_getElem_cons hi, e, goR, if_neg (by rw [hb]; decide), hc]
end Go.Proofs.YtgfaeeacndpniaaDoor
namespace Go.Proofs.YtgfaeeacndpniaaDoor
open Go.RowKit Go.Extern.Stop Go.Stop Go.Extern

theorem bl_inj {a b : ByteArray} (h : bl a = bl b) : a = b := by rw [← ofL_bl a, ← ofL_bl b, h]
theorem dw_drop (p : UInt8 → Bool) : ∀ l : List UInt8, l.dropWhile p = l.drop (l.takeWhile p).length
  | [] => rfl
  | c :: r => by
    cases hc : p c
    · rw [List.dropWhile_cons_of_neg (by simp [hc]), List.takeWhile_cons_of_neg (by simp [hc])]; rfl
    · rw [List.dropWhile_cons_of_pos hc, List.takeWhile_cons_of_pos hc, dw_drop p r]; rfl
theorem is32 (c : UInt8) : (c == 32) = blN c.toNat := by
  unfold blN
  rw [Bool.eq_iff_iff, beq_iff_eq, beq_iff_eq]
  constructor
  · rintro rfl; rfl
  · intro h; exact UInt8.toNat_inj.1 h
theorem trimLeft_ext (s : ByteArray) : (⟨(Lib.trimLeftB s.data.toList 32).toArray⟩ : ByteArray) = s.extract (runP blN s) s.size := by
  apply bl_inj
  rw [bl_caps]
  have e : (fun c : UInt8 => c == 32) = fun c => blN c.toNat := funext is32
  show (bl s).dropWhile (· == 32) = _
  rw [e, dw_drop]
  rfl
theorem dw_nil (p : UInt8 → Bool) : ∀ l : List UInt8, l.dropWhile p = [] ↔ ∀ c ∈ l, p c = true
  | [] => by simp
  | c :: r => by
    cases hc : p c
    · rw [List.dropWhile_cons_of_neg (by simp [hc])]; simp [hc]
    · rw [List.dropWhile_cons_of_pos hc, dw_nil p r]; simp [hc]
theorem tw_all (p : UInt8 → Bool) : ∀ l : List UInt8, (l.takeWhile p).length = l.length ↔ ∀ c ∈ l, p c = true
  | [] => by simp
  | c :: r => by
    cases hc : p c
    · rw [List.takeWhile_cons_of_neg (by simp [hc])]; simp [hc]
    · rw [List.takeWhile_cons_of_pos hc]
      have := tw_all p r
      simp [hc, this]
theorem trim_nil (l : List UInt8) : Lib.trimB l 32 = [] ↔ ∀ c ∈ l, (c == 32) = true := by
  unfold Lib.trimB Lib.trimLeftB Lib.trimRightB
  rw [dw_nil]
  constructor
  · intro h
    have h2 : ∀ c ∈ l.reverse.dropWhile (· == 32), (c == 32) = true := fun c hc => h c (by simpa using hc)
    have h3 : l.reverse.dropWhile (· == 32) = [] := by
      cases e : l.reverse.dropWhile (· == 32) with
      | nil => rfl
      | cons a t =>
        have h4 := h2 a (by rw [e]; simp)
        have h5 : (l.reverse.dropWhile (· == 32)).head? = some a := by rw [e]; rfl
        have := List.head?_dropWhile_not (p := (· == 32)) (l := l.reverse)
        rw [h5] at this
        simp [h4] at this
    intro c hc
    exact (dw_nil _ _).1 h3 c (by simpa using hc)
  · intro h c hc
    have : c ∈ l.reverse.dropWhile (· == 32) := by simpa using hc
    exact h c (by simpa using (List.dropWhile_sublist _).subset this)
theorem trim_blank (s : ByteArray) : (⟨(Lib.trimB s.data.toList 32).toArray⟩ : ByteArray).toList.isEmpty = blankB s := by
  rw [Lib.toList_data, Bool.eq_iff_iff]
  unfold blankB
  rw [List.isEmpty_iff, decide_eq_true_eq]
  show Lib.trimB (bl s) 32 = [] ↔ _
  rw [trim_nil]
  have e := tw_all (fun c => blN c.toNat) (bl s)
  rw [size_bl] at e
  show _ ↔ ((bl s).takeWhile _).length = _
  rw [e]
  simp only [is32]
theorem starts_pre (s : ByteArray) (c : UInt8) : Lib.hasPrefix s.data.toList [c] = startsAt s c.toNat := by
  unfold Lib.hasPrefix startsAt
  have hb : s.data.toList = bl s := rfl
  rw [hb]
  cases e : bl s with
  | nil =>
    have : s.size = 0 := by rw [← size_bl, e]; rfl
    rw [dif_neg (by omega)]
    rfl
  | cons a t =>
    have h0 : 0 < s.size := by rw [← size_bl, e]; simp
    rw [dif_pos h0]
    have h1 := bl_get s 0 h0
    rw [e] at h1
    have h2 : a = s[0] := by simpa using h1
    rw [← h2]
    show (c == a && [].isPrefixOf t) = _
    simp only [List.isPrefixOf, Bool.and_true]
    rw [Bool.eq_iff_iff, beq_iff_eq, beq_iff_eq]
    exact ⟨fun h => by rw [h], fun h => (UInt8.toNat_inj.1 h).symm⟩
theorem cutP_yes (s : ByteArray) (p : List UInt8) (h : Lib.hasPrefix s.data.toList p = true) : (⟨(Lib.trimPrefix s.data.toList p).toArray⟩ : ByteArray) = s.extract p.length s.size := by
  apply bl_inj
  rw [bl_caps]
  show Lib.trimPrefix s.data.toList p = _
  unfold Lib.trimPrefix
  rw [if_pos h]
theorem cutP_no (s : ByteArray) (p : List UInt8) (h : Lib.hasPrefix s.data.toList p = false) : (⟨(Lib.trimPrefix s.data.toList p).toArray⟩ : ByteArray) = s := by
  apply bl_inj
  show Lib.trimPrefix s.data.toList p = _
  unfold Lib.trimPrefix
  rw [if_neg (by rw [h]; decide)]
theorem tw_ib : ∀ (l : List UInt8), (Lib.indexByte l 32 = -1 → (l.takeWhile fun c => nbN c.toNat) = l) ∧ (∀ i : Nat, Lib.indexByte l 32 = i → (l.takeWhile fun c => nbN c.toNat) = l.take i)
  | [] => ⟨fun _ => rfl, fun i h => by rw [Lib.indexByte] at h; omega⟩
  | c :: r => by
    by_cases hc : c = 32
    · subst hc
      refine ⟨fun h => ?_, fun i h => ?_⟩
      · rw [Lib.indexByte, if_pos (by simp)] at h; cases h
      · rw [Lib.indexByte, if_pos (by simp)] at h
        obtain rfl : i = 0 := by omega
        rw [List.takeWhile_cons_of_neg (by decide)]; rfl
    · have hn : nbN c.toNat = true := by
        unfold nbN
        rw [bne_iff_ne]
        intro e; exact hc (UInt8.toNat_inj.1 e)
      have ih := tw_ib r
      have e : Lib.indexByte (c :: r) 32 = if Lib.indexByte r 32 = -1 then -1 else Lib.indexByte r 32 + 1 := by
        rw [Lib.indexByte, if_neg (by simpa using hc)]
        simp only [beq_iff_eq]
      have hge := Lib.indexByte_ge r 32
      rw [e, List.takeWhile_cons_of_pos (p := fun c : UInt8 => nbN c.toNat) hn]
      refine ⟨fun h => ?_, fun i h => ?_⟩
      · have h2 : Lib.indexByte r 32 = -1 := by
          by_cases h3 : Lib.indexByte r 32 = -1
          · exact h3
          · rw [if_neg h3] at h; omega
        rw [ih.1 h2]
      · have h3 : ¬ Lib.indexByte r 32 = -1 := fun h3 => by rw [if_pos h3] at h; omega
        rw [if_neg h3] at h
        obtain ⟨j, rfl⟩ : ∃ j, i = j + 1 := ⟨i - 1, by omega⟩
        rw [ih.2 j (by omega)]; rfl
theorem cut_label (s : ByteArray) : (⟨(Lib.cut s.data.toList [32]).1.toArray⟩ : ByteArray) = s.extract 0 (runP nbN s) := by
  apply bl_inj
  rw [bl_stem]
  show (Lib.cut (bl s) [32]).1 = _
  have h := tw_ib (bl s)
  have hl : runP nbN s = ((bl s).takeWhile fun c => nbN c.toNat).length := rfl
  unfold Lib.cut
  rw [Lib.index_one]
  by_cases h0 : 0 ≤ Lib.indexByte (bl s) 32
  · rw [if_pos h0]
    obtain ⟨i, hi⟩ : ∃ i : Nat, Lib.indexByte (bl s) 32 = i := ⟨(Lib.indexByte (bl s) 32).toNat, by omega⟩
    have h1 := h.2 i hi
    rw [hi, hl, h1]
    simp only [Int.toNat_natCast, List.length_take]
    rw [List.take_eq_take_iff]
    omega
  · rw [if_neg h0]
    have hge := Lib.indexByte_ge (bl s) 32
    have h1 := h.1 (by omega)
    rw [hl, h1, List.take_length]
theorem ext_all (s : ByteArray) : s.extract 0 s.size = s := by apply bl_inj; rw [bl_stem, List.take_of_length_le (by rw [size_bl]; omega)]
end Go.Proofs.YtgfaeeacndpniaaDoor
namespace Go.Proofs.YtgfaeeacndpniaaDoor
open Go.RowKit Go.Extern.Stop Go.Stop Go.Extern

theorem takeS_1 {z : List It} {n : Nat} {row : ByteArray} (h : plainB row = false) : takeS z n row = .bad 1 := by unfold takeS; rw [if_pos h]
theorem takeS_2 {n : Nat} {row : ByteArray} (h : plainB row = true) : takeS [] n row = lawAt n (lawS row) := by unfold takeS; rw [if_neg (by rw [h]; decide), if_pos (show ([] : List It).length = 0 from rfl)]
theorem takeS_3 {z : List It} {n : Nat} {row : ByteArray} (h : plainB row = true) (hz : z.length ≠ 0) (h2 : runP blN row % 2 ≠ 0 ∨ z.length ≤ runP blN row / 2) : takeS z n row = .bad 1 := by unfold takeS; rw [if_neg (by rw [h]; decide), if_neg hz, if_pos h2]
theorem takeS_4 {z : List It} {n : Nat} {row : ByteArray} (h : plainB row = true) (hz : z.length ≠ 0) (h2 : ¬ (runP blN row % 2 ≠ 0 ∨ z.length ≤ runP blN row / 2)) (h3 : startsAt (row.extract (runP blN row) row.size) 124 = true) : takeS z n row = lineS z n (runP blN row / 2) ((row.extract (runP blN row) row.size).extract 1 (row.extract (runP blN row) row.size).size) := by
  unfold takeS; rw [if_neg (by rw [h]; decide), if_neg hz, if_neg h2, if_pos h3]
theorem takeS_5 {z : List It} {n : Nat} {row : ByteArray} (h : plainB row = true) (hz : z.length ≠ 0) (h2 : ¬ (runP blN row % 2 ≠ 0 ∨ z.length ≤ runP blN row / 2)) (h3 : startsAt (row.extract (runP blN row) row.size) 124 = false) : takeS z n row = provS z n (runP blN row / 2) (row.extract (runP blN row) row.size) := by
  unfold takeS; rw [if_neg (by rw [h]; decide), if_neg hz, if_neg h2, if_neg (by rw [h3]; decide)]
end Go.Proofs.YtgfaeeacndpniaaDoor
namespace Go.Proofs.YtgfaeeacndpniaaDoor
open Go.RowKit Go.Extern.Stop Go.Stop Go.Extern

def sumK (z : List It) : Nat := (z.map fun t => t.kids.length).sum
structure OkZ (z : List It) (n : Nat) : Prop where
  deep : z.length ≤ 7
  few : n ≤ 300
  lines : ∀ t ∈ z, t.lines.length ≤ 40
  kids : sumK z + z.length ≤ n + 1
theorem sumK_mem {z : List It} {t : It} (h : t ∈ z) : t.kids.length ≤ sumK z := by
  induction z with
  | nil => cases h
  | cons a r ih =>
    unfold sumK at *
    rw [List.map_cons, List.sum_cons]
    rcases List.mem_cons.1 h with rfl | h
    · omega
    · have := ih h; omega
theorem sumK_app (a b : List It) : sumK (a ++ b) = sumK a + sumK b := by unfold sumK; rw [List.map_append, List.sum_append]
theorem OkZ.kid {z : List It} {n : Nat} (h : OkZ z n) {t : It} (ht : t ∈ z) : t.kids.length ≤ 301 := by have := sumK_mem ht; have := h.kids; have := h.few; omega
theorem closeAll_len : ∀ (a : It) (r : List It), (closeAll (a :: r)).kids.length ≤ a.kids.length + r.length
  | a, [] => by rw [closeAll_one]; simp
  | a, b :: r => by
    rw [closeAll_two]
    show (a.kids ++ [_]).length ≤ _
    simp
theorem closeAll_lines : ∀ (a : It) (r : List It), (closeAll (a :: r)).lines = a.lines
  | a, [] => by rw [closeAll_one]
  | a, b :: r => by rw [closeAll_two]; rfl
theorem OkZ.shut {z : List It} {n : Nat} (h : OkZ z n) {d : Nat} (hd : d < z.length) : sumK (shutB d z) + d ≤ n ∧ (closeAll (z.drop d)).kids.length ≤ 301 ∧ ∀ t ∈ shutB d z, t.lines.length ≤ 40 := by
  obtain ⟨a, r, e⟩ : ∃ a r, z.drop d = a :: r := by
    rw [List.drop_eq_getElem_cons hd]; exact ⟨_, _, rfl⟩
  have hl : r.length = z.length - d - 1 := by
    have := congrArg List.length e
    simp at this
    omega
  have hs : sumK z = sumK (z.take d) + (a.kids.length + sumK r) := by
    have h1 : z = z.take d ++ (a :: r) := by rw [← e, List.take_append_drop]
    have h2 : sumK (z.take d ++ (a :: r)) = sumK (z.take d) + (a.kids.length + sumK r) := by
      rw [sumK_app]
      congr 1
    exact (congrArg sumK h1).trans h2
  have hc := closeAll_len a r
  have hk := h.kids
  have hf := h.few
  refine ⟨?_, ?_, ?_⟩
  · unfold shutB
    rw [sumK_app, e]
    have h1 : sumK [closeAll (a :: r)] = (closeAll (a :: r)).kids.length := by unfold sumK; simp
    rw [h1]
    omega
  · rw [e]
    omega
  · intro t ht
    unfold shutB at ht
    rw [e] at ht
    rcases List.mem_append.1 ht with h1 | h1
    · exact h.lines t (List.mem_of_mem_take h1)
    · have : t = closeAll (a :: r) := by simpa using h1
      rw [this, closeAll_lines]
      exact h.lines a (List.mem_of_mem_drop (by rw [e]; simp : a ∈ z.drop d))
theorem OkZ.line {z : List It} {n d : Nat} {rest : ByteArray} {z' : List It} {n' : Nat} (h : OkZ z n) (e : lineS z n d rest = .good z' n') : OkZ z' n' := by
  unfold lineS at e
  split at e
  · cases e
  · split at e
    · cases e
    · split at e
      · rename_i h1 h2 h3
        have hd : d < z.length := by omega
        obtain ⟨t, ht⟩ : ∃ t, z[d]? = some t := ⟨_, List.getElem?_eq_getElem hd⟩
        rw [closeAll_last z d t ht (by omega)] at e h2
        injection e with e1 e2
        subst e1 e2
        have htm := List.mem_of_getElem? ht
        have h40 := h.lines t htm
        refine ⟨by rw [List.length_set]; exact h.deep, h.few, ?_, ?_⟩
        · intro u hu
          rcases List.mem_or_eq_of_mem_set hu with hu | hu
          · exact h.lines u hu
          · rw [hu]; show (t.lines ++ [_]).length ≤ 40; simp; omega
        · have : sumK (z.set d (t.addLine (rt rest).2)) = sumK z := by
            unfold sumK
            congr 1
            apply List.ext_getElem?
            intro i
            rw [List.getElem?_map, List.getElem?_map]
            by_cases hi : i = d
            · subst hi
              rw [List.getElem?_set_self hd, ht]
              rfl
            · rw [List.getElem?_set_ne (fun e => hi e.symm)]
          rw [this, List.length_set]
          exact h.kids
      · cases e
theorem OkZ.prov {z : List It} {n d : Nat} {body : ByteArray} {z' : List It} {n' : Nat} (h : OkZ z n) (hd : d < z.length) (e : provS z n d body = .good z' n') : OkZ z' n' := by
  unfold provS at e
  split at e
  · cases e
  · split at e
    · cases e
    · split at e
      · rename_i h1 h2 h3
        injection e with e1 e2
        subst e1 e2
        obtain ⟨s1, s2, s3⟩ := h.shut hd
        have hl := shutB_len hd
        refine ⟨by rw [List.length_append, hl]; simp; omega, by omega, ?_, ?_⟩
        · intro u hu
          rcases List.mem_append.1 hu with hu | hu
          · exact s3 u hu
          · rw [List.mem_singleton.1 hu]; simp [It.lines]
        · rw [sumK_app, List.length_append, hl]
          have : sumK [It.mk (body.extract 0 (runP nbN body)) (rt (body.extract (runP nbN body) body.size)).2 [] []] = 0 := by unfold sumK; simp [It.kids]
          rw [this]
          simp
          omega
      · cases e
theorem OkZ.law {row : ByteArray} {n : Nat} (hn : n ≤ 300) {z' : List It} {n' : Nat} (e : lawAt n (lawS row) = .good z' n') : OkZ z' n' := by
  unfold lawS at e
  split at e
  · split at e
    · injection e with e1 e2
      subst e1 e2
      refine ⟨by simp, hn, ?_, ?_⟩
      · intro t ht
        rw [List.mem_singleton.1 ht]; simp [It.lines]
      · unfold sumK; simp [It.kids]
    · cases e
  · cases e
theorem OkZ.take {z : List It} {n : Nat} {row : ByteArray} {z' : List It} {n' : Nat} (h : OkZ z n) (e : takeS z n row = .good z' n') : OkZ z' n' := by
  unfold takeS at e
  split at e
  · cases e
  · split at e
    · exact OkZ.law h.few e
    · split at e
      · cases e
      · rename_i h1 h2 h3
        split at e
        · exact h.line e
        · exact h.prov (by omega) e
theorem OkZ.start : OkZ [] 0 := ⟨by simp, by omega, (fun t ht => by cases ht), by simp [sumK]⟩
end Go.Proofs.YtgfaeeacndpniaaDoor

/-
  Sentences: tokens of a line, the sentence of a line: plain, no program.
-/
import Derived.Test.YtagdenpmonedlaaDoorSentSpec
namespace Go.Proofs.YtagdenpmonedlaaDoor
open Go.RowKit Go.Extern.Stop Go.Stop Go.Extern

def lowC (c : UInt8) : Bool := decide (97 ≤ c.toNat) && decide (c.toNat ≤ 122)
def numC (c : UInt8) : Bool := decide (48 ≤ c.toNat) && decide (c.toNat ≤ 57)
def wordC (c : UInt8) : Bool := lowC c || numC c || decide (c.toNat = 95)
def signsL : List UInt8 := [58, 44, 40, 41, 60, 61, 62, 43, 45, 42, 37, 59, 91, 93]
def pointL : List UInt8 → Bool
  | a :: b :: c :: _ => decide (a.toNat = 46) && numC b && numC c
  | _ => false
def twoL : List UInt8 → Bool
  | a :: b :: _ => decide ((a = 60 ∧ b = 61) ∨ (a = 60 ∧ b = 62) ∨ (a = 62 ∧ b = 61))
  | _ => false
/-- A token's kind, its error's number, how long it is. -/
def tokOf (c : UInt8) (r : List UInt8) : TK × Nat × Nat :=
  if lowC c = true then
    let n := 1 + (r.takeWhile wordC).length
    if 24 < n then (.b, 2, n) else (.w, 0, n)
  else if numC c = true then
    let n := 1 + (r.takeWhile numC).length
    let m := if pointL (r.drop (n - 1)) = true then n + 3 else n
    if 12 < n then (.b, 2, m) else (.n, 0, m)
  else if twoL (c :: r) = true then (.s, 0, 2)
  else if signsL.contains c = true then (.s, 0, 1)
  else (.b, 1, 1)
def toksGo : Nat → List UInt8 → Nat → List Tok
  | 0, _, p => [⟨.e, ⟨#[]⟩, p, 0⟩]
  | f + 1, l, p =>
    let b := (l.takeWhile (· == 32)).length
    match l.drop b with
    | [] => [⟨.e, ⟨#[]⟩, p + b, 0⟩]
    | c :: r => ⟨(tokOf c r).1, ⟨((c :: r).take (tokOf c r).2.2).toArray⟩, p + b, (tokOf c r).2.1⟩ :: toksGo f ((c :: r).drop (tokOf c r).2.2) (p + b + (tokOf c r).2.2)
/-- The tokens of a line from a place on. -/
def toksB (s : ByteArray) (p : Nat) : List Tok := toksGo (s.size + 1) (s.data.toList.drop p) p
/-- A sentence. -/
structure SentW where
  kind : ByteArray
  name : ByteArray := ⟨#[]⟩
  strength : Nat := 0
  positive : Bool := false
  head : ByteArray := ⟨#[]⟩
  cond : Nd := Nd.zero
  sum : Nd := Nd.zero
  way : Nat := 4
  over : List ByteArray := []
  tn : Nat := 0
  tu : Nat := 0
  tr : Nat := 0
  els : ByteArray := ⟨#[]⟩
section
variable (L : List Tok)
def condP (f k n : Nat) : PR Nd := (takeP L wIf k n).bind fun b k n => if b = true then eitherP L f k n else .ok Nd.zero k n
def commaLoop : Nat → List ByteArray → Nat → Nat → PR (List ByteArray)
  | 0, _, _, _ => .out
  | f + 1, l, k, n => (takeP L (sg 44) k n).bind fun b k n => if b = true then (nameP L k n).bind fun x k n => commaLoop f (l ++ [x]) k n else .ok l k n
def overLoop : Nat → List ByteArray → Nat → Nat → PR (List ByteArray)
  | 0, _, _, _ => .out
  | f + 1, l, k, n => (takeP L (sg 59) k n).bind fun b k n => if b = true then (needP L wOver k n).bind fun _ k n => (nameP L k n).bind fun x k n => (commaLoop L f (l ++ [x]) k n).bind fun l k n => overLoop f l k n else .ok l k n
def termP (k n : Nat) : PR (Nat × Nat × Nat) :=
  if (tokAt L k).kind ≠ .n ∨ pointB (tokAt L k).text = true then wrongP L k
  else if 100000 < hunB (tokAt L k).text / 100 then .bad 2 (tokAt L k).pos
  else (stepP L k n).bind fun _ k1 n => (oneOfP L unitsW k1 n).bind fun u k2 n => (takeP L (sg 44) k2 n).bind fun b k3 n =>
    if b = true then (oneOfP L rollsW k3 n).bind fun r k4 n => .ok (hunB (tokAt L k).text / 100, u, r + 1) k4 n else .ok (hunB (tokAt L k).text / 100, u, 0) k3 n
def strengthP (k n : Nat) : PR Nat := (takeP L wStrict k n).bind fun b k n => if b = true then .ok 0 k n else (takeP L wDefeater k n).bind fun b k n => if b = true then .ok 2 k n else .ok 1 k n
def litP (k n : Nat) : PR (Bool × ByteArray) := (takeP L wNot k n).bind fun b k n => (nameP L k n).bind fun x k n => .ok (!b, x) k n
/-- A sentence of a kind. -/
def sentP (f : Nat) (kind : ByteArray) (k n : Nat) : PR SentW :=
  (nameP L k n).bind fun name k n =>
  (if eqB kind wRule = true then strengthP L k n else .ok 0 k n).bind fun st k n =>
  (needP L (sg 58) k n).bind fun _ k n =>
  if eqB kind wDefine = true then (eitherP L f k n).bind fun x k n => .ok { kind, name, strength := st, cond := x } k n
  else if eqB kind wAmount = true then (sumP L f k n).bind fun x k n => (condP L f k n).bind fun c k n => (takeP L (sg 59) k n).bind fun b k n =>
    if b = true then (needP L wRound k n).bind fun _ k n => (oneOfP L waysW k n).bind fun w k n => .ok { kind, name, strength := st, sum := x, cond := c, way := w } k n
    else .ok { kind, name, strength := st, sum := x, cond := c } k n
  else (litP L k n).bind fun l k n =>
    if eqB kind wRule = true then (condP L f k n).bind fun c k n => (overLoop L f [] k n).bind fun o k n => .ok { kind, name, strength := st, positive := l.1, head := l.2, cond := c, over := o } k n
    else (needP L wWithin k n).bind fun _ k n => (termP L k n).bind fun t k n => (takeP L wElse k n).bind fun b k n =>
      if b = true then (nameP L k n).bind fun x k n => .ok { kind, name, strength := st, positive := l.1, head := l.2, tn := t.1, tu := t.2.1, tr := t.2.2, els := x } k n
      else .ok { kind, name, strength := st, positive := l.1, head := l.2, tn := t.1, tu := t.2.1, tr := t.2.2 } k n
/-- The whole of it, up to the end. -/
def wholeP (f : Nat) (kind : ByteArray) : PR SentW :=
  if (tokAt L 0).kind = .b then .bad (tokAt L 0).code (tokAt L 0).pos
  else (sentP L f kind 0 0).bind fun x k n => if (tokAt L k).kind = .e then .ok x k n else wrongP L k
end
/-- What a line says: nothing, a fault, a sentence. -/
inductive SOut where
  | none
  | bad (c a : Nat)
  | ok (s : SentW)
def firstB (s : ByteArray) : Nat := (s.data.toList.takeWhile (· != 32)).length
def sentB (s : ByteArray) : SOut :=
  if firstB s = s.size ∨ placeIn kindsW ⟨(s.data.toList.take (firstB s)).toArray⟩ = none then .none
  else if 300 < s.size then .bad 2 0
  else match wholeP (toksB s (firstB s)) (1000 * (s.size + 1)) ⟨(s.data.toList.take (firstB s)).toArray⟩ with
    | .out => .bad 0 0
    | .bad c a => .bad c a
    | .ok x _ _ => .ok x
end Go.Proofs.YtagdenpmonedlaaDoor

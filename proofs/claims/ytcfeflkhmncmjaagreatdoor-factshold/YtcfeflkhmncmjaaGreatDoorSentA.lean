/-
  Sentences: what a line says: plain, no program. Tokens, a parser with its first fault.
-/
import Derived.WalkKit
import Derived.Test.YtcfeflkhmncmjaaGreatDoorProg
namespace Go.Proofs.YtcfeflkhmncmjaaGreatDoor
open Go.RowKit Go.Extern.Stop Go.Stop Go.Extern

/-- A word, a number, a sign, the end, a bad one. -/
inductive TK where
  | w | n | s | e | b
  deriving DecidableEq
structure Tok where
  kind : TK
  text : ByteArray
  pos : Nat
  code : Nat
/-- A node of a condition, or of a sum. -/
inductive Nd where
  | mk (kind word : ByteArray) (n : Nat) (kids : List Nd)
def Nd.kind : Nd → ByteArray | .mk a _ _ _ => a
def Nd.word : Nd → ByteArray | .mk _ b _ _ => b
def Nd.num : Nd → Nat | .mk _ _ c _ => c
def Nd.kids : Nd → List Nd | .mk _ _ _ d => d
def Nd.zero : Nd := .mk ⟨#[]⟩ ⟨#[]⟩ 0 []
/-- What a step of the parser comes to: no fuel, a fault, or what was read, the next token's number, how deep. -/
inductive PR (α : Type) where
  | out
  | bad (c a : Nat)
  | ok (x : α) (k n : Nat)
def PR.bind {α β : Type} (r : PR α) (f : α → Nat → Nat → PR β) : PR β := match r with
  | .out => .out
  | .bad c a => .bad c a
  | .ok x k n => f x k n
theorem PR.bind_ok {α β : Type} (x : α) (k n : Nat) (f : α → Nat → Nat → PR β) : (PR.ok x k n).bind f = f x k n := rfl
theorem PR.bind_bad {α β : Type} (c a : Nat) (f : α → Nat → Nat → PR β) : (PR.bad c a : PR α).bind f = .bad c a := rfl
theorem PR.bind_out {α β : Type} (f : α → Nat → Nat → PR β) : (PR.out : PR α).bind f = .out := rfl
theorem PR.bind_not {α β : Type} {r : PR α} {f : α → Nat → Nat → PR β} (h : r.bind f ≠ .out) : r ≠ .out := by
  rintro rfl
  exact h rfl

/-- Words as bytes. -/
def wIf : ByteArray := ⟨#[105, 102]⟩
def wOver : ByteArray := ⟨#[111, 118, 101, 114]⟩
def wRound : ByteArray := ⟨#[114, 111, 117, 110, 100]⟩
def wWithin : ByteArray := ⟨#[119, 105, 116, 104, 105, 110]⟩
def wElse : ByteArray := ⟨#[101, 108, 115, 101]⟩
def wNot : ByteArray := ⟨#[110, 111, 116]⟩
def wOr : ByteArray := ⟨#[111, 114]⟩
def wAnd : ByteArray := ⟨#[97, 110, 100]⟩
def wSome : ByteArray := ⟨#[115, 111, 109, 101]⟩
def wEvery : ByteArray := ⟨#[101, 118, 101, 114, 121]⟩
def wCount : ByteArray := ⟨#[99, 111, 117, 110, 116]⟩
def wTotal : ByteArray := ⟨#[116, 111, 116, 97, 108]⟩
def wOf : ByteArray := ⟨#[111, 102]⟩
def wMax : ByteArray := ⟨#[109, 97, 120]⟩
def wMin : ByteArray := ⟨#[109, 105, 110]⟩
def wName : ByteArray := ⟨#[110, 97, 109, 101]⟩
def wNumber : ByteArray := ⟨#[110, 117, 109, 98, 101, 114]⟩
def wStrict : ByteArray := ⟨#[115, 116, 114, 105, 99, 116]⟩
def wDefeater : ByteArray := ⟨#[100, 101, 102, 101, 97, 116, 101, 114]⟩
def wDefine : ByteArray := ⟨#[100, 101, 102, 105, 110, 101]⟩
def wRule : ByteArray := ⟨#[114, 117, 108, 101]⟩
def wAmount : ByteArray := ⟨#[97, 109, 111, 117, 110, 116]⟩
def wDuty : ByteArray := ⟨#[100, 117, 116, 121]⟩
def wDown : ByteArray := ⟨#[100, 111, 119, 110]⟩
def wUp : ByteArray := ⟨#[117, 112]⟩
def wFloor : ByteArray := ⟨#[102, 108, 111, 111, 114]⟩
def wCeil : ByteArray := ⟨#[99, 101, 105, 108]⟩
def wHalfUp : ByteArray := ⟨#[104, 97, 108, 102, 95, 117, 112]⟩
def wHalfEven : ByteArray := ⟨#[104, 97, 108, 102, 95, 101, 118, 101, 110]⟩
def wDays : ByteArray := ⟨#[100, 97, 121, 115]⟩
def wWorking : ByteArray := ⟨#[119, 111, 114, 107, 105, 110, 103]⟩
def wWeeks : ByteArray := ⟨#[119, 101, 101, 107, 115]⟩
def wMonths : ByteArray := ⟨#[109, 111, 110, 116, 104, 115]⟩
def wYears : ByteArray := ⟨#[121, 101, 97, 114, 115]⟩
def wNext : ByteArray := ⟨#[110, 101, 120, 116]⟩
def wBefore : ByteArray := ⟨#[98, 101, 102, 111, 114, 101]⟩
def sg (c : UInt8) : ByteArray := ⟨#[c]⟩
def sg2 (c d : UInt8) : ByteArray := ⟨#[c, d]⟩
def eqB (a b : ByteArray) : Bool := a.toList == b.toList
/-- The first place of a text in a list. -/
def placeIn (l : List ByteArray) (s : ByteArray) : Option Nat := l.findIdx? fun x => eqB x s
def gramW : List ByteArray := [wDefine, wRule, wAmount, wDuty, wStrict, wDefeater, wIf, wOver, wRound, wWithin, wElse, wNot, wOr, wAnd, wSome, wEvery, wCount, wTotal, wOf, wMax, wMin, wDown, wUp, wFloor, wCeil, wHalfUp, wHalfEven, wDays, wWorking, wWeeks, wMonths, wYears, wNext, wBefore]
def kindsW : List ByteArray := [wDefine, wRule, wAmount, wDuty]
def waysW : List ByteArray := [wDown, wUp, wFloor, wCeil, wHalfUp, wHalfEven]
def unitsW : List ByteArray := [wDays, wWorking, wWeeks, wMonths, wYears]
def rollsW : List ByteArray := [wNext, wBefore]
def ordersW : List ByteArray := [sg 60, sg2 60 61, sg 61, sg2 60 62, sg2 62 61, sg 62]
/-- A number's text in hundredths: what is read so far, how many digits behind the point (none: no point yet). -/
def hunGo : List UInt8 → Nat → Bool → Nat × Bool
  | [], n, p => (n, p)
  | c :: r, n, p => if c = 46 then hunGo r n true else hunGo r (n * 10 + (c.toNat - 48)) p
def hunB (s : ByteArray) : Nat := let x := hunGo s.data.toList 0 false; if x.2 then x.1 else x.1 * 100
def pointB (s : ByteArray) : Bool := s.data.toList.any (· == 46)

section
variable (L : List Tok)
def endTok : Tok := ⟨.e, ⟨#[]⟩, 0, 0⟩
def tokAt (k : Nat) : Tok := L[k]?.getD endTok
def nextK (k : Nat) : Nat := if k + 1 < L.length then k + 1 else k
def stepP (k n : Nat) : PR Unit := if (tokAt L (nextK L k)).kind = .b then .bad (tokAt L (nextK L k)).code (tokAt L (nextK L k)).pos else .ok () (nextK L k) n
def isP (s : ByteArray) (k : Nat) : Bool := decide ((tokAt L k).kind ≠ .e) && eqB (tokAt L k).text s
def wrongP {α : Type} (k : Nat) : PR α := .bad 1 (tokAt L k).pos
def takeP (s : ByteArray) (k n : Nat) : PR Bool := if isP L s k = true then (stepP L k n).bind fun _ k n => .ok true k n else .ok false k n
def needP (s : ByteArray) (k n : Nat) : PR Unit := if isP L s k = true then stepP L k n else wrongP L k
def nameP (k n : Nat) : PR ByteArray := if (tokAt L k).kind = .w ∧ placeIn gramW (tokAt L k).text = none then (stepP L k n).bind fun _ k' n => .ok (tokAt L k).text k' n else wrongP L k
def deeperP (k n : Nat) : PR Unit := if n = 40 then .bad 2 (tokAt L k).pos else .ok () k (n + 1)
def oneOfP (l : List ByteArray) (k n : Nat) : PR Nat := if (tokAt L k).kind = .w then match placeIn l (tokAt L k).text with
    | none => wrongP L k
    | some i => (stepP L k n).bind fun _ k n => .ok i k n
  else wrongP L k
mutual
def eitherP : Nat → Nat → Nat → PR Nd
  | 0, _, _ => .out
  | f + 1, k, n => (bothP f k n).bind fun x k n => orLoop f x k n
def orLoop : Nat → Nd → Nat → Nat → PR Nd
  | 0, _, _, _ => .out
  | f + 1, x, k, n => (takeP L wOr k n).bind fun b k n => if b = true then (bothP f k n).bind fun m k n => orLoop f (.mk wOr ⟨#[]⟩ 0 [x, m]) k n else .ok x k n
def bothP : Nat → Nat → Nat → PR Nd
  | 0, _, _ => .out
  | f + 1, k, n => (unlessP f k n).bind fun x k n => andLoop f x k n
def andLoop : Nat → Nd → Nat → Nat → PR Nd
  | 0, _, _, _ => .out
  | f + 1, x, k, n => (takeP L wAnd k n).bind fun b k n => if b = true then (unlessP f k n).bind fun m k n => andLoop f (.mk wAnd ⟨#[]⟩ 0 [x, m]) k n else .ok x k n
def unlessP : Nat → Nat → Nat → PR Nd
  | 0, _, _ => .out
  | f + 1, k, n => if isP L wNot k = true then (deeperP L k n).bind fun _ k n => (stepP L k n).bind fun _ k n => (unlessP f k n).bind fun x k n => .ok (.mk wNot ⟨#[]⟩ 0 [x]) k (n - 1) else testP f k n
def testP : Nat → Nat → Nat → PR Nd
  | 0, _, _ => .out
  | f + 1, k, n =>
    if eqB (tokAt L k).text (sg 40) = true then (deeperP L k n).bind fun _ k n => (stepP L k n).bind fun _ k n => (eitherP f k n).bind fun x k n => (needP L (sg 41) k (n - 1)).bind fun _ k n => .ok x k n
    else if eqB (tokAt L k).text wSome = true ∨ eqB (tokAt L k).text wEvery = true then
      (deeperP L k n).bind fun _ k1 n => (stepP L k1 n).bind fun _ k2 n => (nameP L k2 n).bind fun w k3 n => (needP L (sg 40) k3 n).bind fun _ k4 n => (eitherP f k4 n).bind fun x k5 n => (needP L (sg 41) k5 (n - 1)).bind fun _ k6 n => .ok (.mk (tokAt L k).text w 0 [x]) k6 n
    else (sumP f k n).bind fun a k1 n =>
      if (tokAt L k1).kind = .s ∧ placeIn ordersW (tokAt L k1).text ≠ none then (stepP L k1 n).bind fun _ k2 n => (sumP f k2 n).bind fun b k3 n => .ok (.mk (tokAt L k1).text ⟨#[]⟩ 0 [a, b]) k3 n
      else if eqB a.kind wName = true ∧ eqB (tokAt L k).text a.word = true then .ok a k1 n else wrongP L k1
def sumP : Nat → Nat → Nat → PR Nd
  | 0, _, _ => .out
  | f + 1, k, n => (partP f k n).bind fun x k n => sumLoop f x k n
def sumLoop : Nat → Nd → Nat → Nat → PR Nd
  | 0, _, _, _ => .out
  | f + 1, x, k, n => if (tokAt L k).kind = .s ∧ (eqB (tokAt L k).text (sg 43) = true ∨ eqB (tokAt L k).text (sg 45) = true) then (stepP L k n).bind fun _ k1 n => (partP f k1 n).bind fun m k2 n => sumLoop f (.mk (tokAt L k).text ⟨#[]⟩ 0 [x, m]) k2 n else .ok x k n
def partP : Nat → Nat → Nat → PR Nd
  | 0, _, _ => .out
  | f + 1, k, n => (factorP f k n).bind fun x k n => partLoop f x k n
def partLoop : Nat → Nd → Nat → Nat → PR Nd
  | 0, _, _, _ => .out
  | f + 1, x, k, n => (takeP L (sg 42) k n).bind fun b k n => if b = true then
      (if (tokAt L k).kind = .n then (if 1000000 < hunB (tokAt L k).text then .bad 2 (tokAt L k).pos else (stepP L k n).bind fun _ k1 n => (needP L (sg 37) k1 n).bind fun _ k2 n => partLoop f (.mk (sg 42) ⟨#[]⟩ (hunB (tokAt L k).text) [x]) k2 n) else wrongP L k)
    else .ok x k n
def factorP : Nat → Nat → Nat → PR Nd
  | 0, _, _ => .out
  | f + 1, k, n =>
    if (tokAt L k).kind = .n then (if 1000000000000 < hunB (tokAt L k).text then .bad 2 (tokAt L k).pos else (stepP L k n).bind fun _ k1 n => .ok (.mk wNumber ⟨#[]⟩ (hunB (tokAt L k).text) []) k1 n)
    else if eqB (tokAt L k).text wCount = true then (stepP L k n).bind fun _ k1 n => (nameP L k1 n).bind fun w k2 n => .ok (.mk wCount w 0 []) k2 n
    else if eqB (tokAt L k).text wTotal = true then (stepP L k n).bind fun _ k1 n => (nameP L k1 n).bind fun w k2 n => (needP L wOf k2 n).bind fun _ k3 n => (nameP L k3 n).bind fun o k4 n => .ok (.mk wTotal w 0 [.mk wName o 0 []]) k4 n
    else if eqB (tokAt L k).text wMax = true ∨ eqB (tokAt L k).text wMin = true then (deeperP L k n).bind fun _ k1 n => (stepP L k1 n).bind fun _ k2 n => (needP L (sg 40) k2 n).bind fun _ k3 n => (sumP f k3 n).bind fun a k4 n => (needP L (sg 44) k4 n).bind fun _ k5 n => (sumP f k5 n).bind fun b k6 n => (needP L (sg 41) k6 (n - 1)).bind fun _ k7 n => .ok (.mk (tokAt L k).text ⟨#[]⟩ 0 [a, b]) k7 n
    else if eqB (tokAt L k).text (sg 91) = true then (deeperP L k n).bind fun _ k1 n => (stepP L k1 n).bind fun _ k2 n => (sumP f k2 n).bind fun x k3 n => (needP L (sg 93) k3 (n - 1)).bind fun _ k4 n => .ok x k4 n
    else (nameP L k n).bind fun w k n => .ok (.mk wName w 0 []) k n
end
end
end Go.Proofs.YtcfeflkhmncmjaaGreatDoor
namespace Go.Proofs.YtcfeflkhmncmjaaGreatDoor
open Go.RowKit Go.Extern.Stop Go.Stop Go.Extern

def lowC (c : UInt8) : Bool := decide (97 ≤ c.toNat) && decide (c.toNat ≤ 122)
def numC (c : UInt8) : Bool := decide (48 ≤ c.toNat) && decide (c.toNat ≤ 57)
def wordC (c : UInt8) : Bool := lowC c || numC c || decide (c.toNat = 95)
def signsL : List UInt8 := [58, 44, 40, 41, 60, 61, 62, 43, 45, 42, 37, 59, 91, 93]
def pointL : List UInt8 → Bool
  | a :: b :: c :: _ => decide (a.toNat = 46) && numC b && numC c
  | _ => false
def twoL : List UInt8 → Bool
  | a :: b :: _ => decide ((a = 60 ∧ b = 61) ∨ (a = 60 ∧ b = 62) ∨ (a = 62 ∧ b = 61))
  | _ => false
/-- A token's kind, its error's number, how long it is. -/
def tokOf (c : UInt8) (r : List UInt8) : TK × Nat × Nat :=
  if lowC c = true then
    let n := 1 + (r.takeWhile wordC).length
    if 24 < n then (.b, 2, n) else (.w, 0, n)
  else if numC c = true then
    let n := 1 + (r.takeWhile numC).length
    let m := if pointL (r.drop (n - 1)) = true then n + 3 else n
    if 12 < n then (.b, 2, m) else (.n, 0, m)
  else if twoL (c :: r) = true then (.s, 0, 2)
  else if signsL.contains c = true then (.s, 0, 1)
  else (.b, 1, 1)
def toksGo : Nat → List UInt8 → Nat → List Tok
  | 0, _, p => [⟨.e, ⟨#[]⟩, p, 0⟩]
  | f + 1, l, p =>
    let b := (l.takeWhile (· == 32)).length
    match l.drop b with
    | [] => [⟨.e, ⟨#[]⟩, p + b, 0⟩]
    | c :: r => ⟨(tokOf c r).1, ⟨((c :: r).take (tokOf c r).2.2).toArray⟩, p + b, (tokOf c r).2.1⟩ :: toksGo f ((c :: r).drop (tokOf c r).2.2) (p + b + (tokOf c r).2.2)
/-- The tokens of a line from a place on. -/
def toksB (s : ByteArray) (p : Nat) : List Tok := toksGo (s.size + 1) (s.data.toList.drop p) p
/-- A sentence. -/
structure SentW where
  kind : ByteArray
  name : ByteArray := ⟨#[]⟩
  strength : Nat := 0
  positive : Bool := false
  head : ByteArray := ⟨#[]⟩
  cond : Nd := Nd.zero
  sum : Nd := Nd.zero
  way : Nat := 4
  over : List ByteArray := []
  tn : Nat := 0
  tu : Nat := 0
  tr : Nat := 0
  els : ByteArray := ⟨#[]⟩
section
variable (L : List Tok)
def condP (f k n : Nat) : PR Nd := (takeP L wIf k n).bind fun b k n => if b = true then eitherP L f k n else .ok Nd.zero k n
def commaLoop : Nat → List ByteArray → Nat → Nat → PR (List ByteArray)
  | 0, _, _, _ => .out
  | f + 1, l, k, n => (takeP L (sg 44) k n).bind fun b k n => if b = true then (nameP L k n).bind fun x k n => commaLoop f (l ++ [x]) k n else .ok l k n
def overLoop : Nat → List ByteArray → Nat → Nat → PR (List ByteArray)
  | 0, _, _, _ => .out
  | f + 1, l, k, n => (takeP L (sg 59) k n).bind fun b k n => if b = true then (needP L wOver k n).bind fun _ k n => (nameP L k n).bind fun x k n => (commaLoop L f (l ++ [x]) k n).bind fun l k n => overLoop f l k n else .ok l k n
def termP (k n : Nat) : PR (Nat × Nat × Nat) :=
  if (tokAt L k).kind ≠ .n ∨ pointB (tokAt L k).text = true then wrongP L k
  else if 100000 < hunB (tokAt L k).text / 100 then .bad 2 (tokAt L k).pos
  else (stepP L k n).bind fun _ k1 n => (oneOfP L unitsW k1 n).bind fun u k2 n => (takeP L (sg 44) k2 n).bind fun b k3 n =>
    if b = true then (oneOfP L rollsW k3 n).bind fun r k4 n => .ok (hunB (tokAt L k).text / 100, u, r + 1) k4 n else .ok (hunB (tokAt L k).text / 100, u, 0) k3 n
def strengthP (k n : Nat) : PR Nat := (takeP L wStrict k n).bind fun b k n => if b = true then .ok 0 k n else (takeP L wDefeater k n).bind fun b k n => if b = true then .ok 2 k n else .ok 1 k n
def litP (k n : Nat) : PR (Bool × ByteArray) := (takeP L wNot k n).bind fun b k n => (nameP L k n).bind fun x k n => .ok (!b, x) k n
/-- A sentence of a kind. -/
def sentP (f : Nat) (kind : ByteArray) (k n : Nat) : PR SentW :=
  (nameP L k n).bind fun name k n =>
  (if eqB kind wRule = true then strengthP L k n else .ok 0 k n).bind fun st k n =>
  (needP L (sg 58) k n).bind fun _ k n =>
  if eqB kind wDefine = true then (eitherP L f k n).bind fun x k n => .ok { kind, name, strength := st, cond := x } k n
  else if eqB kind wAmount = true then (sumP L f k n).bind fun x k n => (condP L f k n).bind fun c k n => (takeP L (sg 59) k n).bind fun b k n =>
    if b = true then (needP L wRound k n).bind fun _ k n => (oneOfP L waysW k n).bind fun w k n => .ok { kind, name, strength := st, sum := x, cond := c, way := w } k n
    else .ok { kind, name, strength := st, sum := x, cond := c } k n
  else (litP L k n).bind fun l k n =>
    if eqB kind wRule = true then (condP L f k n).bind fun c k n => (overLoop L f [] k n).bind fun o k n => .ok { kind, name, strength := st, positive := l.1, head := l.2, cond := c, over := o } k n
    else (needP L wWithin k n).bind fun _ k n => (termP L k n).bind fun t k n => (takeP L wElse k n).bind fun b k n =>
      if b = true then (nameP L k n).bind fun x k n => .ok { kind, name, strength := st, positive := l.1, head := l.2, tn := t.1, tu := t.2.1, tr := t.2.2, els := x } k n
      else .ok { kind, name, strength := st, positive := l.1, head := l.2, tn := t.1, tu := t.2.1, tr := t.2.2 } k n
/-- The whole of it, up to the end. -/
def wholeP (f : Nat) (kind : ByteArray) : PR SentW :=
  if (tokAt L 0).kind = .b then .bad (tokAt L 0).code (tokAt L 0).pos
  else (sentP L f kind 0 0).bind fun x k n => if (tokAt L k).kind = .e then .ok x k n else wrongP L k
end
/-- What a line says: nothing, a fault, a sentence. -/
inductive SOut where
  | none
  | bad (c a : Nat)
  | ok (s : SentW)
def firstB (s : ByteArray) : Nat := (s.data.toList.takeWhile (· != 32)).length
def sentB (s : ByteArray) : SOut :=
  if firstB s = s.size ∨ placeIn kindsW ⟨(s.data.toList.take (firstB s)).toArray⟩ = none then .none
  else if 300 < s.size then .bad 2 0
  else match wholeP (toksB s (firstB s)) (1000 * (s.size + 1)) ⟨(s.data.toList.take (firstB s)).toArray⟩ with
    | .out => .bad 0 0
    | .bad c a => .bad c a
    | .ok x _ _ => .ok x
end Go.Proofs.YtcfeflkhmncmjaaGreatDoor
namespace Go.Proofs.YtcfeflkhmncmjaaGreatDoor

structure Fct where
  who : Int
  nm : ByteArray
  oth : Int
  val : Int
  frm : Int
  til : Int
  lrn : Int

def isWordB (s : ByteArray) : Bool := decide (0 < s.size) && decide (s.size ≤ 24) && (match s.data.toList with | [] => false | c :: r => lowC c && r.all wordC)
def perB (n : Int) : Bool := decide (0 ≤ n) && decide (n < 40)
def valB (n : Int) : Bool := decide (-1000000000000 ≤ n) && decide (n ≤ 1000000000000)
def dyB (n : Int) : Bool := decide (1 ≤ n) && decide (n ≤ 3652059)
def badKind (x : Fct) : Bool := !perB x.who || (!decide (x.oth = -1) && !perB x.oth) || decide (x.oth = x.who)
def badDay (x : Fct) : Bool := !dyB x.frm || !dyB x.lrn || (!decide (x.til = 0) && (!dyB x.til || decide (x.til ≤ x.frm)))
/-- What Add tells: an error's number. -/
def addC (n : Nat) (x : Fct) : Nat :=
  if 500 ≤ n then 2 else if isWordB x.nm = false then 7 else if badKind x then 9 else if valB x.val = false then 3 else if badDay x then 4 else 0
/-- What is kept. -/
def keep (L : List Fct) (x : Fct) : List Fct := if addC L.length x = 0 then L ++ [x] else L
def filesL (l : List Fct) : List Fct := l.foldl keep []
theorem addC_bound {n : Nat} {x : Fct} (h : addC n x = 0) : n < 500 := by
  unfold addC at h
  split at h
  · cases h
  · omega
/-- A fact that may be kept. -/
def Good (x : Fct) : Prop := addC 0 x = 0
theorem addC_good {n : Nat} {x : Fct} (h : addC n x = 0) : Good x := by
  have hb := addC_bound h
  unfold Good
  unfold addC at h ⊢
  rw [if_neg (by omega)] at h
  rw [if_neg (by omega)]
  exact h
theorem addC_of_good {n : Nat} {x : Fct} (h : Good x) (hn : n < 500) : addC n x = 0 := by
  unfold Good at h
  unfold addC at h ⊢
  rw [if_neg (by omega)] at h
  rw [if_neg (by omega)]
  exact h
theorem Good.all {x : Fct} (h : Good x) : isWordB x.nm = true ∧ badKind x = false ∧ valB x.val = true ∧ badDay x = false := by
  unfold Good addC at h
  rw [if_neg (by omega)] at h
  cases h1 : isWordB x.nm
  · rw [if_pos h1] at h; cases h
  · rw [if_neg (by rw [h1]; simp)] at h
    cases h2 : badKind x
    · rw [if_neg (by rw [h2]; simp)] at h
      cases h3 : valB x.val
      · rw [if_pos h3] at h; cases h
      · rw [if_neg (by rw [h3]; simp)] at h
        cases h4 : badDay x
        · exact ⟨rfl, rfl, rfl, rfl⟩
        · rw [if_pos h4] at h; cases h
    · rw [if_pos h2] at h; cases h
theorem Good.oth {x : Fct} (h : Good x) : (x.oth = -1 ∨ (0 ≤ x.oth ∧ x.oth < 40)) ∧ 0 ≤ x.who ∧ x.who < 40 := by
  obtain ⟨_, h2, _, _⟩ := h.all
  unfold badKind perB at h2
  simp at h2
  obtain ⟨⟨⟨a, b⟩, c⟩, d⟩ := h2
  refine ⟨?_, a, b⟩
  by_cases e : x.oth = -1
  · exact .inl e
  · obtain ⟨c1, c2⟩ := c e
    exact .inr ⟨c1, c2⟩
theorem Good.days {x : Fct} (h : Good x) : 1 ≤ x.frm ∧ 1 ≤ x.lrn ∧ (x.til = 0 ∨ x.frm < x.til) := by
  obtain ⟨_, _, _, h4⟩ := h.all
  unfold badDay dyB at h4
  simp at h4
  obtain ⟨⟨⟨a, _⟩, ⟨b, _⟩⟩, c⟩ := h4
  refine ⟨a, b, ?_⟩
  by_cases e : x.til = 0
  · exact .inl e
  · exact .inr (c e).2
theorem keep_cases (L : List Fct) (x : Fct) : (addC L.length x = 0 ∧ keep L x = L ++ [x]) ∨ (addC L.length x ≠ 0 ∧ keep L x = L) := by
  unfold keep
  by_cases h : addC L.length x = 0
  · exact .inl ⟨h, by rw [if_pos h]⟩
  · exact .inr ⟨h, by rw [if_neg h]⟩
theorem keep_fold (l : List Fct) : ∀ L : List Fct, L.length ≤ 500 → (∀ x ∈ L, Good x) → (l.foldl keep L).length ≤ 500 ∧ (∀ x ∈ l.foldl keep L, Good x) := by
  induction l with
  | nil => intro L h1 h2; exact ⟨h1, h2⟩
  | cons x r ih =>
    intro L h1 h2
    rw [List.foldl_cons]
    rcases keep_cases L x with ⟨h, e⟩ | ⟨_, e⟩
    · rw [e]
      refine ih _ (by rw [List.length_append]; have := addC_bound h; simp; omega) ?_
      intro y hy
      rcases List.mem_append.1 hy with k | k
      · exact h2 y k
      · obtain rfl : y = x := by simpa using k
        exact addC_good h
    · rw [e]; exact ih L h1 h2
theorem files_ok (l : List Fct) : (filesL l).length ≤ 500 ∧ ∀ x ∈ filesL l, Good x := keep_fold l [] (by simp) (by simp)
theorem files_snoc (l : List Fct) (i : Nat) (x : Fct) (h : l[i]? = some x) : filesL (l.take (i + 1)) = keep (filesL (l.take i)) x := by
  obtain ⟨hi, e⟩ := List.getElem?_eq_some_iff.1 h
  unfold filesL
  rw [List.take_succ_eq_append_getElem hi, List.foldl_append, e]
  rfl

/-- Does a fact speak of this, on a day, as known? -/
def soB (x : Fct) (who : Int) (nm : ByteArray) (on known : Int) : Bool :=
  decide (x.who = who) && decide (x.nm = nm) && decide (x.lrn ≤ known) && decide (x.frm ≤ on) && (decide (x.til = 0) || decide (on < x.til))
def pick (b : Option Fct) (x : Fct) : Option Fct :=
  match b with
  | none => some x
  | some y => if y.lrn ≤ x.lrn then some x else some y
def stepL (who : Int) (nm : ByteArray) (oth on known : Int) (b : Option Fct) (x : Fct) : Option Fct :=
  if soB x who nm on known = true ∧ x.oth = oth then pick b x else b
def latestL (L : List Fct) (who : Int) (nm : ByteArray) (oth on known : Int) : Option Fct := L.foldl (stepL who nm oth on known) none
theorem latest_snoc (L : List Fct) (i : Nat) (x : Fct) (h : L[i]? = some x) (who : Int) (nm : ByteArray) (oth on known : Int) :
    latestL (L.take (i + 1)) who nm oth on known = stepL who nm oth on known (latestL (L.take i) who nm oth on known) x := by
  obtain ⟨hi, e⟩ := List.getElem?_eq_some_iff.1 h
  unfold latestL
  rw [List.take_succ_eq_append_getElem hi, List.foldl_append, e]
  rfl
theorem latest_mem (who : Int) (nm : ByteArray) (oth on known : Int) : ∀ (L : List Fct) (b : Option Fct) (x : Fct), L.foldl (stepL who nm oth on known) b = some x → b = some x ∨ (x ∈ L ∧ x.oth = oth ∧ soB x who nm on known = true)
  | [], b, x, h => .inl h
  | y :: r, b, x, h => by
    rw [List.foldl_cons] at h
    rcases latest_mem who nm oth on known r _ x h with k | ⟨k1, k2⟩
    · unfold stepL at k
      split at k
      · rename_i hc
        unfold pick at k
        split at k
        · injection k with k; subst k; exact .inr ⟨List.mem_cons_self .., hc.2, hc.1⟩
        · split at k
          · injection k with k; subst k; exact .inr ⟨List.mem_cons_self .., hc.2, hc.1⟩
          · exact .inl k
      · exact .inl k
    · exact .inr ⟨List.mem_cons_of_mem _ k1, k2⟩
theorem latest_in {L : List Fct} {who : Int} {nm : ByteArray} {oth on known : Int} {x : Fct} (h : latestL L who nm oth on known = some x) : x ∈ L ∧ x.oth = oth ∧ soB x who nm on known = true := by
  rcases latest_mem who nm oth on known L none x h with k | k
  · cases k
  · exact k

/-- Value's answers. -/
def valL (L : List Fct) (who : Int) (nm : ByteArray) (on known : Int) : Int × Bool := match latestL L who nm (-1) on known with | none => (0, false) | some x => (x.val, true)
/-- Does o stand so? -/
def stands (L : List Fct) (who : Int) (nm : ByteArray) (on known : Int) (o : Nat) : Bool := match latestL L who nm o on known with | none => false | some x => !decide (x.val = 0)
def othersL (L : List Fct) (who : Int) (nm : ByteArray) (on known : Int) : List Int := ((List.range 40).filter (stands L who nm on known)).map (fun o : Nat => (o : Int))

/-- Does a fact turn something? -/
def turnB (x : Fct) (who known : Int) : Bool := decide (x.lrn ≤ known) && (decide (who < 0) || decide (x.who = who))
def daysOf (x : Fct) : List Int := if x.til = 0 then [x.frm] else [x.frm, x.til]
def turnsRaw (L : List Fct) (who known : Int) : List Int := (L.filter (fun x => turnB x who known)).flatMap daysOf
/-- A day put into rising days. -/
def insL : List Int → Int → List Int
  | [], n => [n]
  | a :: r, n => if a < n then a :: insL r n else if a = n then n :: r else n :: a :: r
def turnsL (L : List Fct) (who known : Int) : List Int := (turnsRaw L who known).foldl insL []
def learntL (L : List Fct) : List Int := (L.map Fct.lrn).foldl insL []
def Rise : List Int → Prop := List.Pairwise (· < ·)
theorem ins_mem (n m : Int) : ∀ l : List Int, m ∈ insL l n ↔ m = n ∨ m ∈ l
  | [] => by simp [insL]
  | a :: r => by
    unfold insL
    split
    · rw [List.mem_cons, ins_mem n m r, List.mem_cons]; constructor <;> (intro h; rcases h with h | h | h <;> simp [h])
    · split
      · rename_i e; rw [e]; simp
      · simp
theorem ins_rise (n : Int) : ∀ l : List Int, Rise l → Rise (insL l n)
  | [], _ => by simp [insL, Rise]
  | a :: r, h => by
    unfold Rise at h ⊢
    have ht := (List.pairwise_cons.1 h)
    unfold insL
    split
    · rename_i hlt
      refine List.pairwise_cons.2 ⟨fun y hy => ?_, ins_rise n r ht.2⟩
      rcases (ins_mem n y r).1 hy with rfl | k
      · exact hlt
      · exact ht.1 y k
    · split
      · rename_i e; rw [← e]; exact h
      · refine List.pairwise_cons.2 ⟨fun y hy => ?_, h⟩
        rcases List.mem_cons.1 hy with rfl | k
        · omega
        · have := ht.1 y k; omega
theorem insF_mem (m : Int) : ∀ (l acc : List Int), m ∈ l.foldl insL acc ↔ m ∈ l ∨ m ∈ acc
  | [], acc => by simp
  | a :: r, acc => by
    rw [List.foldl_cons, insF_mem m r, ins_mem, List.mem_cons]
    constructor
    · rintro (h | h | h) <;> simp [h]
    · rintro ((h | h) | h) <;> simp [h]
theorem insF_rise : ∀ (l acc : List Int), Rise acc → Rise (l.foldl insL acc)
  | [], acc, h => h
  | a :: r, acc, h => by rw [List.foldl_cons]; exact insF_rise r _ (ins_rise a acc h)
theorem rise_eq : ∀ {l₁ l₂ : List Int}, Rise l₁ → Rise l₂ → (∀ m, m ∈ l₁ ↔ m ∈ l₂) → l₁ = l₂
  | [], [], _, _, _ => rfl
  | [], b :: s, _, _, h => by have := (h b).2 (List.mem_cons_self ..); cases this
  | a :: r, [], _, _, h => by have := (h a).1 (List.mem_cons_self ..); cases this
  | a :: r, b :: s, h1, h2, h => by
    unfold Rise at h1 h2
    have p1 := List.pairwise_cons.1 h1
    have p2 := List.pairwise_cons.1 h2
    have e : a = b := by
      rcases List.mem_cons.1 ((h a).1 (List.mem_cons_self ..)) with k | k
      · exact k
      · rcases List.mem_cons.1 ((h b).2 (List.mem_cons_self ..)) with k' | k'
        · exact k'.symm
        · have := p1.1 b k'; have := p2.1 a k; omega
    subst e
    congr 1
    refine rise_eq p1.2 p2.2 fun m => ⟨fun hm => ?_, fun hm => ?_⟩
    · rcases List.mem_cons.1 ((h m).1 (List.mem_cons_of_mem _ hm)) with k | k
      · have := p1.1 m hm; omega
      · exact k
    · rcases List.mem_cons.1 ((h m).2 (List.mem_cons_of_mem _ hm)) with k | k
      · have := p2.1 m hm; omega
      · exact k
theorem others_rise (L : List Fct) (who : Int) (nm : ByteArray) (on known : Int) : Rise (othersL L who nm on known) := by
  unfold Rise othersL
  refine List.pairwise_map.2 (List.Pairwise.imp ?_ ((List.pairwise_lt_range (n := 40)).filter _))
  intro a b h
  omega
theorem others_mem (L : List Fct) (who : Int) (nm : ByteArray) (on known : Int) (m : Int) : m ∈ othersL L who nm on known ↔ 0 ≤ m ∧ m < 40 ∧ ∃ x, latestL L who nm m on known = some x ∧ x.val ≠ 0 := by
  unfold othersL
  rw [List.mem_map]
  constructor
  · rintro ⟨o, ho, rfl⟩
    rw [List.mem_filter, List.mem_range] at ho
    refine ⟨by omega, by omega, ?_⟩
    have h2 := ho.2
    unfold stands at h2
    cases hl : latestL L who nm o on known with
    | none => rw [hl] at h2; cases h2
    | some x => rw [hl] at h2; exact ⟨x, rfl, by simpa using h2⟩
  · rintro ⟨h1, h2, x, hx, hv⟩
    refine ⟨m.toNat, ?_, by omega⟩
    rw [List.mem_filter, List.mem_range]
    refine ⟨by omega, ?_⟩
    unfold stands
    rw [show ((m.toNat : Nat) : Int) = m by omega, hx]
    simpa using hv
end Go.Proofs.YtcfeflkhmncmjaaGreatDoor

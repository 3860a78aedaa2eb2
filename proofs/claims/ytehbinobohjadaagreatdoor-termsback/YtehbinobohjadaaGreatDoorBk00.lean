/-
  Sentences: what a line says: plain, no program. Tokens, a parser with its first fault.
-/
import Derived.WalkKit
import Derived.Test.YtehbinobohjadaaGreatDoorProg
import Derived.Lib.Bytes
import Derived.Lib.ItoaNum
import Derived.Laws.OwnMore
import Derived.OneCell
import Derived.BigQuiet
import Derived.Deep.RegionLaw
import Derived.Deep.DeepCutAuto
namespace Go.Proofs.YtehbinobohjadaaGreatDoor
open Go.RowKit Go.Extern.Stop Go.Stop Go.Extern

/-- A word, a number, a sign, the end, a bad one. -/
inductive TK where
  | w | n | s | e | b
  deriving DecidableEq
structure Tok where
  kind : TK
  text : ByteArray
  pos : Nat
  code : Nat
/-- A node of a condition, or of a sum. -/
inductive Nd where
  | mk (kind word : ByteArray) (n : Nat) (kids : List Nd)
def Nd.kind : Nd → ByteArray | .mk a _ _ _ => a
def Nd.word : Nd → ByteArray | .mk _ b _ _ => b
def Nd.num : Nd → Nat | .mk _ _ c _ => c
def Nd.kids : Nd → List Nd | .mk _ _ _ d => d
def Nd.zero : Nd := .mk ⟨#[]⟩ ⟨#[]⟩ 0 []
/-- What a step of the parser comes to: no fuel, a fault, or what was read, the next token's number, how deep. -/
inductive PR (α : Type) where
  | out
  | bad (c a : Nat)
  | ok (x : α) (k n : Nat)
def PR.bind {α β : Type} (r : PR α) (f : α → Nat → Nat → PR β) : PR β := match r with
  | .out => .out
  | .bad c a => .bad c a
  | .ok x k n => f x k n
theorem PR.bind_ok {α β : Type} (x : α) (k n : Nat) (f : α → Nat → Nat → PR β) : (PR.ok x k n).bind f = f x k n := rfl
theorem PR.bind_bad {α β : Type} (c a : Nat) (f : α → Nat → Nat → PR β) : (PR.bad c a : PR α).bind f = .bad c a := rfl
theorem PR.bind_not {α β : Type} {r : PR α} {f : α → Nat → Nat → PR β} (h : r.bind f ≠ .out) : r ≠ .out := by
  rintro rfl
  exact h rfl

/-- Words as bytes. -/
def wIf : ByteArray := ⟨#[105, 102]⟩
def wOver : ByteArray := ⟨#[111, 118, 101, 114]⟩
def wRound : ByteArray := ⟨#[114, 111, 117, 110, 100]⟩
def wWithin : ByteArray := ⟨#[119, 105, 116, 104, 105, 110]⟩
def wElse : ByteArray := ⟨#[101, 108, 115, 101]⟩
def wNot : ByteArray := ⟨#[110, 111, 116]⟩
def wOr : ByteArray := ⟨#[111, 114]⟩
def wAnd : ByteArray := ⟨#[97, 110, 100]⟩
def wSome : ByteArray := ⟨#[115, 111, 109, 101]⟩
def wEvery : ByteArray := ⟨#[101, 118, 101, 114, 121]⟩
def wCount : ByteArray := ⟨#[99, 111, 117, 110, 116]⟩
def wTotal : ByteArray := ⟨#[116, 111, 116, 97, 108]⟩
def wOf : ByteArray := ⟨#[111, 102]⟩
def wMax : ByteArray := ⟨#[109, 97, 120]⟩
def wMin : ByteArray := ⟨#[109, 105, 110]⟩
def wName : ByteArray := ⟨#[110, 97, 109, 101]⟩
def wNumber : ByteArray := ⟨#[110, 117, 109, 98, 101, 114]⟩
def wStrict : ByteArray := ⟨#[115, 116, 114, 105, 99, 116]⟩
def wDefeater : ByteArray := ⟨#[100, 101, 102, 101, 97, 116, 101, 114]⟩
def wDefine : ByteArray := ⟨#[100, 101, 102, 105, 110, 101]⟩
def wRule : ByteArray := ⟨#[114, 117, 108, 101]⟩
def wAmount : ByteArray := ⟨#[97, 109, 111, 117, 110, 116]⟩
def wDuty : ByteArray := ⟨#[100, 117, 116, 121]⟩
def wDown : ByteArray := ⟨#[100, 111, 119, 110]⟩
def wUp : ByteArray := ⟨#[117, 112]⟩
def wFloor : ByteArray := ⟨#[102, 108, 111, 111, 114]⟩
def wCeil : ByteArray := ⟨#[99, 101, 105, 108]⟩
def wHalfUp : ByteArray := ⟨#[104, 97, 108, 102, 95, 117, 112]⟩
def wHalfEven : ByteArray := ⟨#[104, 97, 108, 102, 95, 101, 118, 101, 110]⟩
def wDays : ByteArray := ⟨#[100, 97, 121, 115]⟩
def wWorking : ByteArray := ⟨#[119, 111, 114, 107, 105, 110, 103]⟩
def wWeeks : ByteArray := ⟨#[119, 101, 101, 107, 115]⟩
def wMonths : ByteArray := ⟨#[109, 111, 110, 116, 104, 115]⟩
def wYears : ByteArray := ⟨#[121, 101, 97, 114, 115]⟩
def wNext : ByteArray := ⟨#[110, 101, 120, 116]⟩
def wBefore : ByteArray := ⟨#[98, 101, 102, 111, 114, 101]⟩
def sg (c : UInt8) : ByteArray := ⟨#[c]⟩
def sg2 (c d : UInt8) : ByteArray := ⟨#[c, d]⟩
def eqB (a b : ByteArray) : Bool := a.toList == b.toList
/-- The first place of a text in a list. -/
def placeIn (l : List ByteArray) (s : ByteArray) : Option Nat := l.findIdx? fun x => eqB x s
def gramW : List ByteArray := [wDefine, wRule, wAmount, wDuty, wStrict, wDefeater, wIf, wOver, wRound, wWithin, wElse, wNot, wOr, wAnd, wSome, wEvery, wCount, wTotal, wOf, wMax, wMin, wDown, wUp, wFloor, wCeil, wHalfUp, wHalfEven, wDays, wWorking, wWeeks, wMonths, wYears, wNext, wBefore]
def kindsW : List ByteArray := [wDefine, wRule, wAmount, wDuty]
def waysW : List ByteArray := [wDown, wUp, wFloor, wCeil, wHalfUp, wHalfEven]
def unitsW : List ByteArray := [wDays, wWorking, wWeeks, wMonths, wYears]
def ordersW : List ByteArray := [sg 60, sg2 60 61, sg 61, sg2 60 62, sg2 62 61, sg 62]
/-- A number's text in hundredths: what is read so far, how many digits behind the point (none: no point yet). -/
def hunGo : List UInt8 → Nat → Bool → Nat × Bool
  | [], n, p => (n, p)
  | c :: r, n, p => if c = 46 then hunGo r n true else hunGo r (n * 10 + (c.toNat - 48)) p
def hunB (s : ByteArray) : Nat := let x := hunGo s.data.toList 0 false; if x.2 then x.1 else x.1 * 100
def pointB (s : ByteArray) : Bool := s.data.toList.any (· == 46)

section
variable (L : List Tok)
def endTok : Tok := ⟨.e, ⟨#[]⟩, 0, 0⟩
def tokAt (k : Nat) : Tok := L[k]?.getD endTok
def nextK (k : Nat) : Nat := if k + 1 < L.length then k + 1 else k
def stepP (k n : Nat) : PR Unit := if (tokAt L (nextK L k)).kind = .b then .bad (tokAt L (nextK L k)).code (tokAt L (nextK L k)).pos else .ok () (nextK L k) n
def isP (s : ByteArray) (k : Nat) : Bool := decide ((tokAt L k).kind ≠ .e) && eqB (tokAt L k).text s
def wrongP {α : Type} (k : Nat) : PR α := .bad 1 (tokAt L k).pos
def takeP (s : ByteArray) (k n : Nat) : PR Bool := if isP L s k = true then (stepP L k n).bind fun _ k n => .ok true k n else .ok false k n
def needP (s : ByteArray) (k n : Nat) : PR Unit := if isP L s k = true then stepP L k n else wrongP L k
def nameP (k n : Nat) : PR ByteArray := if (tokAt L k).kind = .w ∧ placeIn gramW (tokAt L k).text = none then (stepP L k n).bind fun _ k' n => .ok (tokAt L k).text k' n else wrongP L k
def deeperP (k n : Nat) : PR Unit := if n = 40 then .bad 2 (tokAt L k).pos else .ok () k (n + 1)
mutual
def eitherP : Nat → Nat → Nat → PR Nd
  | 0, _, _ => .out
  | f + 1, k, n => (bothP f k n).bind fun x k n => orLoop f x k n
def orLoop : Nat → Nd → Nat → Nat → PR Nd
  | 0, _, _, _ => .out
  | f + 1, x, k, n => (takeP L wOr k n).bind fun b k n => if b = true then (bothP f k n).bind fun m k n => orLoop f (.mk wOr ⟨#[]⟩ 0 [x, m]) k n else .ok x k n
def bothP : Nat → Nat → Nat → PR Nd
  | 0, _, _ => .out
  | f + 1, k, n => (unlessP f k n).bind fun x k n => andLoop f x k n
def andLoop : Nat → Nd → Nat → Nat → PR Nd
  | 0, _, _, _ => .out
  | f + 1, x, k, n => (takeP L wAnd k n).bind fun b k n => if b = true then (unlessP f k n).bind fun m k n => andLoop f (.mk wAnd ⟨#[]⟩ 0 [x, m]) k n else .ok x k n
def unlessP : Nat → Nat → Nat → PR Nd
  | 0, _, _ => .out
  | f + 1, k, n => if isP L wNot k = true then (deeperP L k n).bind fun _ k n => (stepP L k n).bind fun _ k n => (unlessP f k n).bind fun x k n => .ok (.mk wNot ⟨#[]⟩ 0 [x]) k (n - 1) else testP f k n
def testP : Nat → Nat → Nat → PR Nd
  | 0, _, _ => .out
  | f + 1, k, n =>
    if eqB (tokAt L k).text (sg 40) = true then (deeperP L k n).bind fun _ k n => (stepP L k n).bind fun _ k n => (eitherP f k n).bind fun x k n => (needP L (sg 41) k (n - 1)).bind fun _ k n => .ok x k n
    else if eqB (tokAt L k).text wSome = true ∨ eqB (tokAt L k).text wEvery = true then
      (deeperP L k n).bind fun _ k1 n => (stepP L k1 n).bind fun _ k2 n => (nameP L k2 n).bind fun w k3 n => (needP L (sg 40) k3 n).bind fun _ k4 n => (eitherP f k4 n).bind fun x k5 n => (needP L (sg 41) k5 (n - 1)).bind fun _ k6 n => .ok (.mk (tokAt L k).text w 0 [x]) k6 n
    else (sumP f k n).bind fun a k1 n =>
      if (tokAt L k1).kind = .s ∧ placeIn ordersW (tokAt L k1).text ≠ none then (stepP L k1 n).bind fun _ k2 n => (sumP f k2 n).bind fun b k3 n => .ok (.mk (tokAt L k1).text ⟨#[]⟩ 0 [a, b]) k3 n
      else if eqB a.kind wName = true ∧ eqB (tokAt L k).text a.word = true then .ok a k1 n else wrongP L k1
def sumP : Nat → Nat → Nat → PR Nd
  | 0, _, _ => .out
  | f + 1, k, n => (partP f k n).bind fun x k n => sumLoop f x k n
def sumLoop : Nat → Nd → Nat → Nat → PR Nd
  | 0, _, _, _ => .out
  | f + 1, x, k, n => if (tokAt L k).kind = .s ∧ (eqB (tokAt L k).text (sg 43) = true ∨ eqB (tokAt L k).text (sg 45) = true) then (stepP L k n).bind fun _ k1 n => (partP f k1 n).bind fun m k2 n => sumLoop f (.mk (tokAt L k).text ⟨#[]⟩ 0 [x, m]) k2 n else .ok x k n
def partP : Nat → Nat → Nat → PR Nd
  | 0, _, _ => .out
  | f + 1, k, n => (factorP f k n).bind fun x k n => partLoop f x k n
def partLoop : Nat → Nd → Nat → Nat → PR Nd
  | 0, _, _, _ => .out
  | f + 1, x, k, n => (takeP L (sg 42) k n).bind fun b k n => if b = true then
      (if (tokAt L k).kind = .n then (if 1000000 < hunB (tokAt L k).text then .bad 2 (tokAt L k).pos else (stepP L k n).bind fun _ k1 n => (needP L (sg 37) k1 n).bind fun _ k2 n => partLoop f (.mk (sg 42) ⟨#[]⟩ (hunB (tokAt L k).text) [x]) k2 n) else wrongP L k)
    else .ok x k n
def factorP : Nat → Nat → Nat → PR Nd
  | 0, _, _ => .out
  | f + 1, k, n =>
    if (tokAt L k).kind = .n then (if 1000000000000 < hunB (tokAt L k).text then .bad 2 (tokAt L k).pos else (stepP L k n).bind fun _ k1 n => .ok (.mk wNumber ⟨#[]⟩ (hunB (tokAt L k).text) []) k1 n)
    else if eqB (tokAt L k).text wCount = true then (stepP L k n).bind fun _ k1 n => (nameP L k1 n).bind fun w k2 n => .ok (.mk wCount w 0 []) k2 n
    else if eqB (tokAt L k).text wTotal = true then (stepP L k n).bind fun _ k1 n => (nameP L k1 n).bind fun w k2 n => (needP L wOf k2 n).bind fun _ k3 n => (nameP L k3 n).bind fun o k4 n => .ok (.mk wTotal w 0 [.mk wName o 0 []]) k4 n
    else if eqB (tokAt L k).text wMax = true ∨ eqB (tokAt L k).text wMin = true then (deeperP L k n).bind fun _ k1 n => (stepP L k1 n).bind fun _ k2 n => (needP L (sg 40) k2 n).bind fun _ k3 n => (sumP f k3 n).bind fun a k4 n => (needP L (sg 44) k4 n).bind fun _ k5 n => (sumP f k5 n).bind fun b k6 n => (needP L (sg 41) k6 (n - 1)).bind fun _ k7 n => .ok (.mk (tokAt L k).text ⟨#[]⟩ 0 [a, b]) k7 n
    else if eqB (tokAt L k).text (sg 91) = true then (deeperP L k n).bind fun _ k1 n => (stepP L k1 n).bind fun _ k2 n => (sumP f k2 n).bind fun x k3 n => (needP L (sg 93) k3 (n - 1)).bind fun _ k4 n => .ok x k4 n
    else (nameP L k n).bind fun w k n => .ok (.mk wName w 0 []) k n
end
end
end Go.Proofs.YtehbinobohjadaaGreatDoor
namespace Go.Proofs.YtehbinobohjadaaGreatDoor
open Go.RowKit Go.Extern.Stop Go.Stop Go.Extern

def lowC (c : UInt8) : Bool := decide (97 ≤ c.toNat) && decide (c.toNat ≤ 122)
def numC (c : UInt8) : Bool := decide (48 ≤ c.toNat) && decide (c.toNat ≤ 57)
def wordC (c : UInt8) : Bool := lowC c || numC c || decide (c.toNat = 95)
def signsL : List UInt8 := [58, 44, 40, 41, 60, 61, 62, 43, 45, 42, 37, 59, 91, 93]
def pointL : List UInt8 → Bool
  | a :: b :: c :: _ => decide (a.toNat = 46) && numC b && numC c
  | _ => false
def twoL : List UInt8 → Bool
  | a :: b :: _ => decide ((a = 60 ∧ b = 61) ∨ (a = 60 ∧ b = 62) ∨ (a = 62 ∧ b = 61))
  | _ => false
/-- A token's kind, its error's number, how long it is. -/
def tokOf (c : UInt8) (r : List UInt8) : TK × Nat × Nat :=
  if lowC c = true then
    let n := 1 + (r.takeWhile wordC).length
    if 24 < n then (.b, 2, n) else (.w, 0, n)
  else if numC c = true then
    let n := 1 + (r.takeWhile numC).length
    let m := if pointL (r.drop (n - 1)) = true then n + 3 else n
    if 12 < n then (.b, 2, m) else (.n, 0, m)
  else if twoL (c :: r) = true then (.s, 0, 2)
  else if signsL.contains c = true then (.s, 0, 1)
  else (.b, 1, 1)
def toksGo : Nat → List UInt8 → Nat → List Tok
  | 0, _, p => [⟨.e, ⟨#[]⟩, p, 0⟩]
  | f + 1, l, p =>
    let b := (l.takeWhile (· == 32)).length
    match l.drop b with
    | [] => [⟨.e, ⟨#[]⟩, p + b, 0⟩]
    | c :: r => ⟨(tokOf c r).1, ⟨((c :: r).take (tokOf c r).2.2).toArray⟩, p + b, (tokOf c r).2.1⟩ :: toksGo f ((c :: r).drop (tokOf c r).2.2) (p + b + (tokOf c r).2.2)
/-- The tokens of a line from a place on. -/
def toksB (s : ByteArray) (p : Nat) : List Tok := toksGo (s.size + 1) (s.data.toList.drop p) p
/-- A sentence. -/
structure SentW where
  kind : ByteArray
  name : ByteArray := ⟨#[]⟩
  strength : Nat := 0
  positive : Bool := false
  head : ByteArray := ⟨#[]⟩
  cond : Nd := Nd.zero
  sum : Nd := Nd.zero
  way : Nat := 4
  over : List ByteArray := []
  tn : Nat := 0
  tu : Nat := 0
  tr : Nat := 0
  els : ByteArray := ⟨#[]⟩
section
variable (L : List Tok)
end
/-- What a line says: nothing, a fault, a sentence. -/
inductive SOut where
  | none
  | bad (c a : Nat)
  | ok (s : SentW)
end Go.Proofs.YtehbinobohjadaaGreatDoor
namespace Go.Proofs.YtehbinobohjadaaGreatDoor
open Go.RowKit Go.Extern.Stop Go.Stop Go.Extern

/-- How many bytes stand ahead of the point. -/
def wholeN (s : ByteArray) : Nat := (s.data.toList.takeWhile (· != 46)).length
def sumsW : List ByteArray := [sg 43, sg 45, sg 42]
section
variable (L : List Tok)
def badQ {α : Type} : PR α := .bad 0 0
def isQ (s : ByteArray) (k : Nat) : Bool := eqB (tokAt L k).text s
def needQ (s : ByteArray) (k n : Nat) : PR Unit := if isQ L s k = true then .ok () (k + 1) n else badQ
def nameTok (k : Nat) : Bool := decide ((tokAt L k).kind = .w) && (placeIn gramW (tokAt L k).text).isNone
def nameQ (k n : Nat) : PR ByteArray := if nameTok L k = true ∧ (tokAt L k).text.size ≤ 24 then .ok (tokAt L k).text (k + 1) n else badQ
def numberQ (k n : Nat) : PR Nat := if (tokAt L k).kind = .n ∧ wholeN (tokAt L k).text ≤ 12 ∧ hunB (tokAt L k).text ≤ 1000000000000 then .ok (hunB (tokAt L k).text) (k + 1) n else badQ
def rateQ (k n : Nat) : PR Nat := (numberQ L k n).bind fun x k n => (needQ L (sg 37) k n).bind fun _ k n => if x ≤ 1000000 then .ok x k n else badQ
def enterQ (k n : Nat) : PR ByteArray := if n = 40 then badQ else .ok (tokAt L k).text (k + 1) (n + 1)
def leaveQ (s : ByteArray) (k n : Nat) : PR Unit := (needQ L s k n).bind fun _ k n => .ok () k (n - 1)
def aloneQ (k : Nat) : Bool := nameTok L k && (placeIn ordersW (tokAt L (k + 1)).text).isNone && (placeIn sumsW (tokAt L (k + 1)).text).isNone
def totalQ (k n : Nat) : PR Nd := (nameQ L k n).bind fun w k n => (needQ L wOf k n).bind fun _ k n => (nameQ L k n).bind fun o k n => .ok (.mk wTotal w 0 [.mk wName o 0 []]) k n
mutual
def eitherQ : Nat → Nat → Nat → PR Nd
  | 0, _, _ => .out
  | f + 1, k, n => (bothQ f k n).bind fun x k n => orLoopQ f x k n
def orLoopQ : Nat → Nd → Nat → Nat → PR Nd
  | 0, _, _, _ => .out
  | f + 1, x, k, n => if isQ L wOr k = true then (bothQ f (k + 1) n).bind fun m k n => orLoopQ f (.mk wOr ⟨#[]⟩ 0 [x, m]) k n else .ok x k n
def bothQ : Nat → Nat → Nat → PR Nd
  | 0, _, _ => .out
  | f + 1, k, n => (unlessQ f k n).bind fun x k n => andLoopQ f x k n
def andLoopQ : Nat → Nd → Nat → Nat → PR Nd
  | 0, _, _, _ => .out
  | f + 1, x, k, n => if isQ L wAnd k = true then (unlessQ f (k + 1) n).bind fun m k n => andLoopQ f (.mk wAnd ⟨#[]⟩ 0 [x, m]) k n else .ok x k n
def unlessQ : Nat → Nat → Nat → PR Nd
  | 0, _, _ => .out
  | f + 1, k, n => if isQ L wNot k = true then (enterQ L k n).bind fun _ k n => (unlessQ f k n).bind fun x k n => .ok (.mk wNot ⟨#[]⟩ 0 [x]) k (n - 1) else testQ f k n
def testQ : Nat → Nat → Nat → PR Nd
  | 0, _, _ => .out
  | f + 1, k, n =>
    if isQ L (sg 40) k = true then (enterQ L k n).bind fun _ k n => (eitherQ f k n).bind fun x k n => (leaveQ L (sg 41) k n).bind fun _ k n => .ok x k n
    else if isQ L wSome k = true ∨ isQ L wEvery k = true then othersQ f k n
    else if aloneQ L k = true then (nameQ L k n).bind fun w k n => .ok (.mk wName w 0 []) k n
    else compQ f k n
def othersQ : Nat → Nat → Nat → PR Nd
  | 0, _, _ => .out
  | f + 1, k, n => (enterQ L k n).bind fun d k n => (nameQ L k n).bind fun w k n => (needQ L (sg 40) k n).bind fun _ k n => (eitherQ f k n).bind fun x k n => (leaveQ L (sg 41) k n).bind fun _ k n => .ok (.mk d w 0 [x]) k n
def compQ : Nat → Nat → Nat → PR Nd
  | 0, _, _ => .out
  | f + 1, k, n => (sumQ f k n).bind fun a k n => if (placeIn ordersW (tokAt L k).text).isSome = true then (sumQ f (k + 1) n).bind fun b k1 n => .ok (.mk (tokAt L k).text ⟨#[]⟩ 0 [a, b]) k1 n else badQ
def sumQ : Nat → Nat → Nat → PR Nd
  | 0, _, _ => .out
  | f + 1, k, n => (partQ f k n).bind fun x k n => sumLoopQ f x k n
def sumLoopQ : Nat → Nd → Nat → Nat → PR Nd
  | 0, _, _, _ => .out
  | f + 1, x, k, n => if isQ L (sg 43) k = true ∨ isQ L (sg 45) k = true then (partQ f (k + 1) n).bind fun m k1 n => sumLoopQ f (.mk (tokAt L k).text ⟨#[]⟩ 0 [x, m]) k1 n else .ok x k n
def partQ : Nat → Nat → Nat → PR Nd
  | 0, _, _ => .out
  | f + 1, k, n => (factorQ f k n).bind fun x k n => partLoopQ f x k n
def partLoopQ : Nat → Nd → Nat → Nat → PR Nd
  | 0, _, _, _ => .out
  | f + 1, x, k, n => if isQ L (sg 42) k = true then (rateQ L (k + 1) n).bind fun r k n => partLoopQ f (.mk (sg 42) ⟨#[]⟩ r [x]) k n else .ok x k n
def factorQ : Nat → Nat → Nat → PR Nd
  | 0, _, _ => .out
  | f + 1, k, n =>
    if (tokAt L k).kind = .n then (numberQ L k n).bind fun x k n => .ok (.mk wNumber ⟨#[]⟩ x []) k n
    else if isQ L wCount k = true then (nameQ L (k + 1) n).bind fun w k n => .ok (.mk wCount w 0 []) k n
    else if isQ L wTotal k = true then totalQ L (k + 1) n
    else if isQ L wMax k = true ∨ isQ L wMin k = true then greatQ f k n
    else if isQ L (sg 91) k = true then (enterQ L k n).bind fun _ k n => (sumQ f k n).bind fun x k n => (leaveQ L (sg 93) k n).bind fun _ k n => .ok x k n
    else (nameQ L k n).bind fun w k n => .ok (.mk wName w 0 []) k n
def greatQ : Nat → Nat → Nat → PR Nd
  | 0, _, _ => .out
  | f + 1, k, n => (enterQ L k n).bind fun d k n => (needQ L (sg 40) k n).bind fun _ k n => (sumQ f k n).bind fun a k n => (needQ L (sg 44) k n).bind fun _ k n => (sumQ f k n).bind fun b k n => (leaveQ L (sg 41) k n).bind fun _ k n => .ok (.mk d ⟨#[]⟩ 0 [a, b]) k n
end
end
end Go.Proofs.YtehbinobohjadaaGreatDoor
namespace Go.Proofs.YtehbinobohjadaaGreatDoor
open Go.RowKit Go.Extern.Stop Go.Stop Go.Extern

/-- A node, whatever number it has. -/
inductive Tn where
  | mk (kind word : ByteArray) (n : Int) (kids : List Tn)
def Tn.kind : Tn → ByteArray | .mk a _ _ _ => a
def Tn.word : Tn → ByteArray | .mk _ b _ _ => b
def Tn.num : Tn → Int | .mk _ _ c _ => c
def Tn.kids : Tn → List Tn | .mk _ _ _ d => d
/-- What is written so far: the tokens, their bytes, how deep it is. -/
structure WS where
  ts : List ByteArray
  z : Nat
  d : Nat
def putR (s : WS) (x : ByteArray) : Option WS := if x.size = 0 ∨ 300 < s.z + x.size then none else some ⟨s.ts ++ [x], s.z + x.size, s.d⟩
def putsR : WS → List ByteArray → Option WS
  | s, [] => some s
  | s, x :: l => (putR s x).bind fun s => putsR s l
def enterR (s : WS) : Option WS := if 300 < s.d + 1 then none else some ⟨s.ts, s.z, s.d + 1⟩
def leaveR (s : WS) : WS := ⟨s.ts, s.z, s.d - 1⟩
/-- How close a condition, a sum holds together. -/
def lvC (k : ByteArray) : Nat := if eqB k wOr = true then 0 else if eqB k wAnd = true then 1 else if eqB k wNot = true then 2 else 3
def lvS (k : ByteArray) : Nat := if eqB k (sg 43) = true ∨ eqB k (sg 45) = true then 0 else if eqB k (sg 42) = true then 1 else 2
def brS (k : ByteArray) (lv : Nat) (go : WS → Option WS) (s : WS) : Option WS := if lvS k < lv then (putR s (sg 91)).bind fun s => (go s).bind fun s => putR s (sg 93) else go s
def brC (k : ByteArray) (lv : Nat) (go : WS → Option WS) (s : WS) : Option WS := if lvC k < lv then (putR s (sg 40)).bind fun s => (go s).bind fun s => putR s (sg 41) else go s
/-- A whole number's text. -/
def itoaB (n : Int) : ByteArray := ⟨(Lib.itoa n).toArray⟩
/-- A number of hundredths, as it is written. -/
def numT (n : Int) : ByteArray := if n.tmod 100 = 0 then itoaB (n.tdiv 100) else itoaB (n.tdiv 100) ++ ⟨#[46]⟩ ++ itoaB ((n.tmod 100).tdiv 10) ++ itoaB (n.tmod 10)
def sumG : Tn → WS → Option WS
  | .mk k w n ks, s => (enterR s).bind fun s => Option.map leaveR (
    if eqB k (sg 43) = true ∨ eqB k (sg 45) = true then (match ks with
      | a :: b :: _ => (brS a.kind 0 (sumG a) s).bind fun s => (putR s k).bind fun s => brS b.kind 1 (sumG b) s
      | _ => none)
    else if eqB k (sg 42) = true then (match ks with
      | a :: _ => (brS a.kind 1 (sumG a) s).bind fun s => putsR s [sg 42, numT n, sg 37]
      | _ => none)
    else if eqB k wNumber = true then putR s (numT n)
    else if eqB k wName = true then putR s w
    else if eqB k wCount = true then putsR s [wCount, w]
    else if eqB k wTotal = true then (match ks with
      | a :: _ => putsR s [wTotal, w, wOf, a.word]
      | _ => none)
    else if eqB k wMax = true ∨ eqB k wMin = true then (match ks with
      | a :: b :: _ => (putsR s [k, sg 40]).bind fun s => (brS a.kind 0 (sumG a) s).bind fun s => (putR s (sg 44)).bind fun s => (brS b.kind 0 (sumG b) s).bind fun s => putR s (sg 41)
      | _ => none)
    else none)
termination_by t => SizeOf.sizeOf t
decreasing_by all_goals (simp; omega)
def sumR (t : Tn) (lv : Nat) (s : WS) : Option WS := brS t.kind lv (sumG t) s
def condG : Tn → WS → Option WS
  | .mk k w _ ks, s => (enterR s).bind fun s => Option.map leaveR (
    if eqB k wOr = true ∨ eqB k wAnd = true then (match ks with
      | a :: b :: _ => (brC a.kind (lvC k) (condG a) s).bind fun s => (putR s k).bind fun s => brC b.kind (lvC k + 1) (condG b) s
      | _ => none)
    else if eqB k wNot = true then (match ks with
      | a :: _ => (putR s wNot).bind fun s => brC a.kind 2 (condG a) s
      | _ => none)
    else if eqB k wSome = true ∨ eqB k wEvery = true then (match ks with
      | a :: _ => (putsR s [k, w, sg 40]).bind fun s => (brC a.kind 0 (condG a) s).bind fun s => putR s (sg 41)
      | _ => none)
    else if eqB k wName = true then putR s w
    else if (placeIn ordersW k).isSome = true then (match ks with
      | a :: b :: _ => (sumR a 0 s).bind fun s => (putR s k).bind fun s => sumR b 0 s
      | _ => none)
    else none)
termination_by t => SizeOf.sizeOf t
decreasing_by all_goals (simp; omega)
def condR (t : Tn) (lv : Nat) (s : WS) : Option WS := brC t.kind lv (condG t) s
/-- A sentence, whatever its numbers are. -/
structure SentT where
  kind : ByteArray
  name : ByteArray
  strength : Int
  positive : Bool
  head : ByteArray
  cond : Tn
  sum : Tn
  way : Int
  over : List ByteArray
  tn : Int
  tu : Int
  tr : Int
  els : ByteArray
def wordR (l : List ByteArray) (n : Int) : Option ByteArray := if n < 0 then none else l[n.toNat]?
def litR (x : SentT) (s : WS) : Option WS := (if x.positive = true then some s else putR s wNot).bind fun s => putR s x.head
def ifR (t : Tn) (s : WS) : Option WS := if t.kind.size = 0 then some s else (putR s wIf).bind fun s => condR t 0 s
def overR : Bool → List ByteArray → WS → Option WS
  | _, [], s => some s
  | true, x :: l, s => (putsR s [sg 59, wOver, x]).bind fun s => overR false l s
  | false, x :: l, s => (putsR s [sg 44, x]).bind fun s => overR false l s
def ruleR (x : SentT) (s : WS) : Option WS :=
  (if x.strength = 1 then some s else (wordR [wStrict, ⟨#[]⟩, wDefeater] x.strength).bind fun t => putR s t).bind fun s => (putR s (sg 58)).bind fun s => (litR x s).bind fun s => (ifR x.cond s).bind fun s => overR true x.over s
def amountR (x : SentT) (s : WS) : Option WS :=
  (putR s (sg 58)).bind fun s => (sumR x.sum 0 s).bind fun s => (ifR x.cond s).bind fun s => if x.way = 4 then some s else (wordR waysW x.way).bind fun t => putsR s [sg 59, wRound, t]
def dutyR (x : SentT) (s : WS) : Option WS :=
  (putR s (sg 58)).bind fun s => (litR x s).bind fun s => (wordR unitsW x.tu).bind fun u => (putsR s [wWithin, itoaB x.tn, u]).bind fun s =>
    (if x.tr = 0 then some s else (wordR [⟨#[]⟩, wNext, wBefore] x.tr).bind fun t => putsR s [sg 44, t]).bind fun s => if x.els.size = 0 then some s else putsR s [wElse, x.els]
/-- A sentence's tokens. -/
def sentR (x : SentT) : Option WS := (putsR ⟨[], 0, 0⟩ [x.kind, x.name]).bind fun s =>
  if eqB x.kind wDefine = true then (putR s (sg 58)).bind fun s => condR x.cond 0 s
  else if eqB x.kind wRule = true then ruleR x s
  else if eqB x.kind wAmount = true then amountR x s
  else if eqB x.kind wDuty = true then dutyR x s
  else none
end Go.Proofs.YtehbinobohjadaaGreatDoor
namespace Go.Proofs.YtehbinobohjadaaGreatDoor
open Go.RowKit Go.Extern.Stop Go.Stop Go.Extern

/-- A provision: its label, its heading, its lines, its kids. -/
inductive It where
  | mk (label head : ByteArray) (lines : List ByteArray) (kids : List It)
def It.label : It → ByteArray | .mk a _ _ _ => a
def It.head : It → ByteArray | .mk _ b _ _ => b
def It.lines : It → List ByteArray | .mk _ _ c _ => c
def It.kids : It → List It | .mk _ _ _ d => d
def It.none : It := .mk ⟨#[]⟩ ⟨#[]⟩ [] []
end Go.Proofs.YtehbinobohjadaaGreatDoor
namespace Go.Proofs.YtehbinobohjadaaGreatDoor
open Go.RowKit Go.Extern.Stop Go.Stop Go.Extern

theorem hidLL {p : Prop} (h : p) : Hid p := h
/-- All blocks below B are as they were, but for one. -/
structure BelX (B x : Nat) (a w : World) : Prop where
  os : w.os = a.os
  tape : w.tape = a.tape
  output : w.output = a.output
  size : a.heap.size ≤ w.heap.size
  block : ∀ k, k < B → k ≠ x → w.heap[k]? = a.heap[k]?
theorem Below.x {n B : Nat} {a w : World} (h : Below n a w) (x : Nat) (hB : B ≤ n) : BelX B x a w := ⟨h.os, h.tape, h.output, h.size, fun k hk _ => h.block k (by omega)⟩
theorem BelX.refl (B x : Nat) (a : World) : BelX B x a a := ⟨rfl, rfl, rfl, Nat.le_refl _, fun _ _ _ => rfl⟩
theorem BelX.trans {B x : Nat} {a b c : World} (h : BelX B x a b) (h' : BelX B x b c) : BelX B x a c := ⟨h'.os.trans h.os, h'.tape.trans h.tape, h'.output.trans h.output, Nat.le_trans h.size h'.size, fun k hk hx => (h'.block k hk hx).trans (h.block k hk hx)⟩
theorem BelX.setCell {B x : Nat} {a w : World} (h : BelX B x a w) {p : Addr} (hp : B ≤ p.block ∨ p.block = x) (u : Value) : BelX B x a (w.setCell p u) :=
  ⟨h.os, h.tape, h.output, by have := h.size; simp; exact this, fun k hk hx => by rw [Below.heap_setCell _ _ _ _ (by rcases hp with hp | hp; omega; rw [hp]; exact hx)]; exact h.block k hk hx⟩
theorem BelX.grown {B x : Nat} {a w w' : World} {row : Option Nat} (h : BelX B x a w) (hg : w.grownBy w' row) (hB : B ≤ w.heap.size) (hr : ∀ k, row = some k → B ≤ k) : BelX B x a w' :=
  ⟨hg.os.trans h.os, hg.tape.trans h.tape, hg.output.trans h.output, Nat.le_trans h.size hg.size, fun k hk hx => by
    rw [hg.block k (by omega) (fun e => by have := hr k e.symm; omega)]; exact h.block k hk hx⟩
theorem BelX.cell {B x : Nat} {a w : World} (h : BelX B x a w) {p : Addr} (h1 : p.block < B) (h2 : p.block ≠ x) : w.cell? p = a.cell? p := World.cell?_of_block (h.block _ h1 h2)
/-- An item lies in memory, all its rows in blocks of a kind. -/
inductive Lies (w : World) (P : Nat → Prop) : (Nat → Value) → It → Prop
  | mk (v : Nat → Value) (t : It) (la ka : Option Addr) (lc kc : Nat) (V : Nat → Nat → Value)
    (h0 : v 0 = .string t.label) (h1 : v 1 = .string t.head) (h2 : v 2 = .slice la t.lines.length lc) (h3 : v 3 = .slice ka t.kids.length kc)
    (hl : ∀ i s, t.lines[i]? = some s → ∃ b o, la = some ⟨b, o, none⟩ ∧ P b ∧ w.cell? ⟨b, o + i, none⟩ = some (.string s))
    (hk : ∀ i, i < t.kids.length → ∃ b o, ka = some ⟨b, o, none⟩ ∧ P b ∧ ∀ c, c < 4 → w.cell? ⟨b, o + i * 4 + c, none⟩ = some (V i c))
    (hr : ∀ i k, t.kids[i]? = some k → Lies w P (V i) k) (hlc : t.lines.length ≤ lc) (hkc : t.kids.length ≤ kc) : Lies w P v t
theorem cell_lt {w : World} {b i : Nat} {v : Value} (h : w.cell? ⟨b, i, none⟩ = some v) : b < w.heap.size := World.block_lt_of_cell? w ⟨b, i, none⟩ h
theorem Lies.step {w w' : World} {P P' : Nat → Prop} {v : Nat → Value} {t : It} (h : Lies w P v t) : (∀ b, b < w.heap.size → P b → w'.heap[b]? = w.heap[b]? ∧ P' b) → Lies w' P' v t := by
  induction h with
  | mk v t la ka lc kc V h0 h1 h2 h3 hl hk hr hlc hkc ih =>
    intro hh
    refine .mk v t la ka lc kc V h0 h1 h2 h3 (fun i s hs => ?_) (fun i hi => ?_) (fun i k e => ih i k e hh) hlc hkc
    · obtain ⟨b, o, e, p, c⟩ := hl i s hs
      have := hh b (cell_lt c) p
      exact ⟨b, o, e, this.2, (World.cell?_of_block (a := ⟨b, o + i, none⟩) this.1).trans c⟩
    · obtain ⟨b, o, e, p, c⟩ := hk i hi
      have := hh b (cell_lt (c 0 (by omega))) p
      exact ⟨b, o, e, this.2, fun q hq => (World.cell?_of_block (a := ⟨b, o + i * 4 + q, none⟩) this.1).trans (c q hq)⟩
theorem Lies.bel {w w' : World} {P : Nat → Prop} {v : Nat → Value} {t : It} (h : Lies w P v t) (hb : Below w.heap.size w w') : Lies w' P v t := h.step fun b hb' p => ⟨hb.block b hb', p⟩
theorem Lies.all {w : World} {P : Nat → Prop} {v : Nat → Value} {t : It} (h : Lies w P v t) : Lies w (fun _ => True) v t := h.step fun _ _ _ => ⟨rfl, trivial⟩

theorem row_step {w w' : World} {B e s : Nat} {v : Value} {n : Nat} {xs : List Value} (h : w.ownsRow B e s v n xs) (hk : ∀ g, v.ownBlock = some g → g < w.heap.size → w'.heap[g]? = w.heap[g]?) : w'.ownsRow B e s v n xs := by
  refine ⟨h.1, ?_⟩
  rcases h.2 with hn | ⟨g, cap, cur, rfl, hb, hgg, rest⟩
  · exact .inl hn
  · exact .inr ⟨g, cap, cur, rfl, hb, (hk g rfl (Array.getElem?_eq_some_iff.1 hgg).1).trans hgg, rest⟩
theorem row_any {w : World} {B e s : Nat} {v : Value} {n : Nat} {xs : List Value} (h : w.ownsRow B e s v n xs) : ∃ a cap, v = .slice a n cap := by
  rcases h.2 with ⟨rfl, rfl⟩ | ⟨g, cap, cur, rfl, _⟩
  · exact ⟨_, _, rfl⟩
  · exact ⟨_, _, rfl⟩

/-- 'append' tells in which block the new row lies: in the old one's, or in a new one. -/
theorem append_where {P : Program} (w : World) (B : Nat) (t ty e : TypeId) (i : TypeInfo) (zv : Value) (size bytes : Nat) (ht : P.underlying t = some (.slice e)) (hi : P.info? e = some i) (hz : i.zero = some zv)
    (hsize : i.size = size) (hby : i.bytes = bytes) (v : Value) (n : Nat) (xs : List Value) (hown : w.ownsRow B e size v n xs)
    (a : Addr) (m c : Nat) (news : List Value) (hl : news.length = m * size) (hnews : ∀ j u, news[j]? = some u → w.cell? (a.add j) = some u) (h1 : ∀ u ∈ news, u.oneCell' = true) (hm : 0 < m)
    (h63 : n + m ≤ maxLen) (hbytes : (n + m) * bytes ≤ 140737488355328) (v' : Value) (w' : World) (hr : (Builtin.append_ #[t, t] ty #[v, .slice (some a) m c]).run P w = .ok v' w') :
    v'.ownBlock = v.ownBlock ∨ v'.ownBlock = some w.heap.size := by
  subst hsize
  subst hby
  have hsmall : n + m ≤ 9223372036854775807 := by simp only [maxLen] at h63; omega
  rcases hown.2 with ⟨rfl, rfl⟩ | ⟨g, cap, cur, rfl, hbg, hg, hnc, hcm, hcs, htake⟩
  · have hr2 := run_append_nil (P := P) w t ty e i zv ht hi hz a m c news hl hnews (by omega) (by omega) (by have hb := hbytes; simp only [Nat.zero_add] at hb; omega)
    rw [hr2] at hr
    injection hr with e1 e2
    subst e1
    exact .inr rfl
  · by_cases hroom : n + m ≤ cap
    · have hfit : n * i.size + news.length ≤ cur.size := by rw [hl, hcs, ← Nat.add_mul]; exact Nat.mul_le_mul_right _ hroom
      have hr2 := run_append_room (P := P) w t ty e i ht hi g n cap cur hg a m c news hl hnews h1 hroom hfit
      rw [hr2] at hr
      injection hr with e1 e2
      subst e1
      exact .inl rfl
    · have hr2 := run_append_grow (P := P) w t ty e i zv ht hi hz ⟨g, 0, none⟩ n cap xs hown.1 (hown.cells (g := g) rfl) a m c news hl hnews (by omega) (by omega) (growslice_fits (by omega) hbytes)
      rw [hr2] at hr
      injection hr with e1 e2
      subst e1
      exact .inr rfl
end Go.Proofs.YtehbinobohjadaaGreatDoor
namespace Go.Proofs.YtehbinobohjadaaGreatDoor
open Go.RowKit Go.Extern.Stop Go.Stop Go.Extern

def kB : TK → ByteArray
  | .w => ⟨#[119]⟩
  | .n => ⟨#[110]⟩
  | .s => ⟨#[115]⟩
  | .e => ⟨#[101]⟩
  | .b => ⟨#[98]⟩
def tokV (t : Tok) : Nat → Value
  | 0 => .string (kB t.kind)
  | 1 => .string t.text
  | 2 => .int .i64 t.pos
  | _ => .int .i64 t.code
/-- The parser lies in block bp, its tokens in tb: at token k, n deep, with a fault (0: none) at a place. -/
structure PS (L : List Tok) (bp tb cp : Nat) (w : World) (k : Nat) (n : Int) (cd ps : Nat) : Prop where
  blk : w.heap[bp]? = some (.cells #[.slice (some ⟨tb, 0, none⟩) L.length cp, .int .i64 k, .int .i64 n, .int .i64 cd, .int .i64 ps] 80 (0, 0))
  tok : ∀ i t, L[i]? = some t → ∀ c, c < 4 → w.cell? ⟨tb, i * 4 + c, none⟩ = some (tokV t c)
  ne : tb ≠ bp
  lt : k < L.length
  len : L.length ≤ 4000
  bc : ∀ (i : Nat) (t : Tok), L[i]? = some t → t.kind = TK.b → 0 < t.code
theorem PS.in {L : List Tok} {bp tb cp : Nat} {w : World} {k : Nat} {n : Int} {cd ps : Nat} (h : PS L bp tb cp w k n cd ps) : bp < w.heap.size := by
  have h1 := h.blk
  rcases Nat.lt_or_ge bp w.heap.size with h2 | h2
  · exact h2
  · rw [Array.getElem?_eq_none h2] at h1; cases h1
theorem PS.cells {L : List Tok} {bp tb cp : Nat} {w : World} {k : Nat} {n : Int} {cd ps : Nat} (h : PS L bp tb cp w k n cd ps) :
    w.cell? ⟨bp, 0, none⟩ = some (.slice (some ⟨tb, 0, none⟩) L.length cp) ∧ w.cell? ⟨bp, 1, none⟩ = some (.int .i64 k) ∧ w.cell? ⟨bp, 2, none⟩ = some (.int .i64 n) ∧ w.cell? ⟨bp, 3, none⟩ = some (.int .i64 cd) ∧ w.cell? ⟨bp, 4, none⟩ = some (.int .i64 ps) ∧ ∀ i, w.frozen? ⟨bp, i, none⟩ = false := by
  have h1 := h.blk
  simp [World.cell?, World.frozen?, h1]
theorem tokAt_get {L : List Tok} {k : Nat} (h : k < L.length) : L[k]? = some (tokAt L k) := by
  unfold tokAt
  rw [List.getElem?_eq_getElem h]; rfl
theorem PS.tokens {L : List Tok} {bp tb cp : Nat} {w : World} {k : Nat} {n : Int} {cd ps : Nat} (h : PS L bp tb cp w k n cd ps) :
    w.cell? ⟨tb, k * 4, none⟩ = some (.string (kB (tokAt L k).kind)) ∧ w.cell? ⟨tb, k * 4 + 1, none⟩ = some (.string (tokAt L k).text) ∧ w.cell? ⟨tb, k * 4 + 2, none⟩ = some (.int .i64 (tokAt L k).pos) ∧ w.cell? ⟨tb, k * 4 + 3, none⟩ = some (.int .i64 (tokAt L k).code) := by
  have h1 := h.tok k _ (tokAt_get h.lt)
  exact ⟨h1 0 (by omega), h1 1 (by omega), h1 2 (by omega), h1 3 (by omega)⟩
theorem PS.tin {L : List Tok} {bp tb cp : Nat} {w : World} {k : Nat} {n : Int} {cd ps : Nat} (h : PS L bp tb cp w k n cd ps) : tb < w.heap.size := cell_lt h.tokens.1
/-- What changes no block but the parser's own leaves the tokens. -/
theorem PS.turn {L : List Tok} {bp tb cp : Nat} {w w' : World} {k : Nat} {n : Int} {cd ps : Nat} (h : PS L bp tb cp w k n cd ps) (hb : BelX w.heap.size bp w w') {k' : Nat} {n' : Int} {cd' ps' : Nat} (hk : k' < L.length)
    (hn : w'.heap[bp]? = some (.cells #[.slice (some ⟨tb, 0, none⟩) L.length cp, .int .i64 k', .int .i64 n', .int .i64 cd', .int .i64 ps'] 80 (0, 0))) : PS L bp tb cp w' k' n' cd' ps' :=
  ⟨hn, fun i t e c hc => (hb.cell (p := ⟨tb, i * 4 + c, none⟩) h.tin h.ne).trans (h.tok i t e c hc), h.ne, hk, h.len, h.bc⟩
theorem PS.below {L : List Tok} {bp tb cp : Nat} {w w' : World} {k : Nat} {n : Int} {cd ps : Nat} (h : PS L bp tb cp w k n cd ps) (hb : Below w.heap.size w w') : PS L bp tb cp w' k n cd ps :=
  h.turn (Below.x hb bp (Nat.le_refl _)) h.lt ((hb.block bp h.in).trans h.blk)
theorem PS.code {L : List Tok} {bp tb cp : Nat} {w : World} {k : Nat} {n : Int} {cd ps : Nat} (h : PS L bp tb cp w k n cd ps) (hb : (tokAt L k).kind = .b) : 0 < (tokAt L k).code := h.bc k _ (tokAt_get h.lt) hb
/-- No fault so far: the next token is not bad. -/
structure POk (L : List Tok) (bp tb cp : Nat) (w : World) (k n : Nat) : Prop where
  s : PS L bp tb cp w k n 0 0
  nb : (tokAt L k).kind ≠ .b
  nd : n ≤ 40
def PBad (L : List Tok) (bp tb cp : Nat) (w : World) (c a : Nat) : Prop := 0 < c ∧ ∃ k n, PS L bp tb cp w k n c a
/-- The state behind a step. -/
def PSt (L : List Tok) (bp tb cp : Nat) (w' : World) {α : Type} (r : PR α) (V : α → Prop) : Prop := match r with
  | .out => True
  | .bad c a => PBad L bp tb cp w' c a
  | .ok x k n => POk L bp tb cp w' k n ∧ V x
theorem POk.below {L : List Tok} {bp tb cp : Nat} {w w' : World} {k n : Nat} (h : POk L bp tb cp w k n) (hb : Below w.heap.size w w') : POk L bp tb cp w' k n := ⟨h.s.below hb, h.nb, h.nd⟩
theorem PBad.below {L : List Tok} {bp tb cp : Nat} {w w' : World} {c a : Nat} (h : PBad L bp tb cp w c a) (hb : Below w.heap.size w w') : PBad L bp tb cp w' c a := by
  obtain ⟨h1, k, n, h2⟩ := h
  exact ⟨h1, k, n, h2.below hb⟩
end Go.Proofs.YtehbinobohjadaaGreatDoor
namespace Go.Proofs.YtehbinobohjadaaGreatDoor
open Go.RowKit Go.Extern.Stop Go.Stop Go.Extern

theorem retB {a b : Bool} (h : a = b) : Ending.returned (.bool a) = .returned (.bool b) := by rw [h]
theorem heap_set {w : World} {b i : Nat} {cs : Array Value} {t : TypeId} {fr : Nat × Nat} (h : w.heap[b]? = some (.cells cs t fr)) (u : Value) : (w.setCell ⟨b, i, none⟩ u).heap[b]? = some (.cells (cs.setIfInBounds i u) t fr) := by
  unfold World.setCell
  simp [Array.getElem?_modify, h]
theorem fourT {W : World} {g : Nat} {a b c d : Value} {t : TypeId} (h : W.heap[g]? = some (.cells #[a, b, c, d] t (0, 0))) : W.cell? ⟨g, 0, none⟩ = some a ∧ W.cell? ⟨g, 1, none⟩ = some b ∧ W.cell? ⟨g, 2, none⟩ = some c ∧ W.cell? ⟨g, 3, none⟩ = some d ∧ ∀ i, W.frozen? ⟨g, i, none⟩ = false := by
  simp [World.cell?, World.frozen?, h]
theorem two_below (w : World) (a b : Obj) : Below w.heap.size w ((w.alloc a).alloc b) := ((Below.refl _ _).alloc (Nat.le_refl _) _).alloc (by simp) _
end Go.Proofs.YtehbinobohjadaaGreatDoor

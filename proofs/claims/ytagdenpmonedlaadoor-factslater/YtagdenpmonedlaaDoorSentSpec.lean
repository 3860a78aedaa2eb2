/-
  Sentences: what a line says: plain, no program. Tokens, a parser with its first fault.
-/
import Derived.WalkKit
import Derived.Test.YtagdenpmonedlaaDoorProg
namespace Go.Proofs.YtagdenpmonedlaaDoor
open Go.RowKit Go.Extern.Stop Go.Stop Go.Extern

/-- A word, a number, a sign, the end, a bad one. -/
inductive TK where
  | w | n | s | e | b
  deriving DecidableEq
structure Tok where
  kind : TK
  text : ByteArray
  pos : Nat
  code : Nat
/-- A node of a condition, or of a sum. -/
inductive Nd where
  | mk (kind word : ByteArray) (n : Nat) (kids : List Nd)
def Nd.kind : Nd → ByteArray | .mk a _ _ _ => a
def Nd.word : Nd → ByteArray | .mk _ b _ _ => b
def Nd.num : Nd → Nat | .mk _ _ c _ => c
def Nd.kids : Nd → List Nd | .mk _ _ _ d => d
def Nd.zero : Nd := .mk ⟨#[]⟩ ⟨#[]⟩ 0 []
/-- What a step of the parser comes to: no fuel, a fault, or what was read, the next token's number, how deep. -/
inductive PR (α : Type) where
  | out
  | bad (c a : Nat)
  | ok (x : α) (k n : Nat)
def PR.bind {α β : Type} (r : PR α) (f : α → Nat → Nat → PR β) : PR β := match r with
  | .out => .out
  | .bad c a => .bad c a
  | .ok x k n => f x k n
theorem PR.bind_ok {α β : Type} (x : α) (k n : Nat) (f : α → Nat → Nat → PR β) : (PR.ok x k n).bind f = f x k n := rfl
theorem PR.bind_bad {α β : Type} (c a : Nat) (f : α → Nat → Nat → PR β) : (PR.bad c a : PR α).bind f = .bad c a := rfl
theorem PR.bind_out {α β : Type} (f : α → Nat → Nat → PR β) : (PR.out : PR α).bind f = .out := rfl
theorem PR.bind_not {α β : Type} {r : PR α} {f : α → Nat → Nat → PR β} (h : r.bind f ≠ .out) : r ≠ .out := by
  rintro rfl
  exact h rfl

/-- Words as bytes. -/
def wIf : ByteArray := ⟨#[105, 102]⟩
def wOver : ByteArray := ⟨#[111, 118, 101, 114]⟩
def wRound : ByteArray := ⟨#[114, 111, 117, 110, 100]⟩
def wWithin : ByteArray := ⟨#[119, 105, 116, 104, 105, 110]⟩
def wElse : ByteArray := ⟨#[101, 108, 115, 101]⟩
def wNot : ByteArray := ⟨#[110, 111, 116]⟩
def wOr : ByteArray := ⟨#[111, 114]⟩
def wAnd : ByteArray := ⟨#[97, 110, 100]⟩
def wSome : ByteArray := ⟨#[115, 111, 109, 101]⟩
def wEvery : ByteArray := ⟨#[101, 118, 101, 114, 121]⟩
def wCount : ByteArray := ⟨#[99, 111, 117, 110, 116]⟩
def wTotal : ByteArray := ⟨#[116, 111, 116, 97, 108]⟩
def wOf : ByteArray := ⟨#[111, 102]⟩
def wMax : ByteArray := ⟨#[109, 97, 120]⟩
def wMin : ByteArray := ⟨#[109, 105, 110]⟩
def wName : ByteArray := ⟨#[110, 97, 109, 101]⟩
def wNumber : ByteArray := ⟨#[110, 117, 109, 98, 101, 114]⟩
def wStrict : ByteArray := ⟨#[115, 116, 114, 105, 99, 116]⟩
def wDefeater : ByteArray := ⟨#[100, 101, 102, 101, 97, 116, 101, 114]⟩
def wDefine : ByteArray := ⟨#[100, 101, 102, 105, 110, 101]⟩
def wRule : ByteArray := ⟨#[114, 117, 108, 101]⟩
def wAmount : ByteArray := ⟨#[97, 109, 111, 117, 110, 116]⟩
def wDuty : ByteArray := ⟨#[100, 117, 116, 121]⟩
def wDown : ByteArray := ⟨#[100, 111, 119, 110]⟩
def wUp : ByteArray := ⟨#[117, 112]⟩
def wFloor : ByteArray := ⟨#[102, 108, 111, 111, 114]⟩
def wCeil : ByteArray := ⟨#[99, 101, 105, 108]⟩
def wHalfUp : ByteArray := ⟨#[104, 97, 108, 102, 95, 117, 112]⟩
def wHalfEven : ByteArray := ⟨#[104, 97, 108, 102, 95, 101, 118, 101, 110]⟩
def wDays : ByteArray := ⟨#[100, 97, 121, 115]⟩
def wWorking : ByteArray := ⟨#[119, 111, 114, 107, 105, 110, 103]⟩
def wWeeks : ByteArray := ⟨#[119, 101, 101, 107, 115]⟩
def wMonths : ByteArray := ⟨#[109, 111, 110, 116, 104, 115]⟩
def wYears : ByteArray := ⟨#[121, 101, 97, 114, 115]⟩
def wNext : ByteArray := ⟨#[110, 101, 120, 116]⟩
def wBefore : ByteArray := ⟨#[98, 101, 102, 111, 114, 101]⟩
def sg (c : UInt8) : ByteArray := ⟨#[c]⟩
def sg2 (c d : UInt8) : ByteArray := ⟨#[c, d]⟩
def eqB (a b : ByteArray) : Bool := a.toList == b.toList
/-- The first place of a text in a list. -/
def placeIn (l : List ByteArray) (s : ByteArray) : Option Nat := l.findIdx? fun x => eqB x s
def gramW : List ByteArray := [wDefine, wRule, wAmount, wDuty, wStrict, wDefeater, wIf, wOver, wRound, wWithin, wElse, wNot, wOr, wAnd, wSome, wEvery, wCount, wTotal, wOf, wMax, wMin, wDown, wUp, wFloor, wCeil, wHalfUp, wHalfEven, wDays, wWorking, wWeeks, wMonths, wYears, wNext, wBefore]
def kindsW : List ByteArray := [wDefine, wRule, wAmount, wDuty]
def waysW : List ByteArray := [wDown, wUp, wFloor, wCeil, wHalfUp, wHalfEven]
def unitsW : List ByteArray := [wDays, wWorking, wWeeks, wMonths, wYears]
def rollsW : List ByteArray := [wNext, wBefore]
def ordersW : List ByteArray := [sg 60, sg2 60 61, sg 61, sg2 60 62, sg2 62 61, sg 62]
/-- A number's text in hundredths: what is read so far, how many digits behind the point (none: no point yet). -/
def hunGo : List UInt8 → Nat → Bool → Nat × Bool
  | [], n, p => (n, p)
  | c :: r, n, p => if c = 46 then hunGo r n true else hunGo r (n * 10 + (c.toNat - 48)) p
def hunB (s : ByteArray) : Nat := let x := hunGo s.data.toList 0 false; if x.2 then x.1 else x.1 * 100
def pointB (s : ByteArray) : Bool := s.data.toList.any (· == 46)

section
variable (L : List Tok)
def endTok : Tok := ⟨.e, ⟨#[]⟩, 0, 0⟩
def tokAt (k : Nat) : Tok := L[k]?.getD endTok
def nextK (k : Nat) : Nat := if k + 1 < L.length then k + 1 else k
def stepP (k n : Nat) : PR Unit := if (tokAt L (nextK L k)).kind = .b then .bad (tokAt L (nextK L k)).code (tokAt L (nextK L k)).pos else .ok () (nextK L k) n
def isP (s : ByteArray) (k : Nat) : Bool := decide ((tokAt L k).kind ≠ .e) && eqB (tokAt L k).text s
def wrongP {α : Type} (k : Nat) : PR α := .bad 1 (tokAt L k).pos
def takeP (s : ByteArray) (k n : Nat) : PR Bool := if isP L s k = true then (stepP L k n).bind fun _ k n => .ok true k n else .ok false k n
def needP (s : ByteArray) (k n : Nat) : PR Unit := if isP L s k = true then stepP L k n else wrongP L k
def nameP (k n : Nat) : PR ByteArray := if (tokAt L k).kind = .w ∧ placeIn gramW (tokAt L k).text = none then (stepP L k n).bind fun _ k' n => .ok (tokAt L k).text k' n else wrongP L k
def deeperP (k n : Nat) : PR Unit := if n = 40 then .bad 2 (tokAt L k).pos else .ok () k (n + 1)
def oneOfP (l : List ByteArray) (k n : Nat) : PR Nat := if (tokAt L k).kind = .w then match placeIn l (tokAt L k).text with
    | none => wrongP L k
    | some i => (stepP L k n).bind fun _ k n => .ok i k n
  else wrongP L k
mutual
def eitherP : Nat → Nat → Nat → PR Nd
  | 0, _, _ => .out
  | f + 1, k, n => (bothP f k n).bind fun x k n => orLoop f x k n
def orLoop : Nat → Nd → Nat → Nat → PR Nd
  | 0, _, _, _ => .out
  | f + 1, x, k, n => (takeP L wOr k n).bind fun b k n => if b = true then (bothP f k n).bind fun m k n => orLoop f (.mk wOr ⟨#[]⟩ 0 [x, m]) k n else .ok x k n
def bothP : Nat → Nat → Nat → PR Nd
  | 0, _, _ => .out
  | f + 1, k, n => (unlessP f k n).bind fun x k n => andLoop f x k n
def andLoop : Nat → Nd → Nat → Nat → PR Nd
  | 0, _, _, _ => .out
  | f + 1, x, k, n => (takeP L wAnd k n).bind fun b k n => if b = true then (unlessP f k n).bind fun m k n => andLoop f (.mk wAnd ⟨#[]⟩ 0 [x, m]) k n else .ok x k n
def unlessP : Nat → Nat → Nat → PR Nd
  | 0, _, _ => .out
  | f + 1, k, n => if isP L wNot k = true then (deeperP L k n).bind fun _ k n => (stepP L k n).bind fun _ k n => (unlessP f k n).bind fun x k n => .ok (.mk wNot ⟨#[]⟩ 0 [x]) k (n - 1) else testP f k n
def testP : Nat → Nat → Nat → PR Nd
  | 0, _, _ => .out
  | f + 1, k, n =>
    if eqB (tokAt L k).text (sg 40) = true then (deeperP L k n).bind fun _ k n => (stepP L k n).bind fun _ k n => (eitherP f k n).bind fun x k n => (needP L (sg 41) k (n - 1)).bind fun _ k n => .ok x k n
    else if eqB (tokAt L k).text wSome = true ∨ eqB (tokAt L k).text wEvery = true then
      (deeperP L k n).bind fun _ k1 n => (stepP L k1 n).bind fun _ k2 n => (nameP L k2 n).bind fun w k3 n => (needP L (sg 40) k3 n).bind fun _ k4 n => (eitherP f k4 n).bind fun x k5 n => (needP L (sg 41) k5 (n - 1)).bind fun _ k6 n => .ok (.mk (tokAt L k).text w 0 [x]) k6 n
    else (sumP f k n).bind fun a k1 n =>
      if (tokAt L k1).kind = .s ∧ placeIn ordersW (tokAt L k1).text ≠ none then (stepP L k1 n).bind fun _ k2 n => (sumP f k2 n).bind fun b k3 n => .ok (.mk (tokAt L k1).text ⟨#[]⟩ 0 [a, b]) k3 n
      else if eqB a.kind wName = true ∧ eqB (tokAt L k).text a.word = true then .ok a k1 n else wrongP L k1
def sumP : Nat → Nat → Nat → PR Nd
  | 0, _, _ => .out
  | f + 1, k, n => (partP f k n).bind fun x k n => sumLoop f x k n
def sumLoop : Nat → Nd → Nat → Nat → PR Nd
  | 0, _, _, _ => .out
  | f + 1, x, k, n => if (tokAt L k).kind = .s ∧ (eqB (tokAt L k).text (sg 43) = true ∨ eqB (tokAt L k).text (sg 45) = true) then (stepP L k n).bind fun _ k1 n => (partP f k1 n).bind fun m k2 n => sumLoop f (.mk (tokAt L k).text ⟨#[]⟩ 0 [x, m]) k2 n else .ok x k n
def partP : Nat → Nat → Nat → PR Nd
  | 0, _, _ => .out
  | f + 1, k, n => (factorP f k n).bind fun x k n => partLoop f x k n
def partLoop : Nat → Nd → Nat → Nat → PR Nd
  | 0, _, _, _ => .out
  | f + 1, x, k, n => (takeP L (sg 42) k n).bind fun b k n => if b = true then
      (if (tokAt L k).kind = .n then (if 1000000 < hunB (tokAt L k).text then .bad 2 (tokAt L k).pos else (stepP L k n).bind fun _ k1 n => (needP L (sg 37) k1 n).bind fun _ k2 n => partLoop f (.mk (sg 42) ⟨#[]⟩ (hunB (tokAt L k).text) [x]) k2 n) else wrongP L k)
    else .ok x k n
def factorP : Nat → Nat → Nat → PR Nd
  | 0, _, _ => .out
  | f + 1, k, n =>
    if (tokAt L k).kind = .n then (if 1000000000000 < hunB (tokAt L k).text then .bad 2 (tokAt L k).pos else (stepP L k n).bind fun _ k1 n => .ok (.mk wNumber ⟨#[]⟩ (hunB (tokAt L k).text) []) k1 n)
    else if eqB (tokAt L k).text wCount = true then (stepP L k n).bind fun _ k1 n => (nameP L k1 n).bind fun w k2 n => .ok (.mk wCount w 0 []) k2 n
    else if eqB (tokAt L k).text wTotal = true then (stepP L k n).bind fun _ k1 n => (nameP L k1 n).bind fun w k2 n => (needP L wOf k2 n).bind fun _ k3 n => (nameP L k3 n).bind fun o k4 n => .ok (.mk wTotal w 0 [.mk wName o 0 []]) k4 n
    else if eqB (tokAt L k).text wMax = true ∨ eqB (tokAt L k).text wMin = true then (deeperP L k n).bind fun _ k1 n => (stepP L k1 n).bind fun _ k2 n => (needP L (sg 40) k2 n).bind fun _ k3 n => (sumP f k3 n).bind fun a k4 n => (needP L (sg 44) k4 n).bind fun _ k5 n => (sumP f k5 n).bind fun b k6 n => (needP L (sg 41) k6 (n - 1)).bind fun _ k7 n => .ok (.mk (tokAt L k).text ⟨#[]⟩ 0 [a, b]) k7 n
    else if eqB (tokAt L k).text (sg 91) = true then (deeperP L k n).bind fun _ k1 n => (stepP L k1 n).bind fun _ k2 n => (sumP f k2 n).bind fun x k3 n => (needP L (sg 93) k3 (n - 1)).bind fun _ k4 n => .ok x k4 n
    else (nameP L k n).bind fun w k n => .ok (.mk wName w 0 []) k n
end
end
end Go.Proofs.YtagdenpmonedlaaDoor

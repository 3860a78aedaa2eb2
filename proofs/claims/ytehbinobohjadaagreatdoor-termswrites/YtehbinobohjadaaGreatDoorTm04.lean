import Derived.Test.YtehbinobohjadaaGreatDoorTm00
import Derived.WalkKit
import Derived.Test.YtehbinobohjadaaGreatDoorProg
set_option maxHeartbeats 20000000
set_option maxRecDepth 20000
namespace Go.Proofs.YtehbinobohjadaaGreatDoor
open Go.RowKit Go.Extern.Stop Go.Stop Go.Extern
inductive TK where
 |w|n|s|e|b
 deriving DecidableEq
structure Tok where
 kind:TK
 text:ByteArray
 pos:Nat
 code:Nat
inductive Nd where
 |mk (kind word:ByteArray) (n:Nat) (kids:List Nd)
def Nd.kind:Nd→ByteArray| .mk a _ _ _=>a
def Nd.word:Nd→ByteArray| .mk _ b _ _=>b
def Nd.num:Nd→Nat| .mk _ _ c _=>c
def Nd.kids:Nd→List Nd| .mk _ _ _ d=>d
def Nd.zero:Nd:=.mk ⟨#[]⟩ ⟨#[]⟩ 0 []
inductive PR(α:Type) where
 |out
 |bad (c a:Nat)
 |ok (x:α) (k n:Nat)
def PR.bind{α β:Type}(r:PR α)(f:α→Nat→Nat→PR β):PR β:=match r with
 | .out=>.out
 | .bad c a=>.bad c a
 | .ok x k n=>f x k n
theorem PR.bind_ok{α β:Type}(x:α)(k n:Nat)(f:α→Nat→Nat→PR β):(PR.ok x k n).bind f=f x k n:=rfl
theorem PR.bind_bad{α β:Type}(c a:Nat)(f:α→Nat→Nat→PR β):(PR.bad c a:PR α).bind f=.bad c a:=rfl
theorem PR.bind_not{α β:Type}{r:PR α}{f:α→Nat→Nat→PR β}(h:r.bind f≠.out):r≠.out:=by
 rintro rfl
 exact h rfl
def wIf:ByteArray:=⟨#[105,102]⟩
def wOver:ByteArray:=⟨#[111,118,101,114]⟩
def AE:ByteArray:=⟨#[114,111,117,110,100]⟩
def ED:ByteArray:=⟨#[119,105,116,104,105,110]⟩
def dF:ByteArray:=⟨#[101,108,115,101]⟩
def wNot:ByteArray:=⟨#[110,111,116]⟩
def wOr:ByteArray:=⟨#[111,114]⟩
def wAnd:ByteArray:=⟨#[97,110,100]⟩
def wSome:ByteArray:=⟨#[115,111,109,101]⟩
def wEvery:ByteArray:=⟨#[101,118,101,114,121]⟩
def wCount:ByteArray:=⟨#[99,111,117,110,116]⟩
def wTotal:ByteArray:=⟨#[116,111,116,97,108]⟩
def wOf:ByteArray:=⟨#[111,102]⟩
def wMax:ByteArray:=⟨#[109,97,120]⟩
def wMin:ByteArray:=⟨#[109,105,110]⟩
def qB:ByteArray:=⟨#[110,97,109,101]⟩
def JB:ByteArray:=⟨#[110,117,109,98,101,114]⟩
def wStrict:ByteArray:=⟨#[115,116,114,105,99,116]⟩
def wDefeater:ByteArray:=⟨#[100,101,102,101,97,116,101,114]⟩
def wDefine:ByteArray:=⟨#[100,101,102,105,110,101]⟩
def wRule:ByteArray:=⟨#[114,117,108,101]⟩
def wAmount:ByteArray:=⟨#[97,109,111,117,110,116]⟩
def wDuty:ByteArray:=⟨#[100,117,116,121]⟩
def uU:ByteArray:=⟨#[100,111,119,110]⟩
def FW:ByteArray:=⟨#[117,112]⟩
def bS:ByteArray:=⟨#[102,108,111,111,114]⟩
def sU:ByteArray:=⟨#[99,101,105,108]⟩
def pO:ByteArray:=⟨#[104,97,108,102,95,117,112]⟩
def YJ:ByteArray:=⟨#[104,97,108,102,95,101,118,101,110]⟩
def tU:ByteArray:=⟨#[100,97,121,115]⟩
def pM:ByteArray:=⟨#[119,111,114,107,105,110,103]⟩
def gS:ByteArray:=⟨#[119,101,101,107,115]⟩
def sO:ByteArray:=⟨#[109,111,110,116,104,115]⟩
def iS:ByteArray:=⟨#[121,101,97,114,115]⟩
def nM:ByteArray:=⟨#[110,101,120,116]⟩
def XH:ByteArray:=⟨#[98,101,102,111,114,101]⟩
def sg(c:UInt8):ByteArray:=⟨#[c]⟩
def mT(c d:UInt8):ByteArray:=⟨#[c,d]⟩
def vA(a b:ByteArray):Bool:=a.toList==b.toList
def iA(l:List ByteArray)(s:ByteArray):Option Nat:=l.findIdx? fun x=>vA x s
def gramW:List ByteArray:=[wDefine,wRule,wAmount,wDuty,wStrict,wDefeater,wIf,wOver,AE,ED,dF,wNot,wOr,wAnd,wSome,wEvery,wCount,wTotal,wOf,wMax,wMin,uU,FW,bS,sU,pO,YJ,tU,pM,gS,sO,iS,nM,XH]
def kindsW:List ByteArray:=[wDefine,wRule,wAmount,wDuty]
def waysW:List ByteArray:=[uU,FW,bS,sU,pO,YJ]
def unitsW:List ByteArray:=[tU,pM,gS,sO,iS]
def kJ:List ByteArray:=[nM,XH]
def ordersW:List ByteArray:=[sg 60,mT 60 61,sg 61,mT 60 62,mT 62 61,sg 62]
def zD:List UInt8→Nat→Bool→Nat×Bool
 | [],n,p=>(n,p)
 |c::r,n,p=>if c=46 then zD r n true else zD r (n * 10+(c.toNat - 48)) p
def CC(s:ByteArray):Nat:=let x:=zD s.data.toList 0 false;if x.2 then x.1 else x.1 * 100
def kD(s:ByteArray):Bool:=s.data.toList.any (·==46)
section
variable (L:List Tok)
def YP:Tok:=⟨.e,⟨#[]⟩,0,0⟩
def cA(k:Nat):Tok:=L[k]?.getD YP
def jF(k:Nat):Nat:=if k+1<L.length then k+1 else k
def pA(k n:Nat):PR Unit:=if (cA L (jF L k)).kind=.b then .bad (cA L (jF L k)).code (cA L (jF L k)).pos else .ok () (jF L k) n
def qK(s:ByteArray)(k:Nat):Bool:=decide ((cA L k).kind≠.e)&&vA (cA L k).text s
def RC{α:Type}(k:Nat):PR α:=.bad 1 (cA L k).pos
def yB(s:ByteArray)(k n:Nat):PR Bool:=if qK L s k=true then (pA L k n).bind fun _ k n=>.ok true k n else .ok false k n
def oA(s:ByteArray)(k n:Nat):PR Unit:=if qK L s k=true then pA L k n else RC L k
def uB(k n:Nat):PR ByteArray:=if (cA L k).kind=.w∧iA gramW (cA L k).text=none then (pA L k n).bind fun _ k' n=>.ok (cA L k).text k' n else RC L k
def qA(k n:Nat):PR Unit:=if n=40 then .bad 2 (cA L k).pos else .ok () k (n+1)
def aE(l:List ByteArray)(k n:Nat):PR Nat:=if (cA L k).kind=.w then match iA l (cA L k).text with
    |none=>RC L k
    |some i=>(pA L k n).bind fun _ k n=>.ok i k n
 else RC L k
mutual
def zA:Nat→Nat→Nat→PR Nd
 |0,_,_=>.out
 |f+1,k,n=>(cD f k n).bind fun x k n=>sC f x k n
def sC:Nat→Nd→Nat→Nat→PR Nd
 |0,_,_,_=>.out
 |f+1,x,k,n=>(yB L wOr k n).bind fun b k n=>if b=true then (cD f k n).bind fun m k n=>sC f (.mk wOr ⟨#[]⟩ 0 [x,m]) k n else .ok x k n
def cD:Nat→Nat→Nat→PR Nd
 |0,_,_=>.out
 |f+1,k,n=>(lB f k n).bind fun x k n=>RB f x k n
def RB:Nat→Nd→Nat→Nat→PR Nd
 |0,_,_,_=>.out
 |f+1,x,k,n=>(yB L wAnd k n).bind fun b k n=>if b=true then (lB f k n).bind fun m k n=>RB f (.mk wAnd ⟨#[]⟩ 0 [x,m]) k n else .ok x k n
def lB:Nat→Nat→Nat→PR Nd
 |0,_,_=>.out
 |f+1,k,n=>if qK L wNot k=true then (qA L k n).bind fun _ k n=>(pA L k n).bind fun _ k n=>(lB f k n).bind fun x k n=>.ok (.mk wNot ⟨#[]⟩ 0 [x]) k (n - 1) else XD f k n
def XD:Nat→Nat→Nat→PR Nd
 |0,_,_=>.out
 |f+1,k,n=>
  if vA (cA L k).text (sg 40)=true then (qA L k n).bind fun _ k n=>(pA L k n).bind fun _ k n=>(zA f k n).bind fun x k n=>(oA L (sg 41) k (n - 1)).bind fun _ k n=>.ok x k n
  else if vA (cA L k).text wSome=true∨vA (cA L k).text wEvery=true then
   (qA L k n).bind fun _ k1 n=>(pA L k1 n).bind fun _ k2 n=>(uB L k2 n).bind fun w k3 n=>(oA L (sg 40) k3 n).bind fun _ k4 n=>(zA f k4 n).bind fun x k5 n=>(oA L (sg 41) k5 (n - 1)).bind fun _ k6 n=>.ok (.mk (cA L k).text w 0 [x]) k6 n
  else (IB f k n).bind fun a k1 n=>
   if (cA L k1).kind=.s∧iA ordersW (cA L k1).text≠none then (pA L k1 n).bind fun _ k2 n=>(IB f k2 n).bind fun b k3 n=>.ok (.mk (cA L k1).text ⟨#[]⟩ 0 [a,b]) k3 n
   else if vA a.kind qB=true∧vA (cA L k).text a.word=true then .ok a k1 n else RC L k1
def IB:Nat→Nat→Nat→PR Nd
 |0,_,_=>.out
 |f+1,k,n=>(FC f k n).bind fun x k n=>FB f x k n
def FB:Nat→Nd→Nat→Nat→PR Nd
 |0,_,_,_=>.out
 |f+1,x,k,n=>if (cA L k).kind=.s∧(vA (cA L k).text (sg 43)=true∨vA (cA L k).text (sg 45)=true) then (pA L k n).bind fun _ k1 n=>(FC f k1 n).bind fun m k2 n=>FB f (.mk (cA L k).text ⟨#[]⟩ 0 [x,m]) k2 n else .ok x k n
def FC:Nat→Nat→Nat→PR Nd
 |0,_,_=>.out
 |f+1,k,n=>(LB f k n).bind fun x k n=>cB f x k n
def cB:Nat→Nd→Nat→Nat→PR Nd
 |0,_,_,_=>.out
 |f+1,x,k,n=>(yB L (sg 42) k n).bind fun b k n=>if b=true then
   (if (cA L k).kind=.n then (if 1000000<CC (cA L k).text then .bad 2 (cA L k).pos else (pA L k n).bind fun _ k1 n=>(oA L (sg 37) k1 n).bind fun _ k2 n=>cB f (.mk (sg 42) ⟨#[]⟩ (CC (cA L k).text) [x]) k2 n) else RC L k)
  else .ok x k n
def LB:Nat→Nat→Nat→PR Nd
 |0,_,_=>.out
 |f+1,k,n=>
  if (cA L k).kind=.n then (if 1000000000000<CC (cA L k).text then .bad 2 (cA L k).pos else (pA L k n).bind fun _ k1 n=>.ok (.mk JB ⟨#[]⟩ (CC (cA L k).text) []) k1 n)
  else if vA (cA L k).text wCount=true then (pA L k n).bind fun _ k1 n=>(uB L k1 n).bind fun w k2 n=>.ok (.mk wCount w 0 []) k2 n
  else if vA (cA L k).text wTotal=true then (pA L k n).bind fun _ k1 n=>(uB L k1 n).bind fun w k2 n=>(oA L wOf k2 n).bind fun _ k3 n=>(uB L k3 n).bind fun o k4 n=>.ok (.mk wTotal w 0 [.mk qB o 0 []]) k4 n
  else if vA (cA L k).text wMax=true∨vA (cA L k).text wMin=true then (qA L k n).bind fun _ k1 n=>(pA L k1 n).bind fun _ k2 n=>(oA L (sg 40) k2 n).bind fun _ k3 n=>(IB f k3 n).bind fun a k4 n=>(oA L (sg 44) k4 n).bind fun _ k5 n=>(IB f k5 n).bind fun b k6 n=>(oA L (sg 41) k6 (n - 1)).bind fun _ k7 n=>.ok (.mk (cA L k).text ⟨#[]⟩ 0 [a,b]) k7 n
  else if vA (cA L k).text (sg 91)=true then (qA L k n).bind fun _ k1 n=>(pA L k1 n).bind fun _ k2 n=>(IB f k2 n).bind fun x k3 n=>(oA L (sg 93) k3 (n - 1)).bind fun _ k4 n=>.ok x k4 n
  else (uB L k n).bind fun w k n=>.ok (.mk qB w 0 []) k n
end
end
def PB(c:UInt8):Bool:=decide (97≤c.toNat)&&decide (c.toNat≤122)
def lA(c:UInt8):Bool:=decide (48≤c.toNat)&&decide (c.toNat≤57)
def JA(c:UInt8):Bool:=PB c||lA c||decide (c.toNat=95)
def signsL:List UInt8:=[58,44,40,41,60,61,62,43,45,42,37,59,91,93]
def AB:List UInt8→Bool
 |a::b::c::_=>decide (a.toNat=46)&&lA b&&lA c
 |_=>false
def cG:List UInt8→Bool
 |a::b::_=>decide ((a=60∧b=61)∨(a=60∧b=62)∨(a=62∧b=61))
 |_=>false
def OB(c:UInt8)(r:List UInt8):TK×Nat×Nat:=
 if PB c=true then
  let n:=1+(r.takeWhile JA).length
  if 24<n then (.b,2,n) else (.w,0,n)
 else if lA c=true then
  let n:=1+(r.takeWhile lA).length
  let m:=if AB (r.drop (n - 1))=true then n+3 else n
  if 12<n then (.b,2,m) else (.n,0,m)
 else if cG (c::r)=true then (.s,0,2)
 else if signsL.contains c=true then (.s,0,1)
 else (.b,1,1)
def pD:Nat→List UInt8→Nat→List Tok
 |0,_,p=>[⟨.e,⟨#[]⟩,p,0⟩]
 |f+1,l,p=>
  let b:=(l.takeWhile (·==32)).length
  match l.drop b with
  | []=>[⟨.e,⟨#[]⟩,p+b,0⟩]
  |c::r=>⟨(OB c r).1,⟨((c::r).take (OB c r).2.2).toArray⟩,p+b,(OB c r).2.1⟩::pD f ((c::r).drop (OB c r).2.2) (p+b+(OB c r).2.2)
def VH(s:ByteArray)(p:Nat):List Tok:=pD (s.size+1) (s.data.toList.drop p) p
structure SentW where
 kind:ByteArray
 name:ByteArray:=⟨#[]⟩
 strength:Nat:=0
 positive:Bool:=false
 head:ByteArray:=⟨#[]⟩
 cond:Nd:=Nd.zero
 sum:Nd:=Nd.zero
 way:Nat:=4
 over:List ByteArray:=[]
 tn:Nat:=0
 tu:Nat:=0
 tr:Nat:=0
 els:ByteArray:=⟨#[]⟩
section
variable (L:List Tok)
def tH(f k n:Nat):PR Nd:=(yB L wIf k n).bind fun b k n=>if b=true then zA L f k n else .ok Nd.zero k n
def rD:Nat→List ByteArray→Nat→Nat→PR (List ByteArray)
 |0,_,_,_=>.out
 |f+1,l,k,n=>(yB L (sg 44) k n).bind fun b k n=>if b=true then (uB L k n).bind fun x k n=>rD f (l++[x]) k n else .ok l k n
def jD:Nat→List ByteArray→Nat→Nat→PR (List ByteArray)
 |0,_,_,_=>.out
 |f+1,l,k,n=>(yB L (sg 59) k n).bind fun b k n=>if b=true then (oA L wOver k n).bind fun _ k n=>(uB L k n).bind fun x k n=>(rD L f (l++[x]) k n).bind fun l k n=>jD f l k n else .ok l k n
def VJ(k n:Nat):PR (Nat×Nat×Nat):=
 if (cA L k).kind≠.n∨kD (cA L k).text=true then RC L k
 else if 100000<CC (cA L k).text / 100 then .bad 2 (cA L k).pos
 else (pA L k n).bind fun _ k1 n=>(aE L unitsW k1 n).bind fun u k2 n=>(yB L (sg 44) k2 n).bind fun b k3 n=>
  if b=true then (aE L kJ k3 n).bind fun r k4 n=>.ok (CC (cA L k).text / 100,u,r+1) k4 n else .ok (CC (cA L k).text / 100,u,0) k3 n
def FG(k n:Nat):PR Nat:=(yB L wStrict k n).bind fun b k n=>if b=true then .ok 0 k n else (yB L wDefeater k n).bind fun b k n=>if b=true then .ok 2 k n else .ok 1 k n
def MO(k n:Nat):PR (Bool×ByteArray):=(yB L wNot k n).bind fun b k n=>(uB L k n).bind fun x k n=>.ok (!b,x) k n
def FF(f:Nat)(kind:ByteArray)(k n:Nat):PR SentW:=
 (uB L k n).bind fun name k n=>
 (if vA kind wRule=true then FG L k n else .ok 0 k n).bind fun st k n=>
 (oA L (sg 58) k n).bind fun _ k n=>
 if vA kind wDefine=true then (zA L f k n).bind fun x k n=>.ok {kind,name,strength:=st,cond:=x} k n
 else if vA kind wAmount=true then (IB L f k n).bind fun x k n=>(tH L f k n).bind fun c k n=>(yB L (sg 59) k n).bind fun b k n=>
  if b=true then (oA L AE k n).bind fun _ k n=>(aE L waysW k n).bind fun w k n=>.ok {kind,name,strength:=st,sum:=x,cond:=c,way:=w} k n
  else .ok {kind,name,strength:=st,sum:=x,cond:=c} k n
 else (MO L k n).bind fun l k n=>
  if vA kind wRule=true then (tH L f k n).bind fun c k n=>(jD L f [] k n).bind fun o k n=>.ok {kind,name,strength:=st,positive:=l.1,head:=l.2,cond:=c,over:=o} k n
  else (oA L ED k n).bind fun _ k n=>(VJ L k n).bind fun t k n=>(yB L dF k n).bind fun b k n=>
   if b=true then (uB L k n).bind fun x k n=>.ok {kind,name,strength:=st,positive:=l.1,head:=l.2,tn:=t.1,tu:=t.2.1,tr:=t.2.2,els:=x} k n
   else .ok {kind,name,strength:=st,positive:=l.1,head:=l.2,tn:=t.1,tu:=t.2.1,tr:=t.2.2} k n
def uJ(f:Nat)(kind:ByteArray):PR SentW:=
 if (cA L 0).kind=.b then .bad (cA L 0).code (cA L 0).pos
 else (FF L f kind 0 0).bind fun x k n=>if (cA L k).kind=.e then .ok x k n else RC L k
end
end Go.Proofs.YtehbinobohjadaaGreatDoor

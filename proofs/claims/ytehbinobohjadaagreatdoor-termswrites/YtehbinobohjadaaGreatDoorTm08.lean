import Derived.Test.YtehbinobohjadaaGreatDoorTm00
import Derived.Test.YtehbinobohjadaaGreatDoorTm02
import Derived.Below
import Derived.Outline
import Derived.Test.YtehbinobohjadaaGreatDoorTm04
import Derived.Lib.Bytes
import Derived.Lib.ItoaNum
set_option maxHeartbeats 20000000
set_option maxRecDepth 20000
namespace Go.Proofs.YtehbinobohjadaaGreatDoor
open Go.RowKit Go.Extern.Stop Go.Stop Go.Extern
theorem WT{p:Prop}(h:p):Hid p:=h
def gi:Nat→Nat
 |0=>1|1=>0|2=>2|3=>3|4=>4|5=>5|6=>6|7=>7|8=>8|9=>9|10=>10|n=>n
theorem YV{i:Nat}(h:i<11):gi i<11:=by
 have h:i=0∨i=1∨i=2∨i=3∨i=4∨i=5∨i=6∨i=7∨i=8∨i=9∨i=10:=by omega
 rcases h with rfl|rfl|rfl|rfl|rfl|rfl|rfl|rfl|rfl|rfl|rfl<;>decide
structure Laid(w:World)(p:Nat→Addr):Prop where
 cell:∀i,i<11→w.cell? ⟨gi i,0,none⟩=some (.iface 189 (.pointer (some (p i))))
 ne:∀i j,i<11→j<11→i≠j→p i≠p j
 blk:∀i,i<11→∃c t,w.heap[(p i).block]?=some (.cells c t (0,0))
 typ:w.cell? ⟨11,0,none⟩=some (.iface 151 (.agg #[.pointer (some ⟨16,32,none⟩)]))
theorem Laid.lt{w:World}{p:Nat→Addr}(h:Laid w p):11<w.heap.size:=by
 rcases Nat.lt_or_ge 11 w.heap.size with k|k
 ·exact k
 ·have:=h.typ;simp[World.cell?,Array.getElem?_eq_none k] at this
theorem Laid.below{w w':World}{p:Nat→Addr}(h:Laid w p)(hb:Below w.heap.size w w'):Laid w' p:=by
 have hl:=h.lt
 refine⟨fun i hi=>?_,h.ne,fun i hi=>?_,?_⟩
 ·rw[hb.cell (p:=⟨gi i,0,none⟩) (show gi i<_ by have:=YV hi;omega)];exact h.cell i hi
 ·obtain⟨c,t,hc⟩:=h.blk i hi
  have hlt:(p i).block<w.heap.size:=by
   rcases Nat.lt_or_ge (p i).block w.heap.size with k|k
   ·exact k
   ·simp[Array.getElem?_eq_none k] at hc
  exact⟨c,t,by rw[hb.block _ hlt];exact hc⟩
 ·rw[hb.cell (p:=⟨11,0,none⟩) hl];exact h.typ
theorem Laid.alloc{w:World}{p:Nat→Addr}(h:Laid w p)(o:Obj):Laid (w.alloc o) p:=
 h.below ((Below.refl _ _).alloc (nR _) o)
theorem xO(e t:Addr)(w:World)(p:Nat→Addr)(L:Laid w p):
 Calls Tryz.prog 57 #[.iface 189 (.pointer (some e)),.iface 110 (.pointer (some t))] w fun ev w'=>ev=.returned (.bool false)∧Below w.heap.size w w':=by
 refine(tS e t w L.typ).mono ?_
 rintro ev w' ⟨rfl,rfl⟩
 exact⟨rfl,((bA _ _).alloc (by simp) _).alloc (by simp;omega) _⟩
theorem iP(p:Nat→Addr)(w:World)(i:Nat)(hi:i<11):
 (w.alloc (.cells #[.iface 189 (.pointer (some (p 0))),.iface 189 (.pointer (some (p 1))),.iface 189 (.pointer (some (p 2))),.iface 189 (.pointer (some (p 3))),.iface 189 (.pointer (some (p 4))),.iface 189 (.pointer (some (p 5))),.iface 189 (.pointer (some (p 6))),.iface 189 (.pointer (some (p 7))),.iface 189 (.pointer (some (p 8))),.iface 189 (.pointer (some (p 9))),.iface 189 (.pointer (some (p 10)))] 32)).cell? ⟨w.heap.size,i,none⟩=some (.iface 189 (.pointer (some (p i)))):=by
 have h:i=0∨i=1∨i=2∨i=3∨i=4∨i=5∨i=6∨i=7∨i=8∨i=9∨i=10:=by omega
 rcases h with rfl|rfl|rfl|rfl|rfl|rfl|rfl|rfl|rfl|rfl|rfl<;>simp
theorem zO(k:Nat)(hk:k<11)(p:Nat→Addr)(w:World)(L:Laid w p):
 Calls Tryz.prog 27 #[.iface 189 (.pointer (some (p k)))] w fun e w'=>e=.returned (.tuple #[.int .i64 (k+1),.int .i64 (-1)])∧Below w.heap.size w w':=by
 have La:=L.alloc (.cells #[.pointer none] 55)
 go_enter Tryz.func27,Tryz.ntmps27
 go_wp2_with fail
 refine(xO _ _ _ p La).mono ?_
 rintro e w1 ⟨rfl,hb1⟩
 have L1:=La.below hb1
 have c0:w1.cell? ⟨1,0,none⟩=some (.iface 189 (.pointer (some (p 0)))):=L1.cell 0 (by omega)
 have c1:w1.cell? ⟨0,0,none⟩=some (.iface 189 (.pointer (some (p 1)))):=L1.cell 1 (by omega)
 have c2:w1.cell? ⟨2,0,none⟩=some (.iface 189 (.pointer (some (p 2)))):=L1.cell 2 (by omega)
 have c3:w1.cell? ⟨3,0,none⟩=some (.iface 189 (.pointer (some (p 3)))):=L1.cell 3 (by omega)
 have c4:w1.cell? ⟨4,0,none⟩=some (.iface 189 (.pointer (some (p 4)))):=L1.cell 4 (by omega)
 have c5:w1.cell? ⟨5,0,none⟩=some (.iface 189 (.pointer (some (p 5)))):=L1.cell 5 (by omega)
 have c6:w1.cell? ⟨6,0,none⟩=some (.iface 189 (.pointer (some (p 6)))):=L1.cell 6 (by omega)
 have c7:w1.cell? ⟨7,0,none⟩=some (.iface 189 (.pointer (some (p 7)))):=L1.cell 7 (by omega)
 have c8:w1.cell? ⟨8,0,none⟩=some (.iface 189 (.pointer (some (p 8)))):=L1.cell 8 (by omega)
 have c9:w1.cell? ⟨9,0,none⟩=some (.iface 189 (.pointer (some (p 9)))):=L1.cell 9 (by omega)
 have c10:w1.cell? ⟨10,0,none⟩=some (.iface 189 (.pointer (some (p 10)))):=L1.cell 10 (by omega)
 have hS:=iP p w1
 have L2:=L1.alloc (.cells #[.iface 189 (.pointer (some (p 0))),.iface 189 (.pointer (some (p 1))),.iface 189 (.pointer (some (p 2))),.iface 189 (.pointer (some (p 3))),.iface 189 (.pointer (some (p 4))),.iface 189 (.pointer (some (p 5))),.iface 189 (.pointer (some (p 6))),.iface 189 (.pointer (some (p 7))),.iface 189 (.pointer (some (p 8))),.iface 189 (.pointer (some (p 9))),.iface 189 (.pointer (some (p 10)))] 32)
 have hfin:Below w.heap.size w (w1.alloc (.cells #[.iface 189 (.pointer (some (p 0))),.iface 189 (.pointer (some (p 1))),.iface 189 (.pointer (some (p 2))),.iface 189 (.pointer (some (p 3))),.iface 189 (.pointer (some (p 4))),.iface 189 (.pointer (some (p 5))),.iface 189 (.pointer (some (p 6))),.iface 189 (.pointer (some (p 7))),.iface 189 (.pointer (some (p 8))),.iface 189 (.pointer (some (p 9))),.iface 189 (.pointer (some (p 10)))] 32)):=
  (((bA _ _).trans (hb1.mono (by simp))).alloc (by have:=hb1.size;simp at this;omega) _)
 have HF:=WT hfin
 have HL:=WT L2
 clear hfin L2 hb1 L1 La
 go_wp2_with fail
 clear c0 c1 c2 c3 c4 c5 c6 c7 c8 c9 c10
 go_loop [3,29] (fun a t=>a=.int .i64 (-1)∧∃i:Nat,i≤k∧t=.int .i64 i) (fun _ t=>11 - (intOf t).toNat)
 case atStart=>exact⟨rfl,0,Nat.zero_le _,rfl⟩
 case round=>
  obtain⟨rfl,i,hik,rfl⟩:=hrel
  have hi:i<11:=by omega
  have hSi:=hS i hi
  by_cases hlt:i<k
  ·obtain⟨ca,ta,hca⟩:=HL.out.blk k hk
   obtain⟨cb,tb,hcb⟩:=HL.out.blk i hi
   have hne:=HL.out.ne k i hk hi (by omega)
   go_wp2_with fail
   refine(lQ (p k) (p i) ca cb ta tb _ hne hca hcb).mono ?_
   rintro e w' ⟨rfl,rfl⟩
   go_wp2
   go_round
   case rel=>exact⟨rfl,i+1,by omega,by go_num⟩
   case measure=>simp[intOf];omega
  ·obtain rfl:i=k:=by omega
   go_wp2_with fail
   refine(KS (p i) _).mono ?_
   rintro e w' ⟨rfl,rfl⟩
   go_wp2
   go_ret2
   exact⟨rfl,HF.out⟩
def BE(s:ByteArray):Nat:=(s.data.toList.takeWhile (·!=46)).length
def ZE:List ByteArray:=[sg 43,sg 45,sg 42]
section
variable (L:List Tok)
def AI{α:Type}:PR α:=.bad 0 0
def YB(s:ByteArray)(k:Nat):Bool:=vA (cA L k).text s
def bB(s:ByteArray)(k n:Nat):PR Unit:=if YB L s k=true then .ok () (k+1) n else AI
def dD(k:Nat):Bool:=decide ((cA L k).kind=.w)&&(iA gramW (cA L k).text).isNone
def oB(k n:Nat):PR ByteArray:=if dD L k=true∧(cA L k).text.size≤24 then .ok (cA L k).text (k+1) n else AI
def cC(k n:Nat):PR Nat:=if (cA L k).kind=.n∧BE (cA L k).text≤12∧CC (cA L k).text≤1000000000000 then .ok (CC (cA L k).text) (k+1) n else AI
def XE(k n:Nat):PR Nat:=(cC L k n).bind fun x k n=>(bB L (sg 37) k n).bind fun _ k n=>if x≤1000000 then .ok x k n else AI
def TB(k n:Nat):PR ByteArray:=if n=40 then AI else .ok (cA L k).text (k+1) (n+1)
def dC(s:ByteArray)(k n:Nat):PR Unit:=(bB L s k n).bind fun _ k n=>.ok () k (n - 1)
def sF(k:Nat):Bool:=dD L k&&(iA ordersW (cA L (k+1)).text).isNone&&(iA ZE (cA L (k+1)).text).isNone
def JD(k n:Nat):PR Nd:=(oB L k n).bind fun w k n=>(bB L wOf k n).bind fun _ k n=>(oB L k n).bind fun o k n=>.ok (.mk wTotal w 0 [.mk qB o 0 []]) k n
mutual
def FA:Nat→Nat→Nat→PR Nd
 |0,_,_=>.out
 |f+1,k,n=>(iC f k n).bind fun x k n=>zB f x k n
def zB:Nat→Nd→Nat→Nat→PR Nd
 |0,_,_,_=>.out
 |f+1,x,k,n=>if YB L wOr k=true then (iC f (k+1) n).bind fun m k n=>zB f (.mk wOr ⟨#[]⟩ 0 [x,m]) k n else .ok x k n
def iC:Nat→Nat→Nat→PR Nd
 |0,_,_=>.out
 |f+1,k,n=>(QA f k n).bind fun x k n=>WA f x k n
def WA:Nat→Nd→Nat→Nat→PR Nd
 |0,_,_,_=>.out
 |f+1,x,k,n=>if YB L wAnd k=true then (QA f (k+1) n).bind fun m k n=>WA f (.mk wAnd ⟨#[]⟩ 0 [x,m]) k n else .ok x k n
def QA:Nat→Nat→Nat→PR Nd
 |0,_,_=>.out
 |f+1,k,n=>if YB L wNot k=true then (TB L k n).bind fun _ k n=>(QA f k n).bind fun x k n=>.ok (.mk wNot ⟨#[]⟩ 0 [x]) k (n - 1) else BC f k n
def BC:Nat→Nat→Nat→PR Nd
 |0,_,_=>.out
 |f+1,k,n=>
  if YB L (sg 40) k=true then (TB L k n).bind fun _ k n=>(FA f k n).bind fun x k n=>(dC L (sg 41) k n).bind fun _ k n=>.ok x k n
  else if YB L wSome k=true∨YB L wEvery k=true then iB f k n
  else if sF L k=true then (oB L k n).bind fun w k n=>.ok (.mk qB w 0 []) k n
  else DC f k n
def iB:Nat→Nat→Nat→PR Nd
 |0,_,_=>.out
 |f+1,k,n=>(TB L k n).bind fun d k n=>(oB L k n).bind fun w k n=>(bB L (sg 40) k n).bind fun _ k n=>(FA f k n).bind fun x k n=>(dC L (sg 41) k n).bind fun _ k n=>.ok (.mk d w 0 [x]) k n
def DC:Nat→Nat→Nat→PR Nd
 |0,_,_=>.out
 |f+1,k,n=>(GC f k n).bind fun a k n=>if (iA ordersW (cA L k).text).isSome=true then (GC f (k+1) n).bind fun b k1 n=>.ok (.mk (cA L k).text ⟨#[]⟩ 0 [a,b]) k1 n else AI
def GC:Nat→Nat→Nat→PR Nd
 |0,_,_=>.out
 |f+1,k,n=>(fC f k n).bind fun x k n=>UA f x k n
def UA:Nat→Nd→Nat→Nat→PR Nd
 |0,_,_,_=>.out
 |f+1,x,k,n=>if YB L (sg 43) k=true∨YB L (sg 45) k=true then (fC f (k+1) n).bind fun m k1 n=>UA f (.mk (cA L k).text ⟨#[]⟩ 0 [x,m]) k1 n else .ok x k n
def fC:Nat→Nat→Nat→PR Nd
 |0,_,_=>.out
 |f+1,k,n=>(mB f k n).bind fun x k n=>IA f x k n
def IA:Nat→Nd→Nat→Nat→PR Nd
 |0,_,_,_=>.out
 |f+1,x,k,n=>if YB L (sg 42) k=true then (XE L (k+1) n).bind fun r k n=>IA f (.mk (sg 42) ⟨#[]⟩ r [x]) k n else .ok x k n
def mB:Nat→Nat→Nat→PR Nd
 |0,_,_=>.out
 |f+1,k,n=>
  if (cA L k).kind=.n then (cC L k n).bind fun x k n=>.ok (.mk JB ⟨#[]⟩ x []) k n
  else if YB L wCount k=true then (oB L (k+1) n).bind fun w k n=>.ok (.mk wCount w 0 []) k n
  else if YB L wTotal k=true then JD L (k+1) n
  else if YB L wMax k=true∨YB L wMin k=true then KB f k n
  else if YB L (sg 91) k=true then (TB L k n).bind fun _ k n=>(GC f k n).bind fun x k n=>(dC L (sg 93) k n).bind fun _ k n=>.ok x k n
  else (oB L k n).bind fun w k n=>.ok (.mk qB w 0 []) k n
def KB:Nat→Nat→Nat→PR Nd
 |0,_,_=>.out
 |f+1,k,n=>(TB L k n).bind fun d k n=>(bB L (sg 40) k n).bind fun _ k n=>(GC f k n).bind fun a k n=>(bB L (sg 44) k n).bind fun _ k n=>(GC f k n).bind fun b k n=>(dC L (sg 41) k n).bind fun _ k n=>.ok (.mk d ⟨#[]⟩ 0 [a,b]) k n
end
end
inductive Tn where
 |mk (kind word:ByteArray) (n:Int) (kids:List Tn)
def Tn.kind:Tn→ByteArray| .mk a _ _ _=>a
def Tn.word:Tn→ByteArray| .mk _ b _ _=>b
def Tn.num:Tn→Int| .mk _ _ c _=>c
def Tn.kids:Tn→List Tn| .mk _ _ _ d=>d
structure WS where
 ts:List ByteArray
 z:Nat
 d:Nat
def MA(s:WS)(x:ByteArray):Option WS:=if x.size=0∨300<s.z+x.size then none else some ⟨s.ts++[x],s.z+x.size,s.d⟩
def CA:WS→List ByteArray→Option WS
 |s,[]=>some s
 |s,x::l=>(MA s x).bind fun s=>CA s l
def PA(s:WS):Option WS:=if 300<s.d+1 then none else some ⟨s.ts,s.z,s.d+1⟩
def eC(s:WS):WS:=⟨s.ts,s.z,s.d - 1⟩
def AJ(k:ByteArray):Nat:=if vA k wOr=true then 0 else if vA k wAnd=true then 1 else if vA k wNot=true then 2 else 3
def xL(k:ByteArray):Nat:=if vA k (sg 43)=true∨vA k (sg 45)=true then 0 else if vA k (sg 42)=true then 1 else 2
def wP(k:ByteArray)(lv:Nat)(go:WS→Option WS)(s:WS):Option WS:=if xL k<lv then (MA s (sg 91)).bind fun s=>(go s).bind fun s=>MA s (sg 93) else go s
def NP(k:ByteArray)(lv:Nat)(go:WS→Option WS)(s:WS):Option WS:=if AJ k<lv then (MA s (sg 40)).bind fun s=>(go s).bind fun s=>MA s (sg 41) else go s
def TC(n:Int):ByteArray:=⟨(Lib.itoa n).toArray⟩
def bJ(n:Int):ByteArray:=if n.tmod 100=0 then TC (n.tdiv 100) else TC (n.tdiv 100)++⟨#[46]⟩++TC ((n.tmod 100).tdiv 10)++TC (n.tmod 10)
def cE:Tn→WS→Option WS
 | .mk k w n ks,s=>(PA s).bind fun s=>Option.map eC (
   if vA k (sg 43)=true∨vA k (sg 45)=true then (match ks with
    |a::b::_=>(wP a.kind 0 (cE a) s).bind fun s=>(MA s k).bind fun s=>wP b.kind 1 (cE b) s
    |_=>none)
   else if vA k (sg 42)=true then (match ks with
    |a::_=>(wP a.kind 1 (cE a) s).bind fun s=>CA s [sg 42,bJ n,sg 37]
    |_=>none)
   else if vA k JB=true then MA s (bJ n)
   else if vA k qB=true then MA s w
   else if vA k wCount=true then CA s [wCount,w]
   else if vA k wTotal=true then (match ks with
    |a::_=>CA s [wTotal,w,wOf,a.word]
    |_=>none)
   else if vA k wMax=true∨vA k wMin=true then (match ks with
    |a::b::_=>(CA s [k,sg 40]).bind fun s=>(wP a.kind 0 (cE a) s).bind fun s=>(MA s (sg 44)).bind fun s=>(wP b.kind 0 (cE b) s).bind fun s=>MA s (sg 41)
    |_=>none)
   else none)
termination_by t=>SizeOf.sizeOf t
decreasing_by all_goals (simp;omega)
def uD(t:Tn)(lv:Nat)(s:WS):Option WS:=wP t.kind lv (cE t) s
def XB:Tn→WS→Option WS
 | .mk k w _ ks,s=>(PA s).bind fun s=>Option.map eC (
   if vA k wOr=true∨vA k wAnd=true then (match ks with
    |a::b::_=>(NP a.kind (AJ k) (XB a) s).bind fun s=>(MA s k).bind fun s=>NP b.kind (AJ k+1) (XB b) s
    |_=>none)
   else if vA k wNot=true then (match ks with
    |a::_=>(MA s wNot).bind fun s=>NP a.kind 2 (XB a) s
    |_=>none)
   else if vA k wSome=true∨vA k wEvery=true then (match ks with
    |a::_=>(CA s [k,w,sg 40]).bind fun s=>(NP a.kind 0 (XB a) s).bind fun s=>MA s (sg 41)
    |_=>none)
   else if vA k qB=true then MA s w
   else if (iA ordersW k).isSome=true then (match ks with
    |a::b::_=>(uD a 0 s).bind fun s=>(MA s k).bind fun s=>uD b 0 s
    |_=>none)
   else none)
termination_by t=>SizeOf.sizeOf t
decreasing_by all_goals (simp;omega)
def SC(t:Tn)(lv:Nat)(s:WS):Option WS:=NP t.kind lv (XB t) s
structure SentT where
 kind:ByteArray
 name:ByteArray
 strength:Int
 positive:Bool
 head:ByteArray
 cond:Tn
 sum:Tn
 way:Int
 over:List ByteArray
 tn:Int
 tu:Int
 tr:Int
 els:ByteArray
def fF(l:List ByteArray)(n:Int):Option ByteArray:=if n<0 then none else l[n.toNat]?
def YI(x:SentT)(s:WS):Option WS:=(if x.positive=true then some s else MA s wNot).bind fun s=>MA s x.head
def LN(t:Tn)(s:WS):Option WS:=if t.kind.size=0 then some s else (MA s wIf).bind fun s=>SC t 0 s
def lF:Bool→List ByteArray→WS→Option WS
 |_,[],s=>some s
 |true,x::l,s=>(CA s [sg 59,wOver,x]).bind fun s=>lF false l s
 |false,x::l,s=>(CA s [sg 44,x]).bind fun s=>lF false l s
def jG(x:SentT)(s:WS):Option WS:=
 (if x.strength=1 then some s else (fF [wStrict,⟨#[]⟩,wDefeater] x.strength).bind fun t=>MA s t).bind fun s=>(MA s (sg 58)).bind fun s=>(YI x s).bind fun s=>(LN x.cond s).bind fun s=>lF true x.over s
def BD(x:SentT)(s:WS):Option WS:=
 (MA s (sg 58)).bind fun s=>(uD x.sum 0 s).bind fun s=>(LN x.cond s).bind fun s=>if x.way=4 then some s else (fF waysW x.way).bind fun t=>CA s [sg 59,AE,t]
def TG(x:SentT)(s:WS):Option WS:=
 (MA s (sg 58)).bind fun s=>(YI x s).bind fun s=>(fF unitsW x.tu).bind fun u=>(CA s [ED,TC x.tn,u]).bind fun s=>
   (if x.tr=0 then some s else (fF [⟨#[]⟩,nM,XH] x.tr).bind fun t=>CA s [sg 44,t]).bind fun s=>if x.els.size=0 then some s else CA s [dF,x.els]
def WD(x:SentT):Option WS:=(CA ⟨[],0,0⟩ [x.kind,x.name]).bind fun s=>
 if vA x.kind wDefine=true then (MA s (sg 58)).bind fun s=>SC x.cond 0 s
 else if vA x.kind wRule=true then jG x s
 else if vA x.kind wAmount=true then BD x s
 else if vA x.kind wDuty=true then TG x s
 else none
end Go.Proofs.YtehbinobohjadaaGreatDoor

import Derived.Test.YtpbolcjcmkmalaaGreatDoorAq00
import Derived.Test.YtpbolcjcmkmalaaGreatDoorAq03
import Derived.Test.YtpbolcjcmkmalaaGreatDoorAq07
import Derived.Test.YtpbolcjcmkmalaaGreatDoorAq01
import Derived.Test.YtpbolcjcmkmalaaGreatDoorAq06
set_option maxHeartbeats 20000000
set_option maxRecDepth 20000
namespace Go.Proofs.YtpbolcjcmkmalaaGreatDoor
open Go.RowKit Go.Extern.Stop Go.Stop Go.Extern
def XA:List UInt8→List (List UInt8)
 | []=>[[]]
 |c::r=>if c=47 then []::XA r else match XA r with| []=>[[c]]|h::t=>(c::h)::t
theorem qC:∀l,XA l≠[]
 | []=>by simp[XA]
 |c::r=>by
  rw[XA]
  split
  ·simp
  ·split<;>simp
theorem DB(r:List UInt8):XA (47::r)=[]::XA r:=by rw[XA,if_pos rfl]
theorem YB{c:UInt8}{r:List UInt8}(h:c≠47){g:List UInt8}{t:List (List UInt8)}(e:XA r=g::t):XA (c::r)=(c::g)::t:=by rw[XA,if_neg h,e]
theorem UG:∀l:List UInt8,XA (l++[47])=XA l++[[]]
 | []=>rfl
 |c::r=>by
  have ih:=UG r
  by_cases hc:c=47
  ·subst hc
   rw[List.cons_append,DB,ih,DB];rfl
  ·obtain⟨g,t,e⟩:∃g t,XA r=g::t:=by
    cases h:XA r with
    |nil=>exact absurd h (qC r)
    |cons g t=>exact⟨g,t,rfl⟩
   rw[List.cons_append,YB hc (g:=g) (t:=t++[[]]) (by rw[ih,e];rfl),YB hc e];rfl
theorem FE{d:UInt8}(hd:d≠47):∀(l:List UInt8) (o:List (List UInt8)) (x:List UInt8),XA l=o++[x]→XA (l++[d])=o++[x++[d]]
 | [],o,x,h=>by
   have h:[[]]=o++[x]:=h
   cases o with
   |nil=>simp at h;subst h;rw[List.nil_append,XA,if_neg hd];rfl
   |cons a o=>simp at h
 |c::r,o,x,h=>by
  by_cases hc:c=47
  ·subst hc
   rw[DB] at h
   cases o with
   |nil=>exact absurd (by simpa using (List.cons.inj h).2) (qC r)
   |cons a o=>
    rw[List.cons_append] at h
    obtain⟨h1,h2⟩:=List.cons.inj h
    rw[List.cons_append,DB,FE hd r o x h2,←h1];rfl
  ·obtain⟨g,t,e⟩:∃g t,XA r=g::t:=by
    cases h:XA r with
    |nil=>exact absurd h (qC r)
    |cons g t=>exact⟨g,t,rfl⟩
   rw[YB hc e] at h
   cases o with
   |nil=>
    obtain⟨h1,h2⟩:=List.cons.inj h
    subst h2
    have:=FE hd r [] g e
    rw[List.cons_append,YB hc (g:=g++[d]) (t:=[]) this,←h1];rfl
   |cons a o=>
    rw[List.cons_append] at h
    obtain⟨h1,h2⟩:=List.cons.inj h
    have:=FE hd r (g::o) x (by rw[e,h2];rfl)
    rw[List.cons_append,YB hc (g:=g) (t:=o++[x++[d]]) this,←h1];rfl
theorem pM(c:UInt8)(r:List UInt8)(h:c≠47):Lib.indexByte (c::r) 47=if Lib.indexByte r 47=-1 then -1 else Lib.indexByte r 47+1:=by
 rw[Lib.indexByte,if_neg (by simpa using h)]
 simp only[beq_iff_eq]
theorem gJ:∀l:List UInt8,Lib.indexByte l 47=-1→XA l=[l]
 | [],_=>rfl
 |c::r,h=>by
  by_cases hc:c=47
  ·subst hc
   rw[Lib.indexByte,if_pos (by simp)] at h
   cases h
  ·rw[pM c r hc] at h
   have h2:Lib.indexByte r 47=-1:=by
    by_cases h3:Lib.indexByte r 47=-1
    ·exact h3
    ·rw[if_neg h3] at h
     have:=Lib.indexByte_ge r 47
     omega
   exact YB hc (gJ r h2)
theorem dL:∀(l:List UInt8) (i:Nat),Lib.indexByte l 47=i→XA l=l.take i::XA (l.drop (i+1))
 | [],i,h=>by
   rw[Lib.indexByte] at h
   omega
 |c::r,i,h=>by
  by_cases hc:c=47
  ·subst hc
   rw[Lib.indexByte,if_pos (by simp)] at h
   obtain rfl:i=0:=by omega
   rw[DB];simp
  ·rw[pM c r hc] at h
   have:=Lib.indexByte_ge r 47
   have h3:¬Lib.indexByte r 47=-1:=fun h3=>by rw[if_pos h3] at h;omega
   rw[if_neg h3] at h
   obtain⟨j,rfl⟩:∃j,i=j+1:=⟨i - 1,by omega⟩
   have h2:Lib.indexByte r 47=j:=by omega
   rw[YB hc (dL r j h2)]
   simp
theorem VG:∀(n:Nat) (l:List UInt8),l.length≤n→Lib.splitK [47] 0 (Lib.count l [47]) l=XA l
 |n,l,hn=>by
  by_cases h:Lib.index l [47]=-1
  ·rw[Lib.count_miss h]
   show [l]=_
   rw[Lib.index_one] at h
   exact(gJ l h).symm
  ·have hge:=Lib.index_ge l [47]
   obtain⟨i,hi⟩:∃i:Nat,Lib.index l [47]=i:=⟨(Lib.index l [47]).toNat,by omega⟩
   have hlt:=Lib.drop_shorter (s:=l) (sub:=[47]) (by simp) (by simpa using h)
   rw[hi] at hlt
   rw[Lib.count_hit (by simp) hi,Nat.add_comm 1,Lib.splitK,if_neg (by simpa using h),hi]
   have hi':=hi
   rw[Lib.index_one] at hi'
   rw[dL l i hi']
   simp only[Int.toNat_natCast,List.length_cons,List.length_nil,Nat.zero_add] at hlt ⊢
   cases n with
   |zero=>omega
   |succ n=>
    rw[VG n (l.drop (i+1)) (by omega)]
    congr 1
theorem UF:∀l:List UInt8,(XA l).length≤l.length+1
 | []=>by simp[XA]
 |c::r=>by
  have ih:=UF r
  by_cases hc:c=47
  ·subst hc;rw[DB];simp;omega
  ·obtain⟨g,t,e⟩:∃g t,XA r=g::t:=by
    cases h:XA r with
    |nil=>exact absurd h (qC r)
    |cons g t=>exact⟨g,t,rfl⟩
   rw[YB hc e];rw[e] at ih;simp at ih ⊢;omega
theorem xD:∀(l x:List UInt8),x∈XA l→x.length≤l.length
 | [],x,h=>by simp[XA] at h;subst h;simp
 |c::r,x,h=>by
  by_cases hc:c=47
  ·subst hc;rw[DB] at h
   rcases List.mem_cons.1 h with h|h
   ·subst h;simp
   ·have:=xD r x h;simp;omega
  ·obtain⟨g,t,e⟩:∃g t,XA r=g::t:=by
    cases h:XA r with
    |nil=>exact absurd h (qC r)
    |cons g t=>exact⟨g,t,rfl⟩
   rw[YB hc e] at h
   rcases List.mem_cons.1 h with h|h
   ·have:=xD r g (by rw[e];simp);subst h;simp;omega
   ·have:=xD r x (by rw[e];simp[h]);simp;omega
def cA(s:ByteArray):List ByteArray:=if s.size=0 then [] else (XA (bl s)).map gD
def zE(s:ByteArray)(t:It):Bool:=t.label.toList==s.toList
def iA(l:List It)(s:ByteArray):Option Nat:=l.findIdx? (zE s)
theorem SA{l:List It}{s:ByteArray}{i:Nat}(h:iA l s=some i):∃x,l[i]?=some x∧zE s x=true∧∀j y,j<i→l[j]?=some y→zE s y=false:=by
 unfold iA at h
 rw[List.findIdx?_eq_some_iff_getElem] at h
 obtain⟨hi,h1,h2⟩:=h
 refine⟨l[i],List.getElem?_eq_getElem hi,h1,fun j y hj hy=>?_⟩
 obtain⟨hj',rfl⟩:=List.getElem?_eq_some_iff.1 hy
 have:=h2 j hj
 simpa using this
theorem JH{l:List It}{s:ByteArray}{i:Nat}{x:It}(hx:l[i]?=some x)(h1:zE s x=true)(h2:∀j y,j<i→l[j]?=some y→zE s y=false):iA l s=some i:=by
 unfold iA
 rw[List.findIdx?_eq_some_iff_getElem]
 obtain⟨hi,rfl⟩:=List.getElem?_eq_some_iff.1 hx
 refine⟨hi,h1,fun j hj=>?_⟩
 have hjl:j<l.length:=by omega
 have:=h2 j (l[j]'hjl) hj (List.getElem?_eq_getElem hjl)
 simpa using this
theorem IH{l:List It}{s:ByteArray}(h:∀(j:Nat) y,l[j]?=some y→zE s y=false):iA l s=none:=by
 unfold iA
 rw[List.findIdx?_eq_none_iff]
 intro x hx
 obtain⟨j,hj,rfl⟩:=List.mem_iff_getElem.1 hx
 exact h j _ (List.getElem?_eq_getElem hj)
def eA:It→List ByteArray→Option It
 |t,[]=>some t
 |t,p::r=>match iA t.kids p with
  |none=>none
  |some i=>match t.kids[i]? with
   |none=>none
   |some x=>eA x r
def lB(x:List It):List ByteArray→It→It
 | [],t=>t
 | [p],t=>It.mk t.label t.head t.lines (t.kids.flatMap fun k=>if zE p k then x else [k])
 |p::q::r,t=>It.mk t.label t.head t.lines (t.kids.flatMap fun k=>if zE p k then [lB x (q::r) k] else [k])
theorem MB{t x:It}{p:ByteArray}{r:List ByteArray}{i:Nat}(h:iA t.kids p=some i)(hx:t.kids[i]?=some x):eA t (p::r)=eA x r:=by
 rw[eA,h]
 show (match t.kids[i]? with|none=>none|some x=>eA x r)=_
 rw[hx]
theorem uH{t:It}{p:ByteArray}{r:List ByteArray}(h:iA t.kids p=none):eA t (p::r)=none:=by
 rw[eA,h]
def It.setKid(t:It)(i:Nat)(k:It):It:=.mk t.label t.head t.lines (t.kids.set i k)
def It.setKids(t:It)(l:List It):It:=.mk t.label t.head t.lines l
def It.setLines(t:It)(l:List ByteArray):It:=.mk t.label t.head l t.kids
def It.setHead(t:It)(s:ByteArray):It:=.mk t.label s t.lines t.kids
def It.setLabel(t:It)(s:ByteArray):It:=.mk s t.head t.lines t.kids
def sA(f:It→It):List ByteArray→It→It
 | [],t=>f t
 |p::r,t=>match iA t.kids p with
  |none=>t
  |some i=>match t.kids[i]? with
   |none=>t
   |some x=>t.setKid i (sA f r x)
theorem cB{f:It→It}{t x:It}{p:ByteArray}{r:List ByteArray}{i:Nat}(h:iA t.kids p=some i)(hx:t.kids[i]?=some x):sA f (p::r) t=t.setKid i (sA f r x):=by
 rw[sA,h]
 show (match t.kids[i]? with|none=>t|some x=>t.setKid i (sA f r x))=_
 rw[hx]
theorem ZC:∀(p:List ByteArray) (t x:It) (s:ByteArray),eA t p=some x→eA t (p++[s])=eA x [s]
 | [],t,x,s,h=>by rw[eA] at h;injection h with h;subst h;rfl
 |q::r,t,x,s,h=>by
  rw[eA] at h
  split at h
  ·cases h
  ·rename_i i hi
   split at h
   ·cases h
   ·rename_i y hy
    rw[List.cons_append,MB hi hy]
    exact ZC r y x s h
theorem QE:∀(p:List ByteArray) (t:It) (q:List ByteArray),eA t p=none→eA t (p++q)=none
 | [],t,q,h=>by rw[eA] at h;cases h
 |a::r,t,q,h=>by
  rw[eA] at h
  rw[List.cons_append,eA]
  split at h
  ·rfl
  ·rename_i i hi
   split at h
   ·rfl
   ·rename_i y hy
    exact QE r y q h
theorem wD:∀(p:List ByteArray) (t x y:It) (s:ByteArray) (i:Nat) (z:It),eA t p=some x→iA x.kids s=some i→x.kids[i]?=some y→sA (fun _=>z) (p++[s]) t=sA (fun _=>x.setKid i z) p t
 | [],t,x,y,s,i,z,h,hi,hy=>by
   rw[eA] at h
   injection h with h
   subst h
   rw[List.nil_append,cB hi hy]
   rfl
 |q::r,t,x,y,s,i,z,h,hi,hy=>by
  rw[eA] at h
  split at h
  ·cases h
  ·rename_i j hj
   split at h
   ·cases h
   ·rename_i u hu
    rw[List.cons_append,cB hj hu,cB hj hu,wD r u x y s i z h hi hy]
structure OpW where
 kind:Int
 path:ByteArray
 at':ByteArray
 text:ByteArray
 new:ByteArray
 line:Int
 item:It
noncomputable def chkB (s:ByteArray):Nat:=if 300<s.size then 2 else if lineB s=true then 0 else 1
inductive COut where
 |bad (c:Nat)
 |ok (t:It)
def VB(x:It)(n:Int):Bool:=decide (0≤n)&&decide (n<x.lines.length)
def jK(p l:List UInt8):List Nat:=(List.range l.length).filter fun k=>p.isPrefixOf (l.drop k)
def lC(p:List UInt8)(ls:List ByteArray):List (Nat×Nat):=(List.range ls.length).flatMap fun i=>(jK p (ls[i]?.getD ⟨#[]⟩).toList).map fun k=>(i,k)
noncomputable def wordsC (x:It) (o:OpW):COut:=
 match lC o.text.toList x.lines with
 | [(i,k)]=>if o.text.size=0 then .bad 6 else
   let s:=x.lines[i]?.getD ⟨#[]⟩
   let u:=s.extract 0 k++o.new++s.extract (k+o.text.size) s.size
   if chkB u=0 then .ok (x.setLines (x.lines.set i u)) else .bad (chkB u)
 |_=>.bad 6
noncomputable def textC (x:It) (o:OpW):COut:=
 if o.kind=2 then
  if VB x o.line=false then .bad 8 else if chkB o.text=0 then .ok (x.setLines (x.lines.set o.line.toNat o.text)) else .bad (chkB o.text)
 else if o.kind=3 then
  if o.line≠x.lines.length∧VB x o.line=false then .bad 8 else if x.lines.length=40 then .bad 2 else if chkB o.text=0 then .ok (x.setLines (x.lines.insertIdx o.line.toNat o.text)) else .bad (chkB o.text)
 else if o.kind=4 then
  if VB x o.line=false then .bad 8 else .ok (x.setLines (x.lines.eraseIdx o.line.toNat))
 else if o.kind=5 then wordsC x o
 else if chkB o.text=0 then .ok (x.setHead o.text) else .bad (chkB o.text)
def pA(l:List It)(s:ByteArray):Option Nat:=if s.size=0 then some 0 else (iA l s).map (· +1)
def kF(t:It)(p:List ByteArray):Option (It×Nat):=
 if p=[] then none else match eA t p.dropLast with
  |none=>none
  |some x=>match iA x.kids (p.getLast?.getD ⟨#[]⟩) with
   |none=>none
   |some i=>some (x,i)
noncomputable def putC (t:It) (o:OpW):COut:=
 match eA t (cA o.path) with
 |none=>.bad 5
 |some x=>match pA x.kids o.at' with
  |none=>.bad 5
  |some i=>if (iA x.kids o.item.label).isSome then .bad 7 else
   match vIt 0 0 [] (sA (fun _=>x.setKids (x.kids.insertIdx i o.item)) (cA o.path) t) with
   | .bad c=>.bad c
   | .ok _=>.ok (sA (fun _=>x.setKids (x.kids.insertIdx i o.item)) (cA o.path) t)
def SB(t:It)(o:OpW):COut:=
 match kF t (cA o.path) with
 |none=>.bad 5
 |some (x,i)=>.ok (sA (fun _=>x.setKids (x.kids.eraseIdx i)) (cA o.path).dropLast t)
noncomputable def labelC (t:It) (o:OpW):COut:=
 match kF t (cA o.path) with
 |none=>.bad 5
 |some (x,i)=>if isLab o.text=false∨(∃j,iA x.kids o.text=some j∧j≠i) then .bad 7 else
  .ok (sA (fun _=>x.setKid i ((x.kids[i]?.getD It.none).setLabel o.text)) (cA o.path).dropLast t)
mutual
def xB:It→Nat
 | .mk _ _ _ k=>IB k+1
def IB:List It→Nat
 | []=>0
 |t::r=>max (xB t) (IB r)
end
def dB(t x:It)(i:Nat)(p:List ByteArray):It:=sA (fun _=>x.setKids (x.kids.eraseIdx i)) p t
open Classical in
noncomputable def moveC (t:It) (o:OpW):COut:=
 match kF t (cA o.path),eA t (cA o.new) with
 |some (x,i),some y=>if cA o.path<+:cA o.new then .bad 5 else
  let k:=x.kids[i]?.getD It.none
  if pA y.kids o.at'=none∨(cA o.path).dropLast=cA o.new∧o.at'=k.label then .bad 5 else
  if (cA o.path).dropLast≠cA o.new∧(iA y.kids k.label).isSome then .bad 7 else
  if 6<(cA o.new).length+xB k then .bad 2 else
  match eA (dB t x i (cA o.path).dropLast) (cA o.new) with
  |none=>.bad 0
  |some z=>match pA z.kids o.at' with
   |none=>.bad 0
   |some j=>.ok (sA (fun _=>z.setKids (z.kids.insertIdx j k)) (cA o.new) (dB t x i (cA o.path).dropLast))
 |_,_=>.bad 5
noncomputable def oneC (t:It) (o:OpW):COut:=
 if 1≤o.kind∧o.kind≤5 then match eA t (cA o.path) with
  |none=>.bad 5
  |some x=>match textC x o with
   | .bad c=>.bad c
   | .ok y=>.ok (sA (fun _=>y) (cA o.path) t)
 else if o.kind=6 then putC t o
 else if o.kind=7 then SB t o
 else if o.kind=8 then labelC t o
 else if o.kind=9 then moveC t o
 else .bad 9
inductive AOut where
 |bad (i c:Nat)
 |ok (t:It)
noncomputable def allC:Nat→It→List OpW→AOut
 |_,t,[]=>.ok t
 |i,t,o::r=>match oneC t o with
  | .bad c=>.bad i c
  | .ok u=>allC (i+1) u r
mutual
def WA:It→Nat
 | .mk _ _ _ k=>TA k
def TA:List It→Nat
 | []=>0
 |t::r=>1+WA t+TA r
end
theorem RA(t:It):WA t=TA t.kids:=by cases t;rw[WA];rfl
def aH(a b:It):Prop:=(a.label.toList==b.label.toList)=false
def rM(d:Nat)(t:It):Prop:=d≤6∧OB t=false∧(if d=0 then decide (t.label.size=0) else isLab t.label)=true∧textsOk t=true
inductive Rgt:Nat→It→Prop
 |mk (d:Nat) (t:It) (h:rM d t) (hd:t.kids.Pairwise aH) (hk:∀k,k∈t.kids→Rgt (d+1) k):Rgt d t
theorem Rgt.is{d:Nat}{t:It}(h:Rgt d t):rM d t∧t.kids.Pairwise aH∧∀k,k∈t.kids→Rgt (d+1) k:=by
 cases h with
 |mk _ _ h1 h2 h3=>exact⟨h1,h2,h3⟩
theorem label_iff{d:Nat}{ah:List It}{t:It}:labelOk d ah t=true↔(if d=0 then decide (t.label.size=0) else isLab t.label)=true∧(d≠0→∀k,k∈ah→aH k t):=by
 unfold labelOk aH
 by_cases hd:d=0
 ·simp[hd]
 ·rw[if_neg hd,if_neg hd,Bool.and_eq_true,Bool.not_eq_true',List.any_eq_false]
  refine and_congr_right fun _=>⟨fun h _ k hk=>?_,fun h k hk=>?_⟩
  ·have:=h k hk;simpa using this
  ·have:=h hd k hk;simpa using this
mutual
theorem bM:∀(t:It) (d n:Nat) (ah:List It) (m:Nat),vIt d n ah t=.ok m→Rgt d t∧(d≠0→∀k,k∈ah→aH k t)∧m=n+WA t∧n+WA t≤300
 | .mk a b c k,d,n,ah,m,h=>by
   rw[vIt] at h
   split at h
   ·cases h
   ·rename_i h1
    split at h
    ·cases h
    ·rename_i h2
     split at h
     ·cases h
     ·rename_i h3
      have hl:=label_iff.1 (by simpa using h2)
      have hn:n≤300:=by omega
      obtain⟨q1,q2,_,q3,q4⟩:=MP k d n [] m h hn
      refine⟨.mk d _ ⟨by omega,?_,hl.1,by simpa using h3⟩ q2 q1,hl.2,?_,?_⟩
      ·cases hg:OB (.mk a b c k) with
       |false=>rfl
       |true=>exact absurd (Or.inr (Or.inr hg)) h1
      ·rw[WA];exact q3
      ·rw[WA];exact q4
theorem MP:∀(l:List It) (d n:Nat) (ah:List It) (m:Nat),vKs d n ah l=.ok m→n≤300→(∀k,k∈l→Rgt (d+1) k)∧l.Pairwise aH∧(∀a,a∈ah→∀k,k∈l→aH a k)∧m=n+TA l∧n+TA l≤300
 | [],d,n,ah,m,h,hn=>by
   rw[vKs] at h
   injection h with h
   exact⟨fun k hk=>(by cases hk),List.Pairwise.nil,fun a _ k hk=>(by cases hk),by rw[TA];omega,by rw[TA];omega⟩
 |t::r,d,n,ah,m,h,hn=>by
  rw[vKs] at h
  cases hv:vIt (d+1) (n+1) ah t with
  |bad c=>rw[hv] at h;cases h
  |ok m1=>
   rw[hv] at h
   obtain⟨p1,p2,p3,p4⟩:=bM t _ _ _ _ hv
   obtain⟨q1,q2,q3,q4,q5⟩:=MP r d m1 (ah++[t]) m h (by omega)
   refine⟨fun k hk=>?_,List.Pairwise.cons (fun k hk=>q3 t (by simp) k hk) q2,fun a ha k hk=>?_,by rw[TA];omega,by rw[TA];omega⟩
   ·rcases List.mem_cons.1 hk with rfl|hk
    ·exact p1
    ·exact q1 k hk
   ·rcases List.mem_cons.1 hk with rfl|hk
    ·exact p2 (by omega) a ha
    ·exact q3 a (by simp[ha]) k hk
end
mutual
theorem TO:∀(t:It) (d n:Nat) (ah:List It),Rgt d t→(d≠0→∀k,k∈ah→aH k t)→n+WA t≤300→vIt d n ah t=.ok (n+WA t)
 | .mk a b c k,d,n,ah,h,hl,hn=>by
   obtain⟨⟨h1,h2,h3,h4⟩,h5,h6⟩:=h.is
   rw[WA] at hn ⊢
   rw[vIt,if_neg (by rw[h2];simp;omega),if_neg (by rw[label_iff.2 ⟨h3,hl⟩];simp),if_neg (by rw[h4];simp)]
   exact UO k d n [] h6 h5 (fun a ha=>by cases ha) hn
theorem UO:∀(l:List It) (d n:Nat) (ah:List It),(∀k,k∈l→Rgt (d+1) k)→l.Pairwise aH→(∀a,a∈ah→∀k,k∈l→aH a k)→n+TA l≤300→vKs d n ah l=.ok (n+TA l)
 | [],d,n,ah,_,_,_,_=>by rw[vKs,TA];rfl
 |t::r,d,n,ah,h1,h2,h3,hn=>by
  rw[TA] at hn ⊢
  rw[vKs,TO t (d+1) (n+1) ah (h1 t (by simp)) (fun _ k hk=>h3 k hk t (by simp)) (by omega)]
  show vKs d (n+1+WA t) (ah++[t]) r=_
  have h2':=List.pairwise_cons.1 h2
  rw[UO r d (n+1+WA t) (ah++[t]) (fun k hk=>h1 k (by simp[hk])) h2'.2 (fun a ha k hk=>?_) (by omega)]
  ·congr 1;omega
  ·rcases List.mem_append.1 ha with ha|ha
   ·exact h3 a ha k (by simp[hk])
   ·rw[List.mem_singleton.1 ha];exact h2'.1 k hk
end
theorem valid_iff{t:It}:(∃m,vIt 0 0 [] t=.ok m)↔Rgt 0 t∧WA t≤300:=
 ⟨fun ⟨m,h⟩=>(by have:=bM t 0 0 [] m h;exact⟨this.1,by have:=this.2.2.2;omega⟩),fun ⟨h,hn⟩=>⟨_,TO t 0 0 [] h (fun h=>absurd rfl h) (by omega)⟩⟩
theorem FL(a b:ByteArray)(c:List ByteArray)(k k':List It):OB (.mk a b c k)=OB (.mk a b c k'):=rfl
theorem ZL(a b:ByteArray)(c:List ByteArray)(k k':List It):textsOk (.mk a b c k)=textsOk (.mk a b c k'):=rfl
theorem IA{t x:It}{p:ByteArray}{r:List ByteArray}(h:eA t (p::r)=some x):∃i y,iA t.kids p=some i∧t.kids[i]?=some y∧eA y r=some x:=by
 rw[eA] at h
 split at h
 ·cases h
 ·rename_i i hi
  split at h
  ·cases h
  ·rename_i y hy
   exact⟨i,y,hi,hy,h⟩
theorem qB:∀(p:List ByteArray) (d:Nat) (t x:It),Rgt d t→eA t p=some x→Rgt (d+p.length) x
 | [],d,t,x,h,e=>by rw[eA] at e;injection e with e;rw[←e];exact h
 |q::r,d,t,x,h,e=>by
  obtain⟨i,y,_,hy,e⟩:=IA e
  have:=qB r (d+1) y x (h.is.2.2 y (List.mem_of_getElem? hy)) e
  rw[List.length_cons,show d+(r.length+1)=d+1+r.length by omega]
  exact this
theorem gG:∀(l:List It) (i:Nat) (y z:It),l[i]?=some y→TA (l.set i z)+WA y=TA l+WA z
 | [],i,y,z,h=>by simp at h
 |t::r,0,y,z,h=>by
  simp only[List.getElem?_cons_zero,Option.some.injEq] at h
  subst h
  rw[List.set_cons_zero,TA,TA]
  omega
 |t::r,i+1,y,z,h=>by
  rw[List.getElem?_cons_succ] at h
  rw[List.set_cons_succ,TA,TA]
  have:=gG r i y z h
  omega
theorem pB:∀(p:List ByteArray) (t x y:It),eA t p=some x→y.label=x.label→(sA (fun _=>y) p t).label=t.label
 | [],t,x,y,e,h=>by rw[eA] at e;injection e with e;rw[sA,h,e]
 |q::r,t,x,y,e,h=>by
  obtain⟨i,z,hi,hz,_⟩:=IA e
  rw[cB hi hz]
  rfl
theorem QF:∀(p:List ByteArray) (t x y:It),eA t p=some x→WA (sA (fun _=>y) p t)+WA x=WA t+WA y
 | [],t,x,y,e=>by rw[eA] at e;injection e with e;rw[sA,e];omega
 |q::r,t,x,y,e=>by
  obtain⟨i,z,hi,hz,e⟩:=IA e
  rw[cB hi hz,RA,RA t]
  have h1:=QF r z x y e
  have h2:=gG t.kids i z (sA (fun _=>y) r z) hz
  show TA (t.kids.set i (sA (fun _=>y) r z))+_=_
  omega
theorem dQ{l:List It}{i:Nat}{y z:It}(h:l.Pairwise aH)(hy:l[i]?=some y)(e:z.label=y.label):(l.set i z).Pairwise aH:=by
 rw[List.pairwise_iff_getElem] at h ⊢
 intro a b ha hb hab
 rw[List.length_set] at ha hb
 have hlab:∀(k:Nat) (hk:k<(l.set i z).length),(l.set i z)[k].label=(l[k]'(by rw[List.length_set] at hk;exact hk)).label:=fun k hk=>by
  rw[List.getElem_set]
  split
  ·rename_i hik
   subst hik
   rw[e]
   congr 1
   exact((List.getElem?_eq_some_iff.1 hy).2).symm
  ·rfl
 unfold aH
 rw[hlab,hlab]
 exact h a b ha hb hab
theorem SH{d:Nat}{t:It}(l:List It)(h:rM d t):rM d (.mk t.label t.head t.lines l):=by
 obtain⟨h1,h2,h3,h4⟩:=h
 cases t with
 |mk a b c k=>exact⟨h1,(FL a b c l k).trans h2,h3,(ZL a b c l k).trans h4⟩
theorem KJ:∀(p:List ByteArray) (d:Nat) (t x y:It),Rgt d t→eA t p=some x→Rgt (d+p.length) y→y.label=x.label→Rgt d (sA (fun _=>y) p t)
 | [],d,t,x,y,_,_,h,_=>by rw[sA];exact h
 |q::r,d,t,x,y,ht,e,h,hl=>by
  obtain⟨i,z,hi,hz,e⟩:=IA e
  obtain⟨h1,h2,h3⟩:=ht.is
  rw[cB hi hz]
  rw[List.length_cons,show d+(r.length+1)=d+1+r.length by omega] at h
  have h4:=KJ r (d+1) z x y (h3 z (List.mem_of_getElem? hz)) e h hl
  refine .mk d _ (SH _ h1) (dQ h2 hz (pB r z x y e hl)) fun k hk=>?_
  have hk:k∈t.kids.set i (sA (fun _=>y) r z):=hk
  rcases List.mem_or_eq_of_mem_set hk with hk|rfl
  ·exact h3 k hk
  ·exact h4
def RD(s:ByteArray):Prop:=s.size≤300∧lineB s=true
theorem tF{s:ByteArray}(h:chkB s=0):RD s:=by
 unfold chkB at h
 split at h
 ·cases h
 ·split at h
  ·rename_i h1 h2;exact⟨by omega,h2⟩
  ·cases h
theorem texts_iff{t:It}:OB t=false∧textsOk t=true↔t.lines.length≤40∧RD t.head∧∀s,s∈t.lines→RD s:=by
 unfold OB textsOk RD
 simp only[Bool.or_eq_false_iff,Bool.and_eq_true,Bool.not_eq_true',decide_eq_false_iff_not,List.any_eq_false,iB,badB,Nat.not_lt,decide_eq_true_eq,Bool.not_eq_false]
 constructor
 ·rintro ⟨⟨h1,h2,h3⟩,h4,h5⟩
  exact⟨h1,⟨h2,h4⟩,fun s hs=>⟨h3 s hs,h5 s hs⟩⟩
 ·rintro ⟨h1,⟨h2,h4⟩,h5⟩
  exact⟨⟨h1,h2,fun s hs=>(h5 s hs).1⟩,h4,fun s hs=>(h5 s hs).2⟩
theorem Rgt.texts{d:Nat}{t:It}(h:Rgt d t):t.lines.length≤40∧RD t.head∧∀s,s∈t.lines→RD s:=texts_iff.1 ⟨h.is.1.2.1,h.is.1.2.2.2⟩
theorem SK{d:Nat}{t:It}(h:Rgt d t){l:List It}(hp:l.Pairwise aH)(hk:∀k,k∈l→Rgt (d+1) k):Rgt d (t.setKids l):=.mk d _ (SH l h.is.1) hp hk
theorem BC:∀(l:List It) (i:Nat) (y:It),l[i]?=some y→TA (l.eraseIdx i)+1+WA y=TA l
 | [],i,y,h=>by simp at h
 |t::r,0,y,h=>by
  simp only[List.getElem?_cons_zero,Option.some.injEq] at h
  subst h
  rw[List.eraseIdx_cons_zero,TA]
  omega
 |t::r,i+1,y,h=>by
  rw[List.getElem?_cons_succ] at h
  rw[List.eraseIdx_cons_succ,TA,TA]
  have:=BC r i y h
  omega
theorem vF:∀(l:List It) (i:Nat) (y:It),i≤l.length→TA (l.insertIdx i y)=TA l+1+WA y
 |l,0,y,_=>by rw[List.insertIdx_zero,TA];omega
 | [],i+1,y,h=>by simp at h
 |t::r,i+1,y,h=>by
  rw[List.insertIdx_succ_cons,TA,TA,vF r i y (by simpa using h)]
  omega
theorem AE:∀(l:List It) (k:It),k∈l→xB k≤IB l
 |t::r,k,h=>by
  rw[IB]
  rcases List.mem_cons.1 h with rfl|h
  ·exact Nat.le_max_left _ _
  ·exact Nat.le_trans (AE r k h) (Nat.le_max_right _ _)
theorem DC(t:It):xB t=IB t.kids+1:=by cases t;rw[xB];rfl
theorem NQ{d:Nat}{t:It}(h:Rgt d t):∀e,d≠0→e≠0→e+xB t≤7→Rgt e t:=by
 induction h with
 |mk d t h hd hk ih=>
  intro e h0 he hl
  obtain⟨h1,h2,h3,h4⟩:=h
  rw[DC] at hl
  refine .mk e t ⟨by omega,h2,?_,h4⟩ hd fun k hkm=>ih k hkm (e+1) (by omega) (by omega) ?_
  ·rw[if_neg h0] at h3
   rw[if_neg he]
   exact h3
  ·have:=AE t.kids k hkm
   omega
theorem vG{d:Nat}{x:It}(h:Rgt d x)(i:Nat):Rgt d (x.setKids (x.kids.eraseIdx i)):=
 SK h (h.is.2.1.sublist (List.eraseIdx_sublist _ _)) fun k hk=>h.is.2.2 k ((List.eraseIdx_sublist _ _).subset hk)
theorem TK{d:Nat}{x y:It}(h:Rgt d x){i:Nat}(hy:x.kids[i]?=some y){s:ByteArray}(hs:isLab s=true)(hn:∀j k,x.kids[j]?=some k→j≠i→(k.label.toList==s.toList)=false):Rgt d (x.setKid i (y.setLabel s)):=by
 obtain⟨h1,h2,h3⟩:=h.is
 have hy3:=h3 y (List.mem_of_getElem? hy)
 have hy4:Rgt (d+1) (y.setLabel s):=by
  obtain⟨⟨q1,q2,q3,q4⟩,q5,q6⟩:=hy3.is
  exact .mk (d+1) _ ⟨q1,q2,by rw[if_neg (by omega)];exact hs,q4⟩ q5 q6
 refine .mk d _ (SH _ h1) ?_ fun k hk=>?_
 ·show (x.kids.set i (y.setLabel s)).Pairwise aH
  rw[List.pairwise_iff_getElem] at h2 ⊢
  intro a b ha hb hab
  rw[List.length_set] at ha hb
  rw[List.getElem_set,List.getElem_set]
  unfold aH
  have sym:∀u v:ByteArray,(u.toList==v.toList)=(v.toList==u.toList):=fun u v=>by rw[Bool.eq_iff_iff,beq_iff_eq,beq_iff_eq];exact eq_comm
  split
  ·rename_i hia
   rw[if_neg (by omega),sym]
   exact hn b _ (List.getElem?_eq_getElem hb) (by omega)
  ·split
   ·exact hn a _ (List.getElem?_eq_getElem ha) (by omega)
   ·exact h2 a b ha hb hab
 ·have hk:k∈x.kids.set i (y.setLabel s):=hk
  rcases List.mem_or_eq_of_mem_set hk with hk|rfl
  ·exact h3 k hk
  ·exact hy4
theorem VL{d:Nat}{x y:It}(h:Rgt d x)(hy:Rgt (d+1) y){i:Nat}(hi:i≤x.kids.length)(hn:∀k,k∈x.kids→(k.label.toList==y.label.toList)=false):Rgt d (x.setKids (x.kids.insertIdx i y)):=by
 obtain⟨h1,h2,h3⟩:=h.is
 have sym:∀u v:ByteArray,(u.toList==v.toList)=(v.toList==u.toList):=fun u v=>by rw[Bool.eq_iff_iff,beq_iff_eq,beq_iff_eq];exact eq_comm
 refine SK h ?_ fun k hk=>?_
 ·have hp:(y::x.kids).Pairwise aH:=List.Pairwise.cons (fun k hk=>by unfold aH;rw[sym];exact hn k hk) h2
  exact(List.Perm.pairwise_iff (fun {a b} hab=>by unfold aH at *;rw[sym];exact hab) (List.perm_insertIdx y x.kids hi)).2 hp
 ·rcases (List.mem_insertIdx hi).1 hk with rfl|hk
  ·exact hy
  ·exact h3 k hk
theorem same_bytes{x s:ByteArray}:(x.toList==s.toList)=true↔x=s:=by
 rw[beq_iff_eq,Lib.toList_data,Lib.toList_data,Array.toList_inj]
 exact⟨fun h=>ByteArray.ext h,fun h=>by rw[h]⟩
theorem isL_iff{s:ByteArray}{t:It}:zE s t=true↔t.label=s:=same_bytes
theorem isL_no{s:ByteArray}{t:It}:zE s t=false↔t.label≠s:=by
 rw[←Bool.not_eq_true,isL_iff]
theorem CE{α:Type}{l:List α}(hn:l.Nodup){i j:Nat}(hi:i<l.length)(hj:j<l.length)(e:l[i]=l[j]):i=j:=by
 rcases Nat.lt_trichotomy i j with h|h|h
 ·exact absurd e (List.pairwise_iff_getElem.1 hn i j hi hj h)
 ·exact h
 ·exact absurd e.symm (List.pairwise_iff_getElem.1 hn j i hj hi h)
theorem ZE{α β:Type}(f:α→β):∀(l:List α) (i:Nat) (a:α),(l.insertIdx i a).map f=(l.map f).insertIdx i (f a)
 |l,0,a=>by simp
 | [],i+1,a=>by simp
 |b::r,i+1,a=>by rw[List.insertIdx_succ_cons,List.map_cons,List.map_cons,List.insertIdx_succ_cons,ZE f r i a]
def CC(l:List It)(s:ByteArray):Option It:=l.find? (zE s)
def xA(l:List It):List ByteArray:=l.map It.label
theorem iE:∀(l:List It) (s:ByteArray),CC l s=(iA l s).bind (l[· ]?)
 | [],s=>rfl
 |a::r,s=>by
  have ih:=iE r s
  unfold CC iA at *
  rw[List.find?_cons,List.findIdx?_cons]
  cases h:zE s a
  ·simp only[ih,Bool.false_eq_true,if_false]
   cases List.findIdx? (zE s) r<;>simp
  ·simp
theorem qD(t:It)(p:ByteArray)(r:List ByteArray):eA t (p::r)=(CC t.kids p).bind (eA · r):=by
 rw[eA,iE]
 cases iA t.kids p with
 |none=>rfl
 |some i=>
  show (match t.kids[i]? with|none=>none|some x=>eA x r)=(t.kids[i]?).bind _
  cases t.kids[i]?<;>rfl
theorem XE{l:List It}{s:ByteArray}{x:It}(h:CC l s=some x):x∈l∧x.label=s:=
 ⟨List.mem_of_find?_eq_some h,isL_iff.1 (List.find?_some h)⟩
theorem kidOf_none{l:List It}{s:ByteArray}:CC l s=none↔s∉xA l:=by
 unfold CC xA
 rw[List.find?_eq_none,List.mem_map]
 constructor
 ·rintro h ⟨x,hx,e⟩
  exact h x hx (isL_iff.2 e)
 ·intro h x hx e
  exact h ⟨x,hx,isL_iff.1 e⟩
theorem vK:∀{l:List It} {x:It},(xA l).Nodup→x∈l→CC l x.label=some x
 |a::r,x,hn,hx=>by
  unfold CC
  rw[List.find?_cons]
  have hn:=List.nodup_cons.1 (show (a.label::xA r).Nodup from hn)
  cases h:zE x.label a
  ·rcases List.mem_cons.1 hx with rfl|hx
   ·exact absurd rfl (isL_no.1 h)
   ·exact vK hn.2 hx
  ·rcases List.mem_cons.1 hx with rfl|hx
   ·rfl
   ·have h1:=isL_iff.1 h
    exact absurd (h1▸List.mem_map.2 ⟨x,hx,rfl⟩:a.label∈xA r) hn.1
theorem OI{l:List It}(hn:(xA l).Nodup){s:ByteArray}{x:It}:CC l s=some x↔x∈l∧x.label=s:=
 ⟨XE,fun ⟨h,e⟩=>e▸vK hn h⟩
theorem BQ{α:Type}{a b:Option α}(h:∀x,a=some x↔b=some x):a=b:=by
 cases a with
 |none=>
  cases b with
  |none=>rfl
  |some y=>exact((h y).2 rfl)
 |some x=>exact((h x).1 rfl).symm
inductive Ds:It→Prop
 |mk (t:It) (h:(xA t.kids).Nodup) (hk:∀k,k∈t.kids→Ds k):Ds t
theorem Ds.is{t:It}(h:Ds t):(xA t.kids).Nodup∧∀k,k∈t.kids→Ds k:=by
 cases h with
 |mk _ h hk=>exact⟨h,hk⟩
theorem Ds.find:∀{p:List ByteArray} {t x:It},Ds t→eA t p=some x→Ds x
 | [],t,x,h,e=>by rw[eA] at e;injection e with e;exact e▸h
 |q::r,t,x,h,e=>by
  rw[qD] at e
  obtain⟨y,hy,e⟩:=Option.bind_eq_some_iff.1 e
  exact(h.is.2 y (XE hy).1).find e
theorem TH{l:List It}(h:l.Pairwise aH):(xA l).Nodup:=by
 unfold xA List.Nodup
 rw[List.pairwise_map]
 exact h.imp fun {a b} hd=>(isL_no (s:=b.label) (t:=a)).1 hd
theorem IK{l:List It}(h:(xA l).Nodup):l.Pairwise aH:=by
 unfold xA List.Nodup at h
 rw[List.pairwise_map] at h
 exact h.imp fun {a b} hd=>(isL_no (s:=b.label) (t:=a)).2 hd
theorem Rgt.ds{d:Nat}{t:It}(h:Rgt d t):Ds t:=by
 induction h with
 |mk d t h hd hk ih=>exact .mk t (TH hd) ih
inductive Pt where
 |h
 |l
 |k
 deriving DecidableEq
def vw(x:It):Pt→List ByteArray
 | .h=>[x.head]
 | .l=>x.lines
 | .k=>xA x.kids
def X(t:It)(q:List ByteArray)(c:Pt):Option (List ByteArray):=(eA t q).map (vw · c)
theorem RN(t:It)(c:Pt):X t [] c=some (vw t c):=by unfold X;rw[eA];rfl
theorem bG(t:It)(p:ByteArray)(r:List ByteArray)(c:Pt):X t (p::r) c=(CC t.kids p).bind (X · r c):=by
 unfold X
 rw[qD]
 cases CC t.kids p<;>rfl
theorem cG{t:It}{q:List ByteArray}{x:It}(h:eA t q=some x)(c:Pt):X t q c=some (vw x c):=by unfold X;rw[h];rfl
theorem gE{l:List It}(hn:(xA l).Nodup){i:Nat}{k:It}(hk:l[i]?=some k)(s:ByteArray):CC (l.eraseIdx i) s=if s=k.label then none else CC l s:=by
 have hsub:(xA (l.eraseIdx i)).Nodup:=hn.sublist ((List.eraseIdx_sublist _ _).map _)
 have hmem:∀x,x∈l.eraseIdx i↔x∈l∧x.label≠k.label:=fun x=>by
  rw[List.mem_eraseIdx_iff_getElem?]
  constructor
  ·rintro ⟨j,hj,e⟩
   obtain⟨hjl,rfl⟩:=List.getElem?_eq_some_iff.1 e
   obtain⟨hil,rfl⟩:=List.getElem?_eq_some_iff.1 hk
   refine⟨List.getElem_mem _,fun e2=>hj ?_⟩
   have h1:(xA l)[j]'(by simpa [xA] using hjl)=(xA l)[i]'(by simpa [xA] using hil):=by simpa [xA] using e2
   exact CE hn _ _ h1
  ·rintro ⟨hx,hne⟩
   obtain⟨j,hj,rfl⟩:=List.getElem_of_mem hx
   refine⟨j,fun e2=>hne ?_,List.getElem?_eq_getElem hj⟩
   subst e2
   obtain⟨_,rfl⟩:=List.getElem?_eq_some_iff.1 hk
   rfl
 refine BQ fun x=>?_
 rw[OI hsub,hmem]
 split
 ·rename_i hs
  constructor
  ·rintro ⟨⟨_,h1⟩,h2⟩
   exact absurd (h2.trans hs) h1
  ·intro h;cases h
 ·rename_i hs
  rw[OI hn]
  constructor
  ·rintro ⟨⟨h1,_⟩,h2⟩
   exact⟨h1,h2⟩
  ·rintro ⟨h1,h2⟩
   exact⟨⟨h1,fun e=>hs (h2.symm.trans e)⟩,h2⟩
theorem OG{l:List It}{k:It}{i:Nat}:xA (l.insertIdx i k)=(xA l).insertIdx i k.label:=by
 exact ZE It.label l i k
theorem BJ{l:List It}(hn:(xA l).Nodup){i:Nat}{k:It}(hi:i≤l.length)(hk:k.label∉xA l):(xA (l.insertIdx i k)).Nodup:=by
 rw[OG]
 exact(List.perm_insertIdx k.label (xA l) (by simpa [xA] using hi)).nodup_iff.2 (List.nodup_cons.2 ⟨hk,hn⟩)
theorem yK{l:List It}{i:Nat}{k:It}:xA (l.set i k)=(xA l).set i k.label:=by
 unfold xA;rw[List.map_set]
theorem WE{l l':List It}(h:xA l=xA l')(s:ByteArray):iA l s=iA l' s:=by
 have hh:∀l:List It,iA l s=(xA l).findIdx? (fun a=>a.toList==s.toList):=fun l=>by
  unfold iA xA
  rw[List.findIdx?_map]
  rfl
 rw[hh,hh,h]
theorem aC{l:List It}{i:Nat}{k k':It}(hk:l[i]?=some k)(h:k'.label=k.label):xA (l.set i k')=xA l:=by
 rw[yK,h]
 refine List.ext_getElem? fun j=>?_
 rw[List.getElem?_set]
 split
 ·rename_i e
  subst e
  split
  ·unfold xA;rw[List.getElem?_map,hk];rfl
  ·rename_i hh
   obtain⟨hl,_⟩:=List.getElem?_eq_some_iff.1 hk
   exact absurd (by simpa [xA] using hl) hh
 ·rfl
theorem IS:∀(p:List ByteArray) (t x y:It),eA t p=some x→y.label=x.label→p≠[]→∀c,vw (sA (fun _=>y) p t) c=vw t c
 | [],_,_,_,_,_,h,_=>absurd rfl h
 |q::r,t,x,y,e,h,_,c=>by
  obtain⟨i,z,hi,hz,e⟩:=IA e
  rw[cB hi hz]
  cases c with
  |h=>rfl
  |l=>rfl
  |k=>exact aC hz (pB r z x y e h)
theorem pJ:∀(p q:List ByteArray) (t x y:It),eA t p=some x→y.label=x.label→∀c,X (sA (fun _=>y) p t) (p++q) c=X y q c
 | [],q,t,x,y,_,_,c=>by rw[sA];rfl
 |a::r,q,t,x,y,e,h,c=>by
  obtain⟨i,z,hi,hz,e⟩:=IA e
  rw[cB hi hz,List.cons_append,bG,iE]
  have hlabs:xA (t.setKid i (sA (fun _=>y) r z)).kids=xA t.kids:=aC hz (pB r z x y e h)
  rw[WE hlabs,hi]
  have h1:(t.setKid i (sA (fun _=>y) r z)).kids[i]?=some (sA (fun _=>y) r z):=List.getElem?_set_self (List.getElem?_eq_some_iff.1 hz).1
  show ((t.setKid i (sA (fun _=>y) r z)).kids[i]?).bind (X · (r++q) c)=_
  rw[h1]
  exact pJ r q z x y e h c
theorem wH:∀(p q:List ByteArray) (t x y:It),eA t p=some x→y.label=x.label→¬p<+:q→∀c,X (sA (fun _=>y) p t) q c=X t q c
 | [],q,t,x,y,_,_,hn,c=>absurd (List.nil_prefix) hn
 |a::r,[],t,x,y,e,h,_,c=>by
  rw[RN,RN,IS _ t x y e h (by simp)]
 |a::r,b::q,t,x,y,e,h,hn,c=>by
  obtain⟨i,z,hi,hz,e⟩:=IA e
  rw[cB hi hz,bG,bG,iE,iE]
  have hlabs:xA (t.setKid i (sA (fun _=>y) r z)).kids=xA t.kids:=aC hz (pB r z x y e h)
  rw[WE hlabs]
  have hil:=(List.getElem?_eq_some_iff.1 hz).1
  by_cases hab:a=b
  ·subst hab
   rw[hi]
   have h1:(t.setKid i (sA (fun _=>y) r z)).kids[i]?=some (sA (fun _=>y) r z):=List.getElem?_set_self hil
   show ((t.setKid i (sA (fun _=>y) r z)).kids[i]?).bind (X · q c)=(t.kids[i]?).bind (X · q c)
   rw[h1,hz]
   exact wH r q z x y e h (fun h9=>hn (List.cons_prefix_cons.2 ⟨rfl,h9⟩)) c
  ·cases hb:iA t.kids b with
   |none=>rfl
   |some j=>
    have hij:i≠j:=fun e2=>by
     subst e2
     obtain⟨u,hu,hu1,_⟩:=SA hi
     obtain⟨u',hu',hu1',_⟩:=SA hb
     rw[hu] at hu'
     injection hu' with hu'
     subst hu'
     exact hab ((isL_iff.1 hu1).symm.trans (isL_iff.1 hu1'))
    show ((t.kids.set i _)[j]?).bind _=(t.kids[j]?).bind _
    rw[List.getElem?_set_ne hij]
abbrev St:=List ByteArray→Pt→Option (List ByteArray)
open Classical in
noncomputable def dPart (p:List ByteArray) (e:Pt) (g:List ByteArray→List ByteArray) (f:St):St:=fun q c=>if q=p∧c=e then (f q c).map g else f q c
open Classical in
noncomputable def dNone (p:List ByteArray) (f:St):St:=fun q c=>if p<+:q then none else f q c
def AF(ks:List ByteArray)(s:ByteArray):Option Nat:=ks.findIdx? (fun a=>a.toList==s.toList)
def aQ(ks:List ByteArray)(s:ByteArray):Option Nat:=if s.size=0 then some 0 else (AF ks s).map (· +1)
theorem vC(l:List It)(s:ByteArray):iA l s=AF (xA l) s:=by
 unfold iA AF xA
 rw[List.findIdx?_map]
 rfl
theorem QB(l:List It)(s:ByteArray):pA l s=aQ (xA l) s:=by
 unfold pA aQ
 rw[vC]
theorem tD{ks:List ByteArray}{s:ByteArray}{i:Nat}(h:AF ks s=some i):ks[i]?=some s:=by
 unfold AF at h
 rw[List.findIdx?_eq_some_iff_getElem] at h
 obtain⟨hi,h1,_⟩:=h
 rw[List.getElem?_eq_getElem hi,same_bytes.1 h1]
theorem idxL_none{ks:List ByteArray}{s:ByteArray}:AF ks s=none↔s∉ks:=by
 unfold AF
 rw[List.findIdx?_eq_none_iff]
 constructor
 ·intro h hs
  have:=h s hs
  rw[same_bytes.2 rfl] at this
  cases this
 ·intro h x hx
  cases hq:(x.toList==s.toList)
  ·rfl
  ·exact absurd (same_bytes.1 hq▸hx) h
theorem idxL_mem{ks:List ByteArray}{s:ByteArray}:(∃i,AF ks s=some i)↔s∈ks:=by
 cases h:AF ks s with
 |none=>exact⟨(fun ⟨i,hi⟩=>by cases hi),(fun hs=>absurd hs (idxL_none.1 h))⟩
 |some i=>exact⟨fun _=>List.mem_of_getElem? (tD h),fun _=>⟨i,rfl⟩⟩
theorem AD{ks:List ByteArray}{s:ByteArray}{i:Nat}(h:aQ ks s=some i):i≤ks.length:=by
 unfold aQ at h
 split at h
 ·injection h with h;omega
 ·obtain⟨j,hj,e⟩:=Option.map_eq_some_iff.1 h
  have:=(List.getElem?_eq_some_iff.1 (tD hj)).1
  omega
theorem TS{t x:It}{p:List ByteArray}(h:eA t p=some x)(q:List ByteArray)(c:Pt):X t (p++q) c=X x q c:=by
 have:∀(p:List ByteArray) (t:It),eA t p=some x→eA t (p++q)=eA x q:=by
  intro p
  induction p with
  |nil=>intro t h;rw[eA] at h;injection h with h;rw[h];rfl
  |cons a r ih=>
   intro t h
   rw[qD] at h
   obtain⟨y,hy,h⟩:=Option.bind_eq_some_iff.1 h
   rw[List.cons_append,qD,hy]
   exact ih y h
 unfold X
 rw[this p t h]
theorem GS{t x y:It}{p:List ByteArray}(h:eA t p=some x)(hl:y.label=x.label){E:St}(hin:∀q c,X y q c=E (p++q) c)(hout:∀q c,¬p<+:q→X t q c=E q c):X (sA (fun _=>y) p t)=E:=by
 funext q c
 by_cases hp:p<+:q
 ·obtain⟨r,rfl⟩:=hp
  rw[pJ p r t x y h hl c]
  exact hin r c
 ·rw[wH p q t x y h hl hp c]
  exact hout q c hp
theorem UI{α β:Type}(f:α→β):∀(l:List α) (i:Nat),(l.eraseIdx i).map f=(l.map f).eraseIdx i
 | [],i=>by simp
 |a::r,0=>by simp
 |a::r,i+1=>by rw[List.eraseIdx_cons_succ,List.map_cons,List.map_cons,List.eraseIdx_cons_succ,UI f r i]
theorem CJ{p:List ByteArray}{l:ByteArray}:¬(p++[l])<+:p:=fun h=>by
 have:=h.length_le
 simp at this
 omega
theorem pre_kid{p:List ByteArray}{l m:ByteArray}{r:List ByteArray}:(p++[l])<+:(p++m::r)↔l=m:=by
 rw[List.prefix_append_right_inj,List.cons_prefix_cons]
 exact⟨fun h=>h.1,fun h=>⟨h,List.nil_prefix⟩⟩
theorem EQ{p q:List ByteArray}{l:ByteArray}(h:¬p<+:q):¬(p++[l])<+:q:=fun hh=>h ((List.prefix_append p [l]).trans hh)
theorem gS{p q:List ByteArray}(h:¬p<+:q):q≠p:=fun e=>h (e▸List.prefix_refl _)
theorem cR(y:It)(m:ByteArray)(r:List ByteArray)(c:Pt):X y (m::r) c=(CC y.kids m).bind (X · r c):=bG y m r c
theorem gQ{t x k:It}{p:List ByteArray}{i:Nat}(hd:Ds t)(h:eA t p=some x)(hi:x.kids[i]?=some k)(hix:AF (xA x.kids) k.label=some i):X (sA (fun _=>x.setKids (x.kids.eraseIdx i)) p t)=dNone (p++[k.label]) (dPart p .k (fun ks=>ks.eraseIdx ((AF ks k.label).getD 0)) (X t)):=by
 have hn:=(hd.find h).is.1
 refine GS (y:=x.setKids (x.kids.eraseIdx i)) h rfl (fun q c=>?_) (fun q c hq=>?_)
 ·unfold dNone dPart
  cases q with
  |nil=>
   rw[List.append_nil,if_neg CJ,RN,cG h c]
   cases c with
   |h=>rw[if_neg (fun hh=>by cases hh.2)];rfl
   |l=>rw[if_neg (fun hh=>by cases hh.2)];rfl
   |k=>
    rw[if_pos ⟨rfl,rfl⟩]
    show some (xA (x.kids.eraseIdx i))=some ((xA x.kids).eraseIdx ((AF (xA x.kids) k.label).getD 0))
    rw[hix]
    exact congrArg some (UI It.label x.kids i)
  |cons m r=>
   rw[cR,TS h,cR]
   show (CC (x.kids.eraseIdx i) m).bind _=_
   rw[gE hn hi]
   by_cases hm:m=k.label
   ·rw[if_pos hm,if_pos (pre_kid.2 hm.symm)]
    rfl
   ·rw[if_neg hm,if_neg (fun hh=>hm (pre_kid.1 hh).symm),if_neg (fun hh=>by have:=congrArg List.length hh.1;simp at this)]
 ·unfold dNone dPart
  rw[if_neg (EQ hq),if_neg (fun hh=>gS hq hh.1)]
inductive Rg:It→Prop
 |mk (t:It) (h:t.lines.length≤40∧RD t.head∧∀s,s∈t.lines→RD s) (hn:(xA t.kids).Nodup) (hl:∀k,k∈t.kids→isLab k.label=true) (hk:∀k,k∈t.kids→Rg k):Rg t
theorem Rg.is{t:It}(h:Rg t):(t.lines.length≤40∧RD t.head∧∀s,s∈t.lines→RD s)∧(xA t.kids).Nodup∧(∀k,k∈t.kids→isLab k.label=true)∧∀k,k∈t.kids→Rg k:=by
 cases h with
 |mk _ h hn hl hk=>exact⟨h,hn,hl,hk⟩
theorem Rg.ds{t:It}(h:Rg t):Ds t:=by
 induction h with
 |mk t h hn hl hk ih=>exact .mk t hn ih
theorem Rgt.rg{d:Nat}{t:It}(h:Rgt d t):Rg t:=by
 induction h with
 |mk d t h hd hk ih=>
  refine .mk t (texts_iff.1 ⟨h.2.1,h.2.2.2⟩) (TH hd) (fun k hkm=>?_) ih
  have:=(hk k hkm).is.1.2.2.1
  rw[if_neg (by omega)] at this
  exact this
theorem BK{l:List It}{n:Nat}(h:∀k,k∈l→xB k≤n):IB l≤n:=by
 induction l with
 |nil=>rw[IB];omega
 |cons a r ih=>
  rw[IB]
  exact Nat.max_le.2 ⟨h a (by simp),ih fun k hk=>h k (by simp[hk])⟩
theorem Rgt.deep{d:Nat}{t:It}(h:Rgt d t):d+xB t≤7:=by
 induction h with
 |mk d t h hd hk ih=>
  rw[DC]
  have h1:IB t.kids≤6 - d:=BK fun k hkm=>by have:=ih k hkm;omega
  have:=h.1
  omega
theorem Rg.rgt{t:It}(h:Rg t):∀d,(if d=0 then decide (t.label.size=0) else isLab t.label)=true→d+xB t≤7→Rgt d t:=by
 induction h with
 |mk t h hn hl hk ih=>
  intro d hd hdeep
  have h1:=texts_iff.2 h
  rw[DC] at hdeep
  refine .mk d t ⟨by omega,h1.1,hd,h1.2⟩ (IK hn) fun k hkm=>ih k hkm (d+1) (by rw[if_neg (by omega)];exact hl k hkm) ?_
  have:=AE t.kids k hkm
  omega
mutual
theorem UL:∀(t:It) (d n:Nat) (ah:List It),Rg t→(if d=0 then decide (t.label.size=0) else isLab t.label)=true→(d≠0→∀k,k∈ah→aH k t)→(∃m,vIt d n ah t=.ok m)∨vIt d n ah t=.bad 2
 | .mk a b c k,d,n,ah,h,hl,hd=>by
   obtain⟨h1,h2,h3,h4⟩:=h.is
   have h5:=texts_iff.2 h1
   rw[vIt]
   split
   ·exact .inr rfl
   ·rw[if_neg (by rw[label_iff.2 ⟨hl,hd⟩];simp),if_neg (by rw[h5.2];simp)]
    exact lP k d n [] h4 h3 (IK h2) (fun a ha=>by cases ha)
theorem lP:∀(l:List It) (d n:Nat) (ah:List It),(∀k,k∈l→Rg k)→(∀k,k∈l→isLab k.label=true)→l.Pairwise aH→(∀a,a∈ah→∀k,k∈l→aH a k)→(∃m,vKs d n ah l=.ok m)∨vKs d n ah l=.bad 2
 | [],d,n,ah,_,_,_,_=>by rw[vKs];exact .inl ⟨n,rfl⟩
 |t::r,d,n,ah,h1,h2,h3,h4=>by
  rw[vKs]
  have h5:=List.pairwise_cons.1 h3
  rcases UL t (d+1) (n+1) ah (h1 t (by simp)) (by rw[if_neg (by omega)];exact h2 t (by simp)) (fun _ k hk=>h4 k hk t (by simp)) with ⟨m,e⟩|e
  ·rw[e]
   refine lP r d m (ah++[t]) (fun k hk=>h1 k (by simp[hk])) (fun k hk=>h2 k (by simp[hk])) h5.2 (fun a ha k hk=>?_)
   rcases List.mem_append.1 ha with ha|ha
   ·exact h4 a ha k (by simp[hk])
   ·rw[List.mem_singleton.1 ha];exact h5.1 k hk
  ·rw[e];exact .inr rfl
end
theorem jC:∀(p:List ByteArray) (t x:It),Rg t→eA t p=some x→Rg x
 | [],t,x,h,e=>by rw[eA] at e;injection e with e;rw[←e];exact h
 |q::r,t,x,h,e=>by
  obtain⟨i,y,_,hy,e⟩:=IA e
  exact jC r y x (h.is.2.2.2 y (List.mem_of_getElem? hy)) e
theorem kE:∀(p:List ByteArray) (t x y:It),Rg t→eA t p=some x→Rg y→y.label=x.label→Rg (sA (fun _=>y) p t)
 | [],t,x,y,_,_,h,_=>by rw[sA];exact h
 |q::r,t,x,y,ht,e,h,hl=>by
  obtain⟨i,z,hi,hz,e⟩:=IA e
  obtain⟨h1,h2,h3,h4⟩:=ht.is
  have hzm:=List.mem_of_getElem? hz
  rw[cB hi hz]
  have h5:=kE r z x y (h4 z hzm) e h hl
  have h6:=pB r z x y e hl
  refine .mk _ h1 ?_ (fun k hk=>?_) (fun k hk=>?_)
  ·show (xA (t.kids.set i _)).Nodup
   rw[aC hz h6]
   exact h2
  ·rcases List.mem_or_eq_of_mem_set (show k∈t.kids.set i _ from hk) with hk|rfl
   ·exact h3 k hk
   ·rw[h6];exact h3 z hzm
  ·rcases List.mem_or_eq_of_mem_set (show k∈t.kids.set i _ from hk) with hk|rfl
   ·exact h4 k hk
   ·exact h5
theorem yM{t:It}(h:Rg t){l:List It}(hn:(xA l).Nodup)(hl:∀k,k∈l→isLab k.label=true)(hk:∀k,k∈l→Rg k):Rg (t.setKids l):=.mk _ h.is.1 hn hl hk
theorem NF{t:It}(h:Rg t){l:List ByteArray}(hl:l.length≤40)(hf:∀s,s∈l→RD s):Rg (t.setLines l):=.mk _ ⟨hl,h.is.1.2.1,hf⟩ h.is.2.1 h.is.2.2.1 h.is.2.2.2
theorem LQ{t:It}(h:Rg t){s:ByteArray}(hf:RD s):Rg (t.setHead s):=.mk _ ⟨h.is.1.1,hf,h.is.1.2.2⟩ h.is.2.1 h.is.2.2.1 h.is.2.2.2
theorem RK{t:It}(h:Rg t)(i:Nat):Rg (t.setKids (t.kids.eraseIdx i)):=
 yM h (h.is.2.1.sublist ((List.eraseIdx_sublist _ _).map _)) (fun k hk=>h.is.2.2.1 k ((List.eraseIdx_sublist _ _).subset hk)) (fun k hk=>h.is.2.2.2 k ((List.eraseIdx_sublist _ _).subset hk))
theorem uG{t k:It}(h:Rg t){i:Nat}(hi:i≤t.kids.length)(hk:Rg k)(hl:isLab k.label=true)(hn:k.label∉xA t.kids):Rg (t.setKids (t.kids.insertIdx i k)):=
 yM h (BJ h.is.2.1 hi hn) (fun x hx=>by
  rcases (List.mem_insertIdx hi).1 hx with rfl|hx
  ·exact hl
  ·exact h.is.2.2.1 x hx) (fun x hx=>by
  rcases (List.mem_insertIdx hi).1 hx with rfl|hx
  ·exact hk
  ·exact h.is.2.2.2 x hx)
open Classical in
noncomputable def putX (t:It) (o:OpW):Option It:=
 match eA t (cA o.path) with
 |none=>none
 |some x=>match pA x.kids o.at' with
  |none=>none
  |some i=>if o.item.label∉xA x.kids∧Rg o.item∧isLab o.item.label=true then some (sA (fun _=>x.setKids (x.kids.insertIdx i o.item)) (cA o.path) t) else none
open Classical in
noncomputable def moveX (t:It) (o:OpW):Option It:=
 match kF t (cA o.path),eA t (cA o.new) with
 |some (x,i),some y=>
  if ¬cA o.path<+:cA o.new∧¬(pA y.kids o.at'=none∨(cA o.path).dropLast=cA o.new∧o.at'=(x.kids[i]?.getD It.none).label)∧¬((cA o.path).dropLast≠cA o.new∧(iA y.kids (x.kids[i]?.getD It.none).label).isSome) then
   match eA (dB t x i (cA o.path).dropLast) (cA o.new) with
   |none=>none
   |some z=>match pA z.kids o.at' with
    |none=>none
    |some j=>some (sA (fun _=>z.setKids (z.kids.insertIdx j (x.kids[i]?.getD It.none))) (cA o.new) (dB t x i (cA o.path).dropLast))
  else none
 |_,_=>none
def tV:COut→Option It
 | .ok u=>some u
 | .bad _=>none
noncomputable def oneX (t:It) (o:OpW):Option It:=
 if o.kind=6 then putX t o else if o.kind=9 then moveX t o else tV (oneC t o)
theorem eK:∀(p q:List ByteArray) (t x y:It),eA t p=some x→y.label=x.label→eA (sA (fun _=>y) p t) (p++q)=eA y q
 | [],q,t,x,y,_,_=>by rw[sA];rfl
 |a::r,q,t,x,y,e,h=>by
  obtain⟨i,z,hi,hz,e⟩:=IA e
  have hlabs:xA (t.setKid i (sA (fun _=>y) r z)).kids=xA t.kids:=aC hz (pB r z x y e h)
  have h1:(t.setKid i (sA (fun _=>y) r z)).kids[i]?=some (sA (fun _=>y) r z):=List.getElem?_set_self (List.getElem?_eq_some_iff.1 hz).1
  rw[cB hi hz,List.cons_append,MB (i:=i) (by rw[WE hlabs,hi]) h1]
  exact eK r q z x y e h
theorem wF{p:List ByteArray}{t x y:It}(e:eA t p=some x)(h:y.label=x.label):eA (sA (fun _=>y) p t) p=some y:=by
 have:=eK p [] t x y e h
 rw[List.append_nil,eA] at this
 exact this
theorem ix_none{l:List It}{s:ByteArray}:(iA l s).isSome=false↔s∉xA l:=by
 rw[vC,←idxL_none]
 cases AF (xA l) s<;>simp
theorem ix_some{l:List It}{s:ByteArray}:(iA l s).isSome=true↔s∈xA l:=by
 cases h:(iA l s).isSome
 ·exact⟨(fun h=>by cases h),(fun hs=>absurd hs (ix_none.1 h))⟩
 ·refine⟨fun _=>?_,fun _=>rfl⟩
  rw[vC] at h
  obtain⟨i,hi⟩:=Option.isSome_iff_exists.1 h
  exact idxL_mem.1 ⟨i,hi⟩
theorem PK{t u:It}{o:OpW}(h:putX t o=some u):∃x i,eA t (cA o.path)=some x∧pA x.kids o.at'=some i∧o.item.label∉xA x.kids∧Rg o.item∧isLab o.item.label=true∧u=sA (fun _=>x.setKids (x.kids.insertIdx i o.item)) (cA o.path) t:=by
 unfold putX at h
 split at h
 ·cases h
 ·rename_i x hx
  split at h
  ·cases h
  ·rename_i i hi
   split at h
   ·rename_i hc
    injection h with h
    exact⟨x,i,hx,hi,hc.1,hc.2.1,hc.2.2,h.symm⟩
   ·cases h
theorem ES{t x:It}{o:OpW}{i:Nat}(hx:eA t (cA o.path)=some x)(hi:pA x.kids o.at'=some i)(h1:o.item.label∉xA x.kids)(h2:Rg o.item)(h3:isLab o.item.label=true):putX t o=some (sA (fun _=>x.setKids (x.kids.insertIdx i o.item)) (cA o.path) t):=by
 unfold putX
 rw[hx]
 show (match pA x.kids o.at' with|none=>none|some i=>_)=_
 rw[hi]
 exact if_pos ⟨h1,h2,h3⟩
theorem yC{t x:It}{p:List ByteArray}{i:Nat}(h:kF t p=some (x,i)):∃p0 l k,p=p0++[l]∧eA t p0=some x∧iA x.kids l=some i∧x.kids[i]?=some k∧k.label=l:=by
 unfold kF at h
 split at h
 ·cases h
 ·rename_i hp
  obtain⟨p0,l,rfl⟩:∃p0 l,p=p0++[l]:=by
   rcases List.eq_nil_or_concat p with h0|⟨a,b,hab⟩
   ·exact absurd h0 hp
   ·exact⟨a,b,by rw[hab,List.concat_eq_append]⟩
  rw[List.dropLast_concat] at h
  split at h
  ·cases h
  ·rename_i y hy
   rw[List.getLast?_concat] at h
   split at h
   ·cases h
   ·rename_i j hj
    injection h with h
    injection h with h1 h2
    subst h1 h2
    obtain⟨k,hk,hk1,_⟩:=SA hj
    exact⟨p0,l,k,rfl,hy,hj,hk,isL_iff.1 hk1⟩
theorem TJ{t x:It}{p0:List ByteArray}{l:ByteArray}{i:Nat}(h:eA t p0=some x)(hi:iA x.kids l=some i):kF t (p0++[l])=some (x,i):=by
 unfold kF
 rw[if_neg (by simp),List.dropLast_concat,h]
 show (match iA x.kids ((p0++[l]).getLast?.getD _) with|none=>none|some i=>some (x,i))=_
 rw[List.getLast?_concat]
 show (match iA x.kids l with|none=>none|some i=>some (x,i))=_
 rw[hi]
theorem qG{t u:It}{o:OpW}(h:moveX t o=some u):∃p0 l x i k y z j,cA o.path=p0++[l]∧eA t p0=some x∧iA x.kids l=some i∧x.kids[i]?=some k∧k.label=l∧eA t (cA o.new)=some y∧¬(p0++[l])<+:cA o.new∧pA y.kids o.at'≠none∧¬(p0=cA o.new∧o.at'=l)∧(p0≠cA o.new→l∉xA y.kids)∧eA (dB t x i p0) (cA o.new)=some z∧pA z.kids o.at'=some j∧u=sA (fun _=>z.setKids (z.kids.insertIdx j k)) (cA o.new) (dB t x i p0):=by
 unfold moveX at h
 split at h
 ·rename_i x i y hx hy
  obtain⟨p0,l,k,hp,h1,h2,h3,h4⟩:=yC hx
  rw[hp,List.dropLast_concat,h3] at h
  split at h
  ·rename_i hc
   obtain⟨c1,c2,c3⟩:=hc
   split at h
   ·cases h
   ·rename_i z hz
    split at h
    ·cases h
    ·rename_i j hj
     injection h with h
     have h5:(some k).getD It.none=k:=rfl
     rw[h5] at c2 c3 h
     refine⟨p0,l,x,i,k,y,z,j,hp,h1,h2,h3,h4,hy,c1,(fun e=>c2 (.inl e)),(fun e=>c2 (.inr ⟨e.1,by rw[h4];exact e.2⟩)),(fun e hm=>c3 ⟨e,by rw[h4];exact ix_some.2 hm⟩),hz,hj,h.symm⟩
  ·cases h
 ·cases h
theorem tM{t x k y z:It}{o:OpW}{p0:List ByteArray}{l:ByteArray}{i j:Nat}(hp:cA o.path=p0++[l])(h1:eA t p0=some x)(h2:iA x.kids l=some i)(h3:x.kids[i]?=some k)(h4:k.label=l)(hy:eA t (cA o.new)=some y)(c1:¬(p0++[l])<+:cA o.new)(c2:pA y.kids o.at'≠none)(c3:¬(p0=cA o.new∧o.at'=l))(c4:p0≠cA o.new→l∉xA y.kids)(hz:eA (dB t x i p0) (cA o.new)=some z)(hj:pA z.kids o.at'=some j):moveX t o=some (sA (fun _=>z.setKids (z.kids.insertIdx j k)) (cA o.new) (dB t x i p0)):=by
 have h5:(x.kids[i]?).getD It.none=k:=by rw[h3];rfl
 unfold moveX
 rw[hp,TJ h1 h2,hy]
 show (if ¬(p0++[l])<+:cA o.new∧¬(pA y.kids o.at'=none∨(p0++[l]).dropLast=cA o.new∧o.at'=((x.kids[i]?).getD It.none).label)∧¬((p0++[l]).dropLast≠cA o.new∧(iA y.kids ((x.kids[i]?).getD It.none).label).isSome) then _ else none)=_
 rw[List.dropLast_concat,h5,h4,if_pos ⟨c1,(fun e=>e.elim c2 c3),(fun e=>c4 e.1 (ix_some.1 e.2))⟩,hz]
 show (match pA z.kids o.at' with|none=>none|some j=>_)=_
 rw[hj]
theorem NS{t u:It}{o:OpW}(h:oneC t o=.ok u):oneX t o=some u:=by
 unfold oneX
 split
 ·rename_i hk
  unfold oneC at h
  rw[hk,if_neg (by omega),if_pos rfl] at h
  unfold putC at h
  split at h
  ·cases h
  ·rename_i x hx
   split at h
   ·cases h
   ·rename_i i hi
    split at h
    ·cases h
    ·rename_i hn
     split at h
     ·cases h
     ·rename_i m hv
      injection h with h
      have h1:o.item.label∉xA x.kids:=ix_none.1 (by simpa using hn)
      have hle:i≤x.kids.length:=by
       rw[QB] at hi
       have:=AD hi
       simpa [xA] using this
      obtain⟨hR,_⟩:=bM _ 0 0 [] m hv
      have h2:=qB (cA o.path) 0 _ _ hR (wF (y:=x.setKids (x.kids.insertIdx i o.item)) hx rfl)
      have h3:=h2.is.2.2 o.item ((List.mem_insertIdx hle).2 (.inl rfl))
      have h4:=h3.is.1.2.2.1
      rw[if_neg (by omega)] at h4
      rw[←h]
      exact ES hx hi h1 h3.rg h4
 ·split
  ·rename_i h6 hk
   unfold oneC at h
   rw[hk,if_neg (by omega),if_neg (by omega),if_neg (by omega),if_neg (by omega),if_pos rfl] at h
   unfold moveC at h
   split at h
   ·rename_i x i y hx hy
    obtain⟨p0,l,k,hp,h1,h2,h3,h4⟩:=yC hx
    rw[hp,List.dropLast_concat,h3] at h
    have h5:(some k).getD It.none=k:=rfl
    rw[h5] at h
    split at h
    ·cases h
    ·rename_i c1
     simp only at h
     split at h
     ·cases h
     ·rename_i c2
      split at h
      ·cases h
      ·rename_i c3
       split at h
       ·cases h
       ·split at h
        ·cases h
        ·rename_i z hz
         split at h
         ·cases h
         ·rename_i j hj
          injection h with h
          rw[←h]
          exact tM hp h1 h2 h3 h4 hy c1 (fun e=>c2 (.inl e)) (fun e=>c2 (.inr ⟨e.1,by rw[h4];exact e.2⟩)) (fun e hm=>c3 ⟨e,by rw[h4];exact ix_some.2 hm⟩) hz hj
   ·cases h
  ·rw[h];rfl
theorem GR{t u:It}{o:OpW}(ht:Rg t)(hl:t.label.size=0)(h:oneX t o=some u):oneC t o=.ok u∨oneC t o=.bad 2:=by
 unfold oneX at h
 split at h
 ·rename_i hk
  obtain⟨x,i,hx,hi,h1,h2,h3,rfl⟩:=PK h
  unfold oneC
  rw[hk,if_neg (by omega),if_pos rfl]
  unfold putC
  rw[hx]
  show (match pA x.kids o.at' with|none=>COut.bad 5|some i=>_)=_∨(match pA x.kids o.at' with|none=>COut.bad 5|some i=>_)=_
  rw[hi]
  have h4:(iA x.kids o.item.label).isSome=false:=ix_none.2 h1
  have hle:i≤x.kids.length:=by
   rw[QB] at hi
   have:=AD hi
   simpa [xA] using this
  have hR:=kE _ t x _ ht hx (uG (jC _ t x ht hx) hle h2 h3 h1) rfl
  have hlab:(sA (fun _=>x.setKids (x.kids.insertIdx i o.item)) (cA o.path) t).label.size=0:=by
   rw[pB _ t x (x.setKids (x.kids.insertIdx i o.item)) hx rfl];exact hl
  show (if (iA x.kids o.item.label).isSome=true then COut.bad 7 else _)=_∨(if (iA x.kids o.item.label).isSome=true then COut.bad 7 else _)=_
  rw[h4,if_neg (by simp)]
  rcases UL _ 0 0 [] hR (by rw[if_pos rfl];exact decide_eq_true hlab) (fun h=>absurd rfl h) with ⟨m,e⟩|e
  ·left;rw[e]
  ·right;rw[e]
 ·split at h
  ·rename_i h6 hk
   obtain⟨p0,l,x,i,k,y,z,j,hp,h1,h2,h3,h4,hy,c1,c2,c3,c4,hz,hj,rfl⟩:=qG h
   have h5:(x.kids[i]?).getD It.none=k:=by rw[h3];rfl
   unfold oneC
   rw[hk,if_neg (by omega),if_neg (by omega),if_neg (by omega),if_neg (by omega),if_pos rfl]
   unfold moveC
   rw[hp,TJ h1 h2,hy]
   simp only[List.dropLast_concat,h5]
   rw[if_neg c1,if_neg (fun e=>e.elim c2 (by rw[h4];exact c3)),if_neg (fun e=>c4 e.1 (by rw[←h4];exact ix_some.1 e.2))]
   split
   ·exact .inr rfl
   ·rw[hz]
    left
    show (match pA z.kids o.at' with|none=>COut.bad 0|some j=>_)=_
    rw[hj]
  ·unfold tV at h
   cases hc:oneC t o with
   |ok v=>rw[hc] at h;injection h with h;rw[h];exact .inl rfl
   |bad c=>rw[hc] at h;cases h
theorem LL{l:List It}{s:ByteArray}{i:Nat}(h:iA l s=some i):∃k,l[i]?=some k∧k.label=s:=by
 obtain⟨k,hk,hk1,_⟩:=SA h
 exact⟨k,hk,isL_iff.1 hk1⟩
theorem AN{x k:It}{i:Nat}{s:ByteArray}(hn:(xA x.kids).Nodup)(hk:x.kids[i]?=some k)(h:¬∃j,iA x.kids s=some j∧j≠i):(xA (x.kids.set i (k.setLabel s))).Nodup:=by
 rw[yK]
 show ((xA x.kids).set i s).Nodup
 have hil:=(List.getElem?_eq_some_iff.1 hk).1
 have hlab:∀j (hj:j<(xA x.kids).length),j≠i→(xA x.kids)[j]≠s:=fun j hj hne e=>by
  refine h ?_
  obtain⟨j',hj'⟩:=idxL_mem.2 (e▸List.getElem_mem hj:s∈xA x.kids)
  refine⟨j',by rw[vC];exact hj',fun e2=>hne ?_⟩
  subst e2
  obtain⟨hjl,e3⟩:=List.getElem?_eq_some_iff.1 (tD hj')
  exact CE hn hj hjl (e.trans e3.symm)
 refine List.pairwise_iff_getElem.2 fun a b ha hb hab=>?_
 rw[List.length_set] at ha hb
 rw[List.getElem_set,List.getElem_set]
 split
 ·rw[if_neg (by omega)]
  exact fun e=>hlab b hb (by omega) e.symm
 ·split
  ·exact fun e=>hlab a ha (by omega) e
  ·exact List.pairwise_iff_getElem.1 hn a b ha hb hab
theorem kP{x k:It}(h:Rg x){i:Nat}{s:ByteArray}(hk:x.kids[i]?=some k)(hs:isLab s=true)(hn:¬∃j,iA x.kids s=some j∧j≠i):Rg (x.setKid i (k.setLabel s)):=by
 obtain⟨h1,h2,h3,h4⟩:=h.is
 refine .mk _ h1 (AN h2 hk hn) (fun y hy=>?_) (fun y hy=>?_)
 ·rcases List.mem_or_eq_of_mem_set (show y∈x.kids.set i _ from hy) with hy|rfl
  ·exact h3 y hy
  ·exact hs
 ·rcases List.mem_or_eq_of_mem_set (show y∈x.kids.set i _ from hy) with hy|rfl
  ·exact h4 y hy
  ·have h5:=(h4 k (List.mem_of_getElem? hk)).is
   exact .mk _ h5.1 h5.2.1 h5.2.2.1 h5.2.2.2
theorem zM{x y:It}{o:OpW}(h:Rg x)(e:textC x o=.ok y):Rg y∧y.label=x.label∧y.kids=x.kids:=by
 obtain⟨h1,h2,h3⟩:=h.is.1
 unfold textC at e
 split at e
 ·split at e
  ·cases e
  ·split at e
   ·rename_i hc
    injection e with e
    subst e
    refine⟨NF h (by simpa using h1) fun s hs=>?_,rfl,rfl⟩
    rcases List.mem_or_eq_of_mem_set hs with hs|rfl
    ·exact h3 s hs
    ·exact tF hc
   ·cases e
 ·split at e
  ·split at e
   ·cases e
   ·rename_i hL
    split at e
    ·cases e
    ·rename_i h40
     split at e
     ·rename_i hc
      injection e with e
      subst e
      have hle:o.line.toNat≤x.lines.length:=by
       by_cases hq:o.line=x.lines.length
       ·omega
       ·have hh:VB x o.line=true:=by
         cases hb:VB x o.line
         ·exact absurd ⟨hq,hb⟩ hL
         ·rfl
        unfold VB at hh
        simp only[Bool.and_eq_true,decide_eq_true_eq] at hh
        omega
      refine⟨NF h ?_ fun s hs=>?_,rfl,rfl⟩
      ·rw[List.length_insertIdx,if_pos hle];omega
      ·rcases (List.mem_insertIdx hle).1 hs with rfl|hs
       ·exact tF hc
       ·exact h3 s hs
     ·cases e
  ·split at e
   ·split at e
    ·cases e
    ·injection e with e
     subst e
     have hsub:=List.eraseIdx_sublist x.lines o.line.toNat
     exact⟨NF h (Nat.le_trans hsub.length_le h1) (fun s hs=>h3 s (hsub.subset hs)),rfl,rfl⟩
   ·split at e
    ·unfold wordsC at e
     split at e
     ·split at e
      ·cases e
      ·simp only at e
       split at e
       ·rename_i hc
        injection e with e
        subst e
        refine⟨NF h (by simpa using h1) fun s hs=>?_,rfl,rfl⟩
        rcases List.mem_or_eq_of_mem_set hs with hs|rfl
        ·exact h3 s hs
        ·exact tF hc
       ·cases e
     ·cases e
    ·split at e
     ·rename_i hc
      injection e with e
      subst e
      exact⟨LQ h (tF hc),rfl,rfl⟩
     ·cases e
theorem kU{t u:It}{o:OpW}(ht:Rg t)(h:oneX t o=some u):Rg u∧u.label=t.label:=by
 unfold oneX at h
 split at h
 ·obtain⟨x,i,hx,hi,h1,h2,h3,rfl⟩:=PK h
  have hle:i≤x.kids.length:=by
   rw[QB] at hi
   have:=AD hi
   simpa [xA] using this
  exact⟨kE _ t x _ ht hx (uG (jC _ t x ht hx) hle h2 h3 h1) rfl,pB _ t x (x.setKids (x.kids.insertIdx i o.item)) hx rfl⟩
 ·split at h
  ·obtain⟨p0,l,x,i,k,y,z,j,hp,h1,h2,h3,h4,hy,c1,c2,c3,c4,hz,hj,rfl⟩:=qG h
   have hx:=jC _ t x ht h1
   have hless:Rg (dB t x i p0):=kE p0 t x _ ht h1 (RK hx i) rfl
   have hll:(dB t x i p0).label=t.label:=pB p0 t x (x.setKids (x.kids.eraseIdx i)) h1 rfl
   have hzr:=jC _ _ z hless hz
   have hkm:=List.mem_of_getElem? h3
   have hle:j≤z.kids.length:=by
    rw[QB] at hj
    have:=AD hj
    simpa [xA] using this
   have hn:k.label∉xA z.kids:=by
    have hX:=cG hz .k
    have hX2:X (dB t x i p0)=_:=gQ ht.ds h1 h3 (by rw[h4,←vC];exact h2)
    rw[hX2] at hX
    unfold dNone at hX
    rw[h4,if_neg c1] at hX
    unfold dPart at hX
    rw[h4]
    by_cases hq:cA o.new=p0
    ·rw[if_pos ⟨hq,rfl⟩,hq,cG h1 .k] at hX
     injection hX with hX
     have hX:(xA x.kids).eraseIdx ((AF (xA x.kids) l).getD 0)=xA z.kids:=hX
     rw[vC] at h2
     rw[h2] at hX
     rw[←hX]
     intro hm
     have hm:l∈(xA x.kids).eraseIdx i:=hm
     rw[List.mem_eraseIdx_iff_getElem?] at hm
     obtain⟨a,ha,e⟩:=hm
     obtain⟨hal,e⟩:=List.getElem?_eq_some_iff.1 e
     obtain⟨hil,e2⟩:=List.getElem?_eq_some_iff.1 (tD h2)
     exact ha (CE hx.is.2.1 hal hil (e.trans e2.symm))
    ·rw[if_neg (fun e=>hq e.1),cG hy .k] at hX
     injection hX with hX
     have hX:xA y.kids=xA z.kids:=hX
     rw[←hX]
     exact c4 (fun e=>hq e.symm)
   exact⟨kE _ _ z _ hless hz (uG hzr hle (hx.is.2.2.2 k hkm) (hx.is.2.2.1 k hkm) hn) rfl,(pB _ _ z (z.setKids (z.kids.insertIdx j k)) hz rfl).trans hll⟩
  ·unfold oneC at h
   split at h
   ·split at h
    ·cases h
    ·rename_i x hx
     split at h
     ·cases h
     ·rename_i y hy
      injection h with h
      subst h
      obtain⟨h1,h2,_⟩:=zM (jC _ t x ht hx) hy
      exact⟨kE _ t x y ht hx h1 h2,pB _ t x y hx h2⟩
   ·split at h
    ·unfold SB at h
     split at h
     ·cases h
     ·rename_i x i hx
      obtain⟨p0,l,k,hp,h1,h2,h3,h4⟩:=yC hx
      injection h with h
      rw[hp,List.dropLast_concat] at h
      subst h
      exact⟨kE _ t x _ ht h1 (RK (jC _ t x ht h1) i) rfl,pB _ t x (x.setKids (x.kids.eraseIdx i)) h1 rfl⟩
    ·split at h
     ·unfold labelC at h
      split at h
      ·cases h
      ·rename_i x i hx
       obtain⟨p0,l,k,hp,h1,h2,h3,h4⟩:=yC hx
       split at h
       ·cases h
       ·rename_i hc
        injection h with h
        rw[hp,List.dropLast_concat,h3] at h
        have h5:(some k).getD It.none=k:=rfl
        rw[h5] at h
        subst h
        have hs:isLab o.text=true:=by
         cases hb:isLab o.text
         ·exact absurd (.inl hb) hc
         ·rfl
        exact⟨kE _ t x _ ht h1 (kP (jC _ t x ht h1) h3 hs (fun e=>hc (.inr e))) rfl,pB _ t x (x.setKid i (k.setLabel o.text)) h1 rfl⟩
     ·cases h
structure KRow(P:Nat→Prop)(B1:Nat)(w:World)(sv:Value)(L:List It)(K:Nat→Nat→Value):Prop where
 row:w.ownsRow B1 25 4 sv L.length (GA K L.length)
 each:∀q y,L[q]?=some y→Lies w (fun k=>sv.ownBlock≠some k∧(P k∨B1≤k)) (K q) y
theorem KRow.nil(P:Nat→Prop)(B1:Nat)(w:World)(K:Nat→Nat→Value):KRow P B1 w (.slice none 0 0) [] K:=⟨World.ownsRow_nil _ _ _ _,fun q y h=>by cases h⟩
theorem KRow.on{P:Nat→Prop}{B1:Nat}{w w':World}{sv:Value}{L:List It}{K:Nat→Nat→Value}(h:KRow P B1 w sv L K)(hb:Below w.heap.size w w'):KRow P B1 w' sv L K:=
 ⟨CA h.row fun g _ hg=>hb.block g hg,fun q y e=>(h.each q y e).bel hb⟩
theorem KRow.push{P:Nat→Prop}{B1:Nat}{w W w':World}{sv sv':Value}{L:List It}{K:Nat→Nat→Value}(h:KRow P B1 w sv L K)(hA:Below w.heap.size w W){x:Nat→Value}{y:It}
 (hx:Lies W (fun k=>sv.ownBlock≠some k∧(P k∨B1≤k)∧k<w.heap.size) x y)
 (ho:w'.ownsRow B1 25 4 sv' (L.length+1) (GA K L.length++[x 0,x 1,x 2,x 3])) (hg:W.grownBy w' sv.ownBlock) (hw:sv'.ownBlock=sv.ownBlock∨sv'.ownBlock=some W.heap.size):
 KRow P B1 w' sv' (L++[y]) (mD K L.length x):=by
 have hkeep:∀b,b<w.heap.size→sv.ownBlock≠some b→w'.heap[b]?=w.heap[b]?:=fun b hb hne=>by
  rw[hg.block b (Nat.lt_of_lt_of_le hb hA.size) (fun e=>hne e.symm),hA.block b hb]
 refine⟨?_,fun q z e=>?_⟩
 ·rw[List.length_append,List.length_singleton,←DL];exact ho
 ·rw[List.getElem?_append] at e
  split at e
  ·rename_i hq
   unfold mD
   rw[if_neg (by omega)]
   exact(h.each q z e).step fun b hb hp=>⟨hkeep b hb hp.1,ZO hA hw hb (fun e=>hp.1 e.symm),hp.2⟩
  ·rename_i hq
   have hqe:q=L.length:=by
    have:=(List.getElem?_eq_some_iff.1 e).1
    simp at this;omega
   subst hqe
   rw[Nat.sub_self] at e
   obtain rfl:y=z:=by simpa using e
   unfold mD
   rw[if_pos rfl]
   refine hx.step fun b hb hp=>⟨?_,ZO hA hw hp.2.2 (fun e=>hp.1 e.symm),hp.2.1⟩
   rw[hg.block b hb (fun e=>hp.1 e.symm)]
theorem KRow.item{P:Nat→Prop}{B1:Nat}{w:World}{sv:Value}{L:List It}{K:Nat→Nat→Value}(h:KRow P B1 w sv L K){P':Nat→Prop}{v:Nat→Value}{t:It}(ht:Lies w P' v t)(hP:∀k,k<w.heap.size→P' k→P k∨B1≤k){u:Nat→Value}(h0:u 0=v 0)(h1:u 1=v 1)(h2:u 2=v 2)(h3:u 3=sv):
 Lies w (fun k=>P k∨B1≤k) u (It.mk t.label t.head t.lines L):=by
 obtain⟨f0,f1,⟨la,lc,f2⟩,_⟩:=ht.forms
 obtain⟨_,hl⟩:=ht.linesIn f2
 have hcap:=(ht.caps f2 ht.forms.2.2.2.choose_spec.choose_spec).1
 obtain⟨ka,kc,hsv⟩:=tA h.row
 refine .mk u _ la ka lc kc K (h0.trans f0) (h1.trans f1) (h2.trans f2) (h3.trans hsv) (fun i s hs=>?_) (fun i hi=>?_) (fun i k hk=>?_) hcap ?_
 ·obtain⟨b,o,e1,e2,e3⟩:=hl i s hs
  exact⟨b,o,e1,hP b (dA e3) e2,e3⟩
 ·have hi':i<L.length:=hi
  subst hsv
  obtain⟨g,cap,e,_,hB⟩:=bD h.row (by omega)
  injection e with e1 e2 e3
  subst e1
  refine⟨g,0,rfl,.inr hB,fun c hc=>?_⟩
  have hrow:=h.row
  rw[hrow.cellAt (0+i * 4+c) (by omega),Nat.zero_add]
  exact bB K L.length i c hi' hc
 ·exact(h.each i k hk).step fun b hb hp=>⟨rfl,hp.2⟩
 ·subst hsv
  exact zB h.row
inductive Own(w:World)(B:Nat):(Nat→Value)→It→(Nat→Prop)→Prop
 |mk (v:Nat→Value) (t:It) (K:Nat→Nat→Value) (T:Nat→Nat→Prop) (S:Nat→Prop)
  (h0:v 0=.string t.label) (h1:v 1=.string t.head)
  (ln:w.ownsRow B 9 1 (v 2) t.lines.length (t.lines.map Value.string))
  (kd:w.ownsRow B 25 4 (v 3) t.kids.length (GA K t.kids.length))
  (sl:∀g,(v 2).ownBlock=some g→S g) (sk:∀g,(v 3).ownBlock=some g→S g)
  (hr:∀i k,t.kids[i]?=some k→Own w B (K i) k (T i))
  (hT:∀i g,i<t.kids.length→T i g→S g∧(v 2).ownBlock≠some g∧(v 3).ownBlock≠some g)
  (hd:∀i j g,i<t.kids.length→j<t.kids.length→T i g→T j g→i=j)
  (hS:∀g,S g→B≤g∧g<w.heap.size):Own w B v t S
structure OwnK(w:World)(B:Nat)(v:Nat→Value)(t:It)(S:Nat→Prop)(K:Nat→Nat→Value)(T:Nat→Nat→Prop):Prop where
 h0:v 0=.string t.label
 h1:v 1=.string t.head
 ln:w.ownsRow B 9 1 (v 2) t.lines.length (t.lines.map Value.string)
 kd:w.ownsRow B 25 4 (v 3) t.kids.length (GA K t.kids.length)
 sl:∀g,(v 2).ownBlock=some g→S g
 sk:∀g,(v 3).ownBlock=some g→S g
 hr:∀i k,t.kids[i]?=some k→Own w B (K i) k (T i)
 hT:∀i g,i<t.kids.length→T i g→S g∧(v 2).ownBlock≠some g∧(v 3).ownBlock≠some g
 hd:∀i j g,i<t.kids.length→j<t.kids.length→T i g→T j g→i=j
 hS:∀g,S g→B≤g∧g<w.heap.size
theorem Own.parts{w:World}{B:Nat}{v:Nat→Value}{t:It}{S:Nat→Prop}(h:Own w B v t S):∃K T,OwnK w B v t S K T:=by
 cases h with
 |mk _ _ K T _ h0 h1 ln kd sl sk hr hT hd hS=>exact⟨K,T,h0,h1,ln,kd,sl,sk,hr,hT,hd,hS⟩
theorem Own.in{w:World}{B:Nat}{v:Nat→Value}{t:It}{S:Nat→Prop}(h:Own w B v t S):∀g,S g→B≤g∧g<w.heap.size:=by
 cases h with
 |mk _ _ K T _ h0 h1 ln kd sl sk hr hT hd hS=>exact hS
theorem Own.lies{w:World}{B:Nat}{v:Nat→Value}{t:It}{S:Nat→Prop}(h:Own w B v t S):Lies w S v t:=by
 induction h with
 |mk v t K T S h0 h1 ln kd sl sk hr hT hd hS ih=>
  obtain⟨la,lc,el⟩:=tA ln
  obtain⟨ka,kc,ek⟩:=tA kd
  refine .mk v t la ka lc kc K h0 h1 el ek (fun i s hs=>?_) (fun i hi=>?_) (fun i k e=>(ih i k e).step fun b _ hp=>⟨rfl,(hT i b (List.getElem?_eq_some_iff.1 e).1 hp).1⟩) (by rw[el] at ln;exact zB ln) (by rw[ek] at kd;exact zB kd)
  ·obtain⟨hi,_⟩:=List.getElem?_eq_some_iff.1 hs
   obtain⟨g,cap,e,hg,hb⟩:=bD ln (by omega)
   rw[el] at e ln
   injection e with e1 e2 e3
   rw[e1] at ln
   refine⟨g,0,e1,sl g (by rw[el,e1];rfl),?_⟩
   have:=ln.cellAt i (by omega)
   simpa [hs] using this
  ·obtain⟨g,cap,e,hg,hb⟩:=bD kd (by omega)
   rw[ek] at e kd
   injection e with e1 e2 e3
   rw[e1] at kd
   refine⟨g,0,e1,sk g (by rw[ek,e1];rfl),fun c hc=>?_⟩
   rw[kd.cellAt (0+i * 4+c) (by omega),Nat.zero_add]
   exact bB K t.kids.length i c hi hc
theorem Own.step{w w':World}{B:Nat}{v:Nat→Value}{t:It}{S:Nat→Prop}(h:Own w B v t S):(∀g,S g→w'.heap[g]?=w.heap[g]?)→w.heap.size≤w'.heap.size→Own w' B v t S:=by
 induction h with
 |mk v t K T S h0 h1 ln kd sl sk hr hT hd hS ih=>
  intro hk hs
  exact .mk v t K T S h0 h1 (CA ln fun g hg _=>hk g (sl g hg)) (CA kd fun g hg _=>hk g (sk g hg)) sl sk
   (fun i k e=>ih i k e (fun g hg=>hk g (hT i g (List.getElem?_eq_some_iff.1 e).1 hg).1) hs) hT hd (fun g hg=>⟨(hS g hg).1,by have:=(hS g hg).2;omega⟩)
structure ItAt(w:World)(B b o:Nat)(t:It)(S:Nat→Prop)(v:Nat→Value):Prop where
 here:∃cur ty,w.heap[b]?=some (.cells cur ty (0,0))∧∀c,c<4→cur[o+c]?=some (v c)
 own:Own w B v t S
 out:¬S b
theorem ItAt.cell{w:World}{B b o:Nat}{t:It}{S:Nat→Prop}{v:Nat→Value}(h:ItAt w B b o t S v){c:Nat}(hc:c<4):w.cell? ⟨b,o+c,none⟩=some (v c):=by
 obtain⟨cur,ty,e,hcs⟩:=h.here
 unfold World.cell?
 rw[e]
 exact hcs c hc
theorem ItAt.lt{w:World}{B b o:Nat}{t:It}{S:Nat→Prop}{v:Nat→Value}(h:ItAt w B b o t S v):b<w.heap.size:=dA (h.cell (c:=0) (by omega))
theorem ItAt.frozen{w:World}{B b o:Nat}{t:It}{S:Nat→Prop}{v:Nat→Value}(h:ItAt w B b o t S v)(i:Nat):w.frozen? ⟨b,i,none⟩=false:=by
 obtain⟨cur,ty,e,hcs⟩:=h.here
 unfold World.frozen?
 rw[e]
 simp
structure Upd(w w':World)(b o:Nat)(S:Nat→Prop):Prop where
 os:w'.os=w.os
 tape:w'.tape=w.tape
 output:w'.output=w.output
 size:w.heap.size≤w'.heap.size
 block:∀k,k<w.heap.size→¬S k→k≠b→w'.heap[k]?=w.heap[k]?
 here:∀cur ty,w.heap[b]?=some (.cells cur ty (0,0))→∃cur',w'.heap[b]?=some (.cells cur' ty (0,0))∧cur'.size=cur.size∧∀q,(q<o∨o+4≤q)→cur'[q]?=cur[q]?
theorem Upd.below{w w':World}{b o n:Nat}{S:Nat→Prop}(h:Upd w w' b o S)(hb:n≤b)(hS:∀g,S g→n≤g)(hn:n≤w.heap.size):Below n w w':=
 ⟨h.os,h.tape,h.output,h.size,fun k hk=>h.block k (by omega) (fun e=>by have:=hS k e;omega) (by omega)⟩
def ZG(K:Nat→Nat→Value)(i:Nat)(x:Nat→Value):Nat→Nat→Value:=fun j=>if j=i then x else K j
theorem ItAt.kid{w:World}{B b o:Nat}{t:It}{S:Nat→Prop}{v:Nat→Value}(h:ItAt w B b o t S v){i:Nat}{k:It}(hi:t.kids[i]?=some k):
 ∃g cap K T,v 3=.slice (some ⟨g,0,none⟩) t.kids.length cap∧OwnK w B v t S K T∧ItAt w B g (i * 4) k (T i) (K i):=by
 obtain⟨K,T,hk⟩:=h.own.parts
 have hlt:=(List.getElem?_eq_some_iff.1 hi).1
 obtain⟨g,cap,e,hg,hb⟩:=bD hk.kd (by omega)
 refine⟨g,cap,K,T,e,hk,⟨?_,hk.hr i k hi,fun hT=>(hk.hT i g hlt hT).2.2 (by rw[e];rfl)⟩⟩
 rcases hk.kd.2 with ⟨e1,h0⟩|⟨g',cap',cur,e1,hb',hgg,h1,h2,h3,h4⟩
 ·omega
 ·rw[e] at e1
  injection e1 with e1 _ _
  injection e1 with e1
  injection e1 with e1 _ _
  subst e1
  refine⟨cur,25,hgg,fun c hc=>?_⟩
  have h5:=bB K t.kids.length i c hlt hc
  rw[←h4,List.getElem?_take,if_pos (by omega)] at h5
  simpa using h5
theorem vP{K:Nat→Nat→Value}{n i:Nat}{x:Nat→Value}{l l':List Value}(hl:l=GA K n)(hi:i<n)(hlen:l'.length=l.length)(hin:∀c,c<4→l'[i * 4+c]?=some (x c))(hout:∀q,(q<i * 4∨i * 4+4≤q)→l'[q]?=l[q]?):l'=GA (ZG K i x) n:=by
 subst hl
 apply List.ext_getElem?
 intro q
 rcases Nat.lt_or_ge q (n * 4) with h|h
 ·have e:q=q / 4 * 4+q % 4:=by omega
  by_cases hq:q / 4=i
  ·rw[e,hq,hin (q % 4) (by omega),bB _ _ _ _ hi (by omega)]
   unfold ZG
   rw[if_pos rfl]
  ·rw[hout q (by omega),e,bB _ _ _ _ (by omega) (by omega),bB _ _ _ _ (by omega) (by omega)]
   unfold ZG
   rw[if_neg hq]
 ·rw[List.getElem?_eq_none (by rw[hlen,LA];exact h),List.getElem?_eq_none (by rw[LA];exact h)]
def mF(w:World)(b o:Nat)(t:It):Prop:=∃v:Nat→Value,(∀c,c<4→w.cell? ⟨b,o+c,none⟩=some (v c))∧Lies w (fun _=>True) v t
theorem ItAt.upL{w w':World}{B b o:Nat}{t:It}{S:Nat→Prop}{v:Nat→Value}{g cap i:Nat}{K:Nat→Nat→Value}{T:Nat→Nat→Prop}(h:ItAt w B b o t S v)(hv:v 3=.slice (some ⟨g,0,none⟩) t.kids.length cap)(hk:OwnK w B v t S K T)(hi:i<t.kids.length)
 (hu:Upd w w' g (i * 4) (T i)) {k':It} (hk':mF w' g (i * 4) k'):mF w' b o (t.setKid i k'):=by
 have hgS:S g:=hk.sk g (by rw[hv];rfl)
 have hbg:b≠g:=fun e=>h.out (e▸hgS)
 have hsame:∀q,q<w.heap.size→q≠g→¬T i q→w'.heap[q]?=w.heap[q]?:=fun q h1 h2 h3=>hu.block q h1 h3 h2
 have hnb:¬T i b:=fun e=>h.out (hk.hT i b hi e).1
 have hbb:w'.heap[b]?=w.heap[b]?:=hsame b h.lt hbg hnb
 have hlen:(t.setKid i k').kids.length=t.kids.length:=by unfold It.setKid;show (t.kids.set i k').length=_;simp
 obtain⟨x,hx,hxl⟩:=hk'
 have hne2:(v 2).ownBlock≠some g:=by
  intro e
  rcases hk.ln.2 with ⟨e1,_⟩|⟨g',cap',cur,e1,_,hgg,_⟩
  ·rw[e1] at e;cases e
  ·rw[e1] at e
   injection e with e
   have e:g'=g:=e
   subst e
   rcases hk.kd.2 with ⟨e1,h0⟩|⟨g2,cap2,cur2,e2,_,hg2,_⟩
   ·omega
   ·rw[hv] at e2
    injection e2 with e2 _ _
    injection e2 with e2
    injection e2 with e2 _ _
    subst e2
    rw[hgg] at hg2
    injection hg2 with hg2
    injection hg2 with _ hg2 _
    exact absurd hg2 (by decide)
 have hL:=h.own.lies
 obtain⟨la,lc,el⟩:=tA hk.ln
 have hcell:∀j c,j<t.kids.length→c<4→j≠i→w'.cell? ⟨g,j * 4+c,none⟩=some (K j c):=by
  intro j c hj hc hji
  rcases hk.kd.2 with ⟨e1,h0⟩|⟨g',cap',cur,e1,hb',hgg,h1,h2,h3,h4⟩
  ·omega
  ·rw[hv] at e1
   injection e1 with e1 _ e2
   injection e1 with e1
   injection e1 with e1 _ _
   subst e1 e2
   obtain⟨cur',e5,e6,e7⟩:=hu.here cur _ hgg
   unfold World.cell?
   rw[e5]
   show cur'[j * 4+c]?=_
   rw[e7 _ (by omega)]
   have h5:=bB K t.kids.length j c hj hc
   rw[←h4,List.getElem?_take,if_pos (by omega)] at h5
   simpa using h5
 refine⟨v,fun c hc=>?_,.mk v _ la (some ⟨g,0,none⟩) lc cap (ZG K i x) hk.h0 hk.h1 el (by rw[hlen];exact hv) (fun j s hs=>?_) (fun j hj=>?_) (fun j k e=>?_) (by have:=hk.ln;rw[el] at this;exact zB this) (by have:=hk.kd;rw[hv] at this;rw[hlen];exact zB this)⟩
 ·exact(World.cell?_of_block (a:=⟨b,o+c,none⟩) hbb).trans (h.cell hc)
 ·obtain⟨hj,_⟩:=List.getElem?_eq_some_iff.1 hs
  have hs:t.lines[j]?=some s:=hs
  obtain⟨_,hl⟩:=hL.linesIn el
  obtain⟨q,r,e1,e2,e3⟩:=hl j s hs
  refine⟨q,r,e1,trivial,?_⟩
  refine(World.cell?_of_block (a:=⟨q,r+j,none⟩) (hsame q (dA e3) (fun e=>hne2 (by rw[el,e1,e];rfl)) (fun e=>(hk.hT i q hi e).2.1 (by rw[el,e1];rfl)))).trans e3
 ·rw[hlen] at hj
  refine⟨g,0,rfl,trivial,fun c hc=>?_⟩
  unfold ZG
  rw[Nat.zero_add]
  split
  ·rename_i hji
   subst hji
   exact hx c hc
  ·rename_i hji
   exact hcell j c hj hc hji
 ·have e:(t.kids.set i k')[j]?=some k:=e
  unfold ZG
  by_cases hji:j=i
  ·subst hji
   rw[List.getElem?_set_self hi] at e
   injection e with e
   subst e
   rw[if_pos rfl]
   exact hxl
  ·rw[List.getElem?_set_ne (fun e=>hji e.symm)] at e
   have hjl:=(List.getElem?_eq_some_iff.1 e).1
   rw[if_neg hji]
   refine(hk.hr j k e).lies.step fun q hq hp=>⟨?_,trivial⟩
   have h9:=hk.hT j q hjl hp
   exact hsame q hq (fun e=>h9.2.2 (by rw[hv,e];rfl)) (fun e=>hji (hk.hd j i q hjl hi hp e))
def XG:Option Nat→Int
 |none=>-1
 |some i=>i
theorem tL(a h s:ByteArray)(la ka:Option Addr)(n lc m kc:Nat)(bs:Nat)(w:World)(hs:w.cell? ⟨bs,0,none⟩=some (.string s)):
 Calls Tryz.prog 109 #[.agg #[.string a,.string h,.slice la n lc,.slice ka m kc],.pointer (some ⟨bs,0,none⟩)] w fun e w'=>e=.returned (.bool (a.toList==s.toList))∧w'=w.alloc (.cells #[.string a,.string h,.slice la n lc,.slice ka m kc] 25):=by
 have hl:=World.block_lt_of_cell? w ⟨bs,0,none⟩ hs
 have hs2:(w.alloc (.cells #[.string a,.string h,.slice la n lc,.slice ka m kc] 25)).cell? ⟨bs,0,none⟩=some (.string s):=by
  rw[World.cell?_alloc_lt _ _ ⟨bs,0,none⟩ hl];exact hs
 go_enter Tryz.func109,Tryz.ntmps109
 go_wp2
 go_ret
 exact⟨rfl,rfl⟩
theorem RM(n:Nat)(ka:Option Addr)(kc:Nat)(L:Nat→ByteArray)(H:Nat→ByteArray)(la ma:Nat→Option Addr)(ln lc mn mc:Nat→Nat)(s:ByteArray)(bs:Nat)(w:World)(hn:n≤100000)(hs:w.cell? ⟨bs,0,none⟩=some (.string s))
 (hk:∀i,i<n→∃b o,ka=some ⟨b,o,none⟩∧w.cell? ⟨b,o+i * 4,none⟩=some (.string (L i))∧w.cell? ⟨b,o+i * 4+1,none⟩=some (.string (H i))∧w.cell? ⟨b,o+i * 4+2,none⟩=some (.slice (la i) (ln i) (lc i))∧w.cell? ⟨b,o+i * 4+3,none⟩=some (.slice (ma i) (mn i) (mc i))):
 Calls Tryz.prog 108 #[.slice ka n kc,.func (.func 109) #[] #[.pointer (some ⟨bs,0,none⟩)]] w fun e w'=>(∃r:Option Nat,e=.returned (.int .i64 (XG r))∧(r=none→∀j,j<n→((L j).toList==s.toList)=false)∧∀i,r=some i→i<n∧((L i).toList==s.toList)=true∧∀j,j<i→((L j).toList==s.toList)=false)∧Below w.heap.size w w':=by
 have hl:=World.block_lt_of_cell? w ⟨bs,0,none⟩ hs
 go_enter Tryz.func108,Tryz.ntmps108
 go_wp2_with fail
 go_loopw [8] (fun t wr=>∃i:Nat,i≤n∧t=.int .i64 i∧Below w.heap.size w wr∧∀j,j<i→((L j).toList==s.toList)=false) (fun t _=>(n - RowKit.intOf t).toNat)
 case atStart=>exact⟨0,by omega,rfl,Below.refl _ _,fun j hj=>by omega⟩
 case round=>
  obtain⟨i,hi,rfl,hb,hno⟩:=hrel
  have HB:=aA hb
  have HN:=aA hno
  clear hb hno
  by_cases hin:i<n
  ·obtain⟨b,o,rfl,c0,c1,c2,c3⟩:=hk i hin
   have hiz:(i:Int)<n:=by omega
   have hbl:=World.block_lt_of_cell? w ⟨b,o+i * 4,none⟩ c0
   have d0:=(HB.out.cell (p:=⟨b,o+i * 4,none⟩) hbl).trans c0
   have d1:=(HB.out.cell (p:=⟨b,o+i * 4+1,none⟩) hbl).trans c1
   have d2:=(HB.out.cell (p:=⟨b,o+i * 4+2,none⟩) hbl).trans c2
   have d3:=(HB.out.cell (p:=⟨b,o+i * 4+3,none⟩) hbl).trans c3
   have HC:=aA (tL (L i) (H i) s (la i) (ma i) (ln i) (lc i) (mn i) (mc i) bs wr ((HB.out.cell (p:=⟨bs,0,none⟩) hl).trans hs))
   have HK:=aA hk
   clear c0 c1 c2 c3 hk
   cases hq:((L i).toList==s.toList)
   ·rw[hq] at HC
    have HQ:=aA hq
    clear hq
    go_wp2_with fail
    refine HC.out.mono ?_
    rintro e w1 ⟨rfl,ew⟩
    go_wp2
    go_roundw
    case rel=>
     refine⟨i+1,by omega,by go_num,?_,fun j hj=>?_⟩
     ·first|exact HB.out.alloc HB.out.size _|(rw[ew];exact HB.out.alloc HB.out.size _)
     ·rcases Nat.lt_or_ge j i with h|h
      ·exact HN.out j h
      ·obtain rfl:j=i:=by omega
       exact HQ.out
    case measure=>simp[RowKit.intOf];omega
   ·rw[hq] at HC
    have HQ:=aA hq
    clear hq
    go_wp2_with fail
    refine HC.out.mono ?_
    rintro e w1 ⟨rfl,ew⟩
    go_wp2
    go_ret
    refine⟨⟨some i,rfl,(fun h=>by cases h),(fun j hj=>by injection hj with hj;subst hj;exact⟨hin,HQ.out,HN.out⟩)⟩,?_⟩
    first|exact HB.out.alloc HB.out.size _|(rw[ew];exact HB.out.alloc HB.out.size _)
  ·obtain rfl:i=n:=by omega
   clear hk
   go_wp2
   go_ret
   exact⟨⟨none,rfl,(fun _=>HN.out),(fun j hj=>by cases hj)⟩,HB.out⟩
theorem wK{kids:List It}{s:ByteArray}{r:Option Nat}(h1:r=none→∀(j:Nat) y,kids[j]?=some y→zE s y=false)(h2:∀i,r=some i→∃x,kids[i]?=some x∧zE s x=true∧∀j y,j<i→kids[j]?=some y→zE s y=false):r=iA kids s:=by
 cases r with
 |none=>exact(IH (h1 rfl)).symm
 |some i=>
  obtain⟨x,h3,h4,h5⟩:=h2 i rfl
  exact(JH h3 h4 h5).symm
theorem sC{w:World}{P:Nat→Prop}{v:Nat→Value}{t:It}(h:Lies w P v t){ka:Option Addr}{n kc:Nat}(e:v 3=.slice ka n kc)(hn:n≤100000)(s:ByteArray):
 Calls Tryz.prog 69 #[.slice ka n kc,.string s] w fun e w'=>e=.returned (.int .i64 (XG (iA t.kids s)))∧Below w.heap.size w w':=by
 obtain⟨rfl,V,hk,hr⟩:=h.kidsAt e
 have hb:Below w.heap.size w (w.alloc (.cells #[.string s] 9)):=bA _ _
 have hcells:=NH hk hr
 have HC:=aA (RM t.kids.length ka kc _ _ _ _ _ _ _ _ s w.heap.size (w.alloc (.cells #[.string s] 9)) hn (by simp) (fun i hi=>by
  obtain⟨b,o,e,c0,c1,c2,c3⟩:=hcells i hi
  have hbl:=World.block_lt_of_cell? w ⟨b,o+i * 4,none⟩ c0
  exact⟨b,o,e,(hb.cell (p:=⟨b,o+i * 4,none⟩) hbl).trans c0,(hb.cell (p:=⟨b,o+i * 4+1,none⟩) hbl).trans c1,(hb.cell (p:=⟨b,o+i * 4+2,none⟩) hbl).trans c2,(hb.cell (p:=⟨b,o+i * 4+3,none⟩) hbl).trans c3⟩))
 have HR:Hid (∀r:Option Nat,(r=none→∀j,j<t.kids.length→((WG (V j 0)).toList==s.toList)=false)→(∀i,r=some i→i<t.kids.length∧((WG (V i 0)).toList==s.toList)=true∧∀j,j<i→((WG (V j 0)).toList==s.toList)=false)→r=iA t.kids s):=fun r h1 h2=>by
  have hl:∀(j:Nat) y,t.kids[j]?=some y→zE s y=((WG (V j 0)).toList==s.toList):=fun j y hy=>by
   rw[(hr j y hy).forms.1];rfl
  refine wK (fun hn j y hy=>?_) (fun i hi=>?_)
  ·rw[hl j y hy];exact h1 hn j (List.getElem?_eq_some_iff.1 hy).1
  ·obtain⟨h3,h4,h5⟩:=h2 i hi
   refine⟨t.kids[i],List.getElem?_eq_getElem h3,?_,fun j y hj hy=>?_⟩
   ·rw[hl i _ (List.getElem?_eq_getElem h3)];exact h4
   ·rw[hl j y hy];exact h5 j hj
 have HBb:=aA hb
 clear hk hr hcells h e hb
 generalize iA t.kids s=r0 at *
 go_enter Tryz.func69,Tryz.ntmps69
 go_wp2_with fail
 refine HC.out.mono ?_
 rintro e w1 ⟨⟨r,rfl,hk1,hk2⟩,hb1⟩
 have hr:=HR.out r hk1 hk2
 subst hr
 have H1:=aA hb1
 clear hk1 hk2 hb1
 go_wp2
 go_ret
 exact⟨rfl,HBb.out.trans (H1.out.mono (by simp))⟩
theorem dD{s:ByteArray}:s.toList.isEmpty=decide (s.size=0):=by
 rw[Lib.toList_data,Bool.eq_iff_iff,List.isEmpty_iff,decide_eq_true_eq]
 show s.data.toList=[]↔s.data.size=0
 rw[←Array.length_toList,List.length_eq_zero_iff]
theorem UJ{l:List It}{s:ByteArray}(h:s.toList.isEmpty=true):pA l s=some 0:=by
 rw[dD,decide_eq_true_eq] at h
 unfold pA
 rw[if_pos h]
theorem UM{l:List It}{s:ByteArray}(h:s.toList.isEmpty=false):pA l s=(iA l s).map (· +1):=by
 rw[dD,decide_eq_false_iff_not] at h
 unfold pA
 rw[if_neg h]
theorem UD{w:World}{P:Nat→Prop}{v:Nat→Value}{t:It}(h:Lies w P v t){ka:Option Addr}{n kc:Nat}(e:v 3=.slice ka n kc)(hn:n≤100000)(s:ByteArray):
 Calls Tryz.prog 76 #[.slice ka n kc,.string s] w fun e w'=>e=.returned (.int .i64 (XG (pA t.kids s)))∧Below w.heap.size w w':=by
 have HC:=aA (sC h e hn s)
 have hlt:∀i,iA t.kids s=some i→i<100000:=fun i hi=>by
  obtain⟨x,hx,_⟩:=SA hi
  have:=(List.getElem?_eq_some_iff.1 hx).1
  have:=(h.kidsAt e).1
  omega
 cases hs:s.toList.isEmpty
 ·have HB:=aA (UM (l:=t.kids) hs)
  generalize pA t.kids s=r0 at *
  generalize iA t.kids s=r1 at *
  clear h e
  go_enter Tryz.func76,Tryz.ntmps76
  go_wp2_with fail
  refine HC.out.mono ?_
  rintro e w1 ⟨rfl,hb1⟩
  have H1:=aA hb1
  clear hb1
  cases r1 with
  |none=>
   unfold XG
   go_wp2
   go_ret
   exact⟨by rw[HB.out];rfl,H1.out⟩
  |some i=>
   have hi:=hlt i rfl
   have hi0:¬((i:Int)<0):=by omega
   have hw:IntKind.i64.wrap ((i:Int)+1)=(i:Int)+1:=by rw[IntKind.wrap_i64];omega
   clear hlt
   unfold XG
   go_wp2
   go_ret
   exact⟨by rw[HB.out];rfl,H1.out⟩
 ·have HB:=aA (UJ (l:=t.kids) hs)
  generalize pA t.kids s=r0 at *
  clear h e HC hlt
  go_enter Tryz.func76,Tryz.ntmps76
  go_wp2
  go_ret
  exact⟨by rw[HB.out];rfl,Below.refl _ _⟩
structure Box3(w wr:World)(u:Value):Prop where
 c3:wr.cell? ⟨w.heap.size,3,none⟩=some u
 bel:Below w.heap.size w wr
 lt:w.heap.size<wr.heap.size
theorem Box3.start(w:World)(a0 a1 a2 a3:Value)(t:TypeId):Box3 w (w.alloc (.cells #[a0,a1,a2,a3] t)) a3:=⟨by simp,bA _ _,by simp⟩
def mC:Option Nat→Int
 |none=>-1
 |some i=>i
theorem DE{w:World}{P:Nat→Prop}{v:Nat→Value}{t:It}(h:Lies w P v t)(hn:t.kids.length≤4194304)(s:ByteArray):
 Calls Tryz.prog 47 #[.agg #[v 0,v 1,v 2,v 3],.string s] w fun e w'=>e=.returned (.int .i64 (mC (iA t.kids s)))∧Below w.heap.size w w':=by
 obtain⟨f0,f1,⟨la,lc,f2⟩,⟨ka,kc,f3⟩⟩:=h.forms
 obtain⟨_,V,hk,hr⟩:=h.kidsAt f3
 have HK:Hid (∀i x,t.kids[i]?=some x→∃b o,ka=some ⟨b,o,none⟩∧w.cell? ⟨b,o+i * 4,none⟩=some (.string x.label)):=fun i x hx=>by
  obtain⟨b,o,e1,_,e3⟩:=hk i (List.getElem?_eq_some_iff.1 hx).1
  refine⟨b,o,e1,?_⟩
  have:=e3 0 (by omega)
  rw[(hr i x hx).forms.1] at this
  exact this
 obtain⟨kn,hkn⟩:∃kn,kn=t.kids.length:=⟨_,rfl⟩
 have HKn:=aA hkn
 rw[f0,f1,f2,f3,←hkn]
 rw[←hkn] at hn
 clear h hk hr f0 f1 f2 f3 hkn
 generalize t.label=lb at *
 generalize t.head=hd at *
 generalize t.lines.length=ln at *
 obtain⟨O,hO⟩:∃O,O=mC (iA t.kids s):=⟨_,rfl⟩
 have HO:=aA hO
 rw[←hO]
 clear hO
 go_enter Tryz.func47,Tryz.ntmps47
 have HB:=aA (Box3.start w (.string lb) (.string hd) (.slice la ln lc) (.slice ka kn kc) 25)
 go_wp2_with fail
 generalize (w.alloc (.cells #[.string lb,.string hd,.slice la ln lc,.slice ka kn kc] 25))=w2 at *
 go_loopw [5] (fun y wr=>∃i:Nat,i≤kn∧y=.int .i64 i∧Box3 w wr (.slice ka kn kc)∧∀j y,j<i→t.kids[j]?=some y→zE s y=false) (fun y _=>(kn - RowKit.intOf y).toNat)
 case atStart=>exact⟨0,by omega,rfl,HB.out,fun j y hj=>by omega⟩
 case round=>
  obtain⟨i,hi,rfl,hbx,hno⟩:=hrel
  have HX:=aA hbx
  have HN:=aA hno
  have c3:=hbx.c3
  clear hbx hno
  by_cases hin:i<kn
  ·have hiz:(i:Int)<kn:=by omega
   obtain⟨x,hx⟩:∃x,t.kids[i]?=some x:=⟨_,List.getElem?_eq_getElem (by rw[←HKn.out];exact hin)⟩
   obtain⟨b,o,rfl,x0⟩:=HK.out i x hx
   have y0:=(HX.out.bel.cell (p:=⟨b,o+i * 4,none⟩) (dA x0)).trans x0
   have HXi:=aA hx
   clear x0 hx
   have HL:Hid (zE s x=(x.label.toList==s.toList)):=rfl
   generalize x.label=xl at *
   cases hq:(xl.toList==s.toList)
   ·have HQ:=aA hq
    go_wp2
    go_roundw
    case rel=>
     refine⟨i+1,by omega,by go_num,HX.out,fun j y hj hy=>?_⟩
     rcases Nat.lt_or_ge j i with h|h
     ·exact HN.out j y h hy
     ·obtain rfl:j=i:=by omega
      obtain rfl:x=y:=Option.some.inj (HXi.out.symm.trans hy)
      rw[HL.out];exact HQ.out
    case measure=>simp[RowKit.intOf];omega
   ·have HQ:=aA hq
    have HE:Hid (O=(i:Int)):=by
     show _=_
     rw[HO.out,JH HXi.out (by rw[HL.out];exact HQ.out) HN.out];rfl
    go_wp2
    go_ret
    exact⟨by rw[HE.out];rfl,HX.out.bel⟩
  ·obtain rfl:i=kn:=by omega
   have hiz:¬(i:Int)<i:=by omega
   have HE:Hid (O=-1):=by
    show _=_
    rw[HO.out,IH (fun j y hy=>HN.out j y (by have:=(List.getElem?_eq_some_iff.1 hy).1;rw[←HKn.out] at this;exact this) hy)];rfl
   go_wp2
   go_ret
   exact⟨by rw[HE.out];rfl,HX.out.bel⟩
end Go.Proofs.YtpbolcjcmkmalaaGreatDoor

import Derived.Test.YtpbolcjcmkmalaaGreatDoorAq00
import Derived.Test.YtpbolcjcmkmalaaGreatDoorAq09
import Derived.Test.YtpbolcjcmkmalaaGreatDoorAq20
import Derived.Test.YtpbolcjcmkmalaaGreatDoorAq10
set_option maxHeartbeats 20000000
set_option maxRecDepth 20000
namespace Go.Proofs.YtpbolcjcmkmalaaGreatDoor
open Go.RowKit Go.Extern.Stop Go.Stop Go.Extern
def fE:List ByteArray→List UInt8
 | []=>[]
 |x::r=>bl x++r.flatMap (fun y=>47::bl y)
theorem eH{P:List ByteArray}(h:P≠[])(R:List ByteArray):fE (P++R)=fE P++R.flatMap (fun y=>47::bl y):=by
 cases P with
 |nil=>exact absurd rfl h
 |cons x r=>show bl x++(r++R).flatMap _=(bl x++r.flatMap _)++_;rw[List.flatMap_append,List.append_assoc]
theorem uK:∀l:List UInt8,fE ((XA l).map gD)=l
 | []=>by
   show fE [gD []]=[]
   show bl (gD [])++[]=[]
   rw[eB];rfl
 |c::r=>by
  obtain⟨g,t,e⟩:∃g t,XA r=g::t:=by
   cases h:XA r with
   |nil=>exact absurd h (qC r)
   |cons g t=>exact⟨g,t,rfl⟩
  have ih:=uK r
  rw[e] at ih
  have ih:bl (gD g)++(t.map gD).flatMap (fun y=>47::bl y)=r:=ih
  rw[eB] at ih
  by_cases hc:c=47
  ·subst hc
   rw[DB,e]
   show bl (gD [])++((47::bl (gD g))++(t.map gD).flatMap (fun y=>47::bl y))=_
   rw[eB,eB,List.nil_append,List.cons_append,ih]
  ·rw[YB hc e]
   show bl (gD (c::g))++(t.map gD).flatMap (fun y=>47::bl y)=_
   rw[eB,List.cons_append,ih]
theorem DM:∀l:List UInt8,47∉l→XA l=[l]
 | [],_=>rfl
 |c::r,h=>by
  rw[List.mem_cons,not_or] at h
  exact YB (fun e=>h.1 e.symm) (DM r h.2)
theorem LJ:∀(a b:List UInt8),47∉b→XA (a++47::b)=XA a++[b]
 | [],b,h=>by rw[List.nil_append,DB,DM b h];rfl
 |c::r,b,h=>by
  by_cases hc:c=47
  ·subst hc
   rw[List.cons_append,DB,DB,LJ r b h];rfl
  ·obtain⟨g,t,e⟩:∃g t,XA r=g::t:=by
    cases h:XA r with
    |nil=>exact absurd h (qC r)
    |cons g t=>exact⟨g,t,rfl⟩
   rw[List.cons_append,YB hc (g:=g) (t:=t++[b]) (by rw[LJ r b h,e];rfl),YB hc e];rfl
theorem oC(s:ByteArray):gD (fE (cA s))=s:=by
 unfold cA
 split
 ·rename_i h
  refine VD ?_
  rw[eB]
  exact(List.eq_nil_of_length_eq_zero (by rw[oA];exact h)).symm
 ·rw[uK,rG]
def vB(s:ByteArray):ByteArray:=gD (fE (PN (cA s)))
def nC(s:ByteArray):ByteArray:=zK (cA s)
def GH(p l:ByteArray):ByteArray:=if p.size=0 then l else p++gD [47]++l
theorem kQ{P:List ByteArray}(h:P≠[gD []])(l:ByteArray):GH (gD (fE P)) l=gD (fE (P++[l])):=by
 unfold GH
 cases P with
 |nil=>
  rw[if_pos (by rw[←oA,eB];rfl)]
  show l=gD (bl l++[])
  rw[List.append_nil,rG]
 |cons x r=>
  rw[if_neg ?_]
  ·refine VD ?_
   have ha:∀a b:ByteArray,bl (a++b)=bl a++bl b:=fun a b=>by simp[bl]
   rw[ha,ha,eB,eB,eB,eH (by simp),List.append_assoc]
   simp
  ·intro h0
   rw[←oA,eB] at h0
   have h0:(bl x++r.flatMap (fun y=>47::bl y)).length=0:=h0
   rw[List.length_append] at h0
   have h1:bl x=[]:=List.eq_nil_of_length_eq_zero (by omega)
   have h2:r.flatMap (fun y=>47::bl y)=[]:=List.eq_nil_of_length_eq_zero (by omega)
   refine h ?_
   cases r with
   |cons y r=>rw[List.flatMap_cons,List.cons_append] at h2;cases h2
   |nil=>rw[show x=gD [] from VD (by rw[h1,eB])]
def vV(x y:Int×ByteArray):Prop:=x.1=3∧∃r,bl y.2=bl x.2++r∧(x.2.size=0∨r=[]∨r.head?=some 47)
theorem cP{P Q:List ByteArray}(h:P<+:Q)(n:Int):vV (3,gD (fE P)) (n,gD (fE Q)):=by
 obtain⟨R,rfl⟩:=h
 refine⟨rfl,?_⟩
 show ∃r,bl (gD (fE (P++R)))=bl (gD (fE P))++r∧((gD (fE P)).size=0∨r=[]∨r.head?=some 47)
 rw[eB,eB]
 by_cases hP:P=[]
 ·subst hP
  exact⟨fE R,rfl,.inl (by rw[←oA,eB];rfl)⟩
 ·refine⟨_,eH hP R,.inr ?_⟩
  cases R with
  |nil=>exact .inl rfl
  |cons y r=>exact .inr rfl
theorem KI(f:It→List It)(s:ByteArray):∀l:List It,(∀x,x∈l→zE s x=false)→l.flatMap (fun x=>if zE s x then f x else [x])=l
 | [],_=>rfl
 |a::l,h=>by
  rw[List.flatMap_cons,h a (by simp),KI f s l fun x hx=>h x (List.mem_cons_of_mem _ hx)]
  rfl
theorem rD(f:It→List It)(s:ByteArray):∀(l:List It) (i:Nat) (k:It),(xA l).Nodup→iA l s=some i→l[i]?=some k→l.flatMap (fun x=>if zE s x then f x else [x])=l.take i++f k++l.drop (i+1)
 | [],i,k,_,_,hk=>by cases hk
 |a::l,i,k,hn,h,hk=>by
  obtain⟨x,h1,h2,h3⟩:=SA h
  have hn':a.label∉xA l∧(xA l).Nodup:=List.nodup_cons.1 hn
  rw[hk] at h1
  injection h1 with h1
  subst h1
  cases i with
  |zero=>
   injection hk with hk
   subst hk
   rw[List.flatMap_cons,if_pos h2,KI f s l fun y hy=>?_]
   ·rfl
   ·have e:a.label=s:=isL_iff.1 h2
    refine isL_no.2 fun e2=>hn'.1 ?_
    rw[e,←e2]
    exact List.mem_map.2 ⟨y,hy,rfl⟩
  |succ j=>
   have h0:=h3 0 a (by omega) rfl
   have hj:iA l s=some j:=JH hk h2 fun q y hq hy=>h3 (q+1) y (by omega) hy
   rw[List.flatMap_cons,h0,rD f s l j k hn'.2 hj hk]
   rfl
theorem wG{l:List It}{i:Nat}{k:It}(h:i<l.length):l.set i k=l.take i++[k]++l.drop (i+1):=by
 rw[List.set_eq_take_append_cons_drop,if_pos h,List.append_assoc];rfl
theorem aJ(xs:List It)(p:ByteArray)(t:It):lB xs [p] t=.mk t.label t.head t.lines (t.kids.flatMap fun k=>if zE p k then xs else [k]):=by rw[lB]
theorem VH(xs:List It)(p:ByteArray){r:List ByteArray}(h:r≠[])(t:It):lB xs (p::r) t=.mk t.label t.head t.lines (t.kids.flatMap fun k=>if zE p k then [lB xs r k] else [k]):=by
 cases r with
 |nil=>exact absurd rfl h
 |cons q r=>rw[lB]
theorem LF(y:It):∀(r:List ByteArray) (p:ByteArray) (t x:It),Ds t→eA t (p::r)=some x→lB [y] (p::r) t=sA (fun _=>y) (p::r) t
 | [],p,t,x,hd,h=>by
   obtain⟨i,z,hi,hz,hf⟩:=IA h
   have hl:=(List.getElem?_eq_some_iff.1 hz).1
   rw[cB hi hz,sA,aJ,rD _ p _ i z hd.is.1 hi hz,←wG hl]
   rfl
 |q::r,p,t,x,hd,h=>by
  obtain⟨i,z,hi,hz,hf⟩:=IA h
  have hl:=(List.getElem?_eq_some_iff.1 hz).1
  rw[cB hi hz,VH _ p (by simp),rD (fun k=>[lB [y] (q::r) k]) p _ i z hd.is.1 hi hz,←wG hl,LF y r q z x (hd.is.2 z (List.mem_of_getElem? hz)) hf]
  rfl
theorem dK{l:List It}{i:Nat}:l.eraseIdx i=l.take i++[]++l.drop (i+1):=by
 rw[List.append_nil,List.eraseIdx_eq_take_drop_succ]
theorem LD(s:ByteArray)(i:Nat):∀(p0:List ByteArray) (t x:It),Ds t→eA t p0=some x→iA x.kids s=some i→lB [] (p0++[s]) t=sA (fun _=>x.setKids (x.kids.eraseIdx i)) p0 t
 | [],t,x,hd,h,hi=>by
   rw[eA] at h
   injection h with h
   subst h
   obtain⟨z,hz,_⟩:=SA hi
   rw[List.nil_append,aJ,rD _ s _ i z hd.is.1 hi hz,sA,←dK]
   rfl
 |q::r,t,x,hd,h,hi=>by
  obtain⟨j,z,hj,hz,hf⟩:=IA h
  have hl:=(List.getElem?_eq_some_iff.1 hz).1
  rw[List.cons_append,cB hj hz,VH _ q (by simp),rD (fun k=>[lB [] (r++[s]) k]) q _ j z hd.is.1 hj hz,←wG hl,LD s i r z x (hd.is.2 z (List.mem_of_getElem? hz)) hf hi]
  rfl
theorem EF(y:It):∀(l:List It) (j:Nat) (k:It),l[j]?=some k→l.insertIdx (j+1) y=l.take j++[k,y]++l.drop (j+1)
 | [],j,k,h=>by cases h
 |a::l,0,k,h=>by
  injection h with h
  subst h
  cases l<;>rfl
 |a::l,j+1,k,h=>by
  rw[List.insertIdx_succ_cons,EF y l j k h];rfl
theorem tN:(⟨#[]⟩:ByteArray).toList=[]:=by kernel_rfl
theorem XC(s:ByteArray):(s.toList==[])=decide (s.size=0):=by
 have h:(s.toList==[])=true↔s.size=0:=by
  rw[←tN,same_bytes]
  constructor
  ·rintro rfl;rfl
  ·intro h
   refine VD ?_
   exact List.eq_nil_of_length_eq_zero (by rw[oA];exact h)
 by_cases h0:s.size=0
 ·rw[decide_eq_true h0];exact h.2 h0
 ·rw[decide_eq_false h0]
  cases e:s.toList==[] with
  |false=>rfl
  |true=>exact absurd (h.1 e) h0
theorem bH{l:List It}(hn:(xA l).Nodup){a:ByteArray}{i:Nat}(h:pA l a=some i)(y:It):CB a y l=l.insertIdx i y:=by
 unfold pA at h
 unfold CB
 rw[XC]
 by_cases h0:a.size=0
 ·rw[if_pos h0] at h
  injection h with h
  subst h
  rw[decide_eq_true h0,if_pos rfl]
  have e:∀m:List It,m.flatMap (TD a y)=m:=fun m=>by
   induction m with
   |nil=>rfl
   |cons b m ih=>
    rw[List.flatMap_cons,ih]
    unfold TD
    rw[XC,decide_eq_true h0,if_pos rfl]
    rfl
  rw[e,List.insertIdx_zero]
  rfl
 ·rw[if_neg h0] at h
  rw[decide_eq_false h0,if_neg (by decide)]
  cases hk:iA l a with
  |none=>rw[hk] at h;cases h
  |some j=>
   rw[hk] at h
   injection h with h
   subst h
   obtain⟨z,hz,_⟩:=SA hk
   have e:TD a y=fun k=>if zE a k then [k,y] else [k]:=by
    funext k
    unfold TD
    rw[XC,decide_eq_false h0,if_neg (by decide)]
   rw[List.nil_append,e,rD (fun k=>[k,y]) a l j z hn hk hz,EF y l j z hz]
theorem pE{t x:It}{path:ByteArray}(hd:Ds t)(h:eA t (cA path)=some x)(y:It):JA path y t=sA (fun _=>y) (cA path) t:=by
 unfold JA
 rw[XC]
 by_cases h0:path.size=0
 ·rw[decide_eq_true h0,if_pos rfl]
  unfold cA
  rw[if_pos h0,sA]
 ·rw[decide_eq_false h0,if_neg (by decide)]
  obtain⟨p,r,e⟩:=UH (path:=path) (by rw[XC,decide_eq_false h0])
  rw[e] at h ⊢
  exact LF y r p t x hd h
theorem bI:∀(a b:List UInt8),XA (a++47::b)=XA a++XA b
 | [],b=>by rw[List.nil_append,DB];rfl
 |c::r,b=>by
  by_cases hc:c=47
  ·subst hc
   rw[List.cons_append,DB,DB,bI r b];rfl
  ·obtain⟨g,t,e⟩:∃g t,XA r=g::t:=by
    cases h:XA r with
    |nil=>exact absurd h (qC r)
    |cons g t=>exact⟨g,t,rfl⟩
   rw[List.cons_append,YB hc (g:=g) (t:=t++XA b) (by rw[bI r b,e];rfl),YB hc e];rfl
theorem EE:∀(l x:List UInt8),x∈XA l→47∉x
 | [],x,h=>by
   have h:x∈[[]]:=h
   rw[List.mem_singleton] at h
   subst h
   simp
 |c::r,x,h=>by
  by_cases hc:c=47
  ·subst hc
   rw[DB] at h
   rcases List.mem_cons.1 h with rfl|h
   ·simp
   ·exact EE r x h
  ·obtain⟨g,t,e⟩:∃g t,XA r=g::t:=by
    cases h:XA r with
    |nil=>exact absurd h (qC r)
    |cons g t=>exact⟨g,t,rfl⟩
   rw[YB hc e] at h
   rcases List.mem_cons.1 h with rfl|h
   ·rw[List.mem_cons,not_or]
    exact⟨fun h=>hc h.symm,EE r g (by rw[e];simp)⟩
   ·exact EE r x (by rw[e];simp[h])
theorem fB{s:ByteArray}(h:s.size≠0):cA s≠[]∧cA s=(XA (bl s)).map gD:=by
 unfold cA
 rw[if_neg h]
 exact⟨fun e=>qC _ (List.map_eq_nil_iff.1 e),rfl⟩
theorem sG{s:ByteArray}(h:s.size=0):cA s=[]:=by
 unfold cA
 rw[if_pos h]
def OJ(a b:ByteArray):Prop:=b.size=0∨∃r,bl a=bl b++r∧(r=[]∨r.head?=some 47)
theorem BF{a b:ByteArray}(hb:b.size≠0):OJ a b↔cA b<+:cA a:=by
 constructor
 ·rintro (h|⟨r,h1,h2⟩)
  ·exact absurd h hb
  ·rcases h2 with rfl|h2
   ·rw[List.append_nil] at h1
    rw[VD h1]
    exact List.prefix_refl _
   ·cases r with
    |nil=>cases h2
    |cons c r=>
     injection h2 with h2
     subst h2
     have ha:a.size≠0:=by
      intro h0
      have:=congrArg List.length h1
      rw[oA,h0] at this
      simp at this
     rw[(fB hb).2,(fB ha).2,h1,bI,List.map_append]
     exact List.prefix_append _ _
 ·intro h
  have h9:=cP h 0
  rw[oC,oC] at h9
  obtain⟨_,r,h1,h2⟩:=h9
  rcases h2 with h2|h2
  ·exact .inl h2
  ·exact .inr ⟨r,h1,h2⟩
theorem VC{t y:It}{P:List ByteArray}(h:eA t P=some y)(hP:P≠[]):∃p0 l x i,P=p0++[l]∧eA t p0=some x∧iA x.kids l=some i∧x.kids[i]?=some y∧y.label=l∧kF t P=some (x,i):=by
 have e:=GM hP
 generalize PN P=p0 at e
 generalize zK P=l at e
 subst e
 cases hx:eA t p0 with
 |none=>rw[QE p0 t [l] hx] at h;cases h
 |some x=>
  rw[ZC p0 t x l hx] at h
  obtain⟨i,z,h1,h2,h3⟩:=IA h
  rw[eA] at h3
  injection h3 with h3
  subst h3
  obtain⟨k,hk,hl⟩:=LL h1
  rw[h2] at hk
  injection hk with hk
  subst hk
  exact⟨p0,l,x,i,rfl,hx,h1,h2,hl,TJ hx h1⟩
theorem YE{s:ByteArray}(h:isLab s=true):s.size≠0:=fun h0=>by
 obtain⟨k,l,hL⟩:∃k l,Lab s k l:=by unfold isLab at h;exact @of_decide_eq_true _ (Classical.propDecidable _) h
 have h5:=hL.k1
 have h6:=hL.ks
 omega
theorem RC{t x:It}{s:ByteArray}{p0:List ByteArray}{l:ByteArray}(h:UC t)(hp:cA s=p0++[l])(h1:eA t p0=some x):cA (vB s)=p0∧vB s=gD (fE p0)∧nC s=l:=by
 have ho:vB s=gD (fE p0):=by unfold vB;rw[hp,(nH _ _).1]
 refine⟨?_,ho,by unfold nC;rw[hp,(nH _ _).2]⟩
 rw[ho]
 have hs:s.size≠0:=fun h0=>by rw[sG h0] at hp;exact List.append_ne_nil_of_right_ne_nil p0 (by simp) hp.symm
 by_cases h0:p0=[]
 ·subst h0;exact sG rfl
 ·have hj:bl s=fE p0++47::bl l:=by
   have:=oC s
   rw[hp,eH h0] at this
   rw[←this,eB]
   simp
  have hl:47∉bl l:=by
   have hm:l∈(XA (bl s)).map gD:=by rw[←(fB hs).2,hp];simp
   obtain⟨y,hy,rfl⟩:=List.mem_map.1 hm
   rw[eB]
   exact EE _ _ hy
  have hsp:(XA (fE p0)).map gD=p0:=by
   have:=(fB hs).2
   rw[hp,hj,LJ _ _ hl,List.map_append] at this
   exact(List.append_inj_left' this rfl).symm
  have hz:(gD (fE p0)).size≠0:=by
   intro hz
   rw[←oA,eB] at hz
   rw[List.eq_nil_of_length_eq_zero hz] at hsp
   have hsp:[gD []]=p0:=hsp
   subst hsp
   rw[qD] at h1
   cases hk:CC t.kids (gD []) with
   |none=>rw[hk] at h1;cases h1
   |some z=>
    obtain⟨z1,z2⟩:=XE hk
    have:=h.1.rg.is.2.2.1 z z1
    rw[z2] at this
    exact YE this rfl
  rw[(fB hz).2,eB,hsp]
noncomputable def refPut (t:It) (o:OpW) (x:It):COut:=
 if o.at'.size≠0∧iA x.kids o.at'=none then .bad 5 else
 if (iA x.kids o.item.label).isSome then .bad 7 else
 match vIt 0 0 [] (JA o.path (x.setKids (CB o.at' o.item x.kids)) t) with
 | .bad c=>.bad c
 | .ok _=>.ok (JA o.path (x.setKids (CB o.at' o.item x.kids)) t)
open Classical in
noncomputable def refLab (t:It) (o:OpW) (x:It):COut:=
 if isLab o.text=false∨((iA ((eA t (cA (vB o.path))).getD It.none).kids o.text).isSome∧o.text≠nC o.path) then .bad 7 else
 .ok (lB [x.setLabel o.text] (cA o.path) t)
noncomputable def refGone (t:It) (o:OpW):It:=lB [] (cA o.path) t
noncomputable def refTo (t:It) (o:OpW):It:=(eA (refGone t o) (cA o.new)).getD It.none
noncomputable def refMoved (t:It) (o:OpW) (x:It):It:=JA o.new ((refTo t o).setKids (CB o.at' x (refTo t o).kids)) (refGone t o)
open Classical in
noncomputable def refMove (t:It) (o:OpW) (x:It):COut:=
 match eA t (cA o.new) with
 |none=>.bad 5
 |some y=>
  if OJ o.new o.path then .bad 5 else
  if o.at'.size≠0∧(iA y.kids o.at'=none∨(vB o.path=o.new∧o.at'=nC o.path)) then .bad 5 else
  if vB o.path≠o.new∧(iA y.kids (nC o.path)).isSome then .bad 7 else
  match vIt 0 0 [] (refMoved t o x) with
  | .bad c=>.bad c
  | .ok _=>.ok (refMoved t o x)
noncomputable def refC (t:It) (o:OpW):COut:=
 if o.kind<1∨9<o.kind then .bad 9 else
 match eA t (cA o.path) with
 |none=>.bad 5
 |some x=>
  if o.kind≤5 then (match textC x o with| .bad c=>.bad c| .ok y=>.ok (JA o.path y t))
  else if o.kind=6 then refPut t o x
  else if o.path.size=0 then .bad 5
  else if o.kind=7 then .ok (refGone t o)
  else if o.kind=8 then refLab t o x
  else refMove t o x
theorem beh_none_iff{l:List It}{s:ByteArray}:pA l s=none↔s.size≠0∧iA l s=none:=by
 unfold pA
 split
 ·rename_i h;exact⟨fun e=>(by cases e),fun e=>absurd h e.1⟩
 ·rename_i h
  cases iA l s with
  |none=>exact⟨fun _=>⟨h,rfl⟩,fun _=>rfl⟩
  |some j=>exact⟨fun e=>(by cases e),fun e=>(by cases e.2)⟩
theorem JQ{t x:It}{o:OpW}(h:UC t)(hx:eA t (cA o.path)=some x):refPut t o x=putC t o:=by
 unfold refPut putC
 rw[hx]
 show _=match pA x.kids o.at' with
  |none=>COut.bad 5
  |some i=>if (iA x.kids o.item.label).isSome then COut.bad 7 else
   match vIt 0 0 [] (sA (fun _=>x.setKids (x.kids.insertIdx i o.item)) (cA o.path) t) with
   | .bad c=>.bad c
   | .ok _=>.ok (sA (fun _=>x.setKids (x.kids.insertIdx i o.item)) (cA o.path) t)
 have hd:=h.1.ds
 cases hb:pA x.kids o.at' with
 |none=>rw[if_pos (beh_none_iff.1 hb)]
 |some i=>
  rw[if_neg (fun hc=>by rw[beh_none_iff.2 hc] at hb;cases hb),bH (hd.find hx).is.1 hb,pE hd hx]
theorem GQ{t y:It}{o:OpW}(h:UC t)(hy:eA t (cA o.path)=some y)(hs:o.path.size≠0):refLab t o y=labelC t o:=by
 obtain⟨p0,l,x,i,hp,h1,h2,h3,h4,har⟩:=VC hy (fB hs).1
 obtain⟨q1,q2,q3⟩:=RC h hp h1
 unfold refLab labelC
 rw[har,q1,q3,h1]
 show (if isLab o.text=false∨((iA x.kids o.text).isSome∧o.text≠l) then COut.bad 7 else .ok (lB [y.setLabel o.text] (cA o.path) t))=if isLab o.text=false∨(∃j,iA x.kids o.text=some j∧j≠i) then COut.bad 7 else .ok (sA (fun _=>x.setKid i ((x.kids[i]?.getD It.none).setLabel o.text)) (cA o.path).dropLast t)
 have hc:((iA x.kids o.text).isSome∧o.text≠l)↔∃j,iA x.kids o.text=some j∧j≠i:=by
  constructor
  ·rintro ⟨e1,e2⟩
   cases hj:iA x.kids o.text with
   |none=>rw[hj] at e1;cases e1
   |some j=>
    refine⟨j,rfl,fun e=>e2 ?_⟩
    subst e
    obtain⟨k,hk,hl⟩:=LL hj
    rw[h3] at hk
    injection hk with hk
    rw[←hl,←hk,h4]
  ·rintro ⟨j,e1,e2⟩
   refine⟨by rw[e1];rfl,fun e=>e2 ?_⟩
   rw[e,h2] at e1
   injection e1 with e1
   exact e1.symm
 rw[hp,List.dropLast_concat,h3]
 have e1:lB [y.setLabel o.text] (p0++[l]) t=sA (fun _=>x.setKid i (y.setLabel o.text)) p0 t:=by
  rw[←wD p0 t x y l i (y.setLabel o.text) h1 h2 h3]
  rw[hp] at hy
  cases p0 with
  |nil=>exact LF _ [] l t y h.1.ds hy
  |cons a r=>exact LF _ (r++[l]) a t y h.1.ds hy
 rw[e1]
 by_cases hq:isLab o.text=false∨∃j,iA x.kids o.text=some j∧j≠i
 ·rw[if_pos (hq.imp id hc.2),if_pos hq]
 ·rw[if_neg (fun k=>hq (k.imp id hc.1)),if_neg hq]
  rfl
open Classical in
theorem gP{t k:It}{o:OpW}(h:UC t)(hk9:o.kind=9)(hk:eA t (cA o.path)=some k)(hs:o.path.size≠0):refMove t o k=moveC t o:=by
 obtain⟨p0,l,x,i,hp,h1,h2,h3,h4,har⟩:=VC hk (fB hs).1
 obtain⟨q1,q2,q3⟩:=RC h hp h1
 have hd:=h.1.ds
 have hll:isLab l=true:=by rw[←h4];exact(jC p0 t x h.1.rg h1).is.2.2.1 k (List.mem_of_getElem? h3)
 unfold refMove moveC
 rw[har]
 cases hy:eA t (cA o.new) with
 |none=>rfl
 |some y=>
  show (if OJ o.new o.path then COut.bad 5 else
   if o.at'.size≠0∧(iA y.kids o.at'=none∨(vB o.path=o.new∧o.at'=nC o.path)) then .bad 5 else
   if vB o.path≠o.new∧(iA y.kids (nC o.path)).isSome then .bad 7 else
   match vIt 0 0 [] (refMoved t o k) with
   | .bad c=>.bad c
   | .ok _=>.ok (refMoved t o k))=if cA o.path<+:cA o.new then .bad 5 else
   if pA y.kids o.at'=none∨(cA o.path).dropLast=cA o.new∧o.at'=(x.kids[i]?.getD It.none).label then .bad 5 else
   if (cA o.path).dropLast≠cA o.new∧(iA y.kids (x.kids[i]?.getD It.none).label).isSome then .bad 7 else
   if 6<(cA o.new).length+xB (x.kids[i]?.getD It.none) then .bad 2 else
   match eA (dB t x i (cA o.path).dropLast) (cA o.new) with
   |none=>.bad 0
   |some z=>match pA z.kids o.at' with
    |none=>.bad 0
    |some j=>.ok (sA (fun _=>z.setKids (z.kids.insertIdx j (x.kids[i]?.getD It.none))) (cA o.new) (dB t x i (cA o.path).dropLast))
  have hkd:x.kids[i]?.getD It.none=k:=by rw[h3];rfl
  have hpq:vB o.path=o.new↔p0=cA o.new:=by
   constructor
   ·intro e;rw[←q1,e]
   ·intro e;rw[q2,e,oC]
  rw[hkd,h4,q3,hp,List.dropLast_concat]
  by_cases c1:OJ o.new o.path
  ·rw[if_pos c1,if_pos (by rw[←hp];exact(BF hs).1 c1)]
  rw[if_neg c1,if_neg (show ¬(p0++[l])<+:cA o.new from fun e=>c1 ((BF hs).2 (by rw[hp];exact e)))]
  have e2:(o.at'.size≠0∧(iA y.kids o.at'=none∨(vB o.path=o.new∧o.at'=l)))↔(pA y.kids o.at'=none∨(p0=cA o.new∧o.at'=l)):=by
   rw[beh_none_iff,hpq]
   constructor
   ·rintro ⟨a1,a2|a2⟩
    ·exact .inl ⟨a1,a2⟩
    ·exact .inr a2
   ·rintro (a1|a1)
    ·exact⟨a1.1,.inl a1.2⟩
    ·exact⟨by rw[a1.2];exact YE hll,.inr a1⟩
  by_cases c2:pA y.kids o.at'=none∨(p0=cA o.new∧o.at'=l)
  ·rw[if_pos (e2.2 c2),if_pos c2]
  rw[if_neg (show ¬(o.at'.size≠0∧(iA y.kids o.at'=none∨(vB o.path=o.new∧o.at'=l))) from fun e=>c2 (e2.1 e)),if_neg c2]
  have e3:(vB o.path≠o.new∧(iA y.kids l).isSome)↔(p0≠cA o.new∧(iA y.kids l).isSome):=by
   rw[Ne,hpq]
  by_cases c3:p0≠cA o.new∧(iA y.kids l).isSome
  ·rw[if_pos (e3.2 c3),if_pos c3]
  rw[if_neg (show ¬(vB o.path≠o.new∧(iA y.kids l).isSome) from fun e=>c3 (e3.1 e)),if_neg c3]
  have n1:¬(p0++[l])<+:cA o.new:=fun e=>c1 ((BF hs).2 (by rw[hp];exact e))
  have n2:pA y.kids o.at'≠none:=fun e=>c2 (.inl e)
  have n3:¬(p0=cA o.new∧o.at'=l):=fun e=>c2 (.inr e)
  have n4:p0≠cA o.new→l∉xA y.kids:=fun e hm=>c3 ⟨e,ix_some.2 hm⟩
  obtain⟨z,j,z1,z2,z3⟩:=pG hd h1 h3 h4 n1 hy n2 n3
  have hg:refGone t o=dB t x i p0:=by unfold refGone dB;rw[hp];exact LD l i p0 t x hd h1 h2
  have hz:refTo t o=z:=by unfold refTo;rw[hg,z1];rfl
  have hll':=RH (i:=i) h h1 h3
  have hu:refMoved t o k=sA (fun _=>z.setKids (z.kids.insertIdx j k)) (cA o.new) (dB t x i p0):=by
   unfold refMoved
   rw[hz,hg,bH (hll'.1.ds.find z1).is.1 z2,pE hll'.1.ds z1]
  have hmx:=tM hp h1 h2 h3 h4 hy n1 n2 n3 n4 z1 z2
  have hox:oneX t o=some (sA (fun _=>z.setKids (z.kids.insertIdx j k)) (cA o.new) (dB t x i p0)):=by
   unfold oneX
   rw[if_neg (by omega),if_pos hk9]
   exact hmx
  obtain⟨hrg,hlb⟩:=kU h.1.rg hox
  rw[hu,z1]
  show _=if 6<(cA o.new).length+xB k then COut.bad 2 else match pA z.kids o.at' with
   |none=>.bad 0
   |some j=>.ok (sA (fun _=>z.setKids (z.kids.insertIdx j k)) (cA o.new) (dB t x i p0))
  rw[z2]
  show _=if 6<(cA o.new).length+xB k then COut.bad 2 else .ok (sA (fun _=>z.setKids (z.kids.insertIdx j k)) (cA o.new) (dB t x i p0))
  have hat:=wF (y:=z.setKids (z.kids.insertIdx j k)) z1 rfl
  have hcx:=GR h.1.rg (by have:=h.1.is.1.2.2.1;rw[if_pos rfl] at this;exact of_decide_eq_true this) hox
  generalize hU:sA (fun _=>z.setKids (z.kids.insertIdx j k)) (cA o.new) (dB t x i p0)=U at *
  have hvx:=UL U 0 0 [] hrg (by rw[if_pos rfl,hlb];have:=h.1.is.1.2.2.1;rw[if_pos rfl] at this;exact this) (fun e=>absurd rfl e)
  have hdp:∀m,vIt 0 0 [] U=.ok m→¬6<(cA o.new).length+xB k:=fun m hm=>by
   have hl9:=law_iff.2 ⟨m,hm⟩
   have hr9:=qB _ 0 U _ hl9.1 hat
   have hk9:=(hr9.is.2.2 k (by show k∈z.kids.insertIdx j k;exact(List.mem_insertIdx z3).2 (.inl rfl))).deep
   omega
  by_cases c5:6<(cA o.new).length+xB k
  ·rw[if_pos c5]
   rcases hvx with ⟨m,hm⟩|hm
   ·exact absurd c5 (hdp m hm)
   ·rw[hm]
  ·rw[if_neg c5]
   have ho:oneC t o=moveC t o:=by
    unfold oneC
    rw[if_neg (by omega),if_neg (by omega),if_neg (by omega),if_neg (by omega),if_pos hk9]
   have hok:oneC t o=.ok U:=by
    rw[ho]
    unfold moveC
    rw[har,hy]
    simp only[hkd,h4,hp,List.dropLast_concat]
    rw[if_neg n1,if_neg c2,if_neg c3,if_neg c5,z1]
    simp only[z2]
    rw[hU]
   obtain⟨m,hm⟩:=law_iff.1 (gH h hok)
   rw[hm]
theorem IQ{t:It}{o:OpW}(h:UC t):refC t o=oneC t o:=by
 unfold refC oneC
 by_cases hk:o.kind<1∨9<o.kind
 ·rw[if_pos hk,if_neg (by omega),if_neg (by omega),if_neg (by omega),if_neg (by omega),if_neg (by omega)]
 rw[if_neg hk]
 cases hx:eA t (cA o.path) with
 |none=>
  show COut.bad 5=_
  by_cases h5:o.kind≤5
  ·rw[if_pos (by omega)]
  rw[if_neg (by omega)]
  by_cases h6:o.kind=6
  ·rw[if_pos h6];unfold putC;rw[hx]
  rw[if_neg h6]
  have har:kF t (cA o.path)=none:=by
   cases ha:kF t (cA o.path) with
   |none=>rfl
   |some xi=>
    obtain⟨x,i⟩:=xi
    obtain⟨p0,l,k,hp,h1,h2,h3,h4⟩:=yC ha
    rw[hp,ZC p0 t x l h1,MB h2 h3,eA] at hx
    cases hx
  by_cases h7:o.kind=7
  ·rw[if_pos h7];unfold SB;rw[har]
  rw[if_neg h7]
  by_cases h8:o.kind=8
  ·rw[if_pos h8];unfold labelC;rw[har]
  rw[if_neg h8,if_pos (by omega)]
  unfold moveC
  rw[har]
 |some x=>
  show (if o.kind≤5 then (match textC x o with| .bad c=>COut.bad c| .ok y=>.ok (JA o.path y t))
   else if o.kind=6 then refPut t o x
   else if o.path.size=0 then .bad 5
   else if o.kind=7 then .ok (refGone t o)
   else if o.kind=8 then refLab t o x
   else refMove t o x)=_
  by_cases h5:o.kind≤5
  ·rw[if_pos h5,if_pos (by omega)]
   show (match textC x o with| .bad c=>COut.bad c| .ok y=>.ok (JA o.path y t))=match textC x o with| .bad c=>COut.bad c| .ok y=>.ok (sA (fun _=>y) (cA o.path) t)
   cases textC x o with
   |bad c=>rfl
   |ok y=>show COut.ok _=COut.ok _;rw[pE h.1.ds hx]
  rw[if_neg h5,if_neg (show ¬(1≤o.kind∧o.kind≤5) by omega)]
  by_cases h6:o.kind=6
  ·rw[if_pos h6,if_pos h6];exact JQ h hx
  rw[if_neg h6,if_neg h6]
  by_cases h0:o.path.size=0
  ·rw[if_pos h0]
   have har:kF t (cA o.path)=none:=by unfold kF;rw[sG h0,if_pos rfl]
   by_cases h7:o.kind=7
   ·rw[if_pos h7];unfold SB;rw[har]
   rw[if_neg h7]
   by_cases h8:o.kind=8
   ·rw[if_pos h8];unfold labelC;rw[har]
   rw[if_neg h8,if_pos (by omega)]
   unfold moveC
   rw[har]
  rw[if_neg h0]
  by_cases h7:o.kind=7
  ·rw[if_pos h7,if_pos h7]
   obtain⟨p0,l,y,i,hp,h1,h2,h3,h4,har⟩:=VC hx (fB h0).1
   unfold SB refGone
   rw[har,hp,LD l i p0 t y h.1.ds h1 h2]
   show _=COut.ok (sA (fun _=>y.setKids (y.kids.eraseIdx i)) (p0++[l]).dropLast t)
   rw[List.dropLast_concat]
  rw[if_neg h7,if_neg h7]
  by_cases h8:o.kind=8
  ·rw[if_pos h8,if_pos h8];exact GQ h hx h0
  rw[if_neg h8,if_neg h8,if_pos (by omega)]
  exact gP h (by omega) hx h0
theorem WQ(p l:ByteArray)(hp:p.size≤1000000)(hl:l.size≤1000000)(w:World):Calls Tryz.prog 89 #[.string p,.string l] w fun e w'=>e=.returned (.string (GH p l))∧w'=w:=by
 have hE:=LB p
 by_cases h0:p.size=0
 ·have HR:Hid (GH p l=l):=by show _=_;unfold GH;rw[if_pos h0]
  rw[show decide (p.size=0)=true by simpa using h0] at hE
  clear h0
  go_enter Tryz.func89,Tryz.ntmps89
  go_wp2
  go_ret
  rw[HR.out]
  exact⟨rfl,rfl⟩
 ·have HR:Hid (GH p l=p++⟨#[47]⟩++l):=by show _=_;unfold GH;rw[if_neg h0];rfl
  rw[show decide (p.size=0)=false by simpa using h0] at hE
  have h1:(p++(⟨#[47]⟩:ByteArray)).size=p.size+1:=by rw[ByteArray.size_append];rfl
  have h3:(p.size:Int)+1≤9223372036854775807:=by omega
  have h4:(p.size:Int)+1+(l.size:Int)≤9223372036854775807:=by omega
  clear h0
  go_enter Tryz.func89,Tryz.ntmps89
  go_wp2
  go_ret
  rw[HR.out]
  exact⟨rfl,rfl⟩
theorem fH{P Q:List ByteArray}(h:P<+:Q):(fE P).length≤(fE Q).length:=by
 obtain⟨R,rfl⟩:=h
 by_cases hP:P=[]
 ·subst hP;exact Nat.zero_le _
 ·rw[eH hP,List.length_append];omega
theorem wJ(s:ByteArray)(i:Nat):(gD (fE ((cA s).take i))).size≤s.size:=by
 have h:=fH (List.take_prefix i (cA s))
 have e:=oC s
 rw[←oA,eB]
 have:s.size=(fE (cA s)).length:=by rw[←e,←oA,eB,e]
 omega
theorem vN{s x:ByteArray}(h:x∈cA s):x.size≤s.size:=by
 unfold cA at h
 split at h
 ·cases h
 ·obtain⟨y,hy,rfl⟩:=List.mem_map.1 h
  have:=xD _ _ hy
  rw[←oA,eB,←oA s]
  exact this
theorem XQ(s:ByteArray)(hs:s.size≤100000)(h0:s.size≠0)(hx:∀x,x∈cA s→x.size≠0)(w:World):Calls Tryz.prog 45 #[.string s] w fun e w'=>e=.returned (.tuple #[.string (vB s),.string (nC s)])∧Below w.heap.size w w':=by
 have HP:=aA (wC s hs w)
 obtain⟨ps,hps⟩:∃ps,ps=cA s:=⟨_,rfl⟩
 have HPs:=aA hps
 obtain⟨n,hn⟩:∃n,n=ps.length:=⟨_,rfl⟩
 have HN:=aA hn
 have hn0:0<n:=by
  rw[hn,hps]
  exact List.length_pos_iff.2 (fB h0).1
 have hnn:n≤100001:=by rw[hn,hps];have:=jB s;omega
 rw[←hps] at HP hx
 rw[←hn] at HP
 have HX:=aA hx
 have HJ:Hid (∀i x,ps[i]?=some x→∀W,Calls Tryz.prog 89 #[.string (gD (fE (ps.take i))),.string x] W fun e w'=>e=.returned (.string (gD (fE (ps.take (i+1)))))∧w'=W):=fun i x hi W=>by
  have hm:=List.mem_of_getElem? hi
  have h1:=wJ s i
  have h2:=vN (HPs.out▸hm)
  rw[←HPs.out] at h1
  refine(WQ _ x (by omega) (by omega) W).mono ?_
  rintro e w' ⟨rfl,rfl⟩
  refine⟨?_,rfl⟩
  rw[kQ ?_ x,List.take_add_one,hi]
  ·rfl
  ·intro e
   have:gD []∈ps.take i:=by rw[e];simp
   exact HX.out _ (List.mem_of_mem_take this) rfl
 have HO:Hid (gD (fE (ps.take (n - 1)))=vB s∧ps[n - 1]?=some (nC s)):=by
  have e:=GM (p:=ps) (by rw[HPs.out];exact(fB h0).1)
  have hl:(PN ps).length=n - 1:=by unfold PN;rw[List.length_dropLast,←HN.out]
  refine⟨?_,?_⟩
  ·unfold vB
   rw[←HPs.out]
   rw[show ps.take (n - 1)=PN ps from ?_]
   unfold PN
   rw[List.dropLast_eq_take,←HN.out]
  ·unfold nC
   rw[←HPs.out]
   conv=>lhs;rw[e]
   rw[List.getElem?_append_right (by omega),hl,Nat.sub_self]
   rfl
 clear hps hn hx hs h0
 generalize vB s=ou at *
 generalize nC s=la at *
 go_enter Tryz.func45,Tryz.ntmps45
 go_wp2_with fail
 refine HP.out.mono ?_
 rintro e w1 ⟨⟨v,rfl,hrow⟩,hb1⟩
 obtain⟨va,vc,rfl⟩:=tA hrow
 have hrw:∀W,Below w1.heap.size w1 W→∀i x,ps[i]?=some x→∃g,va=some ⟨g,0,none⟩∧W.cell? ⟨g,i,none⟩=some (.string x):=fun W hW i x hi=>by
  rw[HN.out] at hrow
  obtain⟨g,e,_,hg,hc⟩:=LC hrow hi
  exact⟨g,e,(hW.cell (p:=⟨g,i,none⟩) hg).trans hc⟩
 have HR:=aA hrw
 have HB1:=aA hb1
 clear hrow hb1 hrw HP
 go_wp2_with fail
 go_loopw [5,6] (fun o t wr=>∃j:Nat,j≤n - 1∧t=.int .i64 j∧o=.string (gD (fE (ps.take j)))∧wr=w1) (fun _ t _=>(n - RowKit.intOf t).toNat)
 case atStart=>exact⟨0,by omega,rfl,rfl,rfl⟩
 case round=>
  obtain⟨j,hj,rfl,rfl,rfl⟩:=hrel
  by_cases hjn:j+1<n
  ·have hjz:(j:Int)+1<n:=by omega
   obtain⟨x,hxj⟩:∃x,ps[j]?=some x:=⟨_,List.getElem?_eq_getElem (by have:=HN.out;omega)⟩
   obtain⟨g,rfl,hc⟩:=HR.out _ (Below.refl _ _) j x hxj
   have HJx:=aA (HJ.out j x hxj)
   clear hxj
   generalize hs1:gD (fE (ps.take j))=s1 at *
   generalize hs2:gD (fE (ps.take (j+1)))=s2 at *
   have HS2:=aA hs2
   clear hs1 hs2
   go_wp2_with fail
   refine(HJx.out _).mono ?_
   rintro e w2 ⟨rfl,h9⟩
   subst w2
   go_wp2
   go_roundw
   case rel=>exact⟨j+1,by omega,by go_num,by rw[HS2.out],(by trivial)⟩
   case measure=>simp[RowKit.intOf];omega
  ·have hjz:¬(j:Int)+1<n:=by omega
   have hje:j=n - 1:=by omega
   have hn1:¬(n:Int)=0:=by omega
   obtain⟨g,rfl,hc⟩:=HR.out _ (Below.refl _ _) _ _ HO.out.2
   have hO:=HO.out.1
   rw[←hje] at hO hc
   rw[hO]
   have hm:(n:Int) - 1=(j:Int):=by omega
   clear hje hO HO HJ
   go_wp2_with fail
   go_region
   all_goals go_wp2
   all_goals go_ret2
   all_goals exact⟨rfl,HB1.out.drew⟩
theorem TR{a b:ByteArray}(h:b.size<a.size):(∃r,bl a=bl b++r∧(r=[]∨r.head?=some 47))↔(a.extract 0 b.size=b∧a[b.size]=47):=by
 constructor
 ·rintro ⟨r,h1,h2⟩
  have hl:(bl b++r).length=a.size:=by rw[←h1,oA]
  rw[List.length_append,oA] at hl
  have h3:r.head?=some 47:=h2.resolve_left fun e=>by rw[e] at hl;simp at hl;omega
  refine⟨VD ?_,?_⟩
  ·rw[cH,h1,←oA,List.take_left']
   rfl
  ·have:=WC a b.size h
   rw[h1,List.getElem?_append_right (by rw[oA];omega),oA,Nat.sub_self] at this
   rw[←List.head?_eq_getElem?,h3] at this
   injection this with this
   exact this.symm
 ·rintro ⟨h1,h2⟩
  refine⟨(bl a).drop b.size,?_,.inr ?_⟩
  ·conv=>rhs;rw[←h1]
   rw[cH,h1]
   exact(List.take_append_drop _ _).symm
  ·rw[List.head?_drop,WC a b.size h,h2]
def wV(a b:ByteArray)(e:Ending):Prop:=∃r,e=.returned (.bool r)∧(r=true↔OJ a b)
theorem PP(a b:ByteArray)(ha:a.size≤1000000)(hb:b.size≤1000000)(w:World):Calls Tryz.prog 90 #[.string a,.string b] w fun e w'=>wV a b e∧w'=w:=by
 have HI:=aA (fun h=>TR (a:=a) (b:=b) h)
 have HA:=aA ha
 have HB:=aA hb
 by_cases h0:b.size=0
 ·have HT:Hid (OJ a b):=.inl h0
  have hz:(b.size:Int)=0:=by omega
  have hzb:((b.size:Int)==0)=true:=by simpa using hz
  clear h0
  go_enter Tryz.func90,Tryz.ntmps90
  go_wp2
  go_ret
  exact⟨⟨true,rfl,⟨fun _=>HT.out,fun _=>rfl⟩⟩,rfl⟩
 have hz:¬(b.size:Int)=0:=by omega
 have hzb:((b.size:Int)==0)=false:=by simpa using h0
 by_cases he:a=b
 ·have HT:Hid (OJ a b):=.inr ⟨[],by rw[he];simp,.inl rfl⟩
  have heq:(a.toList==b.toList)=true:=same_bytes.2 he
  clear he h0
  go_enter Tryz.func90,Tryz.ntmps90
  go_wp2
  go_ret
  exact⟨⟨true,rfl,⟨fun _=>HT.out,fun _=>rfl⟩⟩,rfl⟩
 have heq:(a.toList==b.toList)=false:=by
  cases h:a.toList==b.toList with
  |false=>rfl
  |true=>exact absurd (same_bytes.1 h) he
 by_cases hl:b.size<a.size
 ·have hlz:(b.size:Int)<a.size:=by omega
  have HT:Hid (OJ a b↔(a.extract 0 b.size=b∧a[b.size]=47)):=by
   show _↔_
   unfold OJ
   rw[←HI.out hl]
   exact⟨fun h=>h.resolve_left h0,fun h=>.inr h⟩
  clear HI h0 he
  by_cases h1:a.extract 0 b.size=b
  ·have h1q:((a.extract 0 b.size).toList==b.toList)=true:=same_bytes.2 h1
   by_cases h2:a[b.size]=47
   ·have h2q:(a[b.size].toNat:Int)=47:=by rw[h2];rfl
    have HF:Hid (OJ a b):=HT.out.2 ⟨h1,h2⟩
    clear HT h1 h2
    go_enter Tryz.func90,Tryz.ntmps90
    go_wp2
    go_ret
    exact⟨⟨true,rfl,⟨fun _=>HF.out,fun _=>rfl⟩⟩,rfl⟩
   ·have h2q:¬(a[b.size].toNat:Int)=47:=fun h=>h2 (UInt8.toNat_inj.1 (by show a[b.size].toNat=47;omega))
    have h2b:((a[b.size].toNat:Int)==47)=false:=by simpa using h2q
    have HF:Hid (¬OJ a b):=fun h=>h2 (HT.out.1 h).2
    clear HT h1 h2
    go_enter Tryz.func90,Tryz.ntmps90
    go_wp2
    go_ret
    exact⟨⟨false,rfl,⟨fun h=>(by cases h),fun h=>absurd h HF.out⟩⟩,rfl⟩
  ·have h1q:((a.extract 0 b.size).toList==b.toList)=false:=by
    cases h:(a.extract 0 b.size).toList==b.toList with
    |false=>rfl
    |true=>exact absurd (same_bytes.1 h) h1
   have HF:Hid (¬OJ a b):=fun h=>h1 (HT.out.1 h).1
   clear HT h1
   go_enter Tryz.func90,Tryz.ntmps90
   go_wp2
   go_ret
   exact⟨⟨false,rfl,⟨fun h=>(by cases h),fun h=>absurd h HF.out⟩⟩,rfl⟩
 ·have hlz:¬(b.size:Int)<a.size:=by omega
  have HF:Hid (¬OJ a b):=fun h=>by
   rcases h with h|⟨r,h1,h2⟩
   ·exact h0 h
   ·have hl2:=congrArg List.length h1
    rw[oA,List.length_append,oA] at hl2
    have:r=[]:=List.eq_nil_of_length_eq_zero (by omega)
    rw[this,List.append_nil] at h1
    exact he (VD h1)
  clear HI he h0 hl
  go_enter Tryz.func90,Tryz.ntmps90
  go_wp2
  go_ret
  exact⟨⟨false,rfl,⟨fun h=>(by cases h),fun h=>absurd h HF.out⟩⟩,rfl⟩
end Go.Proofs.YtpbolcjcmkmalaaGreatDoor
namespace Go.Proofs.YtpbolcjcmkmalaaGreatDoor
open Go.RowKit
def MA(pre mid suf:List Value)(d:List Deferred):Act:=⟨(pre++mid++suf).toArray,d⟩
theorem MA.lo{pre mid suf:List Value}{d:List Deferred}{j:Nat}{v:Value}(h:pre[j]?=some v):(MA pre mid suf d).eval (.tmp j)=v:=by
 obtain⟨hj,h⟩:=List.getElem?_eq_some_iff.1 h
 show (pre++mid++suf).toArray.getD j undef=v
 simp only[Array.getD_eq_getD_getElem?,List.getElem?_toArray]
 rw[List.append_assoc,List.getElem?_append_left hj,List.getElem?_eq_getElem hj,h]
 rfl
theorem MA.get{pre mid suf:List Value}{d:List Deferred}{k j:Nat}{v:Value}(hk:pre.length=k)(hj:k≤j)(h:mid[j - k]?=some v):(MA pre mid suf d).tmps[j]?=some v:=by
 obtain⟨hl,h'⟩:=List.getElem?_eq_some_iff.1 h
 show (pre++mid++suf).toArray[j]?=some v
 rw[List.getElem?_toArray,List.append_assoc,List.getElem?_append_right (by omega),hk,List.getElem?_append_left hl,h]
theorem MA.hi{pre mid suf:List Value}{d:List Deferred}{k j:Nat}{v:Value}(hk:pre.length=k)(hj:k≤j)(h:mid[j - k]?=some v):(MA pre mid suf d).eval (.tmp j)=v:=by
 have:=MA.get (suf:=suf) (d:=d) hk hj h
 show (MA pre mid suf d).tmps.getD j undef=v
 rw[Array.getD_eq_getD_getElem?,this]
 rfl
theorem MA.put{pre mid suf:List Value}{d:List Deferred}{k j:Nat}{v:Value}(hk:pre.length=k)(hj:k≤j)(hm:j - k<mid.length):(MA pre mid suf d).put (some j) v=MA pre (mid.set (j - k) v) suf d:=by
 show Act.mk ((pre++mid++suf).toArray.setIfInBounds j v) d=_
 unfold MA
 rw[List.setIfInBounds_toArray,List.append_assoc,List.set_append_right _ _ (by omega),List.set_append_left _ _ (by omega),hk,List.append_assoc]
theorem MA.put_lo{pre mid suf:List Value}{d:List Deferred}{j:Nat}{v:Value}(hj:j<pre.length):(MA pre mid suf d).put (some j) v=MA (pre.set j v) mid suf d:=by
 show Act.mk ((pre++mid++suf).toArray.setIfInBounds j v) d=_
 unfold MA
 rw[List.setIfInBounds_toArray,List.append_assoc,List.set_append_left _ _ (by omega),List.append_assoc]
theorem MA.of(A:Act)(k m:Nat):A=MA (A.tmps.toList.take k) ((A.tmps.toList.drop k).take m) (A.tmps.toList.drop (k+m)) A.defers:=by
 obtain⟨⟨l⟩,d⟩:=A
 unfold MA
 simp only[Act.mk.injEq,and_true]
 rw[List.append_assoc,show List.drop (k+m) l=((l.drop k).drop m) by rw[List.drop_drop],List.take_append_drop,List.take_append_drop]
theorem zA{o:Oper}{f:Nat→Option Bool}(h:o.guard=none):Region.wanted o f=true:=by simp[Region.wanted,h]
theorem VA{ops:Array Oper}{o:Oper}{pre mid suf:List Value}{d:List Deferred}{n k j:Nat}{b c r:Bool}(hg:o.guard=some (n,b))(hd:(ops[n]?).bind (·.dst)=some j)(hk:pre.length=k)(hj:k≤j)(hm:mid[j - k]?=some (.bool c))(hr:(c==b)=r):Region.wanted o (yielded ops (MA pre mid suf d).tmps)=r:=by
 have:=MA.get (suf:=suf) (d:=d) hk hj hm
 simp only[Region.wanted,hg,yielded,hd,Option.bind_some,this]
 cases c<;>cases b<;>first|exact hr|(rw[←hr];rfl)
theorem pL{ops:Array Oper}{o:Oper}{pre mid suf:List Value}{d:List Deferred}{n k j:Nat}{b:Bool}(hg:o.guard=some (n,b))(hd:(ops[n]?).bind (·.dst)=some j)(hk:pre.length=k)(hj:k≤j)(hm:mid[j - k]?=some undef):Region.wanted o (yielded ops (MA pre mid suf d).tmps)=false:=by
 have:=MA.get (suf:=suf) (d:=d) hk hj hm
 simp only[Region.wanted,hg,yielded,hd,Option.bind_some,this]
 rfl
section
variable {P:Program} {ops:Array Oper} {C:World→Prop} {Q:Act→Prop} {o:Oper} {rest:List Oper} {pre mid suf:List Value} {d:List Deferred} {k j:Nat}
theorem kA(v:Value)(hk:pre.length=k)(hd:o.dst=some j)(hj:k≤j)(hm:j - k<mid.length)(hw:Region.wanted o (yielded ops (MA pre mid suf d).tmps)=true)(h:∀w,C w→(execOp (MA pre mid suf d).eval o).run P w=.ok (.value v) w)(hn:wpQuiet P ops C Q rest (MA pre (mid.set (j - k) v) suf d)):wpQuiet P ops C Q (o::rest) (MA pre mid suf d):=by
 refine ZI v hw h ?_
 rw[hd,MA.put hk hj hm]
 exact hn
theorem BE(f:FuncId)(args:Array Value)(v:Value)(hk:pre.length=k)(hd:o.dst=some j)(hj:k≤j)(hm:j - k<mid.length)(hw:Region.wanted o (yielded ops (MA pre mid suf d).tmps)=true)(h:∀w,C w→(execOp (MA pre mid suf d).eval o).run P w=.ok (.enter f args) w)(hc:∀w,C w→Calls P f args w fun e w'=>e=.returned v∧C w')(hn:wpQuiet P ops C Q rest (MA pre (mid.set (j - k) v) suf d)):wpQuiet P ops C Q (o::rest) (MA pre mid suf d):=by
 refine TL f args v hw h hc ?_
 rw[hd,MA.put hk hj hm]
 exact hn
theorem iT(v:Value)(hd:o.dst=some j)(hj:j<pre.length)(hw:Region.wanted o (yielded ops (MA pre mid suf d).tmps)=true)(h:∀w,C w→(execOp (MA pre mid suf d).eval o).run P w=.ok (.value v) w)(hn:wpQuiet P ops C Q rest (MA (pre.set j v) mid suf d)):wpQuiet P ops C Q (o::rest) (MA pre mid suf d):=by
 refine ZI v hw h ?_
 rw[hd,MA.put_lo hj]
 exact hn
theorem uB(hk:pre.length=k)(hd:o.dst=some j)(hj:k≤j)(hm:j - k<mid.length)(hw:Region.wanted o (yielded ops (MA pre mid suf d).tmps)=false)(hn:wpQuiet P ops C Q rest (MA pre (mid.set (j - k) undef) suf d)):wpQuiet P ops C Q (o::rest) (MA pre mid suf d):=by
 refine zN hw ?_
 rw[hd,MA.put hk hj hm]
 exact hn
end
theorem aD{P:Program}{ops:Array Oper}{C:World→Prop}{Q:Act→Prop}{l:List Oper}{A:Act}(k m:Nat)(h:wpQuiet P ops C Q l (MA (A.tmps.toList.take k) ((A.tmps.toList.drop k).take m) (A.tmps.toList.drop (k+m)) A.defers)):wpQuiet P ops C Q l A:=by
 rw[MA.of A k m];exact h
section
variable {P:Program} {ρ:Operand→Value} {dst:Option Tmp} {ty:TypeId} {ps:String} {af:Array Go.Edge} {g:Option (Nat×Bool)} {w:World} {x y z:Operand}
theorem aB{v:Value}(h:ρ x=v):(execOp ρ ⟨dst,.move x,ty,ps,af,g⟩).run P w=.ok (.value v) w:=by
 simp only[execOp,h];rfl
theorem SP{v:Value}(h:ρ x=v):(execOp ρ ⟨dst,.assign x,ty,ps,af,g⟩).run P w=.ok (.value v) w:=by
 simp only[execOp,h];rfl
theorem jF{c:Bool}{u v r:Value}(hc:ρ x=.bool c)(hu:ρ y=u)(hv:ρ z=v)(hr:(if c then u else v)=r):(execOp ρ ⟨dst,.pick x y z,ty,ps,af,g⟩).run P w=.ok (.value r) w:=by
 simp only[execOp,hc,hu,hv,asBool]
 rw[←hr]
 cases c<;>rfl
theorem QD{q:Addr}(h:ρ x=.pointer (some q)):(execOp ρ ⟨dst,.nilCheck x,ty,ps,af,g⟩).run P w=.ok (.value (.pointer (some q))) w:=by
 simp only[execOp,h];rfl
end
end Go.Proofs.YtpbolcjcmkmalaaGreatDoor
namespace Go.Proofs.YtpbolcjcmkmalaaGreatDoor
open Go.RowKit Go.Extern.Stop Go.Stop Go.Extern
def SD:List ByteArray→List ByteArray→Bool
 | [],[]=>true
 |x::l,y::m=>(x.toList==y.toList)&&SD l m
 | [],_::_=>false
 |_::_,[]=>false
theorem cK:∀(l m:List ByteArray),l.length≠m.length→SD l m=false
 | [],[],h=>absurd rfl h
 | [],_::_,_=>rfl
 |_::_,[],_=>rfl
 |x::l,y::m,h=>by
  rw[SD,cK l m (fun e=>h (by simp[e]))]
  simp
theorem oG{x y:ByteArray}(h:x.toList=y.toList):x=y:=by
 rw[Lib.toList_data,Lib.toList_data,Array.toList_inj] at h
 exact ByteArray.ext h
theorem bK:∀(l m:List ByteArray),SD l m=true↔l=m
 | [],[]=>by simp[SD]
 | [],_::_=>by simp[SD]
 |_::_,[]=>by simp[SD]
 |x::l,y::m=>by
  rw[SD,Bool.and_eq_true,bK l m,List.cons.injEq,beq_iff_eq]
  exact⟨fun h=>⟨oG h.1,h.2⟩,fun h=>⟨by rw[h.1],h.2⟩⟩
theorem aN{l m:List ByteArray}{i:Nat}{x y:ByteArray}(hx:l[i]?=some x)(hy:m[i]?=some y):SD (l.drop i) (m.drop i)=((x.toList==y.toList)&&SD (l.drop (i+1)) (m.drop (i+1))):=by
 obtain⟨h1,e1⟩:=List.getElem?_eq_some_iff.1 hx
 obtain⟨h2,e2⟩:=List.getElem?_eq_some_iff.1 hy
 rw[List.drop_eq_getElem_cons h1,List.drop_eq_getElem_cons h2,e1,e2,SD]
theorem QK{a b:Bool}(h:a=b):Ending.returned (.bool a)=.returned (.bool b):=by rw[h]
theorem nO{l r:List ByteArray}{w:World}{ka kb:Option Addr}{kc kd:Nat}(ht:StrsAt w ka l)(hu:StrsAt w kb r)(hl:l.length≤100000)(hl2:r.length≤100000):
 Calls Tryz.prog 117 #[.slice ka l.length kc,.slice kb r.length kd] w fun e w'=>e=.returned (.bool (SD l r))∧Below w.heap.size w w':=by
 obtain⟨n,hn⟩:∃n,n=l.length:=⟨_,rfl⟩
 obtain⟨m,hm⟩:∃m,m=r.length:=⟨_,rfl⟩
 rw[←hn] at hl ⊢
 rw[←hm] at hl2 ⊢
 have HT:=aA ht
 have HU:=aA hu
 obtain⟨R,hR⟩:∃R,R=SD l r:=⟨_,rfl⟩
 rw[←hR]
 by_cases hnm:n=m
 ·subst hnm
  have HN:=aA (aI hn hm)
  have HR:=aA hR
  clear hn hm hR ht hu
  go_enter Tryz.func117,Tryz.ntmps117
  go_wp2_with fail
  go_loopw [13] (fun i wr=>∃j:Nat,j≤n∧i=.int .i64 j∧R=SD (l.drop j) (r.drop j)∧Below w.heap.size w wr) (fun i _=>n - (RowKit.intOf i).toNat)
  case atStart=>exact⟨0,by omega,rfl,HR.out,Below.refl _ _⟩
  case round=>
   obtain⟨j,hj,rfl,hno,hb⟩:=hrel
   have HB:=aA hb
   have HD:=aA hno
   clear hno hb
   by_cases hlt:j<n
   ·have hjz:(j:Int)<n:=by omega
    obtain⟨x,hx⟩:∃x,l[j]?=some x:=⟨_,List.getElem?_eq_getElem (by have:=HN.out.1;omega)⟩
    obtain⟨y,hy⟩:∃y,r[j]?=some y:=⟨_,List.getElem?_eq_getElem (by have:=HN.out.2;omega)⟩
    obtain⟨b,o,rfl,x0⟩:=(HT.out.on HB.out) j x hx
    obtain⟨b2,o2,rfl,y0⟩:=(HU.out.on HB.out) j y hy
    have HE:=aA (aN hx hy)
    clear hx hy
    cases hf:(x.toList==y.toList)
    ·rw[hf] at HE
     go_upto_region 6 with fail
     go_quiet (fail)
     go_wp2
     go_ret
     exact⟨QK (by rw[HD.out,HE.out];rfl),FA HB.out _⟩
    ·rw[hf] at HE
     have hf':x=y:=oG (by simpa using hf)
     subst hf'
     clear hf
     go_upto_region 6 with fail
     go_quiet (fail)
     go_wp2
     go_roundw
     case rel=>exact⟨j+1,by omega,by go_num,by rw[HD.out,HE.out];rfl,FA HB.out _⟩
     case measure=>simp[RowKit.intOf];omega
   ·have hjz:¬(j:Int)<n:=by omega
    obtain rfl:j=n:=by omega
    go_wp2
    go_ret
    refine⟨QK ?_,HB.out⟩
    rw[HD.out,List.drop_eq_nil_of_le (by have:=HN.out.1;omega),List.drop_eq_nil_of_le (by have:=HN.out.2;omega),SD]
 ·have HR:Hid (R=false):=by show _=_;rw[hR];exact cK _ _ (by omega)
  have hne:¬(n:Int)=m:=by omega
  clear hn hm hR ht hu HT HU
  go_enter Tryz.func117,Tryz.ntmps117
  go_wp2
  go_ret
  exact⟨QK HR.out.symm,Below.refl _ _⟩
def SI(ps qs:List ByteArray):Bool:=decide (qs.length≤ps.length)&&SD (ps.take qs.length) qs
theorem nN(ps qs:List ByteArray):SI ps qs=true↔qs<+:ps:=by
 unfold SI
 rw[Bool.and_eq_true,bK,decide_eq_true_eq]
 exact⟨fun h=>List.prefix_iff_eq_take.2 h.2.symm,fun h=>⟨h.length_le,(List.prefix_iff_eq_take.1 h).symm⟩⟩
theorem ZR{ps qs:List ByteArray}{w:World}{pa qa:Option Addr}{pc qc:Nat}(hp:StrsAt w pa ps)(hq:StrsAt w qa qs)(hl2:qs.length≤100000)(hpc:ps.length≤pc):
 Calls Tryz.prog 81 #[.slice pa ps.length pc,.slice qa qs.length qc] w fun e w'=>e=.returned (.bool (SI ps qs))∧Below w.heap.size w w':=by
 have HR:Hid (SI ps qs=(decide (qs.length≤ps.length)&&SD (ps.take qs.length) qs)):=rfl
 generalize SI ps qs=R at *
 by_cases hle:qs.length≤ps.length
 ·have hpt:StrsAt w pa (ps.take qs.length):=fun i s hs=>hp i s (by
   rw[List.getElem?_take] at hs
   split at hs
   ·exact hs
   ·cases hs)
  have HE:=aA (nO (kc:=pc) (kd:=qc) hpt hq (by rw[List.length_take];omega) hl2)
  rw[show (ps.take qs.length).length=qs.length by rw[List.length_take];omega] at HE
  rw[show decide (qs.length≤ps.length)=true by simpa using hle,Bool.true_and] at HR
  have hz:(qs.length:Int)≤ps.length:=by omega
  have hz2:¬(ps.length:Int)<qs.length:=by omega
  clear hp hq hpt
  generalize SD (ps.take qs.length) qs=R2 at *
  generalize ps.length=n at *
  generalize qs.length=m at *
  go_enter Tryz.func81,Tryz.ntmps81
  go_wp2_with fail
  refine HE.out.mono ?_
  rintro e w1 ⟨rfl,hb1⟩
  have H1:=aA hb1
  clear hb1
  go_wp2
  go_ret
  exact⟨QK HR.out.symm,H1.out⟩
 ·rw[show decide (qs.length≤ps.length)=false by simpa using hle,Bool.false_and] at HR
  have hz:¬(qs.length:Int)≤ps.length:=by omega
  have hz2:(ps.length:Int)<qs.length:=by omega
  clear hp hq
  generalize ps.length=n at *
  generalize qs.length=m at *
  go_enter Tryz.func81,Tryz.ntmps81
  go_wp2
  go_ret
  exact⟨QK HR.out.symm,Below.refl _ _⟩
theorem XR{s s':ByteArray}{x:It}(h:zE s x=true)(h':zE s' x=true):s=s':=by
 unfold zE at h h'
 rw[beq_iff_eq] at h h'
 have e:=h.symm.trans h'
 rw[Lib.toList_data,Lib.toList_data,Array.toList_inj] at e
 exact ByteArray.ext e
theorem tG{w:World}{B:Nat}:∀(p:List ByteArray) (b o:Nat) (t:It) (S:Nat→Prop) (v:Nat→Value) (x:It) (b' o':Nat),ItAt w B b o t S v→eA t p=some x→p≠[]→YG w b o (ixs t p)=some (b',o')→S b'
 | [],b,o,t,S,v,x,b',o',h,hf,hp,hpl=>absurd rfl hp
 |s::r,b,o,t,S,v,x,b',o',h,hf,hp,hpl=>by
  obtain⟨i,k,hi,hk,hf⟩:=IA hf
  obtain⟨g,cap,K,T,e,ho,hat⟩:=h.kid hk
  rw[eE hi hk,JF (h.cell (c:=3) (by omega)) (by rw[e];rfl)] at hpl
  by_cases hr:r=[]
  ·subst hr
   rw[ixs,YG] at hpl
   injection hpl with hpl
   injection hpl with h1 _
   exact h1▸ho.sk g (by rw[e];rfl)
  ·exact(ho.hT i b' (List.getElem?_eq_some_iff.1 hk).1 (tG r g (i * 4) k (T i) (K i) x b' o' hat hf hr hpl)).1
theorem xM{w:World}{B:Nat}:∀(p q:List ByteArray) (b o:Nat) (t:It) (S:Nat→Prop) (v:Nat→Value) (x y:It) (b' o':Nat),ItAt w B b o t S v→eA t p=some x→eA t q=some y→YG w b o (ixs t p)=some (b',o')→YG w b o (ixs t q)=some (b',o')→p=q
 | [],[],_,_,_,_,_,_,_,_,_,_,_,_,_,_=>rfl
 | [],s::r,b,o,t,S,v,x,y,b',o',h,hf,hg,hp,hq=>by
   rw[ixs,YG] at hp
   injection hp with hp
   injection hp with h1 _
   exact absurd (tG (s::r) b o t S v y b' o' h hg (by simp) hq) (h1▸h.out)
 |s::r,[],b,o,t,S,v,x,y,b',o',h,hf,hg,hp,hq=>by
  rw[ixs,YG] at hq
  injection hq with hq
  injection hq with h1 _
  exact absurd (tG (s::r) b o t S v x b' o' h hf (by simp) hp) (h1▸h.out)
 |s::r,s'::r',b,o,t,S,v,x,y,b',o',h,hf,hg,hp,hq=>by
  obtain⟨i,k,hi,hk,hf⟩:=IA hf
  obtain⟨j,k',hj,hk',hg⟩:=IA hg
  obtain⟨g,cap,K,T,e,ho,hat⟩:=h.kid hk
  have hjl:=(List.getElem?_eq_some_iff.1 hk').1
  have hil:=(List.getElem?_eq_some_iff.1 hk).1
  have hat':ItAt w B g (j * 4) k' (T j) (K j):=by
   obtain⟨g2,cap2,K2,T2,e2,ho2,hat2⟩:=h.kid hk'
   obtain⟨cur,ty,eb,_⟩:=hat.here
   refine⟨?_,ho.hr j k' hk',fun hT=>(ho.hT j g hjl hT).2.2 (by rw[e];rfl)⟩
   rcases ho.kd.2 with ⟨e1,h0⟩|⟨g',cap',cur',e1,hb',hgg,h1,h2,h3,h4⟩
   ·omega
   ·rw[e] at e1
    injection e1 with e1 _ _
    injection e1 with e1
    injection e1 with e1 _ _
    subst e1
    refine⟨cur',_,hgg,fun c hc=>?_⟩
    have h5:=bB K t.kids.length j c hjl hc
    rw[←h4,List.getElem?_take] at h5
    split at h5
    ·simpa using h5
    ·cases h5
  rw[eE hi hk,JF (h.cell (c:=3) (by omega)) (by rw[e];rfl)] at hp
  rw[eE hj hk',JF (h.cell (c:=3) (by omega)) (by rw[e];rfl)] at hq
  by_cases hij:i=j
  ·subst hij
   rw[hk] at hk'
   injection hk' with hk'
   subst hk'
   obtain⟨x1,e1,l1,_⟩:=SA hi
   obtain⟨x2,e2,l2,_⟩:=SA hj
   rw[e1] at e2
   injection e2 with e2
   subst e2
   rw[XR l1 l2,xM r r' g (i * 4) k (T i) (K i) x y b' o' hat hf hg hp hq]
  ·exfalso
   by_cases hr:r=[]
   ·subst hr
    rw[ixs,YG] at hp
    injection hp with hp
    injection hp with h1 h2
    by_cases hr':r'=[]
    ·subst hr'
     rw[ixs,YG] at hq
     injection hq with hq
     injection hq with _ h4
     omega
    ·have h5:=tG r' g (j * 4) k' (T j) (K j) y b' o' hat' hg hr' hq
     exact(ho.hT j b' hjl h5).2.2 (by rw[e,←h1];rfl)
   ·have h5:=tG r g (i * 4) k (T i) (K i) x b' o' hat hf hr hp
    by_cases hr':r'=[]
    ·subst hr'
     rw[ixs,YG] at hq
     injection hq with hq
     injection hq with h3 _
     exact(ho.hT i b' hil h5).2.2 (by rw[e,←h3];rfl)
    ·have h6:=tG r' g (j * 4) k' (T j) (K j) y b' o' hat' hg hr' hq
     exact hij (ho.hd i j b' hil hjl h5 h6)
theorem Foc.same{w:World}{B b o:Nat}{t:It}{S:Nat→Prop}{v:Nat→Value}(h:ItAt w B b o t S v){p q:List ByteArray}{b1 o1 b2 o2:Nat}{x y:It}{S1 S2:Nat→Prop}{v1 v2:Nat→Value}(h1:Foc w B b o t S p b1 o1 x S1 v1)(h2:Foc w B b o t S q b2 o2 y S2 v2):(b1=b2∧o1=o2)↔p=q:=by
 constructor
 ·rintro ⟨rfl,rfl⟩
  exact xM p q b o t S v x y b1 o1 h h1.fnd h2.fnd h1.pl h2.pl
 ·rintro rfl
  have e:=h1.pl.symm.trans h2.pl
  injection e with e
  injection e with e1 e2
  exact⟨e1,e2⟩
structure StrsN(n:Nat)(w:World)(a:Option Addr)(ps:List ByteArray):Prop where
 at':StrsAt w a ps
 new:∀g o,a=some ⟨g,o,none⟩→n≤g
theorem StrsN.on{n:Nat}{w w':World}{a:Option Addr}{ps:List ByteArray}(h:StrsN n w a ps)(hb:Below w.heap.size w w'):StrsN n w' a ps:=⟨h.at'.on hb,h.new⟩
theorem StrsN.upd{n b o:Nat}{w w':World}{a:Option Addr}{ps:List ByteArray}{S:Nat→Prop}(h:StrsN n w a ps)(hu:Upd w w' b o S)(hb:b<n)(hS:∀q,S q→q<n):StrsN n w' a ps:=by
 refine⟨fun i s hs=>?_,h.new⟩
 obtain⟨g,o',e,hc⟩:=h.at' i s hs
 have hg:=h.new g o' e
 exact⟨g,o',e,(World.cell?_of_block (a:=⟨g,o'+i,none⟩) (hu.block g (dA hc) (fun e=>by have:=hS g e;omega) (by omega))).trans hc⟩
theorem OH(s:ByteArray)(hs:s.size≤1000000)(m:Int)(n:Nat)(w:World)(hnw:n≤w.heap.size)(hm:w.cell? ⟨12,0,none⟩=some (.int .i64 m)):
 Calls Tryz.prog 30 #[.string s] w fun e w'=>(∃a c,e=.returned (.slice a (cA s).length c)∧StrsN n w' a (cA s)∧(cA s).length≤c)∧Below w.heap.size w w':=by
 have hE:s.toList.isEmpty=decide (s.size=0):=dD
 by_cases h0:s.size=0
 ·have HR:Hid (cA s=[]):=by show _=_;unfold cA;rw[if_pos h0]
  rw[show decide (s.size=0)=true by simpa using h0] at hE
  clear h0
  go_enter Tryz.func30,Tryz.ntmps30
  go_wp2
  go_ret
  rw[HR.out]
  exact⟨⟨none,0,rfl,⟨(fun i s h=>by cases h),(fun g o h=>by cases h)⟩,nR _⟩,Below.refl _ _⟩
 ·rw[show decide (s.size=0)=false by simpa using h0] at hE
  have h2:=Go.Proofs.Tryz.strings_Split s ⟨#[47]⟩ m w (by omega) hm (by decide)
  have hl:=Lib.splitB_all ⟨#[47]⟩ (by decide) 0 _ s rfl
  rw[←hl,TF s h0] at h2
  have HSp:=aA h2
  have HA:=aA (dI w (cA s) 9)
  clear h2 hl hm h0
  generalize cA s=ps at *
  go_enter Tryz.func30,Tryz.ntmps30
  go_wp2_with fail
  refine HSp.out.mono ?_
  rintro e w1 ⟨rfl,ew⟩
  go_wp2
  go_ret
  refine⟨⟨_,_,rfl,?_,nR _⟩,?_⟩
  ·refine⟨?_,fun g o h=>by injection h with h;injection h with h _ _;omega⟩
   first|exact HA.out|(rw[ew];exact HA.out)
  ·first|exact bA _ _|(rw[ew];exact bA _ _)
theorem eS{t:It}{o:OpW}(h:kF t (cA o.path)=none):moveC t o=.bad 5:=by
 unfold moveC
 rw[h]
theorem fS{t:It}{o:OpW}(h:eA t (cA o.new)=none):moveC t o=.bad 5:=by
 unfold moveC
 rw[h]
 cases kF t (cA o.path)<;>rfl
structure Mv(t:It)(ps qs:List ByteArray)(x:It)(i:Nat)(k y:It):Prop where
 ar:kF t ps=some (x,i)
 fd:eA t qs=some y
 kd:x.kids[i]?=some k
section
variable {t x k y:It} {o:OpW} {i:Nat} (h:Mv t (cA o.path) (cA o.new) x i k y)
include h
theorem LT(h1:cA o.path<+:cA o.new):moveC t o=.bad 5:=by
 unfold moveC
 rw[h.ar,h.fd]
 exact if_pos h1
theorem KT(h1:¬cA o.path<+:cA o.new)(h2:pA y.kids o.at'=none∨(cA o.path).dropLast=cA o.new∧o.at'=k.label):moveC t o=.bad 5:=by
 unfold moveC
 rw[h.ar,h.fd]
 have e:(x.kids[i]?).getD It.none=k:=by rw[h.kd];rfl
 simp only[e]
 rw[if_neg h1,if_pos h2]
theorem xQ(h1:¬cA o.path<+:cA o.new)(h2:¬(pA y.kids o.at'=none∨(cA o.path).dropLast=cA o.new∧o.at'=k.label))(h3:(cA o.path).dropLast≠cA o.new∧(iA y.kids k.label).isSome):moveC t o=.bad 7:=by
 unfold moveC
 rw[h.ar,h.fd]
 have e:(x.kids[i]?).getD It.none=k:=by rw[h.kd];rfl
 simp only[e]
 rw[if_neg h1,if_neg h2,if_pos h3]
theorem uQ(h1:¬cA o.path<+:cA o.new)(h2:¬(pA y.kids o.at'=none∨(cA o.path).dropLast=cA o.new∧o.at'=k.label))(h3:¬((cA o.path).dropLast≠cA o.new∧(iA y.kids k.label).isSome))(h4:6<(cA o.new).length+xB k):moveC t o=.bad 2:=by
 unfold moveC
 rw[h.ar,h.fd]
 have e:(x.kids[i]?).getD It.none=k:=by rw[h.kd];rfl
 simp only[e]
 rw[if_neg h1,if_neg h2,if_neg h3,if_pos h4]
theorem MT(h1:¬cA o.path<+:cA o.new)(h2:¬(pA y.kids o.at'=none∨(cA o.path).dropLast=cA o.new∧o.at'=k.label))(h3:¬((cA o.path).dropLast≠cA o.new∧(iA y.kids k.label).isSome))(h4:¬6<(cA o.new).length+xB k)(z:It)(j:Nat)(hz:eA (dB t x i (cA o.path).dropLast) (cA o.new)=some z)(hj:pA z.kids o.at'=some j):moveC t o=.ok (sA (fun _=>z.setKids (z.kids.insertIdx j k)) (cA o.new) (dB t x i (cA o.path).dropLast)):=by
 unfold moveC
 rw[h.ar,h.fd]
 have e:(x.kids[i]?).getD It.none=k:=by rw[h.kd];rfl
 simp only[e]
 rw[if_neg h1,if_neg h2,if_neg h3,if_neg h4,hz]
 simp only[hj]
end
end Go.Proofs.YtpbolcjcmkmalaaGreatDoor
namespace Go.Proofs.YtpbolcjcmkmalaaGreatDoor
open Go.RowKit
section
variable {ρ:Operand→Value} {dst:Option Tmp} {ty:TypeId} {ps:String} {af:Array Go.Edge} {g:Option (Nat×Bool)} {w:World} {x y z:Operand}
set_option maxRecDepth 20000
theorem IC{b o:Nat}(h:ρ x=.pointer (some ⟨b,o,none⟩)):(execOp ρ ⟨dst,.fieldAddr 25 x 3,ty,ps,af,g⟩).run Tryz.prog w=.ok (.value (.pointer (some ⟨b,o+3,none⟩))) w:=by
 simp only[execOp,h]
 go_simp
theorem NJ{b o:Nat}(h:ρ x=.pointer (some ⟨b,o,none⟩)):(execOp ρ ⟨dst,.fieldAddr 25 x 0,ty,ps,af,g⟩).run Tryz.prog w=.ok (.value (.pointer (some ⟨b,o,none⟩))) w:=by
 simp only[execOp,h]
 go_simp
theorem FG{b:Nat}(h:ρ x=.pointer (some ⟨b,0,none⟩)):(execOp ρ ⟨dst,.fieldAddr 46 x 2,ty,ps,af,g⟩).run Tryz.prog w=.ok (.value (.pointer (some ⟨b,2,none⟩))) w:=by
 simp only[execOp,h]
 go_simp
theorem ZF{a:Addr}{s:ByteArray}(h:ρ x=.pointer (some a))(hc:w.cell? a=some (.string s)):(execOp ρ ⟨dst,.load 9 x,ty,ps,af,g⟩).run Tryz.prog w=.ok (.value (.string s)) w:=by
 simp only[execOp,h]
 go_simp
theorem NE{a:Addr}{p:Option Addr}{n c:Nat}(h:ρ x=.pointer (some a))(hc:w.cell? a=some (.slice p n c)):(execOp ρ ⟨dst,.load 23 x,ty,ps,af,g⟩).run Tryz.prog w=.ok (.value (.slice p n c)) w:=by
 simp only[execOp,h]
 go_simp
theorem TP{n:Int}{r:Bool}(h:ρ x=.int .i64 n)(hz:ρ y=.int .i64 0)(hr:decide (n<0)=r):(execOp ρ ⟨dst,.binOp .lss 3 x y 3,ty,ps,af,g⟩).run Tryz.prog w=.ok (.value (.bool r)) w:=by
 subst hr
 simp only[execOp,h,hz]
 go_simp
theorem xR{n:Int}{r:Bool}(h:ρ x=.int .i64 n)(hz:ρ y=.int .i64 0)(hr:decide (0≤n)=r):(execOp ρ ⟨dst,.binOp .geq 3 x y 3,ty,ps,af,g⟩).run Tryz.prog w=.ok (.value (.bool r)) w:=by
 subst hr
 simp only[execOp,h,hz]
 go_simp
theorem qU{s t:ByteArray}{r:Bool}(h:ρ x=.string s)(h2:ρ y=.string t)(hr:(s.toList==t.toList)=r):(execOp ρ ⟨dst,.binOp .eql 9 x y 9,ty,ps,af,g⟩).run Tryz.prog w=.ok (.value (.bool r)) w:=by
 subst hr
 simp only[execOp,h,h2]
 go_simp
theorem MM{op:BinOp}{t u:TypeId}{a b v:Value}(h:ρ x=a)(h2:ρ y=b)(hg:(eqGuard op t x y a b).run Tryz.prog w=.ok () w)(hr:(binOp op t a b).run Tryz.prog w=.ok v w):(execOp ρ ⟨dst,.binOp op t x y u,ty,ps,af,g⟩).run Tryz.prog w=.ok (.value v) w:=by
 simp only[execOp,h,h2]
 simp only[Sem.run_bind,hg]
 show Result.andThen ((binOp op t a b).run Tryz.prog w) _=_
 rw[hr]
 rfl
end
end Go.Proofs.YtpbolcjcmkmalaaGreatDoor

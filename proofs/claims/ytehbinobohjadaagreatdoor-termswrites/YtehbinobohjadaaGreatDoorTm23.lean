import Derived.Test.YtehbinobohjadaaGreatDoorTm00
import Derived.Test.YtehbinobohjadaaGreatDoorTm21
import Derived.Test.YtehbinobohjadaaGreatDoorTm11
set_option maxHeartbeats 20000000
set_option maxRecDepth 20000
namespace Go.Proofs.YtehbinobohjadaaGreatDoor
open Go.RowKit Go.Extern.Stop Go.Stop Go.Extern
theorem WJ(c:UInt8)(r:List UInt8):1≤(OB c r).2.2:=by
 unfold OB
 split
 ·dsimp only;split<;>(dsimp only;omega)
 ·split
  ·dsimp only
   split<;>(dsimp only;split<;>omega)
  ·split
   ·dsimp only;omega
   ·split<;>(dsimp only;omega)
def JT(t:Tok):Prop:=∃c r,t.kind=(OB c r).1∧t.code=(OB c r).2.1∧t.text=⟨((c::r).take (OB c r).2.2).toArray⟩
theorem wG:∀(f:Nat) (l:List UInt8) (p:Nat),∃ts q,pD f l p=ts++[⟨.e,⟨#[]⟩,q,0⟩]∧ts.length≤l.length∧∀t∈ts,JT t
 |0,l,p=>⟨[],p,by rw[pD];rfl,by simp,fun t h=>by cases h⟩
 |f+1,l,p=>by
  rw[pD]
  split
  ·exact⟨[],_,rfl,by simp,fun t h=>by cases h⟩
  ·rename_i c r hd
   obtain⟨ts,q,e,hl,ht⟩:=wG f ((c::r).drop (OB c r).2.2) (p+(l.takeWhile (·==32)).length+(OB c r).2.2)
   refine⟨_::ts,q,by rw[e];rfl,?_,fun t h=>?_⟩
   ·have h1:=WJ c r
    have h2:(c::r).length≤l.length:=by rw[←hd];simp
    simp only[List.length_drop,List.length_cons] at hl h2 ⊢
    omega
   ·rcases List.mem_cons.1 h with rfl|h
    ·exact⟨c,r,rfl,rfl,rfl⟩
    ·exact ht t h
theorem SR(f:Nat)(l:List UInt8)(p:Nat):(pD f l p).length≤l.length+1∧0<(pD f l p).length:=by
 obtain⟨ts,q,e,hl,_⟩:=wG f l p
 rw[e]
 simp only[List.length_append,List.length_singleton]
 omega
def WN(c:UInt8):Prop:=c.toNat=46∨(48≤c.toNat∧c.toNat≤57)
theorem IH{c:UInt8}(h:lA c=true):WN c:=by
 unfold lA at h
 simp only[Bool.and_eq_true,decide_eq_true_eq] at h
 exact Or.inr h
theorem qJ:∀(r:List UInt8),∀c∈r.take (r.takeWhile lA).length,WN c
 | []=>fun c h=>by simp at h
 |a::r=>fun c h=>by
  by_cases ha:lA a=true
  ·rw[List.takeWhile_cons_of_pos ha,List.length_cons,List.take_succ_cons] at h
   rcases List.mem_cons.1 h with rfl|h
   ·exact IH ha
   ·exact qJ r c h
  ·rw[List.takeWhile_cons_of_neg (by simpa using ha)] at h
   simp at h
theorem ZO{r:List UInt8}(h:AB r=true):∀c∈r.take 3,WN c:=by
 match r,h with
 |a::b::d::r,h=>
  intro c hc
  rw[AB] at h
  simp only[Bool.and_eq_true,decide_eq_true_eq] at h
  simp only[List.take_succ_cons,List.take_zero,List.mem_cons,List.not_mem_nil,or_false] at hc
  rcases hc with rfl|rfl|rfl
  ·exact Or.inl h.1.1
  ·exact IH h.1.2
  ·exact IH h.2
theorem nP{c:UInt8}{r:List UInt8}(h:(OB c r).1=.n):(OB c r).2.2≤15∧∀d∈(c::r).take (OB c r).2.2,WN d:=by
 unfold OB at h ⊢
 by_cases h1:PB c=true
 ·rw[if_pos h1] at h
  dsimp only at h
  split at h<;>cases h
 rw[if_neg h1] at h ⊢
 by_cases h2:lA c=true
 ·rw[if_pos h2] at h ⊢
  dsimp only at h ⊢
  by_cases h3:12<1+(r.takeWhile lA).length
  ·rw[if_pos h3] at h
   cases h
  ·rw[if_neg h3]
   dsimp only
   have e:1+(r.takeWhile lA).length - 1=(r.takeWhile lA).length:=by omega
   rw[e]
   split
   ·rename_i hp
    refine⟨by omega,fun d hd=>?_⟩
    have e2:1+(r.takeWhile lA).length+3=((r.takeWhile lA).length+3)+1:=by omega
    rw[e2,List.take_succ_cons] at hd
    rcases List.mem_cons.1 hd with rfl|hd
    ·exact IH h2
    ·rw[List.take_add] at hd
     rcases List.mem_append.1 hd with hd|hd
     ·exact qJ r d hd
     ·exact ZO hp d hd
   ·refine⟨by omega,fun d hd=>?_⟩
    rw[Nat.add_comm 1,List.take_succ_cons] at hd
    rcases List.mem_cons.1 hd with rfl|hd
    ·exact IH h2
    ·exact qJ r d hd
 ·rw[if_neg h2] at h
  split at h
  ·cases h
  ·split at h<;>cases h
theorem LO{t:Tok}(h:JT t)(hn:t.kind=.n):gG t.text:=by
 obtain⟨c,r,h1,_,h3⟩:=h
 obtain⟨h4,h5⟩:=nP (h1.symm.trans hn)
 rw[h3]
 have hz:(⟨((c::r).take (OB c r).2.2).toArray⟩:ByteArray).size=((c::r).take (OB c r).2.2).length:=by
  show Array.size _=_
  simp
 refine⟨by rw[hz,List.length_take];omega,fun i hi=>?_⟩
 rw[hz] at hi
 have e:(⟨((c::r).take (OB c r).2.2).toArray⟩:ByteArray)[i]'(by rw[hz];exact hi)=((c::r).take (OB c r).2.2)[i]:=rfl
 rw[e]
 exact h5 _ (List.getElem_mem hi)
theorem TR(f:Nat)(l:List UInt8)(p:Nat):∀(i:Nat) (t:Tok),(pD f l p)[i]?=some t→t.kind=TK.n→gG t.text:=by
 obtain⟨ts,q,e,_,ht⟩:=wG f l p
 rw[e]
 intro i t hi hb
 rcases Nat.lt_or_ge i ts.length with h|h
 ·rw[List.getElem?_append_left h,List.getElem?_eq_getElem h] at hi
  injection hi with hi
  subst hi
  exact LO (ht _ (List.getElem_mem h)) hb
 ·rw[List.getElem?_append_right h] at hi
  match i - ts.length,hi with
  |0,hi=>simp at hi;subst hi;cases hb
  |n+1,hi=>simp at hi
def BA(q:UInt8→Bool)(s:ByteArray)(i:Nat):Nat:=((s.data.toList.drop i).takeWhile q).length
theorem xA(s:ByteArray):s.data.toList.length=s.size:=by
 rw[Array.length_toList];rfl
theorem xR(q:UInt8→Bool)(s:ByteArray)(i:Nat)(h:i≤s.size):i+BA q s i≤s.size:=by
 unfold BA
 have h1:=(List.takeWhile_sublist q (l:=s.data.toList.drop i)).length_le
 rw[List.length_drop,xA] at h1
 omega
theorem oI(q:UInt8→Bool)(s:ByteArray)(i:Nat)(h:i<s.size)(hq:q s[i]=true):BA q s i=BA q s (i+1)+1:=by
 unfold BA
 rw[NA s i h,List.takeWhile_cons_of_pos hq,List.length_cons]
theorem fH(q:UInt8→Bool)(s:ByteArray)(i:Nat)(h:i<s.size)(hq:¬q s[i]=true):BA q s i=0:=by
 unfold BA
 rw[NA s i h,List.takeWhile_cons_of_neg hq,List.length_nil]
theorem nI(q:UInt8→Bool)(s:ByteArray)(i:Nat)(h:s.size≤i):BA q s i=0:=by
 unfold BA
 rw[List.drop_of_length_le (by rw[xA];exact h)]
 rfl
theorem JE(s:ByteArray)(i:Nat):AB (s.data.toList.drop i)=true↔∃h:i+2<s.size,s[i].toNat=46∧lA s[i+1]=true∧lA s[i+2]=true:=by
 constructor
 ·intro h
  by_cases hi:i+2<s.size
  ·rw[NA s i (by omega),NA s (i+1) (by omega),NA s (i+1+1) hi,AB] at h
   simp only[Bool.and_eq_true,decide_eq_true_eq] at h
   exact⟨hi,h.1.1,h.1.2,h.2⟩
  ·have h1:(s.data.toList.drop i).length<3:=by rw[List.length_drop,xA];omega
   match e:s.data.toList.drop i,h1 with
   | [],_=>rw[e] at h;cases h
   | [a],_=>rw[e] at h;cases h
   | [a,b],_=>rw[e] at h;cases h
   |a::b::c::r,h1=>simp only[List.length_cons] at h1;omega
 ·rintro ⟨hi,h1,h2,h3⟩
  rw[NA s i (by omega),NA s (i+1) (by omega),NA s (i+1+1) hi,AB]
  simp only[Bool.and_eq_true,decide_eq_true_eq]
  exact⟨⟨h1,h2⟩,h3⟩
theorem RR(c:UInt8)(r:List UInt8):(OB c r).2.2≤r.length+1:=by
 unfold OB
 split
 ·have h1:=(List.takeWhile_sublist JA (l:=r)).length_le
  dsimp only
  split<;>(dsimp only;omega)
 ·split
  ·have h1:=(List.takeWhile_sublist lA (l:=r)).length_le
   dsimp only
   have h2:(if AB (r.drop (1+(r.takeWhile lA).length - 1))=true then 1+(r.takeWhile lA).length+3 else 1+(r.takeWhile lA).length)≤r.length+1:=by
    split
    ·rename_i hp
     have h3:3≤(r.drop (1+(r.takeWhile lA).length - 1)).length:=by
      match r.drop (1+(r.takeWhile lA).length - 1),hp with
      |a::b::c::l,_=>simp
     rw[List.length_drop] at h3
     omega
    ·omega
   split<;>exact h2
  ·split
   ·rename_i ht
    match r,ht with
    |b::r,_=>simp
   ·split<;>(dsimp only;omega)
structure TokInv(s:ByteArray)(p:Nat)(ts:List Tok)(i:Nat):Prop where
 le:i≤s.size
 few:ts.length≤i
 eq:∃f,s.size - i<f∧VH s p=ts++pD f (s.data.toList.drop i) i
theorem TokInv.start(s:ByteArray)(p:Nat)(h:p≤s.size):TokInv s p [] p:=⟨h,Nat.zero_le _,s.size+1,by omega,rfl⟩
def RE(c:UInt8):Bool:=c==32
theorem TokInv.last{s:ByteArray}{p i:Nat}{ts:List Tok}(h:TokInv s p ts i)(he:i+BA RE s i=s.size):VH s p=ts++[⟨.e,⟨#[]⟩,s.size,0⟩]:=by
 obtain⟨f,hf,e⟩:=h.eq
 obtain⟨f,rfl⟩:∃g,f=g+1:=⟨f - 1,by omega⟩
 rw[e,pD]
 have h1:((s.data.toList.drop i).takeWhile (·==32)).length=BA RE s i:=rfl
 rw[h1,List.drop_drop,he,List.drop_of_length_le (by rw[xA];exact nR _)]
def bG(s:ByteArray)(j:Nat)(h:j<s.size):Tok:=⟨(OB s[j] (s.data.toList.drop (j+1))).1,⟨((s.data.toList.drop j).take (OB s[j] (s.data.toList.drop (j+1))).2.2).toArray⟩,j,(OB s[j] (s.data.toList.drop (j+1))).2.1⟩
theorem TokInv.next{s:ByteArray}{p i:Nat}{ts:List Tok}(h:TokInv s p ts i)(hj:i+BA RE s i<s.size):
 TokInv s p (ts++[bG s (i+BA RE s i) hj]) (i+BA RE s i+(OB s[i+BA RE s i] (s.data.toList.drop (i+BA RE s i+1))).2.2):=by
 obtain⟨f,hf,e⟩:=h.eq
 obtain⟨f,rfl⟩:∃g,f=g+1:=⟨f - 1,by omega⟩
 have h0:=h.few
 rw[pD] at e
 have h1:((s.data.toList.drop i).takeWhile (·==32)).length=BA RE s i:=rfl
 rw[h1,List.drop_drop] at e
 unfold bG
 have hij:i≤i+BA RE s i:=Nat.le_add_right _ _
 generalize i+BA RE s i=j at *
 rw[NA s j hj] at e ⊢
 have h2:=WJ s[j] (s.data.toList.drop (j+1))
 have h3:=RR s[j] (s.data.toList.drop (j+1))
 rw[List.length_drop,xA] at h3
 refine⟨by omega,?_,f,?_,?_⟩
 ·simp only[List.length_append,List.length_singleton]
  omega
 ·omega
 ·rw[e,List.append_assoc]
  dsimp only
  rw[←NA s j hj,List.drop_drop]
  rfl
theorem PN{L:List Tok}{k:Nat}(h:(cA L k).kind≠.e):k<L.length:=by
 rcases Nat.lt_or_ge k L.length with q|q
 ·exact q
 ·exfalso
  apply h
  unfold cA
  rw[List.getElem?_eq_none q]
  rfl
theorem gD{L:List Tok}{s:ByteArray}{k:Nat}(hs:s.toList≠[])(h:YB L s k=true):k<L.length:=fN (by rw[oC h];exact hs)
theorem lE{L:List Tok}{s:ByteArray}(hs:s.toList≠[]){k n k' n':Nat}{x:Unit}(h:bB L s k n=.ok x k' n'):k'=k+1∧k<L.length:=by
 unfold bB at h
 split at h
 ·rename_i hi
  injection h with _ h _
  exact⟨h.symm,gD hs hi⟩
 ·cases h
theorem jE{L:List Tok}{k n k' n':Nat}{x:ByteArray}(h:oB L k n=.ok x k' n'):k'=k+1∧k<L.length:=by
 unfold oB at h
 split at h
 ·rename_i hi
  injection h with _ h _
  have h1:=hi.1
  unfold dD at h1
  simp at h1
  exact⟨h.symm,PN (by rw[h1.1];intro e;cases e)⟩
 ·cases h
theorem KJ{L:List Tok}{k n k' n':Nat}{x:Nat}(h:cC L k n=.ok x k' n'):k'=k+1∧k<L.length:=by
 unfold cC at h
 split at h
 ·rename_i hi
  injection h with _ h _
  exact⟨h.symm,PN (by rw[hi.1];intro e;cases e)⟩
 ·cases h
theorem YN{L:List Tok}{k n k' n':Nat}{x:Nat}(h:XE L k n=.ok x k' n'):k<k'∧k<L.length:=by
 unfold XE at h
 obtain⟨y,k1,n1,e1,h⟩:=PR.bind_okE h
 obtain⟨_,k2,n2,e2,h⟩:=PR.bind_okE h
 have a1:=KJ e1
 have a2:=lE (OA _) e2
 split at h
 ·injection h with _ h _
  omega
 ·cases h
theorem xD{L:List Tok}{k n k' n':Nat}{x:ByteArray}(h:TB L k n=.ok x k' n'):k'=k+1:=by
 unfold TB at h
 split at h
 ·cases h
 ·injection h with _ h _
  exact h.symm
theorem DH{L:List Tok}{s:ByteArray}(hs:s.toList≠[]){k n k' n':Nat}{x:Unit}(h:dC L s k n=.ok x k' n'):k'=k+1∧k<L.length:=by
 unfold dC at h
 obtain⟨_,k1,n1,e1,h⟩:=PR.bind_okE h
 injection h with _ h _
 have:=lE hs e1
 omega
theorem UR{L:List Tok}{k n k' n':Nat}{x:Nd}(h:JD L k n=.ok x k' n'):k<k'∧k<L.length:=by
 unfold JD at h
 obtain⟨_,k1,n1,e1,h⟩:=PR.bind_okE h
 obtain⟨_,k2,n2,e2,h⟩:=PR.bind_okE h
 obtain⟨_,k3,n3,e3,h⟩:=PR.bind_okE h
 injection h with _ h _
 have:=jE e1
 have:=lE pN e2
 have:=jE e3
 omega
structure AdvQ(L:List Tok)(f:Nat):Prop where
 ei:∀k n x k' n',FA L f k n=.ok x k' n'→k<k'∧k<L.length
 ol:∀y k n x k' n',zB L f y k n=.ok x k' n'→k≤k'
 bo:∀k n x k' n',iC L f k n=.ok x k' n'→k<k'∧k<L.length
 al:∀y k n x k' n',WA L f y k n=.ok x k' n'→k≤k'
 un:∀k n x k' n',QA L f k n=.ok x k' n'→k<k'∧k<L.length
 te:∀k n x k' n',BC L f k n=.ok x k' n'→k<k'∧k<L.length
 ot:∀k n x k' n',iB L f k n=.ok x k' n'→k<k'∧k<L.length
 co:∀k n x k' n',DC L f k n=.ok x k' n'→k<k'∧k<L.length
 su:∀k n x k' n',GC L f k n=.ok x k' n'→k<k'∧k<L.length
 sl:∀y k n x k' n',UA L f y k n=.ok x k' n'→k≤k'
 pa:∀k n x k' n',fC L f k n=.ok x k' n'→k<k'∧k<L.length
 pl:∀y k n x k' n',IA L f y k n=.ok x k' n'→k≤k'
 fa:∀k n x k' n',mB L f k n=.ok x k' n'→k<k'∧k<L.length
 gr:∀k n x k' n',KB L f k n=.ok x k' n'→k<k'∧k<L.length
theorem wJ(L:List Tok):∀f,AdvQ L f
 |0=>by
  constructor<;>intros<;>rename_i h<;>simp only[FA,zB,iC,WA,QA,BC,iB,DC,GC,UA,fC,IA,mB,KB] at h<;>cases h
 |f+1=>by
  have ih:=wJ L f
  constructor
  ·intro k n x k' n' h
   rw[FA] at h
   obtain⟨_,k1,n1,e1,h⟩:=PR.bind_okE h
   have:=ih.bo _ _ _ _ _ e1
   have:=ih.ol _ _ _ _ _ _ h
   omega
  ·intro y k n x k' n' h
   rw[zB] at h
   split at h
   ·obtain⟨_,k1,n1,e1,h⟩:=PR.bind_okE h
    have:=ih.bo _ _ _ _ _ e1
    have:=ih.ol _ _ _ _ _ _ h
    omega
   ·injection h with _ h _;omega
  ·intro k n x k' n' h
   rw[iC] at h
   obtain⟨_,k1,n1,e1,h⟩:=PR.bind_okE h
   have:=ih.un _ _ _ _ _ e1
   have:=ih.al _ _ _ _ _ _ h
   omega
  ·intro y k n x k' n' h
   rw[WA] at h
   split at h
   ·obtain⟨_,k1,n1,e1,h⟩:=PR.bind_okE h
    have:=ih.un _ _ _ _ _ e1
    have:=ih.al _ _ _ _ _ _ h
    omega
   ·injection h with _ h _;omega
  ·intro k n x k' n' h
   rw[QA] at h
   split at h
   ·rename_i hi
    have:=gD NG hi
    obtain⟨_,k1,n1,e1,h⟩:=PR.bind_okE h
    obtain⟨_,k2,n2,e2,h⟩:=PR.bind_okE h
    injection h with _ h _
    have:=xD e1
    have:=ih.un _ _ _ _ _ e2
    omega
   ·exact ih.te _ _ _ _ _ h
  ·intro k n x k' n' h
   rw[BC] at h
   split at h
   ·rename_i hi
    have:=gD (OA _) hi
    obtain⟨_,k1,n1,e1,h⟩:=PR.bind_okE h
    obtain⟨_,k2,n2,e2,h⟩:=PR.bind_okE h
    obtain⟨_,k3,n3,e3,h⟩:=PR.bind_okE h
    injection h with _ h _
    have:=xD e1
    have:=ih.ei _ _ _ _ _ e2
    have:=DH (OA _) e3
    omega
   ·split at h
    ·exact ih.ot _ _ _ _ _ h
    ·split at h
     ·obtain⟨_,k1,n1,e1,h⟩:=PR.bind_okE h
      injection h with _ h _
      have:=jE e1
      omega
     ·exact ih.co _ _ _ _ _ h
  ·intro k n x k' n' h
   rw[iB] at h
   obtain⟨_,k1,n1,e1,h⟩:=PR.bind_okE h
   obtain⟨_,k2,n2,e2,h⟩:=PR.bind_okE h
   obtain⟨_,k3,n3,e3,h⟩:=PR.bind_okE h
   obtain⟨_,k4,n4,e4,h⟩:=PR.bind_okE h
   obtain⟨_,k5,n5,e5,h⟩:=PR.bind_okE h
   injection h with _ h _
   have:=xD e1
   have:=jE e2
   have:=lE (OA _) e3
   have:=ih.ei _ _ _ _ _ e4
   have:=DH (OA _) e5
   omega
  ·intro k n x k' n' h
   rw[DC] at h
   obtain⟨_,k1,n1,e1,h⟩:=PR.bind_okE h
   have:=ih.su _ _ _ _ _ e1
   split at h
   ·obtain⟨_,k2,n2,e2,h⟩:=PR.bind_okE h
    injection h with _ h _
    have:=ih.su _ _ _ _ _ e2
    omega
   ·cases h
  ·intro k n x k' n' h
   rw[GC] at h
   obtain⟨_,k1,n1,e1,h⟩:=PR.bind_okE h
   have:=ih.pa _ _ _ _ _ e1
   have:=ih.sl _ _ _ _ _ _ h
   omega
  ·intro y k n x k' n' h
   rw[UA] at h
   split at h
   ·obtain⟨_,k1,n1,e1,h⟩:=PR.bind_okE h
    have:=ih.pa _ _ _ _ _ e1
    have:=ih.sl _ _ _ _ _ _ h
    omega
   ·injection h with _ h _;omega
  ·intro k n x k' n' h
   rw[fC] at h
   obtain⟨_,k1,n1,e1,h⟩:=PR.bind_okE h
   have:=ih.fa _ _ _ _ _ e1
   have:=ih.pl _ _ _ _ _ _ h
   omega
  ·intro y k n x k' n' h
   rw[IA] at h
   split at h
   ·obtain⟨_,k1,n1,e1,h⟩:=PR.bind_okE h
    have:=YN e1
    have:=ih.pl _ _ _ _ _ _ h
    omega
   ·injection h with _ h _;omega
  ·intro k n x k' n' h
   rw[mB] at h
   split at h
   ·obtain⟨_,k1,n1,e1,h⟩:=PR.bind_okE h
    injection h with _ h _
    have:=KJ e1
    omega
   ·split at h
    ·obtain⟨_,k1,n1,e1,h⟩:=PR.bind_okE h
     injection h with _ h _
     have:=jE e1
     omega
    ·split at h
     ·have:=UR h
      omega
     ·split at h
      ·exact ih.gr _ _ _ _ _ h
      ·split at h
       ·rename_i hi
        have:=gD (OA _) hi
        obtain⟨_,k1,n1,e1,h⟩:=PR.bind_okE h
        obtain⟨_,k2,n2,e2,h⟩:=PR.bind_okE h
        obtain⟨_,k3,n3,e3,h⟩:=PR.bind_okE h
        injection h with _ h _
        have:=xD e1
        have:=ih.su _ _ _ _ _ e2
        have:=DH (OA _) e3
        omega
       ·obtain⟨_,k1,n1,e1,h⟩:=PR.bind_okE h
        injection h with _ h _
        have:=jE e1
        omega
  ·intro k n x k' n' h
   rw[KB] at h
   obtain⟨_,k1,n1,e1,h⟩:=PR.bind_okE h
   obtain⟨_,k2,n2,e2,h⟩:=PR.bind_okE h
   obtain⟨_,k3,n3,e3,h⟩:=PR.bind_okE h
   obtain⟨_,k4,n4,e4,h⟩:=PR.bind_okE h
   obtain⟨_,k5,n5,e5,h⟩:=PR.bind_okE h
   obtain⟨_,k6,n6,e6,h⟩:=PR.bind_okE h
   injection h with _ h _
   have:=xD e1
   have:=lE (OA _) e2
   have:=ih.su _ _ _ _ _ e3
   have:=lE (OA _) e4
   have:=ih.su _ _ _ _ _ e5
   have:=DH (OA _) e6
   omega
theorem yA{α β:Type}{r:PR α}{f:α→Nat→Nat→PR β}(h:r≠.out)(h2:∀x k n,r=.ok x k n→f x k n≠.out):r.bind f≠.out:=by
 cases r with
 |out=>exact absurd rfl h
 |bad c a=>intro e;cases e
 |ok x k n=>exact h2 x k n rfl
theorem wD{α:Type}{x:α}{k n:Nat}:(PR.ok x k n)≠.out:=fun e=>by cases e
theorem LP{α:Type}{c a:Nat}:(PR.bad c a:PR α)≠.out:=fun e=>by cases e
theorem tF{L:List Tok}{s:ByteArray}{k n:Nat}:bB L s k n≠.out:=by unfold bB;split<;>(intro h;cases h)
theorem TE{L:List Tok}{k n:Nat}:oB L k n≠.out:=by unfold oB;split<;>(intro h;cases h)
theorem AL{L:List Tok}{k n:Nat}:cC L k n≠.out:=by unfold cC;split<;>(intro h;cases h)
theorem xH{L:List Tok}{k n:Nat}:TB L k n≠.out:=by unfold TB;split<;>(intro h;cases h)
theorem FI{L:List Tok}{s:ByteArray}{k n:Nat}:dC L s k n≠.out:=yA tF fun _ _ _ _=>wD
theorem nV{L:List Tok}{k n:Nat}:XE L k n≠.out:=yA AL fun _ _ _ _=>yA tF fun _ _ _ _=>by split<;>(intro h;cases h)
theorem uT{L:List Tok}{k n:Nat}:JD L k n≠.out:=yA TE fun _ _ _ _=>yA tF fun _ _ _ _=>yA TE fun _ _ _ _=>wD
structure FineQ(L:List Tok)(k:Nat):Prop where
 gr:∀f n,20 * (L.length - k)+1≤f→k<L.length→KB L f k n≠.out
 fa:∀f n,20 * (L.length - k)+2≤f→mB L f k n≠.out
 pl:∀f y n,20 * (L.length - k)+1≤f→IA L f y k n≠.out
 pa:∀f n,20 * (L.length - k)+3≤f→fC L f k n≠.out
 sl:∀f y n,20 * (L.length - k)+1≤f→UA L f y k n≠.out
 su:∀f n,20 * (L.length - k)+5≤f→GC L f k n≠.out
 co:∀f n,20 * (L.length - k)+6≤f→DC L f k n≠.out
 ot:∀f n,20 * (L.length - k)+6≤f→k<L.length→iB L f k n≠.out
 te:∀f n,20 * (L.length - k)+7≤f→BC L f k n≠.out
 un:∀f n,20 * (L.length - k)+9≤f→QA L f k n≠.out
 al:∀f y n,20 * (L.length - k)+1≤f→WA L f y k n≠.out
 bo:∀f n,20 * (L.length - k)+11≤f→iC L f k n≠.out
 ol:∀f y n,20 * (L.length - k)+1≤f→zB L f y k n≠.out
 ei:∀f n,20 * (L.length - k)+13≤f→FA L f k n≠.out
theorem VT(L:List Tok):∀m k,L.length - k≤m→FineQ L k
 |m,k,hm=>by
  have ih:∀k',k<k'→k<L.length→FineQ L k':=fun k' h1 h2=>by
   cases m with
   |zero=>omega
   |succ m=>exact VT L m k' (by omega)
  have gr:∀f n,20 * (L.length - k)+1≤f→k<L.length→KB L f k n≠.out:=by
   intro f n hf hk
   obtain⟨f,rfl⟩:∃g,f=g+1:=⟨f - 1,by omega⟩
   rw[KB]
   refine yA xH fun _ k1 n1 e1=>yA tF fun _ k2 n2 e2=>?_
   have a1:=xD e1
   have a2:=lE (OA _) e2
   refine yA ((ih k2 (by omega) hk).su _ _ (by omega)) fun _ k3 n3 e3=>yA tF fun _ k4 n4 e4=>?_
   have a3:=(wJ L f).su _ _ _ _ _ e3
   have a4:=lE (OA _) e4
   exact yA ((ih k4 (by omega) hk).su _ _ (by omega)) fun _ _ _ _=>yA FI fun _ _ _ _=>wD
  have fa:∀f n,20 * (L.length - k)+2≤f→mB L f k n≠.out:=by
   intro f n hf
   obtain⟨f,rfl⟩:∃g,f=g+1:=⟨f - 1,by omega⟩
   rw[mB]
   split
   ·exact yA AL fun _ _ _ _=>wD
   ·split
    ·exact yA TE fun _ _ _ _=>wD
    ·split
     ·exact uT
     ·split
      ·rename_i hi
       exact gr f n (by omega) (by rcases hi with hi|hi;exact gD qO hi;exact gD rO hi)
      ·split
       ·rename_i hi
        have hk:=gD (OA _) hi
        refine yA xH fun _ k1 n1 e1=>?_
        have a1:=xD e1
        exact yA ((ih k1 (by omega) hk).su _ _ (by omega)) fun _ _ _ _=>yA FI fun _ _ _ _=>wD
       ·exact yA TE fun _ _ _ _=>wD
  have pl:∀f y n,20 * (L.length - k)+1≤f→IA L f y k n≠.out:=by
   intro f y n hf
   obtain⟨f,rfl⟩:∃g,f=g+1:=⟨f - 1,by omega⟩
   rw[IA]
   split
   ·rename_i hi
    have hk:=gD (OA _) hi
    refine yA nV fun _ k1 n1 e1=>?_
    have a1:=YN e1
    exact(ih k1 (by omega) hk).pl _ _ _ (by omega)
   ·exact wD
  have pa:∀f n,20 * (L.length - k)+3≤f→fC L f k n≠.out:=by
   intro f n hf
   obtain⟨f,rfl⟩:∃g,f=g+1:=⟨f - 1,by omega⟩
   rw[fC]
   refine yA (fa f n (by omega)) fun _ k1 n1 e1=>?_
   have a1:=(wJ L f).fa _ _ _ _ _ e1
   exact(ih k1 a1.1 a1.2).pl _ _ _ (by omega)
  have sl:∀f y n,20 * (L.length - k)+1≤f→UA L f y k n≠.out:=by
   intro f y n hf
   obtain⟨f,rfl⟩:∃g,f=g+1:=⟨f - 1,by omega⟩
   rw[UA]
   split
   ·rename_i hi
    have hk:k<L.length:=by rcases hi with hi|hi<;>exact gD (OA _) hi
    refine yA ((ih (k+1) (by omega) hk).pa _ _ (by omega)) fun _ k1 n1 e1=>?_
    have a1:=(wJ L f).pa _ _ _ _ _ e1
    exact(ih k1 (by omega) hk).sl _ _ _ (by omega)
   ·exact wD
  have su:∀f n,20 * (L.length - k)+5≤f→GC L f k n≠.out:=by
   intro f n hf
   obtain⟨f,rfl⟩:∃g,f=g+1:=⟨f - 1,by omega⟩
   rw[GC]
   refine yA (pa f n (by omega)) fun _ k1 n1 e1=>?_
   have a1:=(wJ L f).pa _ _ _ _ _ e1
   exact(ih k1 a1.1 a1.2).sl _ _ _ (by omega)
  have co:∀f n,20 * (L.length - k)+6≤f→DC L f k n≠.out:=by
   intro f n hf
   obtain⟨f,rfl⟩:∃g,f=g+1:=⟨f - 1,by omega⟩
   rw[DC]
   refine yA (su f n (by omega)) fun _ k1 n1 e1=>?_
   have a1:=(wJ L f).su _ _ _ _ _ e1
   split
   ·exact yA ((ih (k1+1) (by omega) a1.2).su _ _ (by omega)) fun _ _ _ _=>wD
   ·exact LP
  have ot:∀f n,20 * (L.length - k)+6≤f→k<L.length→iB L f k n≠.out:=by
   intro f n hf hk
   obtain⟨f,rfl⟩:∃g,f=g+1:=⟨f - 1,by omega⟩
   rw[iB]
   refine yA xH fun _ k1 n1 e1=>yA TE fun _ k2 n2 e2=>yA tF fun _ k3 n3 e3=>?_
   have a1:=xD e1
   have a2:=jE e2
   have a3:=lE (OA _) e3
   exact yA ((ih k3 (by omega) hk).ei _ _ (by omega)) fun _ _ _ _=>yA FI fun _ _ _ _=>wD
  have te:∀f n,20 * (L.length - k)+7≤f→BC L f k n≠.out:=by
   intro f n hf
   obtain⟨f,rfl⟩:∃g,f=g+1:=⟨f - 1,by omega⟩
   rw[BC]
   split
   ·rename_i hi
    have hk:=gD (OA _) hi
    refine yA xH fun _ k1 n1 e1=>?_
    have a1:=xD e1
    exact yA ((ih k1 (by omega) hk).ei _ _ (by omega)) fun _ _ _ _=>yA FI fun _ _ _ _=>wD
   ·split
    ·rename_i hi
     exact ot f n (by omega) (by rcases hi with hi|hi;exact gD oM hi;exact gD XJ hi)
    ·split
     ·exact yA TE fun _ _ _ _=>wD
     ·exact co f n (by omega)
  have un:∀f n,20 * (L.length - k)+9≤f→QA L f k n≠.out:=by
   intro f n hf
   obtain⟨f,rfl⟩:∃g,f=g+1:=⟨f - 1,by omega⟩
   rw[QA]
   split
   ·rename_i hi
    have hk:=gD NG hi
    refine yA xH fun _ k1 n1 e1=>?_
    have a1:=xD e1
    exact yA ((ih k1 (by omega) hk).un _ _ (by omega)) fun _ _ _ _=>wD
   ·exact te f n (by omega)
  have al:∀f y n,20 * (L.length - k)+1≤f→WA L f y k n≠.out:=by
   intro f y n hf
   obtain⟨f,rfl⟩:∃g,f=g+1:=⟨f - 1,by omega⟩
   rw[WA]
   split
   ·rename_i hi
    have hk:=gD oO hi
    refine yA ((ih (k+1) (by omega) hk).un _ _ (by omega)) fun _ k1 n1 e1=>?_
    have a1:=(wJ L f).un _ _ _ _ _ e1
    exact(ih k1 (by omega) hk).al _ _ _ (by omega)
   ·exact wD
  have bo:∀f n,20 * (L.length - k)+11≤f→iC L f k n≠.out:=by
   intro f n hf
   obtain⟨f,rfl⟩:∃g,f=g+1:=⟨f - 1,by omega⟩
   rw[iC]
   refine yA (un f n (by omega)) fun _ k1 n1 e1=>?_
   have a1:=(wJ L f).un _ _ _ _ _ e1
   exact(ih k1 a1.1 a1.2).al _ _ _ (by omega)
  have ol:∀f y n,20 * (L.length - k)+1≤f→zB L f y k n≠.out:=by
   intro f y n hf
   obtain⟨f,rfl⟩:∃g,f=g+1:=⟨f - 1,by omega⟩
   rw[zB]
   split
   ·rename_i hi
    have hk:=gD dS hi
    refine yA ((ih (k+1) (by omega) hk).bo _ _ (by omega)) fun _ k1 n1 e1=>?_
    have a1:=(wJ L f).bo _ _ _ _ _ e1
    exact(ih k1 (by omega) hk).ol _ _ _ (by omega)
   ·exact wD
  have ei:∀f n,20 * (L.length - k)+13≤f→FA L f k n≠.out:=by
   intro f n hf
   obtain⟨f,rfl⟩:∃g,f=g+1:=⟨f - 1,by omega⟩
   rw[FA]
   refine yA (bo f n (by omega)) fun _ k1 n1 e1=>?_
   have a1:=(wJ L f).bo _ _ _ _ _ e1
   exact(ih k1 a1.1 a1.2).ol _ _ _ (by omega)
  exact⟨gr,fa,pl,pa,sl,su,co,ot,te,un,al,bo,ol,ei⟩
theorem gQ(L:List Tok)(k:Nat):FineQ L k:=VT L _ k (nR _)
def sh{α:Type}(r:PR α):PR α:=match r with
 | .out=>.out
 | .bad c a=>.bad c a
 | .ok x k n=>.ok x (k+1) n
theorem GA{α β:Type}{r:PR α}{g h:α→Nat→Nat→PR β}(e:∀x k n,g x (k+1) n=sh (h x k n)):(sh r).bind g=sh (r.bind h):=by
 cases r with
 |out=>rfl
 |bad c a=>rfl
 |ok x k n=>exact e x k n
theorem dO{α:Type}{r:PR α}{x:α}{k n:Nat}(h:sh r=.ok x k n):∃k',r=.ok x k' n∧k=k'+1:=by
 cases r with
 |out=>cases h
 |bad c a=>cases h
 |ok y k' m=>
  injection h with h1 h2 h3
  subst h1 h2 h3
  exact⟨k',rfl,rfl⟩
theorem WC{α:Type}{p q:Prop}[Decidable p][Decidable q]{a b c d:PR α}(h:p↔q)(h1:a=sh c)(h2:b=sh d):(if p then a else b)=sh (if q then c else d):=by
 by_cases hq:q
 ·rw[if_pos (h.2 hq),if_pos hq,h1]
 ·rw[if_neg (fun x=>hq (h.1 x)),if_neg hq,h2]
section
variable (t:Tok) (L:List Tok)
theorem gN(k:Nat):cA (t::L) (k+1)=cA L k:=rfl
theorem TF(s:ByteArray)(k n:Nat):bB (t::L) s (k+1) n=sh (bB L s k n):=WC Iff.rfl rfl rfl
theorem RF(k n:Nat):oB (t::L) (k+1) n=sh (oB L k n):=WC Iff.rfl rfl rfl
theorem MJ(k n:Nat):cC (t::L) (k+1) n=sh (cC L k n):=WC Iff.rfl rfl rfl
theorem fT(k n:Nat):XE (t::L) (k+1) n=sh (XE L k n):=by
 unfold XE
 rw[MJ]
 refine GA fun x k n=>?_
 rw[TF]
 exact GA fun _ k n=>WC Iff.rfl rfl rfl
theorem mG(k n:Nat):TB (t::L) (k+1) n=sh (TB L k n):=WC Iff.rfl rfl rfl
theorem FH(s:ByteArray)(k n:Nat):dC (t::L) s (k+1) n=sh (dC L s k n):=by
 unfold dC
 rw[TF]
 exact GA fun _ k n=>rfl
theorem XR(k n:Nat):JD (t::L) (k+1) n=sh (JD L k n):=by
 unfold JD
 rw[RF]
 refine GA fun w k n=>?_
 rw[TF]
 refine GA fun _ k n=>?_
 rw[RF]
 exact GA fun _ k n=>rfl
structure ShA(f:Nat):Prop where
 ei:∀k n,FA (t::L) f (k+1) n=sh (FA L f k n)
 ol:∀x k n,zB (t::L) f x (k+1) n=sh (zB L f x k n)
 bo:∀k n,iC (t::L) f (k+1) n=sh (iC L f k n)
 al:∀x k n,WA (t::L) f x (k+1) n=sh (WA L f x k n)
 un:∀k n,QA (t::L) f (k+1) n=sh (QA L f k n)
 te:∀k n,BC (t::L) f (k+1) n=sh (BC L f k n)
 ot:∀k n,iB (t::L) f (k+1) n=sh (iB L f k n)
 co:∀k n,DC (t::L) f (k+1) n=sh (DC L f k n)
 su:∀k n,GC (t::L) f (k+1) n=sh (GC L f k n)
 sl:∀x k n,UA (t::L) f x (k+1) n=sh (UA L f x k n)
 pa:∀k n,fC (t::L) f (k+1) n=sh (fC L f k n)
 pl:∀x k n,IA (t::L) f x (k+1) n=sh (IA L f x k n)
 fa:∀k n,mB (t::L) f (k+1) n=sh (mB L f k n)
 gr:∀k n,KB (t::L) f (k+1) n=sh (KB L f k n)
theorem BR(f:Nat):ShA t L f:=by
 induction f with
 |zero=>refine⟨?_,?_,?_,?_,?_,?_,?_,?_,?_,?_,?_,?_,?_,?_⟩<;>intros<;>first|rw[FA,FA];rfl|rw[zB,zB];rfl|rw[iC,iC];rfl|rw[WA,WA];rfl|rw[QA,QA];rfl|rw[BC,BC];rfl|rw[iB,iB];rfl|rw[DC,DC];rfl|rw[GC,GC];rfl|rw[UA,UA];rfl|rw[fC,fC];rfl|rw[IA,IA];rfl|rw[mB,mB];rfl|rw[KB,KB];rfl
 |succ f ih=>
  refine⟨fun k n=>?_,fun x k n=>?_,fun k n=>?_,fun x k n=>?_,fun k n=>?_,fun k n=>?_,fun k n=>?_,fun k n=>?_,fun k n=>?_,fun x k n=>?_,fun k n=>?_,fun x k n=>?_,fun k n=>?_,fun k n=>?_⟩
  ·rw[FA,FA,ih.bo]
   exact GA fun x k n=>ih.ol x k n
  ·rw[zB,zB]
   refine WC Iff.rfl ?_ rfl
   rw[ih.bo]
   exact GA fun m k n=>ih.ol _ k n
  ·rw[iC,iC,ih.un]
   exact GA fun x k n=>ih.al x k n
  ·rw[WA,WA]
   refine WC Iff.rfl ?_ rfl
   rw[ih.un]
   exact GA fun m k n=>ih.al _ k n
  ·rw[QA,QA]
   refine WC Iff.rfl ?_ (ih.te k n)
   rw[mG]
   refine GA fun _ k n=>?_
   rw[ih.un]
   exact GA fun x k n=>rfl
  ·rw[BC,BC]
   refine WC Iff.rfl ?_ (WC Iff.rfl (ih.ot k n) (WC Iff.rfl ?_ (ih.co k n)))
   ·rw[mG]
    refine GA fun _ k n=>?_
    rw[ih.ei]
    refine GA fun x k n=>?_
    rw[FH]
    exact GA fun _ k n=>rfl
   ·rw[RF]
    exact GA fun _ k n=>rfl
  ·rw[iB,iB,mG]
   refine GA fun d k n=>?_
   rw[RF]
   refine GA fun w k n=>?_
   rw[TF]
   refine GA fun _ k n=>?_
   rw[ih.ei]
   refine GA fun x k n=>?_
   rw[FH]
   exact GA fun _ k n=>rfl
  ·rw[DC,DC,ih.su]
   refine GA fun a k n=>WC Iff.rfl ?_ rfl
   rw[ih.su]
   exact GA fun _ k n=>rfl
  ·rw[GC,GC,ih.pa]
   exact GA fun x k n=>ih.sl x k n
  ·rw[UA,UA]
   refine WC Iff.rfl ?_ rfl
   rw[ih.pa]
   exact GA fun m k n=>ih.sl _ k n
  ·rw[fC,fC,ih.fa]
   exact GA fun x k n=>ih.pl x k n
  ·rw[IA,IA]
   refine WC Iff.rfl ?_ rfl
   rw[fT]
   exact GA fun m k n=>ih.pl _ k n
  ·rw[mB,mB]
   refine WC Iff.rfl ?_ (WC Iff.rfl ?_ (WC Iff.rfl (XR t L _ n) (WC Iff.rfl (ih.gr k n) (WC Iff.rfl ?_ ?_))))
   ·rw[MJ]
    exact GA fun _ k n=>rfl
   ·rw[RF]
    exact GA fun _ k n=>rfl
   ·rw[mG]
    refine GA fun _ k n=>?_
    rw[ih.su]
    refine GA fun x k n=>?_
    rw[FH]
    exact GA fun _ k n=>rfl
   ·rw[RF]
    exact GA fun _ k n=>rfl
  ·rw[KB,KB,mG]
   refine GA fun d k n=>?_
   rw[TF]
   refine GA fun _ k n=>?_
   rw[ih.su]
   refine GA fun a k n=>?_
   rw[TF]
   refine GA fun _ k n=>?_
   rw[ih.su]
   refine GA fun b k n=>?_
   rw[FH]
   exact GA fun _ k n=>rfl
end
theorem Tryz.infoTok:∃i z,Tryz.prog.info? 82=some i∧i.zero=some z∧i.size=4∧i.bytes=48∧z.cells.size=4:=by
 have h:(Tryz.prog.info? 82).map (fun i=>(i.zero.map (fun z=>z.cells.size),i.size,i.bytes))=some (some 4,4,48):=by kernel_rfl
 obtain⟨i,hi,e⟩:=Option.map_eq_some_iff.1 h
 injection e with e1 e2
 injection e2 with e2 e3
 obtain⟨z,hz,e4⟩:=Option.map_eq_some_iff.1 e1
 exact⟨i,z,hi,hz,e2,e3,e4⟩
def nC:List Tok→List Value
 | []=>[]
 |t::r=>jH t 0::jH t 1::jH t 2::jH t 3::nC r
theorem TH:∀(a b:List Tok),nC (a++b)=nC a++nC b
 | [],b=>rfl
 |t::r,b=>by rw[List.cons_append,nC,nC,TH r b];rfl
theorem UH:∀(l:List Tok) (i c:Nat) (t:Tok),l[i]?=some t→c<4→(nC l)[i * 4+c]?=some (jH t c)
 |a::r,0,c,t,h,hc=>by
  obtain rfl:a=t:=by simpa using h
  rw[nC]
  match c,hc with
  |0,_=>rfl
  |1,_=>rfl
  |2,_=>rfl
  |3,_=>rfl
 |a::r,i+1,c,t,h,hc=>by
  have:=UH r i c t (by simpa using h) hc
  rw[nC,show (i+1) * 4+c=(i * 4+c)+1+1+1+1 by omega]
  simpa using this
def TAt(B:Nat)(w:World)(sv:Value)(ts:List Tok):Prop:=w.ownsRow B 82 4 sv ts.length (nC ts)
theorem TAt.push{B:Nat}{w w1 w2:World}{sv sv':Value}{ts:List Tok}(h:TAt B w sv ts)(hw:B≤w.heap.size)(ha:Below w.heap.size w w1)(t:Tok)
 (ho:w2.ownsRow B 82 4 sv' (ts.length+1) (nC ts++[jH t 0,jH t 1,jH t 2,jH t 3])) (hg:w1.grownBy w2 sv.ownBlock):TAt B w2 sv' (ts++[t])∧Below B w w2:=by
 have hs1:B≤w1.heap.size:=Nat.le_trans hw ha.size
 have hrow1:w1.ownsRow B 82 4 sv ts.length (nC ts):=mC h fun g _ hg=>ha.block g hg
 refine⟨?_,(ha.mono hw).grown hg hs1 (fun k hk=>(hrow1.lt k hk).1)⟩
 unfold TAt
 rw[List.length_append,List.length_singleton,TH]
 exact ho
theorem TAt.get{B:Nat}{w:World}{a:Option Addr}{n cap:Nat}{ts:List Tok}(h:TAt B w (.slice a n cap) ts)(h0:0<ts.length):n=ts.length∧∃g,a=some ⟨g,0,none⟩∧B≤g∧∀i t,ts[i]?=some t→∀c,c<4→w.cell? ⟨g,i * 4+c,none⟩=some (jH t c):=by
 have hrow:=h
 unfold TAt at hrow
 rcases hrow.2 with ⟨_,h0⟩|⟨g,cap',cur,e1,hb,_⟩
 ·omega
 ·injection e1 with e2 e3 e4
  refine⟨e3,g,e2,hb,fun i t ht c hc=>?_⟩
  rw[e2,e3] at hrow
  have h5:=hrow.cells (g:=g) rfl (i * 4+c) _ (UH ts i c t ht hc)
  have h6:(⟨g,0,none⟩:Addr).add (i * 4+c)=⟨g,i * 4+c,none⟩:=by
   unfold Addr.add
   split
   ·rename_i h0
    rw[h0]
   ·simp
  rw[h6] at h5
  exact h5
end Go.Proofs.YtehbinobohjadaaGreatDoor

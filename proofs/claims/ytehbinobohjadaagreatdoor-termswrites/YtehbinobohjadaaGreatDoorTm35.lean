import Derived.Test.YtehbinobohjadaaGreatDoorTm00
import Derived.Test.YtehbinobohjadaaGreatDoorTm34
import Derived.Test.YtehbinobohjadaaGreatDoorTm33
import Derived.Test.YtehbinobohjadaaGreatDoorTm11
set_option maxHeartbeats 20000000
set_option maxRecDepth 20000
namespace Go.Proofs.YtehbinobohjadaaGreatDoor
open Go.RowKit Go.Extern.Stop Go.Stop Go.Extern
mutual
def YH:Nd→Tn
 | .mk k w n ks=>.mk k w n (BJ ks)
def BJ:List Nd→List Tn
 | []=>[]
 |x::l=>YH x::BJ l
end
def WH:List ByteArray→Nat
 | []=>0
 |a::l=>a.size+WH l
theorem kM:∀(P Q:List ByteArray),WH (P++Q)=WH P+WH Q
 | [],Q=>by show WH Q=0+_;omega
 |a::P,Q=>by
  show a.size+WH (P++Q)=a.size+WH P+WH Q
  rw[kM P Q]
  omega
theorem QN:∀{P:List ByteArray},(∀t,t∈P→0<t.size)→P.length≤WH P
 | [],_=>nR _
 |a::P,h=>by
  have h1:=h a (by simp)
  have h2:=QN (P:=P) fun t ht=>h t (by simp[ht])
  show P.length+1≤a.size+WH P
  omega
theorem NR(x:Nd):(YH x).kind=x.kind:=by cases x;rfl
theorem OR(x:Nd):(YH x).word=x.word:=by cases x;rfl
def WG(s s':WS):Prop:=(s.z≤300→s'.z≤300)∧∃P,s'.ts=s.ts++P∧s'.z=s.z+WH P∧∀t,t∈P→0<t.size
theorem WG.refl(s:WS):WG s s:=⟨id,[],by simp,rfl,fun t h=>(by cases h)⟩
theorem WG.trans{a b c:WS}(h:WG a b)(k:WG b c):WG a c:=by
 obtain⟨h0,P,h1,h2,h3⟩:=h
 obtain⟨k0,Q,k1,k2,k3⟩:=k
 refine⟨fun h=>k0 (h0 h),P++Q,by rw[k1,h1,List.append_assoc],by rw[k2,h2,kM];omega,fun t ht=>?_⟩
 rcases List.mem_append.1 ht with ht|ht
 ·exact h3 t ht
 ·exact k3 t ht
theorem QB{s s':WS}{x:ByteArray}(h:MA s x=some s'):WG s s':=by
 unfold MA at h
 split at h
 ·cases h
 ·rename_i hc
  injection h with h
  rw[←h]
  refine⟨fun _=>by show s.z+x.size≤300;omega,[x],rfl,rfl,fun t ht=>?_⟩
  rw[List.mem_singleton.1 ht]
  omega
theorem zC:∀{l:List ByteArray} {s s':WS},CA s l=some s'→WG s s'
 | [],s,s',h=>by injection h with h;rw[←h];exact WG.refl _
 |x::l,s,s',h=>by
  rw[CA,Option.bind_eq_some_iff] at h
  obtain⟨s1,h1,h2⟩:=h
  exact(QB h1).trans (zC h2)
theorem KA{s s':WS}{r:Option WS}{f:WS→Option WS}(hr:∀s1,r=some s1→WG s s1)(hf:∀s1 s',f s1=some s'→WG s1 s')(h:r.bind f=some s'):WG s s':=by
 rw[Option.bind_eq_some_iff] at h
 obtain⟨s1,h1,h⟩:=h
 exact(hr _ h1).trans (hf _ _ h)
theorem ST{k:ByteArray}{lv:Nat}{go:WS→Option WS}(hg:∀s s',go s=some s'→WG s s'){s s':WS}(h:wP k lv go s=some s'):WG s s':=by
 unfold wP at h
 split at h
 ·exact KA (fun _ h=>QB h) (fun _ _ h=>KA (fun _ h=>hg _ _ h) (fun _ _ h=>QB h) h) h
 ·exact hg _ _ h
theorem PT{k:ByteArray}{lv:Nat}{go:WS→Option WS}(hg:∀s s',go s=some s'→WG s s'){s s':WS}(h:NP k lv go s=some s'):WG s s':=by
 unfold NP at h
 split at h
 ·exact KA (fun _ h=>QB h) (fun _ _ h=>KA (fun _ h=>hg _ _ h) (fun _ _ h=>QB h) h) h
 ·exact hg _ _ h
theorem oH{s s':WS}{f:WS→Option WS}(hf:∀s s',f s=some s'→WG s s')(h:((PA s).bind fun s=>Option.map eC (f s))=some s'):WG s s':=by
 rw[Option.bind_eq_some_iff] at h
 obtain⟨s1,h1,h⟩:=h
 rw[Option.map_eq_some_iff] at h
 obtain⟨s2,h2,rfl⟩:=h
 obtain⟨k0,P,k1,k2,k3⟩:=hf _ _ h2
 unfold PA at h1
 split at h1
 ·cases h1
 ·injection h1 with h1
  subst h1
  exact⟨k0,P,k1,k2,k3⟩
theorem vV:∀(n:Nat) (t:Tn),SizeOf.sizeOf t=n→∀s s',cE t s=some s'→WG s s':=by
 intro n
 induction n using Nat.strongRecOn with
 |_ n ih=>
  intro t ht s s' h
  have ihk:∀(i:Nat) (a:Tn) (lv:Nat),t.kids[i]?=some a→∀s s',uD a lv s=some s'→WG s s':=fun i a lv ha s s' h=>ST (ih _ (by have:=gE ha;omega) a rfl) h
  by_cases h1:vA t.kind (sg 43)=true∨vA t.kind (sg 45)=true
  ·rw[yE h1] at h
   refine oH (fun s s' h=>?_) h
   split at h
   ·rename_i a b r e
    exact KA (fun _ h=>ihk 0 a _ (by rw[e];rfl) _ _ h) (fun _ _ h=>KA (fun _ h=>QB h) (fun _ _ h=>ihk 1 b _ (by rw[e];rfl) _ _ h) h) h
   ·cases h
  ·by_cases h2:vA t.kind (sg 42)=true
   ·rw[QH h1 h2] at h
    refine oH (fun s s' h=>?_) h
    split at h
    ·rename_i a r e
     exact KA (fun _ h=>ihk 0 a _ (by rw[e];rfl) _ _ h) (fun _ _ h=>zC h) h
    ·cases h
   ·rw[oJ h1 h2] at h
    refine oH (fun s s' h=>?_) h
    unfold ID at h
    split at h
    ·exact QB h
    ·split at h
     ·exact QB h
     ·split at h
      ·exact zC h
      ·split at h
       ·split at h
        ·exact zC h
        ·cases h
       ·split at h
        ·split at h
         ·rename_i a b r e
          exact KA (fun _ h=>zC h) (fun _ _ h=>KA (fun _ h=>ihk 0 a _ (by rw[e];rfl) _ _ h) (fun _ _ h=>KA (fun _ h=>QB h) (fun _ _ h=>KA (fun _ h=>ihk 1 b _ (by rw[e];rfl) _ _ h) (fun _ _ h=>QB h) h) h) h) h
         ·cases h
        ·cases h
theorem JK{t:Tn}{lv:Nat}{s s':WS}(h:uD t lv s=some s'):WG s s':=ST (vV _ t rfl) h
theorem yS:∀(n:Nat) (t:Tn),SizeOf.sizeOf t=n→∀s s',XB t s=some s'→WG s s':=by
 intro n
 induction n using Nat.strongRecOn with
 |_ n ih=>
  intro t ht s s' h
  have ihk:∀(i:Nat) (a:Tn) (lv:Nat),t.kids[i]?=some a→∀s s',SC a lv s=some s'→WG s s':=fun i a lv ha s s' h=>PT (ih _ (by have:=gE ha;omega) a rfl) h
  by_cases h1:vA t.kind wOr=true∨vA t.kind wAnd=true
  ·rw[KD h1] at h
   refine oH (fun s s' h=>?_) h
   split at h
   ·rename_i a b r e
    exact KA (fun _ h=>ihk 0 a _ (by rw[e];rfl) _ _ h) (fun _ _ h=>KA (fun _ h=>QB h) (fun _ _ h=>ihk 1 b _ (by rw[e];rfl) _ _ h) h) h
   ·cases h
  ·by_cases h2:vA t.kind wNot=true
   ·rw[AG h1 h2] at h
    refine oH (fun s s' h=>?_) h
    split at h
    ·rename_i a r e
     exact KA (fun _ h=>QB h) (fun _ _ h=>ihk 0 a _ (by rw[e];rfl) _ _ h) h
    ·cases h
   ·by_cases h3:vA t.kind wSome=true∨vA t.kind wEvery=true
    ·rw[AF h1 h2 h3] at h
     refine oH (fun s s' h=>?_) h
     split at h
     ·rename_i a r e
      exact KA (fun _ h=>zC h) (fun _ _ h=>KA (fun _ h=>ihk 0 a _ (by rw[e];rfl) _ _ h) (fun _ _ h=>QB h) h) h
     ·cases h
    ·rw[KF h1 h2 h3] at h
     refine oH (fun s s' h=>?_) h
     split at h
     ·exact QB h
     ·unfold RG at h
      split at h
      ·split at h
       ·exact KA (fun _ h=>JK h) (fun _ _ h=>KA (fun _ h=>QB h) (fun _ _ h=>JK h) h) h
       ·cases h
      ·cases h
theorem fK{t:Tn}{lv:Nat}{s s':WS}(h:SC t lv s=some s'):WG s s':=PT (yS _ t rfl) h
theorem vF{s s':WS}{c:Prop}[Decidable c]{r:Option WS}(h:(if c then some s else r)=some s')(hr:r=some s'→WG s s'):WG s s':=by
 split at h
 ·injection h with h;rw[←h];exact WG.refl _
 ·exact hr h
theorem sK{x:SentT}{s s':WS}(h:YI x s=some s'):WG s s':=by
 unfold YI at h
 exact KA (fun _ h=>vF h fun h=>QB h) (fun _ _ h=>QB h) h
theorem MN{t:Tn}{s s':WS}(h:LN t s=some s'):WG s s':=by
 unfold LN at h
 exact vF h fun h=>KA (fun _ h=>QB h) (fun _ _ h=>fK h) h
theorem KI:∀{b:Bool} {l:List ByteArray} {s s':WS},lF b l s=some s'→WG s s'
 |_,[],s,s',h=>by
  rw[lF] at h
  injection h with h;rw[←h];exact WG.refl _
 |true,x::l,s,s',h=>by
  rw[lF] at h
  exact KA (fun _ h=>zC h) (fun _ _ h=>KI h) h
 |false,x::l,s,s',h=>by
  rw[lF] at h
  exact KA (fun _ h=>zC h) (fun _ _ h=>KI h) h
theorem bO{x:SentT}{s':WS}(h:WD x=some s'):WG ⟨[],0,0⟩ s':=by
 unfold WD at h
 refine KA (fun _ h=>zC h) (fun s s' h=>?_) h
 split at h
 ·exact KA (fun _ h=>QB h) (fun _ _ h=>fK h) h
 ·split at h
  ·unfold jG at h
   refine KA (fun _ h=>vF h fun h=>?_) (fun _ _ h=>KA (fun _ h=>QB h) (fun _ _ h=>KA (fun _ h=>sK h) (fun _ _ h=>KA (fun _ h=>MN h) (fun _ _ h=>KI h) h) h) h) h
   rw[Option.bind_eq_some_iff] at h
   obtain⟨t,_,h⟩:=h
   exact QB h
  ·split at h
   ·unfold BD at h
    refine KA (fun _ h=>QB h) (fun _ _ h=>KA (fun _ h=>JK h) (fun _ _ h=>KA (fun _ h=>MN h) (fun _ _ h=>vF h fun h=>?_) h) h) h
    rw[Option.bind_eq_some_iff] at h
    obtain⟨t,_,h⟩:=h
    exact zC h
   ·split at h
    ·unfold TG at h
     refine KA (fun _ h=>QB h) (fun _ _ h=>KA (fun _ h=>sK h) (fun s1 s2 h=>?_) h) h
     rw[Option.bind_eq_some_iff] at h
     obtain⟨u,_,h⟩:=h
     refine KA (fun _ h=>zC h) (fun _ _ h=>KA (fun _ h=>vF h fun h=>?_) (fun _ _ h=>vF h fun h=>zC h) h) h
     rw[Option.bind_eq_some_iff] at h
     obtain⟨t,_,h⟩:=h
     exact zC h
    ·cases h
theorem lT{x:SentT}{s':WS}(h:WD x=some s'):s'.z≤300:=(bO h).1 (by show 0≤300;omega)
theorem SL{x:SentT}{s:WS}(h:WD x=some s):(∀t,t∈s.ts→0<t.size)∧s.z=WH s.ts∧∃r,s.ts=x.kind::x.name::r:=by
 obtain⟨_,P,h1,h2,h3⟩:=bO h
 have h1:s.ts=P:=h1
 rw[←h1] at h2 h3
 refine⟨h3,by rw[h2];show 0+_=_;omega,?_⟩
 unfold WD at h
 rw[Option.bind_eq_some_iff] at h
 obtain⟨s1,e1,h⟩:=h
 have e2:s1.ts=[x.kind,x.name]:=by
  rw[CA,Option.bind_eq_some_iff] at e1
  obtain⟨s0,e0,e1⟩:=e1
  rw[CA,Option.bind_eq_some_iff] at e1
  obtain⟨s9,e9,e1⟩:=e1
  injection e1 with e1
  subst e1
  unfold MA at e0 e9
  split at e0
  ·cases e0
  ·injection e0 with e0
   split at e9
   ·cases e9
   ·injection e9 with e9
    rw[←e9,←e0]
    rfl
 have e3:WG s1 s:=by
  split at h
  ·exact KA (fun _ h=>QB h) (fun _ _ h=>fK h) h
  ·split at h
   ·unfold jG at h
    refine KA (fun _ h=>vF h fun h=>?_) (fun _ _ h=>KA (fun _ h=>QB h) (fun _ _ h=>KA (fun _ h=>sK h) (fun _ _ h=>KA (fun _ h=>MN h) (fun _ _ h=>KI h) h) h) h) h
    rw[Option.bind_eq_some_iff] at h
    obtain⟨t,_,h⟩:=h
    exact QB h
   ·split at h
    ·unfold BD at h
     refine KA (fun _ h=>QB h) (fun _ _ h=>KA (fun _ h=>JK h) (fun _ _ h=>KA (fun _ h=>MN h) (fun _ _ h=>vF h fun h=>?_) h) h) h
     rw[Option.bind_eq_some_iff] at h
     obtain⟨t,_,h⟩:=h
     exact zC h
    ·split at h
     ·unfold TG at h
      refine KA (fun _ h=>QB h) (fun _ _ h=>KA (fun _ h=>sK h) (fun s1 s2 h=>?_) h) h
      rw[Option.bind_eq_some_iff] at h
      obtain⟨u,_,h⟩:=h
      refine KA (fun _ h=>zC h) (fun _ _ h=>KA (fun _ h=>vF h fun h=>?_) (fun _ _ h=>vF h fun h=>zC h) h) h
      rw[Option.bind_eq_some_iff] at h
      obtain⟨t,_,h⟩:=h
      exact zC h
     ·cases h
 obtain⟨_,Q,q1,_,_⟩:=e3
 exact⟨Q,by rw[q1,e2];rfl⟩
theorem LG(q:UInt8→Bool):∀(l:List UInt8) (c:UInt8),c∈l.takeWhile q→q c=true
 | [],c,h=>by cases h
 |a::l,c,h=>by
  rw[List.takeWhile_cons] at h
  split at h
  ·rename_i ha
   rcases List.mem_cons.1 h with rfl|h
   ·exact ha
   ·exact LG q l c h
  ·cases h
theorem JG(q:UInt8→Bool):∀(l:List UInt8),l.take (l.takeWhile q).length=l.takeWhile q
 | []=>rfl
 |a::l=>by
  rw[List.takeWhile_cons]
  split
  ·rw[List.length_cons,List.take_succ_cons,JG q l]
  ·rfl
theorem FN(q:UInt8→Bool):∀(l:List UInt8) (c:UInt8) (r:List UInt8),l.drop (l.takeWhile q).length=c::r→q c=false
 | [],c,r,h=>by cases h
 |a::l,c,r,h=>by
  rw[List.takeWhile_cons] at h
  split at h
  ·rw[List.length_cons,List.drop_succ_cons] at h
   exact FN q l c r h
  ·rename_i ha
   injection h with h1 h2
   rw[←h1]
   exact Bool.eq_false_iff.2 ha
theorem rH(l:List UInt8):(⟨l.toArray⟩:ByteArray).data.toList=l:=rfl
theorem yN(l:List UInt8):(⟨l.toArray⟩:ByteArray).size=l.length:=by rw[←xA]
theorem wL{c:UInt8}(h:PB c=true):JA c=true:=by unfold JA;rw[h];simp
structure QT(l:List UInt8)(t:Tok)(z:Nat):Prop where
 z0:1≤z
 z1:z≤l.length
 tx:t.text=⟨(l.take z).toArray⟩
 w:t.kind=.w→PB (UK t.text)=true∧∀c,c∈t.text.data.toList→JA c=true
 n:t.kind=.n→∃ds tl,NumO t.text ds tl
 e:t.kind≠.e
 hd:UK t.text=l.headD 0
 mx:PB (UK t.text)=true→∀c r,l.drop z=c::r→JA c=false
theorem yL(c:UInt8)(r:List UInt8)(hc:lA c=true):∃ds tl,NumO ⟨((c::r).take (UB (c::r))).toArray⟩ ds tl:=by
 obtain⟨l,hl⟩:∃l,l=c::r:=⟨_,rfl⟩
 rw[←hl]
 have hne:l.takeWhile lA≠[]:=by rw[hl,List.takeWhile_cons,if_pos hc];simp
 unfold UB
 split
 ·rename_i hp
  generalize hd:l.drop (l.takeWhile lA).length=d at hp
  match d,hp with
  |a::b::e::d,hp=>
   rw[AB] at hp
   simp only[Bool.and_eq_true,decide_eq_true_eq] at hp
   have ha:a=46:=UInt8.toNat_inj.1 hp.1.1
   refine⟨l.takeWhile lA,[46,b,e],?_,hne,LG _ _,.inr ⟨b,e,rfl,hp.1.2,hp.2⟩⟩
   rw[rH,List.take_add,JG,hd,ha]
   rfl
 ·exact⟨l.takeWhile lA,[],by rw[rH,JG,List.append_nil],hne,LG _ _,.inl rfl⟩
theorem NM(l:List UInt8):UB l≤l.length:=by
 have h1:=(List.takeWhile_sublist lA (l:=l)).length_le
 unfold UB
 split
 ·rename_i hp
  generalize hd:l.drop (l.takeWhile lA).length=d at hp
  match d,hp with
  |a::b::c::r,hp=>
   have:=congrArg List.length hd
   simp only[List.length_drop,List.length_cons] at this
   omega
 ·exact h1
theorem jP(l:List UInt8):EA l≤l.length:=by
 unfold EA
 split
 ·rename_i h
  match l,h with
  |a::b::r,_=>simp
 ·split
  ·split<;>simp
  ·simp
theorem EI{l:List UInt8}{z:Nat}(h:1≤z):UK ⟨(l.take z).toArray⟩=l.headD 0:=by
 unfold UK
 rw[rH]
 match l,z,h with
 | [],_,_=>simp
 |a::l,z+1,_=>rfl
theorem dT(c:UInt8)(r:List UInt8)(p:Nat):QT (c::r) (VC (c::r) p) (wA (c::r)).2:=by
 by_cases h1:PB c=true
 ·have e:wA (c::r)=(.w,((c::r).takeWhile JA).length):=by show (if _ then _ else _)=_;rw[if_pos h1]
  have hz:1≤((c::r).takeWhile JA).length:=by rw[List.takeWhile_cons,if_pos (wL h1)];simp
  have hh:UK (VC (c::r) p).text=c:=by
   show UK ⟨((c::r).take (wA (c::r)).2).toArray⟩=c
   rw[e,EI hz];rfl
  refine⟨by rw[e];exact hz,by rw[e];exact(List.takeWhile_sublist _).length_le,rfl,fun _=>⟨by rw[hh];exact h1,fun d hd=>?_⟩,fun h=>?_,?_,by rw[hh];rfl,fun _ d s hd=>?_⟩
  ·have hd:d∈((c::r).take (wA (c::r)).2):=hd
   rw[e,JG] at hd
   exact LG _ _ _ hd
  ·have:(wA (c::r)).1=.n:=h
   rw[e] at this;cases this
  ·show (wA (c::r)).1≠.e
   rw[e];show TK.w≠TK.e;decide
  ·rw[e] at hd
   exact FN _ _ _ _ hd
 ·have hlo:∀z,1≤z→¬PB (UK ⟨((c::r).take z).toArray⟩)=true:=fun z hz=>by rw[EI hz];exact h1
  by_cases h2:lA c=true
  ·have e:wA (c::r)=(.n,UB (c::r)):=by show (if _ then _ else _)=_;rw[if_neg h1,if_pos h2]
   have hz:1≤UB (c::r):=by
    have:1≤((c::r).takeWhile lA).length:=by rw[List.takeWhile_cons,if_pos h2];simp
    unfold UB
    split<;>omega
   refine⟨by rw[e];exact hz,by rw[e];exact NM _,rfl,fun h=>?_,fun _=>?_,?_,?_,fun h=>?_⟩
   ·have:(wA (c::r)).1=.w:=h
    rw[e] at this;cases this
   ·show ∃ds tl,NumO ⟨((c::r).take (wA (c::r)).2).toArray⟩ ds tl
    rw[e]
    exact yL c r h2
   ·show (wA (c::r)).1≠.e
    rw[e];show TK.n≠TK.e;decide
   ·show UK ⟨((c::r).take (wA (c::r)).2).toArray⟩=_
    rw[e];exact EI hz
   ·have h:PB (UK ⟨((c::r).take (wA (c::r)).2).toArray⟩)=true:=h
    rw[e] at h
    exact absurd h (hlo _ hz)
  ·have e:wA (c::r)=if EA (c::r)=0 then (.b,1) else (.s,EA (c::r)):=by show (if _ then _ else _)=_;rw[if_neg h1,if_neg h2]
   have hz:1≤(wA (c::r)).2:=by
    rw[e]
    split
    ·exact nR _
    ·show 1≤EA (c::r);omega
   have hk:(wA (c::r)).1=.b∨(wA (c::r)).1=.s:=by
    rw[e]
    split
    ·exact .inl rfl
    ·exact .inr rfl
   refine⟨hz,?_,rfl,fun h=>?_,fun h=>?_,?_,EI hz,fun h=>absurd h (hlo _ hz)⟩
   ·rw[e]
    split
    ·simp
    ·exact jP _
   ·have h:(wA (c::r)).1=.w:=h
    rw[h] at hk;rcases hk with hk|hk<;>cases hk
   ·have h:(wA (c::r)).1=.n:=h
    rw[h] at hk;rcases hk with hk|hk<;>cases hk
   ·show (wA (c::r)).1≠.e
    rcases hk with hk|hk<;>(rw[hk];decide)
theorem rL{ap:ByteArray→ByteArray→Bool}:∀(P:List ByteArray) (p:ByteArray),(BB ap p P).length≤WH P+P.length
 | [],p=>nR _
 |x::P,p=>by
  rw[BB,List.length_append,List.length_append,xA]
  have:=rL (ap:=ap) P x
  have h1:(if p.size=0 then [] else if ap p x=true then [32] else []:List UInt8).length≤1:=by
   split
   ·simp
   ·split<;>simp
  show _≤x.size+WH P+(P.length+1)
  omega
def AV(x:SentW):SentT:=⟨x.kind,x.name,x.strength,x.positive,x.head,YH x.cond,YH x.sum,x.way,x.over,x.tn,x.tu,x.tr,x.els⟩
end Go.Proofs.YtehbinobohjadaaGreatDoor
namespace Go.Proofs.YtehbinobohjadaaGreatDoor
open Go.RowKit Go.Sort Go.Extern.Stop Go.Stop Go.Extern
theorem ZN{s:ByteArray}{f:Nat}{x:SentW}(h:EF s f=.ok x):IC s=true∧s.size≤300∧∃k n,mD (dB s) f 0 0=.ok x k n:=by
 unfold EF at h
 split at h
 ·rename_i h1
  split at h
  ·cases h
  ·rename_i h2
   rcases hq:mD (dB s) f 0 0 with _|⟨c,a⟩|⟨y,k,n⟩
   ·rw[hq] at h;cases h
   ·rw[hq] at h;cases h
   ·rw[hq] at h
    injection h with h
    exact⟨h1,by omega,k,n,by rw[h]⟩
 ·cases h
inductive SmallN:Nd→Prop
 |mk (t:Nd) (h:t.kids.length≤2) (hk:∀(i:Nat) (k:Nd),t.kids[i]?=some k→SmallN k):SmallN t
theorem wF(k w:ByteArray)(n:Nat):SmallN (.mk k w n []):=.mk _ (by show 0≤2;omega) fun i k h=>by cases h
theorem GK{a:Nd}(h:SmallN a)(k w:ByteArray)(n:Nat):SmallN (.mk k w n [a]):=.mk _ (by show 1≤2;omega) fun i k h2=>by
 match i,h2 with
 |0,h2=>injection h2 with h2;rw[←h2];exact h
 |i+1,h2=>cases h2
theorem mJ{a b:Nd}(h:SmallN a)(h':SmallN b)(k w:ByteArray)(n:Nat):SmallN (.mk k w n [a,b]):=.mk _ (by show 2≤2;omega) fun i k h2=>by
 match i,h2 with
 |0,h2=>injection h2 with h2;rw[←h2];exact h
 |1,h2=>injection h2 with h2;rw[←h2];exact h'
 |i+2,h2=>cases h2
theorem fM:∀(l:List Nd) (i:Nat),(BJ l)[i]?=(l[i]?).map YH
 | [],i=>by rw[BJ];rfl
 |x::l,0=>by rw[BJ];rfl
 |x::l,i+1=>by rw[BJ];simpa using fM l i
theorem iM:∀(l:List Nd),(BJ l).length=l.length
 | []=>by rw[BJ];rfl
 |x::l=>by rw[BJ,List.length_cons,iM l];rfl
theorem dM(x:Nd):(YH x).kids=BJ x.kids:=by cases x;rw[YH];rfl
theorem qT(x:Nd):(YH x).num=x.num:=by cases x;rw[YH];rfl
theorem NL.nt{w:World}{P:Nat→Prop}{v:Nat→Value}{t:Nd}(h:NL w P v t):SmallN t→∃ka kc,v 0=.string (YH t).kind∧v 1=.string (YH t).word∧v 2=.int .i64 (YH t).num∧v 3=.slice ka (YH t).kids.length kc∧NT w P ka kc (YH t):=by
 induction h with
 |mk v t ka kc V h0 h1 h2 h3 hk hr hc ih=>
  intro hs
  obtain⟨_,hl,hsk⟩:=hs
  have hlen:(YH t).kids.length=t.kids.length:=by rw[dM,iM]
  refine⟨ka,kc,by rw[NR];exact h0,by rw[OR];exact h1,by rw[qT];exact h2,by rw[hlen];exact h3,?_⟩
  have all:∀i,∃a c,∀k,t.kids[i]?=some k→V i 0=.string (YH k).kind∧V i 1=.string (YH k).word∧V i 2=.int .i64 (YH k).num∧V i 3=.slice a (YH k).kids.length c∧NT w P a c (YH k):=fun i=>by
   cases e:t.kids[i]? with
   |none=>exact⟨.none,0,fun k h=>by cases h⟩
   |some k=>
    obtain⟨a,c,q⟩:=ih i k e (hsk i k e)
    exact⟨a,c,fun k' h=>by injection h with h;rw[←h];exact q⟩
  let A:Nat→Option Addr:=fun i=>(all i).choose
  let C:Nat→Nat:=fun i=>(all i).choose_spec.choose
  have hAC:∀i k,t.kids[i]?=some k→V i 0=.string (YH k).kind∧V i 1=.string (YH k).word∧V i 2=.int .i64 (YH k).num∧V i 3=.slice (A i) (YH k).kids.length (C i)∧NT w P (A i) (C i) (YH k):=fun i k e=>(all i).choose_spec.choose_spec k e
  have get:∀i u,(YH t).kids[i]?=some u→∃k,t.kids[i]?=some k∧u=YH k:=fun i u e=>by
   rw[dM,fM] at e
   obtain⟨k,e1,e2⟩:=Option.map_eq_some_iff.1 e
   exact⟨k,e1,e2.symm⟩
  refine .mk _ ka kc A C (fun i u e=>?_) (fun i u e=>?_) (by omega) (by omega)
  ·obtain⟨k,e1,rfl⟩:=get i u e
   obtain⟨q0,q1,q2,q3,_⟩:=hAC i k e1
   obtain⟨b,o,e2,hp,hcl⟩:=hk i (List.getElem?_eq_some_iff.1 e1).1
   refine⟨b,o,e2,hp,fun j x hj=>?_⟩
   match j,hj with
   |0,hj=>injection hj with hj;rw[←hj,←q0];exact hcl 0 (by omega)
   |1,hj=>injection hj with hj;rw[←hj,←q1];exact hcl 1 (by omega)
   |2,hj=>injection hj with hj;rw[←hj,←q2];exact hcl 2 (by omega)
   |3,hj=>injection hj with hj;rw[←hj,←q3];exact hcl 3 (by omega)
   |j+4,hj=>cases hj
  ·obtain⟨k,e1,rfl⟩:=get i u e
   exact(hAC i k e1).2.2.2.2
theorem gO:∀(l:List ByteArray),stE.all l=l.map Value.string
 | []=>rfl
 |x::l=>by
  rw[Enc.all_cons,gO l]
  rfl
theorem SentC.st{B:Nat}{s:SentW}{cs:Array Value}{w:World}(h:SentC B s cs w)(hc:SmallN s.cond)(hs:SmallN s.sum)(ho:s.over.length≤100000000):∃ca sa cc sc oa oc,STc w (·<w.heap.size) (AV s) ca sa cc sc oa oc cs∧(oa=none→oc=0):=by
 obtain⟨v,hv,hn⟩:=h.nc
 obtain⟨u,hu,hm⟩:=h.ns
 obtain⟨ov,B2,e14,hB,hrow⟩:=h.ov
 have P1:∀b,b<w.heap.size→(fun b=>B≤b) b→w.heap[b]?=w.heap[b]?∧(fun b=>b<w.heap.size) b:=fun b hb _=>⟨rfl,hb⟩
 obtain⟨ca,cc,v0,v1,v2,v3,hnt⟩:=(hn.step P1).nt hc
 obtain⟨sa,sc,u0,u1,u2,u3,hmt⟩:=(hm.step P1).nt hs
 have hrg:RowG stE 9 w B2 ov s.over:=⟨by rw[gO];exact hrow,ho⟩
 obtain⟨oa,oc,eov⟩:=hrg.any
 have hrd:=hrg.rdS
 rw[eov] at hrd e14
 have hno:oa=none→oc=0:=fun e=>by
  rcases hrg.row.2 with ⟨e1,_⟩|⟨g,cap,cur,e1,_⟩
  ·rw[eov] at e1
   injection e1 with _ _ e3
  ·rw[eov,e] at e1
   injection e1 with e2 _ _
   cases e2
 refine⟨ca,sa,cc,sc,oa,oc,⟨?_,hnt,hmt,hrd.mono fun k hk=>hk.2.1⟩,hno⟩
 apply Array.ext_getElem?
 intro i
 have hz:=h.size
 by_cases hi:i<19
 ·have c5:=hv 0 (by omega)
  have c6:=hv 1 (by omega)
  have c7:=hv 2 (by omega)
  have c8:=hv 3 (by omega)
  have c9:=hu 0 (by omega)
  have c10:=hu 1 (by omega)
  have c11:=hu 2 (by omega)
  have c12:=hu 3 (by omega)
  rw[v0] at c5
  rw[v1] at c6
  rw[v2] at c7
  rw[v3] at c8
  rw[u0] at c9
  rw[u1] at c10
  rw[u2] at c11
  rw[u3] at c12
  match i,hi with
  |i+19,hi=>exact absurd hi (by omega)
  |0,_=>exact h.c0
  |1,_=>exact h.c1
  |2,_=>exact h.c2
  |3,_=>exact h.c3
  |4,_=>exact h.c4
  |5,_=>exact c5
  |6,_=>exact c6
  |7,_=>exact c7
  |8,_=>exact c8
  |9,_=>exact c9
  |10,_=>exact c10
  |11,_=>exact c11
  |12,_=>exact c12
  |13,_=>exact h.c13
  |14,_=>exact e14
  |15,_=>exact h.c15
  |16,_=>exact h.c16
  |17,_=>exact h.c17
  |18,_=>exact h.c18
 ·rw[Array.getElem?_eq_none (by omega),Array.getElem?_eq_none (by show 19≤i;omega)]
end Go.Proofs.YtehbinobohjadaaGreatDoor
namespace Go.Proofs.YtehbinobohjadaaGreatDoor
open Go.RowKit Go.Extern.Stop Go.Stop Go.Extern
set_option linter.unusedSectionVars false
variable [Inhabited TP]
theorem PO(c:UInt8)(r:List UInt8)(hc:lA c=true):∃tl,NumO ⟨((c::r).take (UB (c::r))).toArray⟩ ((c::r).takeWhile lA) tl:=by
 obtain⟨l,hl⟩:∃l,l=c::r:=⟨_,rfl⟩
 rw[←hl]
 have hne:l.takeWhile lA≠[]:=by rw[hl,List.takeWhile_cons,if_pos hc];simp
 unfold UB
 split
 ·rename_i hp
  generalize hd:l.drop (l.takeWhile lA).length=d at hp
  match d,hp with
  |a::b::e::d,hp=>
   rw[AB] at hp
   simp only[Bool.and_eq_true,decide_eq_true_eq] at hp
   have ha:a=46:=UInt8.toNat_inj.1 hp.1.1
   refine⟨[46,b,e],?_,hne,LG _ _,.inr ⟨b,e,rfl,hp.1.2,hp.2⟩⟩
   rw[rH,List.take_add,JG,hd,ha]
   rfl
 ·exact⟨[],by rw[rH,JG,List.append_nil],hne,LG _ _,.inl rfl⟩
theorem dW(c:UInt8)(r:List UInt8)(hb:(wA (c::r)).1≠.b)(hw:(wA (c::r)).1=.w→(wA (c::r)).2≤24)(hn:(wA (c::r)).1=.n→((c::r).takeWhile lA).length≤12):OB c r=((wA (c::r)).1,0,(wA (c::r)).2):=by
 rw[PC] at hb hw hn ⊢
 unfold OB
 by_cases h1:PB c=true
 ·rw[if_pos h1] at hb hw hn ⊢
  have e:((c::r).takeWhile JA).length=1+(r.takeWhile JA).length:=by
   rw[List.takeWhile_cons,if_pos (wL h1),List.length_cons];omega
  have hw:=hw rfl
  rw[e] at hw ⊢
  rw[if_pos h1]
  show (if 24<1+(r.takeWhile JA).length then _ else _)=_
  have hw:1+(r.takeWhile JA).length≤24:=hw
  rw[if_neg (by omega)]
 ·rw[if_neg h1] at hb hw hn ⊢
  by_cases h2:lA c=true
  ·rw[if_pos h2] at hb hw hn ⊢
   have e:((c::r).takeWhile lA).length=1+(r.takeWhile lA).length:=by
    rw[List.takeWhile_cons,if_pos h2,List.length_cons];omega
   have hn:=hn rfl
   have ez:UB (c::r)=if AB (r.drop (1+(r.takeWhile lA).length - 1))=true then 1+(r.takeWhile lA).length+3 else 1+(r.takeWhile lA).length:=by
    unfold UB
    rw[e,show 1+(r.takeWhile lA).length - 1=(r.takeWhile lA).length by omega,show 1+(r.takeWhile lA).length=(r.takeWhile lA).length+1 by omega,List.drop_succ_cons]
   rw[ez,if_neg h1,if_pos h2]
   rw[e] at hn
   show (if 12<1+(r.takeWhile lA).length then _ else _)=_
   rw[if_neg (by omega)]
  ·rw[if_neg h2] at hb hw hn ⊢
   rw[if_neg h1,if_neg h2]
   unfold EA at hb hw hn ⊢
   by_cases h3:cG (c::r)=true
   ·rw[if_pos h3,if_pos h3];rfl
   ·rw[if_neg h3] at hb hw hn ⊢
    rw[if_neg h3]
    by_cases h4:signsL.contains c=true
    ·rw[if_pos h4]
     show _=((if (if signsL.contains c=true then 1 else 0)=0 then (TK.b,1) else (TK.s,if signsL.contains c=true then 1 else 0)).1,0,_)
     simp only[h4,if_true]
     rfl
    ·exfalso
     apply hb
     have h5:signsL.contains c=false:=by simpa using h4
     show (if (if signsL.contains c=true then 1 else 0)=0 then (TK.b,1) else (TK.s,if signsL.contains c=true then 1 else 0)).1=_
     simp only[h5,Bool.false_eq_true,if_false,if_true]
theorem jN(g:Nat)(r:List UInt8)(p:Nat):pD (g+1) (32::r) p=pD (g+1) r (p+1):=by
 rw[pD,pD]
 have e:((32::r).takeWhile (·==32)).length=(r.takeWhile (·==32)).length+1:=by
  rw[List.takeWhile_cons,if_pos (by rfl),List.length_cons]
 simp only[e,List.drop_succ_cons,show p+((r.takeWhile (·==32)).length+1)=p+1+(r.takeWhile (·==32)).length by omega]
theorem lN:∀(f g:Nat) (l:List UInt8) (p:Nat),l.length<f→l.length<g→(∀t,t∈DB f l p→t.kind≠.b∧(t.kind=.w→t.text.size≤24)∧(t.kind=.n→BE t.text≤12))→pD g l p=DB f l p
 |0,g,l,p,h,_,_=>by omega
 |f+1,0,l,p,_,h,_=>by omega
 |f+1,g+1,[],p,_,_,_=>rfl
 |f+1,g+1,c::r,p,hf,hg,ht=>by
  rw[DB] at ht ⊢
  simp only[List.length_cons] at hf hg
  by_cases h32:c=32
  ·rw[if_pos h32] at ht ⊢
   rw[h32,jN]
   exact lN f (g+1) r (p+1) (by omega) (by omega) ht
  ·rw[if_neg h32] at ht ⊢
   have hq:=dT c r p
   have h0:=ht _ (List.mem_cons_self ..)
   have hk:(VC (c::r) p).kind=(wA (c::r)).1:=rfl
   have hz:(VC (c::r) p).text.size=(wA (c::r)).2:=by
    rw[hq.tx,yN,List.length_take]
    have:=hq.z1
    omega
   have e:=dW c r (fun e=>h0.1 (hk.trans e)) (fun e=>by rw[←hz];exact h0.2.1 (hk.trans e)) (fun e=>by
    have hn:=h0.2.2 (hk.trans e)
    have hc:lA c=true:=by
     rw[PC] at e
     by_cases h1:PB c=true
     ·rw[if_pos h1] at e;cases e
     ·rw[if_neg h1] at e
      by_cases h2:lA c=true
      ·exact h2
      ·rw[if_neg h2] at e
       split at e<;>cases e
    obtain⟨tl,hN⟩:=PO c r hc
    have e2:(wA (c::r)).2=UB (c::r):=by
     rw[PC] at e ⊢
     by_cases h1:PB c=true
     ·rw[if_pos h1] at e;cases e
     ·rw[if_neg h1,if_pos hc]
    rw[hq.tx,e2,mS hN] at hn
    exact hn)
   rw[pD]
   have eb:(c::r).takeWhile (·==32)=[]:=by
    rw[List.takeWhile_cons,if_neg (by simpa using h32)]
   simp only[eb,List.length_nil,List.drop_zero,Nat.add_zero]
   rw[e]
   have hl:((c::r).drop (wA (c::r)).2).length<f∧((c::r).drop (wA (c::r)).2).length<g:=by
    have:=hq.z0
    rw[List.length_drop,List.length_cons]
    omega
   rw[lN f g _ _ hl.1 hl.2 fun t h=>ht t (List.mem_cons_of_mem _ h)]
   rfl
theorem sL{K:ByteArray}(h:K=wDefine∨K=wRule∨K=wAmount∨K=wDuty):(∀c,c∈K.data.toList→c≠32)∧0<K.size∧PB (UK K)=true:=by
 rcases h with rfl|rfl|rfl|rfl<;>decide
end Go.Proofs.YtehbinobohjadaaGreatDoor
namespace Go.Proofs.YtehbinobohjadaaGreatDoor
open Go.RowKit Go.Extern.Stop Go.Stop Go.Extern
theorem CH{K:ByteArray}{l:List UInt8}{A:ByteArray}(h:K=A)(hn:(A.data.toList==l)=false):(K.toList==l)=false:=by rw[h,Lib.toList_data];exact hn
theorem JM{K:ByteArray}{l:List UInt8}{A:ByteArray}(h:K=A)(hn:(A.data.toList==l)=true):(K.toList==l)=true:=by rw[h,Lib.toList_data];exact hn
theorem NIn.nl{w0 w:World}{sp:Nat}{v:Nat→Value}{x:Nd}(h:NIn w0 w sp v x):NL w (fun b=>w0.heap.size≤b) v x:=h.step fun _ _ h2=>⟨rfl,h2.1⟩
theorem iG{cs:Array Value}{o:Nat}{a b c d:Value}(h0:cs[o]?=some a)(h1:cs[o+1]?=some b)(h2:cs[o+2]?=some c)(h3:cs[o+3]?=some d):∀i,i<4→cs[o+i]?=some (nv a b c d i):=fun i hi=>by
 rcases (show i=0∨i=1∨i=2∨i=3 by omega) with rfl|rfl|rfl|rfl
 ·exact h0
 ·exact h1
 ·exact h2
 ·exact h3
theorem QG(w:World)(P:Nat→Prop):NL w P (nv (.string ⟨#[]⟩) (.string ⟨#[]⟩) (.int .i64 0) (.slice none 0 0)) Nd.zero:=NL.leaf _ _ ⟨#[]⟩ ⟨#[]⟩ 0
set_option maxRecDepth 10000 in
theorem WP{L:List Tok}{bp tb cp f:Nat}{w:World}{k n k' n':Nat}{K:ByteArray}{x:SentW}(hK:K=wDefine)(h:POk L bp tb cp w k n)(hA:OD L bp tb cp 66 (zA L f))(he:FF L f K k n=.ok x k' n'):
 Calls Tryz.prog 31 #[.pointer (some ⟨bp,0,none⟩),.string K] w fun e w'=>XK L bp tb cp w x k' n' e w':=by
 have twRule:(K.toList==[114,117,108,101])=false:=CH hK (by decide)
 have twDefine:(K.toList==[100,101,102,105,110,101])=true:=JM hK (by decide)
 have twAmount:(K.toList==[97,109,111,117,110,116])=false:=CH hK (by decide)
 have iwRule:¬vA K wRule=true:=by unfold vA;rw[Lib.toList_data wRule];show ¬(K.toList==[114,117,108,101])=true;rw[twRule];simp
 have iwDefine:vA K wDefine=true:=by unfold vA;rw[Lib.toList_data wDefine];exact twDefine
 have iwAmount:¬vA K wAmount=true:=by unfold vA;rw[Lib.toList_data wAmount];show ¬(K.toList==[97,109,111,117,110,116])=true;rw[twAmount];simp
 unfold FF at he
 obtain⟨nm,k1,n1,e1,he⟩:=PR.bind_okE he
 rw[if_neg iwRule,PR.bind_ok] at he
 obtain⟨_,k2,n2,e2,he⟩:=PR.bind_okE he
 rw[if_pos iwDefine] at he
 obtain⟨y,k3,n3,e3,he⟩:=PR.bind_okE he
 injection he with he ek en
 subst he ek en
 have HS0:=aA (RSt.start h K)
 have hbl:=h.s.in
 have HNm:=aA (SF HS0.out.p e1)
 have HE:=aA (aI e2 e3)
 have HAr:=aA hA
 clear e1 e2 e3 h hA hK iwRule iwDefine iwAmount
 go_enter Tryz.func31,Tryz.ntmps31
 go_upto_region 2 with (refine qE rfl _ rfl K (by simp[Act.eval]) ?_)
 obtain⟨W1,hW1⟩:∃W1,W1=w.alloc (.cells (tB K) 47):=⟨_,rfl⟩
 rw[←hW1] at HS0 HNm ⊢
 have hs1:w.heap.size<W1.heap.size:=by rw[hW1];simp
 clear hW1
 go_upto_region 3 with (go_at_call 63;refine HNm.out.mono ?_;rintro e W1a ⟨rfl,hp,hb⟩;have hs2:=HS0.out.call hp hb;obtain⟨c1,x1⟩:=hs2.cell (i:=1) (by omega);have xf:=hs2.froz;have hz1:=hb.size;have G1:=aA (aI hs2 hb);clear hp hb hs2)
 obtain⟨W1,hW⟩:∃V,V=W1a.setCell ⟨w.heap.size,1,none⟩ (.string nm):=⟨_,rfl⟩
 rw[←hW]
 have H1:Hid (RSt L bp tb cp w.heap.size w W1 k1 n1 ((tB K).setIfInBounds 1 (.string nm))):=by show RSt _ _ _ _ _ _ _ _ _ _;rw[hW];exact G1.out.1.set 1 _
 clear hW x1 xf G1 HS0
 have HNd:=aA (dH (s:=⟨#[58]⟩) H1.out.p HE.out.1)
 go_upto_region 13 with (go_at_call 65;refine HNd.out.mono ?_;rintro e W2 ⟨rfl,hp,hb⟩;have hz2:=hb.size;have H2:=aA (H1.out.call hp hb);have G2:=aA hb;clear hp hb)
 clear G2 H1
 have HR3:=aA (UM HAr.out H2.out.p HE.out.2)
 go_upto_region 14 with (go_at_call 66;refine HR3.out.mono ?_;rintro e W3a ⟨s30,s31,s32,a3,m3,q3,rfl,hp,hN,hb⟩;have hs2:=H2.out.call hp hb;obtain⟨c0,x0⟩:=hs2.cell (i:=5) (by omega);obtain⟨c1,x1⟩:=hs2.cell (i:=6) (by omega);obtain⟨c2,x2⟩:=hs2.cell (i:=7) (by omega);obtain⟨c3,x3⟩:=hs2.cell (i:=8) (by omega);have xf:=hs2.froz;have hz3:=hb.size;have G3:=aA (aI hs2 (aI hN hb));clear hp hb hN hs2)
 obtain⟨W3,hW⟩:∃V,V=((((W3a).setCell ⟨w.heap.size,5,none⟩ (.string s30)).setCell ⟨w.heap.size,6,none⟩ (.string s31)).setCell ⟨w.heap.size,7,none⟩ (.int .i64 s32)).setCell ⟨w.heap.size,8,none⟩ (.slice a3 m3 q3):=⟨_,rfl⟩
 rw[←hW]
 have H3:Hid (RSt L bp tb cp w.heap.size w W3 k3 n3 (uA ((tB K).setIfInBounds 1 (.string nm)) 5 (.string s30) (.string s31) (.int .i64 s32) (.slice a3 m3 q3))):=by show RSt _ _ _ _ _ _ _ _ _ _;rw[hW];exact(((G3.out.1.set 5 _).set 6 _).set 7 _).set 8 _
 have hin3:=H2.out.in
 have hlo3:=H2.out.b.size
 have N3:Hid (NIn w W3 w.heap.size (nv (.string s30) (.string s31) (.int .i64 s32) (.slice a3 m3 q3)) y):=by
  show NIn _ _ _ _ _
  rw[hW]
  exact((((show NIn w W3a w.heap.size _ _ from G3.out.2.1.step fun b _ hp=>⟨rfl,by omega,by omega⟩).set 5 _).set 6 _).set 7 _).set 8 _
 clear hW x0 x1 x2 x3 xf G3 HR3 H2
 go_wp2
 go_ret
 refine⟨w.heap.size,_,rfl,H3.out,?_⟩
 exact⟨H3.out.z,by simp[uA,tB],by simp[uA,tB],by simp[uA,tB],by simp[uA,tB],by simp[uA,tB],⟨_,iG (by simp[uA,tB]) (by simp[uA,tB]) (by simp[uA,tB]) (by simp[uA,tB]),N3.out.nl⟩,⟨_,iG (by simp[uA,tB]) (by simp[uA,tB]) (by simp[uA,tB]) (by simp[uA,tB]),QG _ _⟩,by simp[uA,tB],⟨.slice none 0 0,w.heap.size,by simp[uA,tB],nR _,⟨rfl,.inl ⟨rfl,rfl⟩⟩⟩,by simp[uA,tB],by simp[uA,tB],by simp[uA,tB],by simp[uA,tB]⟩
set_option maxRecDepth 10000 in
theorem MU{L:List Tok}{bp tb cp f:Nat}{w:World}{k n k' n':Nat}{K:ByteArray}{x:SentW}(hK:K=wDuty)(h:POk L bp tb cp w k n)(g:GoodL L)(hL:∀(i:Nat) (t:Tok),L[i]?=some t→t.kind=TK.n→gG t.text)(he:FF L f K k n=.ok x k' n'):
 Calls Tryz.prog 31 #[.pointer (some ⟨bp,0,none⟩),.string K] w fun e w'=>XK L bp tb cp w x k' n' e w':=by
 have twRule:(K.toList==[114,117,108,101])=false:=CH hK (by decide)
 have twDefine:(K.toList==[100,101,102,105,110,101])=false:=CH hK (by decide)
 have twAmount:(K.toList==[97,109,111,117,110,116])=false:=CH hK (by decide)
 have iwRule:¬vA K wRule=true:=by unfold vA;rw[Lib.toList_data wRule];show ¬(K.toList==[114,117,108,101])=true;rw[twRule];simp
 have iwDefine:¬vA K wDefine=true:=by unfold vA;rw[Lib.toList_data wDefine];show ¬(K.toList==[100,101,102,105,110,101])=true;rw[twDefine];simp
 have iwAmount:¬vA K wAmount=true:=by unfold vA;rw[Lib.toList_data wAmount];show ¬(K.toList==[97,109,111,117,110,116])=true;rw[twAmount];simp
 unfold FF at he
 obtain⟨nm,k1,n1,e1,he⟩:=PR.bind_okE he
 rw[if_neg iwRule,PR.bind_ok] at he
 obtain⟨_,k2,n2,e2,he⟩:=PR.bind_okE he
 rw[if_neg iwDefine,if_neg iwAmount] at he
 obtain⟨lt,k4,n4,eL,he⟩:=PR.bind_okE he
 unfold MO at eL
 obtain⟨nb,k3,n3,e3,eM⟩:=PR.bind_okE eL
 obtain⟨hd,k5,n5,e4,eN⟩:=PR.bind_okE eM
 injection eN with eN ek en
 subst eN ek en
 clear eL eM
 rw[if_neg iwRule] at he
 obtain⟨_,k6,n6,e5,he⟩:=PR.bind_okE he
 obtain⟨⟨tn,tu,tr⟩,k7,n7,e6,he⟩:=PR.bind_okE he
 obtain⟨b,k8,n8,e7,he⟩:=PR.bind_okE he
 have HS0:=aA (RSt.start h K)
 have hbl:=h.s.in
 have HNm:=aA (SF HS0.out.p e1)
 have HE:=aA (aI e2 (aI e3 (aI e4 (aI e5 (aI e6 (aI e7 he))))))
 have HG:=aA (aI g hL)
 clear e1 e2 e3 e4 e5 e6 e7 he h g hL hK iwRule iwDefine iwAmount
 go_enter Tryz.func31,Tryz.ntmps31
 go_upto_region 2 with (refine qE rfl _ rfl K (by simp[Act.eval]) ?_)
 obtain⟨W1,hW1⟩:∃W1,W1=w.alloc (.cells (tB K) 47):=⟨_,rfl⟩
 rw[←hW1] at HS0 HNm ⊢
 have hs1:w.heap.size<W1.heap.size:=by rw[hW1];simp
 clear hW1
 go_upto_region 3 with (go_at_call 63;refine HNm.out.mono ?_;rintro e W1a ⟨rfl,hp,hb⟩;have hs2:=HS0.out.call hp hb;obtain⟨c1,x1⟩:=hs2.cell (i:=1) (by omega);have xf:=hs2.froz;have hz1:=hb.size;have G1:=aA (aI hs2 hb);clear hp hb hs2)
 obtain⟨W1,hW⟩:∃V,V=W1a.setCell ⟨w.heap.size,1,none⟩ (.string nm):=⟨_,rfl⟩
 rw[←hW]
 have H1:Hid (RSt L bp tb cp w.heap.size w W1 k1 n1 ((tB K).setIfInBounds 1 (.string nm))):=by show RSt _ _ _ _ _ _ _ _ _ _;rw[hW];exact G1.out.1.set 1 _
 clear hW x1 xf G1 HS0
 have HNd:=aA (dH (s:=⟨#[58]⟩) H1.out.p HE.out.1)
 go_upto_region 23 with (go_at_call 65;refine HNd.out.mono ?_;rintro e W2 ⟨rfl,hp,hb⟩;have hz2:=hb.size;have H2:=aA (H1.out.call hp hb);have G2:=aA hb;clear hp hb)
 clear G2 H1
 have HTk:=aA (xF (s:=⟨#[110,111,116]⟩) H2.out.p HE.out.2.1)
 go_upto_region 24 with (go_at_call 64;refine HTk.out.mono ?_;rintro e W3 ⟨rfl,hp,hb⟩;have hz3:=hb.size;have H3:=aA (H2.out.call hp hb);have G3:=aA hb;clear hp hb)
 clear G3 H2
 obtain⟨c1,x1⟩:=H3.out.cell (i:=3) (by omega)
 have xf:=H3.out.froz
 go_upto_region 25 with fail
 obtain⟨W4,hW⟩:∃V,V=W3.setCell ⟨w.heap.size,3,none⟩ (.bool (!nb)):=⟨_,rfl⟩
 rw[←hW]
 have H4:Hid (RSt L bp tb cp w.heap.size w W4 k3 n3 (((tB K).setIfInBounds 1 (.string nm)).setIfInBounds 3 (.bool (!nb)))):=by show RSt _ _ _ _ _ _ _ _ _ _;rw[hW];exact H3.out.set 3 _
 clear hW x1 xf H3
 have HNh:=aA (SF H4.out.p HE.out.2.2.1)
 go_upto_region 26 with (go_at_call 63;refine HNh.out.mono ?_;rintro e W5a ⟨rfl,hp,hb⟩;have hs2:=H4.out.call hp hb;obtain⟨c1,x1⟩:=hs2.cell (i:=4) (by omega);have xf:=hs2.froz;have hz5:=hb.size;have G5:=aA (aI hs2 hb);clear hp hb hs2)
 obtain⟨W5,hW⟩:∃V,V=W5a.setCell ⟨w.heap.size,4,none⟩ (.string hd):=⟨_,rfl⟩
 rw[←hW]
 have H5:Hid (RSt L bp tb cp w.heap.size w W5 k5 n5 ((((tB K).setIfInBounds 1 (.string nm)).setIfInBounds 3 (.bool (!nb))).setIfInBounds 4 (.string hd))):=by show RSt _ _ _ _ _ _ _ _ _ _;rw[hW];exact G5.out.1.set 4 _
 clear hW x1 xf G5 H4
 have HNw:=aA (dH (s:=⟨#[119,105,116,104,105,110]⟩) H5.out.p HE.out.2.2.2.1)
 go_upto_region 37 with (go_at_call 65;refine HNw.out.mono ?_;rintro e W6 ⟨rfl,hp,hb⟩;have hz6:=hb.size;have H6:=aA (H5.out.call hp hb);have G6:=aA hb;clear hp hb)
 clear G6 H5
 have HTm:=aA (yV H6.out.p HG.out.1 HG.out.2 HE.out.2.2.2.2.1)
 go_upto_region 38 with (go_at_call 70;refine HTm.out.mono ?_;rintro e W7a ⟨rfl,hp,hb⟩;have hs2:=H6.out.call hp hb;obtain⟨c0,x0⟩:=hs2.cell (i:=15) (by omega);obtain⟨c1,x1⟩:=hs2.cell (i:=16) (by omega);obtain⟨c2,x2⟩:=hs2.cell (i:=17) (by omega);have xf:=hs2.froz;have G7:=aA hs2;clear hp hb hs2)
 obtain⟨W7,hW⟩:∃V,V=(((W7a).setCell ⟨w.heap.size,15,none⟩ (.int .i64 tn)).setCell ⟨w.heap.size,16,none⟩ (.int .i64 tu)).setCell ⟨w.heap.size,17,none⟩ (.int .i64 tr):=⟨_,rfl⟩
 rw[←hW]
 have H7:Hid (RSt L bp tb cp w.heap.size w W7 k7 n7 ((((((((tB K).setIfInBounds 1 (.string nm)).setIfInBounds 3 (.bool (!nb))).setIfInBounds 4 (.string hd)).setIfInBounds 15 (.int .i64 tn)).setIfInBounds 16 (.int .i64 tu)).setIfInBounds 17 (.int .i64 tr)))):=by show RSt _ _ _ _ _ _ _ _ _ _;rw[hW];exact((G7.out.set 15 _).set 16 _).set 17 _
 clear hW x0 x1 x2 xf G7 HTm H6
 have HTe:=aA (xF (s:=⟨#[101,108,115,101]⟩) H7.out.p HE.out.2.2.2.2.2.1)
 go_upto_region 39 with (go_at_call 64;refine HTe.out.mono ?_;rintro e W8 ⟨rfl,hp,hb⟩;have hz8:=hb.size;have H8:=aA (H7.out.call hp hb);have G8:=aA hb;clear hp hb)
 clear G8 H7
 have HFi:=aA HE.out.2.2.2.2.2.2
 clear HE
 cases b with
 |false=>
  rw[if_neg (by simp)] at HFi
  have h9:=HFi.out
  injection h9 with he ek en
  subst he ek en
  clear HFi
  go_wp2
  go_ret
  refine⟨w.heap.size,_,rfl,H8.out,?_⟩
  exact⟨H8.out.z,by simp[tB],by simp[tB],by simp[tB],by simp[tB],by simp[tB],⟨_,iG (by simp[tB]) (by simp[tB]) (by simp[tB]) (by simp[tB]),QG _ _⟩,⟨_,iG (by simp[tB]) (by simp[tB]) (by simp[tB]) (by simp[tB]),QG _ _⟩,by simp[tB],⟨.slice none 0 0,w.heap.size,by simp[tB],nR _,⟨rfl,.inl ⟨rfl,rfl⟩⟩⟩,by simp[tB],by simp[tB],by simp[tB],by simp[tB]⟩
 |true=>
  rw[if_pos rfl] at HFi
  obtain⟨el,k9,n9,e8,he⟩:=PR.bind_okE HFi.out
  injection he with he ek en
  subst he ek en
  have HNe:=aA (SF H8.out.p e8)
  clear HFi e8
  go_upto_region 41 with (go_at_call 63;refine HNe.out.mono ?_;rintro e W9a ⟨rfl,hp,hb⟩;have hs2:=H8.out.call hp hb;obtain⟨c1,x1⟩:=hs2.cell (i:=18) (by omega);have xf:=hs2.froz;have hz9:=hb.size;have G9:=aA (aI hs2 hb);clear hp hb hs2)
  obtain⟨W9,hW⟩:∃V,V=W9a.setCell ⟨w.heap.size,18,none⟩ (.string el):=⟨_,rfl⟩
  rw[←hW]
  have H9:Hid (RSt L bp tb cp w.heap.size w W9 k9 n9 (((((((((tB K).setIfInBounds 1 (.string nm)).setIfInBounds 3 (.bool (!nb))).setIfInBounds 4 (.string hd)).setIfInBounds 15 (.int .i64 tn)).setIfInBounds 16 (.int .i64 tu)).setIfInBounds 17 (.int .i64 tr))).setIfInBounds 18 (.string el))):=by show RSt _ _ _ _ _ _ _ _ _ _;rw[hW];exact G9.out.1.set 18 _
  clear hW x1 xf G9 H8
  go_wp2
  go_ret
  refine⟨w.heap.size,_,rfl,H9.out,?_⟩
  exact⟨H9.out.z,by simp[tB],by simp[tB],by simp[tB],by simp[tB],by simp[tB],⟨_,iG (by simp[tB]) (by simp[tB]) (by simp[tB]) (by simp[tB]),QG _ _⟩,⟨_,iG (by simp[tB]) (by simp[tB]) (by simp[tB]) (by simp[tB]),QG _ _⟩,by simp[tB],⟨.slice none 0 0,w.heap.size,by simp[tB],nR _,⟨rfl,.inl ⟨rfl,rfl⟩⟩⟩,by simp[tB],by simp[tB],by simp[tB],by simp[tB]⟩
end Go.Proofs.YtehbinobohjadaaGreatDoor

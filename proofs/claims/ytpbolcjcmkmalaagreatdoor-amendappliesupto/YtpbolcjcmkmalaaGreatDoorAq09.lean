import Derived.Test.YtpbolcjcmkmalaaGreatDoorAq00
import Derived.Test.YtpbolcjcmkmalaaGreatDoorAq08
import Derived.Test.YtpbolcjcmkmalaaGreatDoorAq04
import Derived.Test.YtpbolcjcmkmalaaGreatDoorAq03
import Derived.Test.YtpbolcjcmkmalaaGreatDoorAq06
import Derived.Test.YtpbolcjcmkmalaaGreatDoorAq01
import Derived.Deep.LoopGhost
import Derived.LaidEqlPtr
import Derived.Deep.Quiet
import Derived.Deep.WholeRow
import Derived.Maps.OwnSet
import Derived.ChangeKeysEq
import Derived.Test.YtpbolcjcmkmalaaGreatDoorProg
import Derived.WalkKit
import Derived.Below
import Derived.Outline
import Derived.Laws.OwnMore
import Derived.OneCell
import Derived.Deep.OwnRows
import Derived.Deep.MidRow
import Derived.Maps.AppendAt
import Derived.Deep.QuietTactic
import Derived.BigQuiet
import Derived.Deep.RegionLaw
import Derived.Deep.RegionWith
import Derived.Deep.DeepCutAuto
set_option maxHeartbeats 20000000
set_option maxRecDepth 20000
namespace Go.Proofs.YtpbolcjcmkmalaaGreatDoor
open Go.RowKit Go.Extern.Stop Go.Stop Go.Extern
def UC(t:It):Prop:=Rgt 0 t∧WA t≤300
theorem law_iff{t:It}:UC t↔∃m,vIt 0 0 [] t=.ok m:=valid_iff.symm
theorem FF{t x y:It}{p:List ByteArray}(h:UC t)(hx:eA t p=some x)(hy:Rgt (0+p.length) y)(hl:y.label=x.label)(hc:WA y≤WA x):UC (sA (fun _=>y) p t):=by
 refine⟨KJ p 0 t x y h.1 hx hy hl,?_⟩
 have:=QF p t x y hx
 have:=h.2
 omega
theorem gH{t u:It}{o:OpW}(h:UC t)(e:oneC t o=.ok u):UC u:=by
 unfold oneC at e
 split at e
 ·split at e
  ·cases e
  ·rename_i x hx
   split at e
   ·cases e
   ·rename_i y hy
    injection e with e
    subst e
    have hxr:=qB _ 0 t x h.1 hx
    obtain⟨h1,h2,h3⟩:=zM hxr.rg hy
    refine FF h hx (h1.rgt _ ?_ ?_) h2 ?_
    ·rw[h2];exact hxr.is.1.2.2.1
    ·have:=hxr.deep
     rw[DC] at this ⊢
     rw[h3]
     exact this
    ·rw[RA,RA x,h3]
     exact nR _
 ·split at e
  ·unfold putC at e
   split at e
   ·cases e
   ·split at e
    ·cases e
    ·split at e
     ·cases e
     ·split at e
      ·cases e
      ·rename_i m hv
       injection e with e
       subst e
       exact law_iff.2 ⟨m,hv⟩
  ·split at e
   ·unfold SB at e
    split at e
    ·cases e
    ·rename_i x i hx
     obtain⟨p0,l,k,hp,h1,h2,h3,h4⟩:=yC hx
     injection e with e
     rw[hp,List.dropLast_concat] at e
     subst e
     refine FF h h1 (vG (qB _ 0 t x h.1 h1) i) rfl ?_
     rw[RA,RA x]
     have:=BC x.kids i k h3
     show TA (x.kids.eraseIdx i)≤_
     omega
   ·split at e
    ·unfold labelC at e
     split at e
     ·cases e
     ·rename_i x i hx
      obtain⟨p0,l,k,hp,h1,h2,h3,h4⟩:=yC hx
      split at e
      ·cases e
      ·rename_i hc
       injection e with e
       rw[hp,List.dropLast_concat,h3] at e
       have h5:(some k).getD It.none=k:=rfl
       rw[h5] at e
       subst e
       have hs:isLab o.text=true:=by
        cases hb:isLab o.text
        ·exact absurd (.inl hb) hc
        ·rfl
       have hxr:=qB _ 0 t x h.1 h1
       refine FF h h1 (TK hxr h3 hs fun j y hy hj=>?_) rfl ?_
       ·cases hb:(y.label.toList==o.text.toList)
        ·rfl
        ·refine absurd (.inr ?_) hc
         have hyl:=same_bytes.1 hb
         obtain⟨j',hj'⟩:=idxL_mem.2 (hyl▸List.mem_map.2 ⟨y,List.mem_of_getElem? hy,rfl⟩:o.text∈xA x.kids)
         refine⟨j',by rw[vC];exact hj',fun e2=>hj ?_⟩
         subst e2
         obtain⟨hjl,e3⟩:=List.getElem?_eq_some_iff.1 (tD hj')
         obtain⟨hyl2,e4⟩:=List.getElem?_eq_some_iff.1 hy
         refine CE (TH hxr.is.2.1) (by simpa [xA] using hyl2) hjl ?_
         rw[e3,←hyl,←e4]
         simp[xA]
       ·rw[RA,RA x]
        have h6:=gG x.kids i k (k.setLabel o.text) h3
        have h7:WA (k.setLabel o.text)=WA k:=by rw[RA,RA k];rfl
        show TA (x.kids.set i (k.setLabel o.text))≤_
        omega
    ·split at e
     ·rename_i hk
      have hX:=NS (t:=t) (u:=u) (o:=o) (by unfold oneC;rw[hk,if_neg (by omega),if_neg (by omega),if_neg (by omega),if_neg (by omega),if_pos rfl];exact e)
      unfold oneX at hX
      rw[hk,if_neg (by omega),if_pos rfl] at hX
      obtain⟨p0,l,x,i,k,y,z,j,hp,h1,h2,h3,h4,hy,c1,c2,c3,c4,hz,hj,rfl⟩:=qG hX
      have hdeep:¬6<(cA o.new).length+xB k:=by
       unfold moveC at e
       have h5:(x.kids[i]?).getD It.none=k:=by rw[h3];rfl
       rw[hp,TJ h1 h2,hy] at e
       simp only[List.dropLast_concat,h5] at e
       rw[if_neg c1,if_neg (fun e=>e.elim c2 (by rw[h4];exact c3)),if_neg (fun e=>c4 e.1 (by rw[←h4];exact ix_some.1 e.2))] at e
       split at e
       ·cases e
       ·assumption
      have hrg:=(kU (t:=t) (o:=o) h.1.rg (by unfold oneX;rw[hk,if_neg (by omega),if_pos rfl];exact hX)).1
      have hxr:=qB _ 0 t x h.1 h1
      have hless:UC (dB t x i p0):=FF h h1 (vG hxr i) rfl (by
       rw[RA,RA x]
       have:=BC x.kids i k h3
       show TA (x.kids.eraseIdx i)≤_
       omega)
      have hcl:WA (dB t x i p0)+1+WA k=WA t:=by
       have h5:=QF p0 t x (x.setKids (x.kids.eraseIdx i)) h1
       have h6:=BC x.kids i k h3
       have h7:WA (x.setKids (x.kids.eraseIdx i))=TA (x.kids.eraseIdx i):=RA _
       rw[RA x] at h5
       show WA (sA (fun _=>x.setKids (x.kids.eraseIdx i)) p0 t)+1+WA k=_
       omega
      have hzr:=qB _ 0 _ z hless.1 hz
      have hle:j≤z.kids.length:=by
       rw[QB] at hj
       have:=AD hj
       simpa [xA] using this
      have hkr:=NQ (hxr.is.2.2 k (List.mem_of_getElem? h3)) (0+(cA o.new).length+1) (by omega) (by omega) (by omega)
      have hnew:=jC _ _ _ hrg (wF (y:=z.setKids (z.kids.insertIdx j k)) hz rfl)
      have hnn:k.label∉xA z.kids:=by
       have h8:(xA (z.kids.insertIdx j k)).Nodup:=hnew.is.2.1
       rw[OG] at h8
       exact(List.nodup_cons.1 ((List.perm_insertIdx k.label (xA z.kids) (by simpa [xA] using hle)).nodup_iff.1 h8)).1
      refine⟨KJ _ 0 _ z _ hless.1 hz (VL hzr hkr hle fun y hy=>?_) rfl,?_⟩
      ·cases hb:(y.label.toList==k.label.toList)
       ·rfl
       ·exact absurd (same_bytes.1 hb▸List.mem_map.2 ⟨y,hy,rfl⟩) hnn
      ·have h5:=QF _ _ z (z.setKids (z.kids.insertIdx j k)) hz
       have h6:=vF z.kids j k hle
       have h7:WA (z.setKids (z.kids.insertIdx j k))=TA (z.kids.insertIdx j k):=RA _
       rw[RA z] at h5
       have:=h.2
       omega
     ·cases e
theorem qM:∀(ops:List OpW) (i:Nat) (t u:It),UC t→allC i t ops=.ok u→UC u
 | [],i,t,u,h,e=>by rw[allC] at e;injection e with e;exact e▸h
 |o::r,i,t,u,h,e=>by
  rw[allC] at e
  cases hc:oneC t o with
  |bad c=>rw[hc] at e;cases e
  |ok x=>rw[hc] at e;exact qM r (i+1) x u (gH h hc) e
def PN(p:List ByteArray):List ByteArray:=p.dropLast
def zK(p:List ByteArray):ByteArray:=p.getLast?.getD ⟨#[]⟩
theorem nH(p:List ByteArray)(l:ByteArray):PN (p++[l])=p∧zK (p++[l])=l:=by
 unfold PN zK
 rw[List.dropLast_concat,List.getLast?_concat]
 exact⟨rfl,rfl⟩
theorem GM{p:List ByteArray}(h:p≠[]):p=PN p++[zK p]:=by
 rcases List.eq_nil_or_concat p with h0|⟨a,b,hab⟩
 ·exact absurd h0 h
 ·rw[hab,List.concat_eq_append,(nH a b).1,(nH a b).2]
theorem ItAt.upG{w w':World}{B b o:Nat}{t:It}{S:Nat→Prop}{v:Nat→Value}{g cap i:Nat}{K:Nat→Nat→Value}{T:Nat→Nat→Prop}(h:ItAt w B b o t S v)(hv:v 3=.slice (some ⟨g,0,none⟩) t.kids.length cap)(hk:OwnK w B v t S K T)(hi:i<t.kids.length)
 (hu:Upd w w' g (i * 4) (T i)) {k':It} {T':Nat→Prop} {x:Nat→Value} (hk':ItAt w' B g (i * 4) k' T' x) {Xr A:Nat→Prop} (hX:∀q,Xr q→T i q) (hA:∀q,A q→¬S q) (hAb:¬A b) (hT':∀q,T' q→(T i q∧¬Xr q)∨A q):
 ItAt w' B b o (t.setKid i k') (fun q=>(S q∧¬Xr q)∨(A q∧T' q)) v∧Upd w w' b o S:=by
 have hgS:S g:=hk.sk g (by rw[hv];rfl)
 have hbg:b≠g:=fun e=>h.out (e▸hgS)
 have hsame:∀q,q<w.heap.size→q≠g→¬T i q→w'.heap[q]?=w.heap[q]?:=fun q h1 h2 h3=>hu.block q h1 h3 h2
 have hnb:¬T i b:=fun e=>h.out (hk.hT i b hi e).1
 have hbb:w'.heap[b]?=w.heap[b]?:=hsame b h.lt hbg hnb
 refine⟨⟨?_,?_,?_⟩,⟨hu.os,hu.tape,hu.output,hu.size,fun q hq hn hne=>hsame q hq (fun e=>hn (e▸hgS)) (fun e=>hn (hk.hT i q hi e).1),fun cur ty e=>⟨cur,by rw[hbb];exact e,rfl,fun _ _=>rfl⟩⟩⟩
 ·obtain⟨cur,ty,e,hc⟩:=h.here
  exact⟨cur,ty,by rw[hbb];exact e,hc⟩
 ·have hlen:(t.setKid i k').kids.length=t.kids.length:=by unfold It.setKid;show (t.kids.set i k').length=_;simp
  obtain⟨cur0,ty0,e0,hc0⟩:=hk'.here
  have hkd:w'.ownsRow B 25 4 (v 3) t.kids.length (GA (ZG K i x) t.kids.length):=by
   refine⟨LA _ _,?_⟩
   rcases hk.kd.2 with ⟨e1,h0⟩|⟨g',cap',cur,e1,hb',hgg,h1,h2,h3,h4⟩
   ·omega
   ·rw[hv] at e1
    injection e1 with e1 _ e2
    injection e1 with e1
    injection e1 with e1 _ _
    subst e1 e2
    obtain⟨cur',e5,e6,e7⟩:=hu.here cur _ hgg
    refine .inr ⟨g,cap,cur',hv,hb',e5,h1,h2,by omega,?_⟩
    rw[e5] at e0
    injection e0 with e0
    injection e0 with e0 _ _
    subst e0
    refine vP (K:=K) (l:=cur.toList.take (t.kids.length * 4)) h4 hi (by simp[e6]) (fun c hc=>?_) (fun q hq=>?_)
    ·rw[List.getElem?_take,if_pos (by omega)]
     simpa using hc0 c hc
    ·rw[List.getElem?_take,List.getElem?_take]
     split
     ·simpa using e7 q hq
     ·rfl
  have hne2:(v 2).ownBlock≠some g:=by
   intro e
   rcases hk.ln.2 with ⟨e1,_⟩|⟨g',cap',cur,e1,_,hgg,_⟩
   ·rw[e1] at e;cases e
   ·rw[e1] at e
    injection e with e
    have e:g'=g:=e
    subst e
    rcases hk.kd.2 with ⟨e1,h0⟩|⟨g2,cap2,cur2,e2,_,hg2,_⟩
    ·omega
    ·rw[hv] at e2
     injection e2 with e2 _ _
     injection e2 with e2
     injection e2 with e2 _ _
     subst e2
     rw[hgg] at hg2
     injection hg2 with hg2
     injection hg2 with _ hg2 _
     exact absurd hg2 (by decide)
  refine .mk v _ (ZG K i x) (fun j=>if j=i then T' else T j) _ hk.h0 hk.h1 (CA hk.ln fun q hq hl=>hsame q hl (fun e=>hne2 (e▸hq)) (fun e=>(hk.hT i q hi e).2.1 hq)) (by rw[hlen];exact hkd) (fun q hq=>.inl ⟨hk.sl q hq,fun e=>(hk.hT i q hi (hX q e)).2.1 hq⟩) (fun q hq=>.inl ⟨hk.sk q hq,fun e=>(hk.hT i q hi (hX q e)).2.2 hq⟩) (fun j k e=>?_) (fun j q hj hq=>?_) (fun j j' q hj hj' hq hq'=>?_) (fun q hq=>?_)
  ·have e:(t.kids.set i k')[j]?=some k:=e
   by_cases hji:j=i
   ·subst hji
    rw[List.getElem?_set_self hi] at e
    injection e with e
    subst e
    show Own w' B (ZG K j x j) k' (if j=j then T' else T j)
    unfold ZG
    rw[if_pos rfl,if_pos rfl]
    exact hk'.own
   ·rw[List.getElem?_set_ne (fun e=>hji e.symm)] at e
    have hjl:=(List.getElem?_eq_some_iff.1 e).1
    show Own w' B (ZG K i x j) k (if j=i then T' else T j)
    unfold ZG
    rw[if_neg hji,if_neg hji]
    refine(hk.hr j k e).step (fun q hq=>?_) hu.size
    have h9:=hk.hT j q hjl hq
    exact hsame q (hk.hS q h9.1).2 (fun e=>h9.2.2 (by rw[hv,e];rfl)) (fun e=>hji (hk.hd j i q hjl hi hq e))
  ·rw[hlen] at hj
   have hq:(if j=i then T' else T j) q:=hq
   split at hq
   ·rcases hT' q hq with h9|h9
    ·have h8:=hk.hT i q hi h9.1
     exact⟨.inl ⟨h8.1,h9.2⟩,h8.2⟩
    ·exact⟨.inr ⟨h9,hq⟩,fun e=>hA q h9 (hk.sl q e),fun e=>hA q h9 (hk.sk q e)⟩
   ·rename_i hji
    have h9:=hk.hT j q hj hq
    exact⟨.inl ⟨h9.1,fun e=>hji (hk.hd j i q hj hi hq (hX q e))⟩,h9.2⟩
  ·rw[hlen] at hj hj'
   have hq:(if j=i then T' else T j) q:=hq
   have hq':(if j'=i then T' else T j') q:=hq'
   split at hq<;>split at hq'
   ·omega
   ·rename_i h1 h2
    rcases hT' q hq with h9|h9
    ·exact absurd (hk.hd i j' q hi hj' h9.1 hq').symm h2
    ·exact absurd (hk.hT j' q hj' hq').1 (hA q h9)
   ·rename_i h1 h2
    rcases hT' q hq' with h9|h9
    ·exact absurd (hk.hd i j q hi hj h9.1 hq).symm h1
    ·exact absurd (hk.hT j q hj hq).1 (hA q h9)
   ·exact hk.hd j j' q hj hj' hq hq'
  ·rcases hq with hq|hq
   ·have:=hk.hS q hq.1;have:=hu.size;exact⟨by omega,by omega⟩
   ·exact hk'.own.in q hq.2
 ·rintro (hq|hq)
  ·exact h.out hq.1
  ·exact hAb hq.1
def ixs:It→List ByteArray→List Nat
 |_,[]=>[]
 |t,s::r=>match iA t.kids s with
  |none=>[]
  |some i=>i::ixs (t.kids[i]?.getD It.none) r
def YG(w:World):Nat→Nat→List Nat→Option (Nat×Nat)
 |b,o,[]=>some (b,o)
 |b,o,i::r=>match (w.cell? ⟨b,o+3,none⟩).bind Value.ownBlock with
  |none=>none
  |some g=>YG w g (i * 4) r
theorem eE{t k:It}{s:ByteArray}{r:List ByteArray}{i:Nat}(hi:iA t.kids s=some i)(hk:t.kids[i]?=some k):ixs t (s::r)=i::ixs k r:=by
 rw[ixs,hi]
 show i::ixs (t.kids[i]?.getD It.none) r=_
 rw[hk]
 rfl
theorem JF{w:World}{b o g i:Nat}{r:List Nat}{v:Value}(h:w.cell? ⟨b,o+3,none⟩=some v)(hg:v.ownBlock=some g):YG w b o (i::r)=YG w g (i * 4) r:=by
 rw[YG,h]
 show (match v.ownBlock with|none=>none|some g=>YG w g (i * 4) r)=_
 rw[hg]
theorem tK:∀(p:List ByteArray) (t x:It) (s:ByteArray) (i:Nat),eA t p=some x→iA x.kids s=some i→ixs t (p++[s])=ixs t p++[i]
 | [],t,x,s,i,h,hi=>by
   rw[eA] at h
   injection h with h
   subst h
   rw[List.nil_append]
   show ixs t (s::[])=ixs t []++[i]
   rw[ixs.eq_2,hi]
   rfl
 |q::r,t,x,s,i,h,hi=>by
  rw[eA] at h
  split at h
  ·cases h
  ·rename_i j hj
   split at h
   ·cases h
   ·rename_i y hy
    rw[List.cons_append,eE hj hy,eE hj hy,tK r y x s i h hi]
    rfl
theorem LK{w:World}{i g:Nat}:∀(l:List Nat) (b o b' o':Nat) (v:Value),YG w b o l=some (b',o')→w.cell? ⟨b',o'+3,none⟩=some v→v.ownBlock=some g→YG w b o (l++[i])=some (g,i * 4)
 | [],b,o,b',o',v,h,hc,hg=>by
   rw[YG] at h
   injection h with h
   injection h with h1 h2
   subst h1 h2
   rw[List.nil_append,JF hc hg,YG]
 |j::r,b,o,b',o',v,h,hc,hg=>by
  rw[YG] at h
  rw[List.cons_append,YG]
  split at h
  ·cases h
  ·rename_i g' hg'
   exact LK r g' (j * 4) b' o' v h hc hg
theorem bP{w w':World}(hb:Below w.heap.size w w'):∀(l:List Nat) (b o:Nat) (a:Nat×Nat),YG w b o l=some a→YG w' b o l=some a
 | [],b,o,a,h=>by rw[YG] at h ⊢;exact h
 |j::r,b,o,a,h=>by
  rw[YG] at h ⊢
  split at h
  ·cases h
  ·rename_i g hg
   cases hc:w.cell? ⟨b,o+3,none⟩ with
   |none=>rw[hc] at hg;cases hg
   |some u=>
    rw[(hb.cell (p:=⟨b,o+3,none⟩) (dA hc)).trans hc,←hc,hg]
    exact bP hb r g (j * 4) a h
structure Foc(w:World)(B b o:Nat)(t:It)(S:Nat→Prop)(p:List ByteArray)(b' o':Nat)(x:It)(S':Nat→Prop)(v':Nat→Value):Prop where
 fnd:eA t p=some x
 at':ItAt w B b' o' x S' v'
 sub:∀q,S' q→S q
 root:p=[]→b'=b∧o'=o
 inn:p≠[]→S b'
 back:∀(w':World) (y:It) (S'':Nat→Prop) (v'':Nat→Value) (Xr A:Nat→Prop),Upd w w' b' o' S'→ItAt w' B b' o' y S'' v''→(∀q,Xr q→S' q)→(∀q,A q→¬S q)→¬A b→(∀q,S'' q→(S' q∧¬Xr q)∨A q)→∃S3 v3,ItAt w' B b o (sA (fun _=>y) p t) S3 v3∧(∀q,S3 q→(S q∧¬Xr q)∨A q)∧Upd w w' b o S
 backL:∀(w':World) (y:It),Upd w w' b' o' S'→mF w' b' o' y→mF w' b o (sA (fun _=>y) p t)∧Upd w w' b o S
 pl:YG w b o (ixs t p)=some (b',o')
theorem Foc.nil{w:World}{B b o:Nat}{t:It}{S:Nat→Prop}{v:Nat→Value}(h:ItAt w B b o t S v):Foc w B b o t S [] b o t S v:=
 ⟨by rw[eA],h,fun _ h=>h,fun _=>⟨rfl,rfl⟩,fun h=>absurd rfl h,fun w' y S'' v'' Xr A hu hy _ _ _ hS=>⟨S'',v'',by rw[sA];exact hy,hS,hu⟩,fun w' y hu hy=>⟨by rw[sA];exact hy,hu⟩,rfl⟩
theorem Foc.kid{w:World}{B b o:Nat}{t:It}{S:Nat→Prop}{p:List ByteArray}{b' o':Nat}{x:It}{S':Nat→Prop}{v':Nat→Value}(h:Foc w B b o t S p b' o' x S' v'){s:ByteArray}{i:Nat}{k:It}(hi:iA x.kids s=some i)(hk:x.kids[i]?=some k):
 ∃g cap T V,v' 3=.slice (some ⟨g,0,none⟩) x.kids.length cap∧Foc w B b o t S (p++[s]) g (i * 4) k T V:=by
 obtain⟨g,cap,K,T,e,ho,hat⟩:=h.at'.kid hk
 have hlt:=(List.getElem?_eq_some_iff.1 hk).1
 have hsub:∀q,T i q→S' q:=fun q hq=>(ho.hT i q hlt hq).1
 have hset:∀y,sA (fun _=>x.setKid i y) p t=sA (fun _=>y) (p++[s]) t:=fun y=>(wD p t x k s i y h.fnd hi hk).symm
 refine⟨g,cap,T i,K i,e,⟨?_,hat,fun q hq=>h.sub q (hsub q hq),fun e=>by simp at e,fun _=>h.sub g (ho.sk g (by rw[e];rfl)),fun w' y S'' v'' Xr A hu hy hX hA hAb hS=>?_,fun w' y hu hy=>?_,by rw[tK p t x s i h.fnd hi];exact LK _ b o b' o' _ h.pl (h.at'.cell (c:=3) (by omega)) (by rw[e];rfl)⟩⟩
 ·rw[ZC p t x s h.fnd,MB hi hk,eA]
 ·have hAb':¬A b':=fun e=>by
   by_cases hp:p=[]
   ·rw[(h.root hp).1] at e;exact hAb e
   ·exact hA b' e (h.inn hp)
  obtain⟨h1,h2⟩:=h.at'.upG e ho hlt hu hy hX (fun q hq hs=>hA q hq (h.sub q hs)) hAb' hS
  obtain⟨S3,v3,h3,h4,h5⟩:=h.back w' _ _ v' Xr A h2 h1 (fun q hq=>hsub q (hX q hq)) hA hAb (fun q hq=>hq.imp (fun hq=>hq) (fun hq=>hq.1))
  rw[hset] at h3
  exact⟨S3,v3,h3,h4,h5⟩
 ·have h1:=h.at'.upL e ho hlt hu hy
  have h2:Upd w w' b' o' S':=by
   have hgS:S' g:=ho.sk g (by rw[e];rfl)
   refine⟨hu.os,hu.tape,hu.output,hu.size,fun q hq hn hne=>hu.block q hq (fun hh=>hn (hsub q hh)) (fun e=>hn (e▸hgS)),fun cur ty ec=>?_⟩
   have hbg:b'≠g:=fun e=>h.at'.out (e▸hgS)
   have hbb:w'.heap[b']?=w.heap[b']?:=hu.block b' h.at'.lt (fun hh=>h.at'.out (hsub _ hh)) hbg
   exact⟨cur,by rw[hbb];exact ec,rfl,fun _ _=>rfl⟩
  obtain⟨h3,h4⟩:=h.backL w' _ h2 h1
  rw[hset] at h3
  exact⟨h3,h4⟩
theorem ItAt.on{w w':World}{B b o:Nat}{t:It}{S:Nat→Prop}{v:Nat→Value}(h:ItAt w B b o t S v)(hb:Below w.heap.size w w'):ItAt w' B b o t S v:=by
 obtain⟨cur,ty,e,hc⟩:=h.here
 exact⟨⟨cur,ty,(hb.block b h.lt).trans e,hc⟩,h.own.step (fun g hg=>hb.block g (h.own.in g hg).2) hb.size,h.out⟩
theorem Foc.on{w w':World}{B b o:Nat}{t:It}{S:Nat→Prop}{p:List ByteArray}{b' o':Nat}{x:It}{S':Nat→Prop}{v':Nat→Value}(h:Foc w B b o t S p b' o' x S' v')(hbl:b<w.heap.size)(hb:Below w.heap.size w w'):Foc w' B b o t S p b' o' x S' v':=by
 have key:∀w'',Upd w' w'' b' o' S'→Upd w w'' b' o' S':=fun w'' hu=>by
  refine⟨hu.os.trans hb.os,hu.tape.trans hb.tape,hu.output.trans hb.output,Nat.le_trans hb.size hu.size,fun k hk hn hne=>(hu.block k (Nat.lt_of_lt_of_le hk hb.size) hn hne).trans (hb.block k hk),fun cur ty e=>?_⟩
  exact hu.here cur ty ((hb.block b' h.at'.lt).trans e)
 have key2:∀w'',Upd w' w'' b' o' S'→Upd w w'' b o S→Upd w' w'' b o S:=fun w'' hu hu2=>by
  refine⟨hu.os,hu.tape,hu.output,hu.size,fun k hk hn hne=>hu.block k hk (fun e=>hn (h.sub k e)) (fun e=>?_),fun cur ty e=>hu2.here cur ty ((hb.block b hbl).symm.trans e)⟩
  by_cases hp:p=[]
  ·exact hne (e.trans (h.root hp).1)
  ·exact hn (e▸h.inn hp)
 refine⟨h.fnd,h.at'.on hb,h.sub,h.root,h.inn,fun w'' y S'' v'' Xr A hu hy hX hA hAb hS=>?_,fun w'' y hu hy=>?_,bP hb _ _ _ _ h.pl⟩
 ·obtain⟨S3,v3,h1,h2,h3⟩:=h.back w'' y S'' v'' Xr A (key w'' hu) hy hX hA hAb hS
  exact⟨S3,v3,h1,h2,key2 w'' hu h3⟩
 ·obtain⟨h1,h3⟩:=h.backL w'' y (key w'' hu) hy
  exact⟨h1,key2 w'' hu h3⟩
theorem CO{s:ByteArray}(h:isLab s=true):s.size≤6:=by
 unfold isLab at h
 obtain⟨k,l,h⟩:=@of_decide_eq_true _ (Classical.propDecidable _) h
 have h1:=h.k4
 have h2:=h.kc
 omega
theorem xK(l:List It):l.length≤TA l:=by
 induction l with
 |nil=>simp
 |cons a r ih=>rw[TA,List.length_cons];omega
theorem jM:∀(l:List It) (k:It),k∈l→WA k≤TA l
 |a::r,k,h=>by
  rw[TA]
  rcases List.mem_cons.1 h with rfl|h
  ·omega
  ·have:=jM r k h;omega
theorem MQ{d:Nat}{t:It}(h:Rgt d t):WA t≤300→FewIt t:=by
 induction h with
 |mk d t h hd hk ih=>
  intro hc
  rw[RA] at hc
  obtain⟨h1,h2,h3⟩:=texts_iff.1 ⟨h.2.1,h.2.2.2⟩
  refine .mk t (by omega) (by have:=xK t.kids;omega) (fun s hs=>by have:=(h3 s hs).1;omega) (by have:=h2.1;omega) ?_ (fun k hkm=>ih k hkm (by have:=jM t.kids k hkm;omega))
  have h4:=h.2.2.1
  split at h4
  ·have:=of_decide_eq_true h4;omega
  ·have:=CO h4;omega
theorem RB{t:It}(h:UC t):FewIt t:=MQ h.1 h.2
theorem BB:∀(p:List ByteArray) (t x:It),FewIt t→eA t p=some x→FewIt x
 | [],t,x,h,e=>by rw[eA] at e;injection e with e;exact e▸h
 |q::r,t,x,h,e=>by
  obtain⟨i,y,_,hy,e⟩:=IA e
  exact BB r y x (h.get.2.2.2.2.2 y (List.mem_of_getElem? hy)) e
def StrsAt(w:World)(a:Option Addr)(ps:List ByteArray):Prop:=∀i s,ps[i]?=some s→∃b o,a=some ⟨b,o,none⟩∧w.cell? ⟨b,o+i,none⟩=some (.string s)
theorem StrsAt.on{w w':World}{a:Option Addr}{ps:List ByteArray}(h:StrsAt w a ps)(hb:Below w.heap.size w w'):StrsAt w' a ps:=fun i s hs=>by
 obtain⟨b,o,e,hc⟩:=h i s hs
 exact⟨b,o,e,(hb.cell (p:=⟨b,o+i,none⟩) (dA hc)).trans hc⟩
def lF(w:World)(B b o:Nat)(t:It)(S:Nat→Prop)(ps:List ByteArray)(e:Ending):Prop:=match eA t ps with
 |none=>e=.returned (.pointer none)
 |some x=>∃b' o' S' v',e=.returned (.pointer (some ⟨b',o',none⟩))∧Foc w B b o t S ps b' o' x S' v'
theorem vH{w:World}{B b o:Nat}{t:It}{S:Nat→Prop}{v:Nat→Value}(h:ItAt w B b o t S v)(hF:FewIt t){ps:List ByteArray}{pa:Option Addr}{pc:Nat}(hp:StrsAt w pa ps)(hn:ps.length≤100000):
 Calls Tryz.prog 29 #[.pointer (some ⟨b,o,none⟩),.slice pa ps.length pc] w fun e w'=>lF w B b o t S ps e∧Below w.heap.size w w':=by
 have H0:=aA h
 have HF:=aA hF
 have HP:=aA hp
 obtain⟨n,hnn⟩:∃n,n=ps.length:=⟨_,rfl⟩
 have HN:=aA hnn
 rw[←hnn] at hn ⊢
 clear h hF hp hnn
 go_enter Tryz.func29,Tryz.ntmps29
 go_wp2_with fail
 go_loopw [0,10] (fun l t' wr=>∃(j b' o':Nat) (x:It) (S':Nat→Prop) (v':Nat→Value),j≤n∧t'=.int .i64 j∧l=.pointer (some ⟨b',o',none⟩)∧Below w.heap.size w wr∧Foc w B b o t S (ps.take j) b' o' x S' v') (fun _ t' _=>(n - RowKit.intOf t').toNat)
 case atStart=>exact⟨0,b,o,t,S,v,by omega,rfl,rfl,Below.refl _ _,Foc.nil H0.out⟩
 case round=>
  obtain⟨j,b',o',x,S',v',hj,rfl,rfl,hb,hf⟩:=hrel
  have HB:=aA hb
  have HFo:=aA hf
  clear hb hf
  by_cases hjn:j<n
  ·have hjz:(j:Int)<n:=by omega
   obtain⟨s,hs⟩:∃s,ps[j]?=some s:=⟨_,List.getElem?_eq_getElem (by have:=HN.out;omega)⟩
   obtain⟨pb,po,rfl,hcs⟩:=HP.out j s hs
   have hcs':=(HB.out.cell (p:=⟨pb,po+j,none⟩) (dA hcs)).trans hcs
   have HTk:Hid (ps.take (j+1)=ps.take j++[s]):=by
    obtain⟨hl,e⟩:=List.getElem?_eq_some_iff.1 hs
    show _=_
    rw[List.take_succ_eq_append_getElem hl,e]
   have hx:=BB _ t x HF.out HFo.out.fnd
   have hfw:=HFo.out.on H0.out.lt HB.out
   obtain⟨_,_,_,ka,kc,hk3⟩:=hfw.at'.own.lies.forms
   have hc3:=hfw.at'.cell (c:=3) (by omega)
   rw[hk3] at hc3
   have HC:=aA (sC hfw.at'.own.lies hk3 (by have:=hx.get.2.1;omega) s)
   have HFw:=aA hfw
   have hkl:=hx.get.2.1
   have HX:=aA hx
   have HSs:=aA hs
   have HK3:=aA hk3
   clear hcs hx hfw hs hk3
   cases hq:iA x.kids s with
   |none=>
    rw[hq] at HC
    have HQ:=aA hq
    clear hq
    go_wp2_with fail
    refine HC.out.mono ?_
    rintro e w1 ⟨rfl,hb1⟩
    have H1:=aA hb1
    clear hb1
    unfold XG
    go_wp2
    go_ret
    refine⟨?_,HB.out.trans (H1.out.mono HB.out.size)⟩
    unfold lF
    have e1:eA t (ps.take (j+1))=none:=by
     rw[HTk.out,ZC _ t x s HFo.out.fnd]
     exact uH HQ.out
    have e2:eA t ps=none:=by
     have:=QE _ t (ps.drop (j+1)) e1
     rwa [List.take_append_drop] at this
    rw[e2]
    rfl
   |some i=>
    rw[hq] at HC
    obtain⟨k,hk,_⟩:=SA hq
    obtain⟨g,cap,T,V,hv3,hfk⟩:=HFo.out.kid hq hk
    have hil:=(List.getElem?_eq_some_iff.1 hk).1
    have hi0:¬((i:Int)<0):=by omega
    have hiz:(i:Int)<(x.kids.length:Int):=by omega
    have hka:ka=some ⟨g,0,none⟩:=by
     have e:=HK3.out
     rw[hv3] at e
     injection e with e _ _
     exact e.symm
    subst hka
    have HFk:=aA hfk
    clear hq hk hfk hv3
    generalize x.kids.length=kl at *
    go_wp2_with fail
    refine HC.out.mono ?_
    rintro e w1 ⟨rfl,hb1⟩
    have hc3':=(hb1.cell (p:=⟨b',o'+3,none⟩) (dA hc3)).trans hc3
    have H1:=aA hb1
    clear hb1
    unfold XG
    go_wp2
    go_roundw
    case rel=>
     refine⟨j+1,g,i * 4,k,T,V,by omega,by go_num,?_,HB.out.trans (H1.out.mono HB.out.size),?_⟩
     ·first|rfl|simp
     ·rw[HTk.out];exact HFk.out
    case measure=>simp[RowKit.intOf];omega
  ·obtain rfl:j=n:=by omega
   go_wp2
   go_ret
   refine⟨?_,HB.out⟩
   unfold lF
   have e:ps.take j=ps:=by rw[HN.out];exact List.take_length
   have hf:=HFo.out
   rw[e] at hf
   rw[hf.fnd]
   exact⟨b',o',S',v',rfl,hf⟩
theorem ZN{l:List It}{s:ByteArray}:pA l s≠none↔s.size=0∨s∈xA l:=by
 unfold pA
 by_cases h:s.size=0
 ·rw[if_pos h]
  exact⟨fun _=>.inl h,fun _ e=>by cases e⟩
 ·rw[if_neg h,←ix_some]
  cases iA l s with
  |none=>exact⟨fun e=>absurd rfl e,fun e=>e.elim (fun e=>absurd e h) (fun e=>by cases e)⟩
  |some i=>exact⟨fun _=>.inr rfl,fun _ e=>by cases e⟩
theorem RH{t x k:It}{p0:List ByteArray}{i:Nat}(h:UC t)(h1:eA t p0=some x)(h3:x.kids[i]?=some k):UC (dB t x i p0):=
 FF h h1 (vG (qB p0 0 t x h.1 h1) i) rfl (by
  rw[RA,RA x]
  have:=BC x.kids i k h3
  show TA (x.kids.eraseIdx i)≤_
  omega)
theorem fK:∀(r q:List ByteArray) (t x:It),eA t r=some x→eA t (r++q)=eA x q
 | [],q,t,x,h=>by rw[eA] at h;injection h with h;rw[h];rfl
 |a::r,q,t,x,h=>by
  obtain⟨i,y,hi,hy,h⟩:=IA h
  rw[List.cons_append,MB hi hy,fK r q y x h]
theorem mN{t x k:It}{p0 q:List ByteArray}{l:ByteArray}{i:Nat}(h:Ds t)(h1:eA t p0=some x)(h3:x.kids[i]?=some k)(h4:k.label=l)(hn:¬(p0++[l])<+:q)(hq:q≠p0)(c:Pt):X (dB t x i p0) q c=X t q c:=by
 unfold dB
 by_cases hp:p0<+:q
 ·obtain⟨r,rfl⟩:=hp
  cases r with
  |nil=>exact absurd (List.append_nil p0) hq
  |cons s r=>
   have hs:s≠k.label:=fun e=>hn ⟨r,by rw[e,h4];simp⟩
   rw[pJ p0 (s::r) t x (x.setKids (x.kids.eraseIdx i)) h1 rfl,bG]
   show (CC (x.kids.eraseIdx i) s).bind _=_
   rw[gE (Ds.find h h1).is.1 h3,if_neg hs,←bG]
   unfold X
   rw[fK p0 (s::r) t x h1]
 ·exact wH p0 q t x (x.setKids (x.kids.eraseIdx i)) h1 rfl hp c
theorem pG{t x k y:It}{p0 q:List ByteArray}{l a:ByteArray}{i:Nat}(h:Ds t)(h1:eA t p0=some x)(h3:x.kids[i]?=some k)(h4:k.label=l)(hn:¬(p0++[l])<+:q)(hy:eA t q=some y)(hb:pA y.kids a≠none)(hs:¬(p0=q∧a=l)):∃(z:It) (j:Nat),eA (dB t x i p0) q=some z∧pA z.kids a=some j∧j≤z.kids.length:=by
 have hle:∀(z:It) (j:Nat),pA z.kids a=some j→j≤z.kids.length:=fun z j e=>by
  rw[QB] at e
  have:=AD e
  unfold xA at this
  rwa [List.length_map] at this
 by_cases hq:q=p0
 ·subst hq
  rw[hy] at h1
  injection h1 with h1
  subst h1
  have hz:pA (y.setKids (y.kids.eraseIdx i)).kids a≠none:=by
   rw[ZN] at hb ⊢
   refine hb.imp (fun e=>e) (fun e=>?_)
   have h9:=gE (Ds.find h hy).is.1 h3 a
   rw[if_neg (fun e=>hs ⟨rfl,e.trans h4⟩)] at h9
   by_cases hc:a∈xA (y.kids.eraseIdx i)
   ·exact hc
   ·rw[kidOf_none.2 hc] at h9
    exact absurd e (kidOf_none.1 h9.symm)
  cases hj:pA (y.setKids (y.kids.eraseIdx i)).kids a with
  |none=>exact absurd hj hz
  |some j=>exact⟨_,j,wF hy rfl,hj,hle _ j hj⟩
 ·have hv:=mN (i:=i) h h1 h3 h4 hn hq .k
  rw[cG hy] at hv
  cases hf:eA (dB t x i p0) q with
  |none=>unfold X at hv;rw[hf] at hv;cases hv
  |some z=>
   rw[cG hf] at hv
   injection hv with hv
   have hv:xA z.kids=xA y.kids:=hv
   rw[QB,←hv,←QB] at hb
   cases hj:pA z.kids a with
   |none=>exact absurd hj hb
   |some j=>exact⟨z,j,rfl,hj,hle z j hj⟩
theorem KK{s:ByteArray}(h:AllP pI s 0 s.size):plainB s=true:=by unfold plainB;exact @decide_eq_true _ (Classical.propDecidable _) h
theorem DJ{s:ByteArray}(i:Nat)(hi:i<s.size)(h:pI s[i].toNat=false):plainB s=false:=by
 unfold plainB
 refine @decide_eq_false _ (Classical.propDecidable _) fun ha=>?_
 have:=ha i hi (by omega) hi
 rw[h] at this
 cases this
theorem ER(a b:ByteArray):bl (a++b)=bl a++bl b:=by simp[bl]
theorem BG(s:ByteArray)(i:Nat)(h:i<s.size):(bl s).take (i+1)=(bl s).take i++[s[i]]:=by
 rw[List.take_add_one,WC s i h];rfl
theorem FR(s:ByteArray)(i:Nat)(h:i<s.size):bl (s.extract i (i+1))=[s[i]]:=by
 rw[PE,BG s i h,List.drop_append_of_le_length (by rw[List.length_take,oA];omega),List.drop_eq_nil_of_le (by rw[List.length_take,oA];omega)]
 rfl
inductive PartsAt(w:World)(s:ByteArray)(v y t:Value)(wr:World):Prop
 |mk (i:Nat) (o:List ByteArray) (x:ByteArray) (h1:i≤s.size) (h2:t=.int .i64 i) (h3:y=.string x) (h4:wr.ownsRow w.heap.size 9 1 v o.length (o.map Value.string)) (h5:XA ((bl s).take i)=o.map bl++[bl x]) (h6:Below w.heap.size w wr)
theorem aP{s:ByteArray}{i:Nat}{o:List ByteArray}{x:ByteArray}(h1:i≤s.size)(h5:XA ((bl s).take i)=o.map bl++[bl x]):o.length≤s.size∧x.size≤s.size:=by
 have a:=UF ((bl s).take i)
 rw[h5] at a
 have hl:((bl s).take i).length=i:=by rw[List.length_take,oA];omega
 have b:=xD ((bl s).take i) (bl x) (by rw[h5];simp)
 rw[oA] at b
 simp at a
 have:min i (bl s).length=i:=by rw[oA];omega
 omega
set_option maxRecDepth 10000 in
theorem wC(s:ByteArray)(hs:s.size≤100000)(w:World):Calls Tryz.prog 44 #[.string s] w fun e w'=>(∃v,e=.returned v∧w'.ownsRow w.heap.size 9 1 v (cA s).length ((cA s).map Value.string))∧Below w.heap.size w w':=by
 obtain⟨i0,iz,hi0,hi1,hi2,hi3,hi4⟩:=Tryz.infoStr
 have HI:=aA (aI hi0 (aI hi1 (aI hi2 (aI hi3 hi4))))
 clear hi0 hi1 hi2 hi3 hi4
 go_enter Tryz.func44,Tryz.ntmps44
 go_wp2_with fail
 go_loopw [3,4,5] (fun v y t wr=>PartsAt w s v y t wr) (fun _ _ t _=>(s.size - RowKit.intOf t).toNat)
 case atStart=>exact⟨0,[],⟨#[]⟩,by omega,rfl,rfl,World.ownsRow_nil _ _ _ _,rfl,Below.refl _ _⟩
 case round=>
  obtain⟨i,o,x,hi,rfl,rfl,ho,hsp,hb⟩:=hrel
  obtain⟨sa,sc,hv⟩:=tA ho
  subst hv
  generalize hon:o.length=on at *
  have HOn:=aA hon
  clear hon
  have HO:=aA ho
  have HS:=aA hsp
  have HB:=aA hb
  have hbd:=aP hi hsp
  rw[HOn.out] at hbd
  have hsz:=hb.size
  clear ho hsp hb
  by_cases hin:i<s.size
  ·have hiz:(i:Int)<s.size:=by omega
   by_cases hc:s[i]=47
   ·have hcz:(((s[i].toNat:Nat):Int)==47)=true:=by rw[hc];rfl
    have HSn:Hid (XA ((bl s).take (i+1))=(o++[x]).map bl++[bl ⟨#[]⟩]):=by
     show _=_
     rw[BG s i hin,hc,UG,HS.out]
     simp[bl]
    have HNW:=aA (vM wr x)
    have HOC:Hid (∀u∈[Value.string x],u.oneCell'=true):=by intro u hu;simp at hu;subst hu;rfl
    clear hc
    go_wp2_with (at_builtin;go_loud (refine wpList_append_own _ rfl (.tmp 16) (.tmp 18) 22 rfl w.heap.size 9 i0 iz 1 16 Tryz.underlying22 HI.out.1 HI.out.2.1 HI.out.2.2.1 HI.out.2.2.2.1 HI.out.2.2.2.2 (by decide) (.slice sa on sc) on (o.map Value.string) (by simp[Act.eval]) (HO.out.alloc _) ⟨wr.heap.size,0,none⟩ 1 1 [.string x] (by simp[Act.eval]) rfl HNW.out HOC.out (by unfold maxLen;omega) (by omega) (by simp;omega) ?_))
    intro v' w' ho' hg _
    obtain⟨ga,ca,hv'⟩:=tA ho'
    subst hv'
    have HH:=aA (aI ho' hg)
    have HV:=aA (HO.out.lt)
    clear ho' hg
    go_wp2
    go_roundw
    case rel=>
     refine⟨i+1,o++[x],⟨#[]⟩,by omega,by go_num,rfl,?_,HSn.out,?_⟩
     ·have:=HH.out.1
      rw[List.length_append,List.length_singleton,HOn.out,List.map_append]
      exact this
     ·exact(HB.out.alloc HB.out.size _).grown HH.out.2 (by simp;omega) (fun k hk=>(HV.out k hk).1)
    case measure=>simp[RowKit.intOf];omega
   ·have hcz:(((s[i].toNat:Nat):Int)==47)=false:=by
     rw[beq_eq_false_iff_ne]
     intro e
     exact hc (UInt8.toNat_inj.1 (by show s[i].toNat=47;omega))
    have HSn:Hid (XA ((bl s).take (i+1))=o.map bl++[bl (x++s.extract i (i+1))]):=by
     show _=_
     rw[BG s i hin,FE hc _ _ _ HS.out,ER,FR s i hin]
    have hiz2:(i:Int)+1≤s.size:=by omega
    have hiz3:(0:Int)≤(i:Int)+1:=by omega
    have hiz4:(i:Int)≤(i:Int)+1:=by omega
    have hiz5:((i:Int)+1).toNat=i+1:=by omega
    have hiz6:(x.size:Int)+1≤9223372036854775807:=by omega
    clear hc
    go_wp2
    go_roundw
    case rel=>exact⟨i+1,o,_,by omega,by go_num,rfl,by rw[HOn.out];exact HO.out,HSn.out,HB.out⟩
    case measure=>simp[RowKit.intOf];omega
  ·obtain rfl:i=s.size:=by omega
   have hall:(bl s).take s.size=bl s:=List.take_of_length_le (by rw[oA];omega)
   have HSa:Hid (XA (bl s)=o.map bl++[bl x]):=by
    have:=HS.out
    rw[hall] at this
    exact this
   have hE:=LB s
   by_cases hx:s.size=0
   ·rw[show decide (s.size=0)=true by simpa using hx] at hE
    have hsl:bl s=[]:=List.eq_nil_of_length_eq_zero (by rw[oA];exact hx)
    have HRo:Hid (cA s=o):=by
     show _=_
     unfold cA
     rw[if_pos hx]
     have h1:=HSa.out
     rw[hsl] at h1
     have h2:=congrArg List.length h1
     rw[show XA []=[[]] from rfl] at h2
     simp at h2
     exact h2.symm
    clear hsl hx hall
    go_wp2
    go_ret
    exact⟨⟨_,rfl,by rw[HRo.out,HOn.out];exact HO.out⟩,HB.out⟩
   ·rw[show decide (s.size=0)=false by simpa using hx] at hE
    have HRo:Hid (cA s=o++[x]):=by
     show _=_
     unfold cA
     rw[if_neg hx,HSa.out,List.map_append,List.map_map]
     have:o.map (gD∘bl)=o:=by
      conv=>rhs;rw[←List.map_id o]
      exact List.map_congr_left fun y _=>rG y
     rw[this]
     simp[rG]
    have HNW:=aA (vM wr x)
    have HOC:Hid (∀u∈[Value.string x],u.oneCell'=true):=by intro u hu;simp at hu;subst hu;rfl
    clear hx hall
    go_wp2_with (at_builtin;go_loud (refine wpList_append_own _ rfl (.tmp 29) (.tmp 31) 22 rfl w.heap.size 9 i0 iz 1 16 Tryz.underlying22 HI.out.1 HI.out.2.1 HI.out.2.2.1 HI.out.2.2.2.1 HI.out.2.2.2.2 (by decide) (.slice sa on sc) on (o.map Value.string) (by simp[Act.eval]) (HO.out.alloc _) ⟨wr.heap.size,0,none⟩ 1 1 [.string x] (by simp[Act.eval]) rfl HNW.out HOC.out (by unfold maxLen;omega) (by omega) (by simp;omega) ?_))
    intro v' w' ho' hg _
    obtain⟨ga,ca,hv'⟩:=tA ho'
    subst hv'
    have HH:=aA (aI ho' hg)
    have HV:=aA (HO.out.lt)
    clear ho' hg
    go_wp2
    go_ret
    refine⟨⟨_,rfl,?_⟩,(HB.out.alloc HB.out.size _).grown HH.out.2 (by simp;omega) (fun k hk=>(HV.out k hk).1)⟩
    rw[HRo.out,List.length_append,List.length_singleton,HOn.out,List.map_append]
    exact HH.out.1
def MC(v:Nat→Value)(c:Nat)(u:Value):Nat→Value:=fun j=>if j=c then u else v j
theorem EA(v:Nat→Value)(c:Nat)(u:Value):MC v c u c=u:=by simp[MC]
theorem qA(v:Nat→Value){c j:Nat}(u:Value)(h:j≠c):MC v c u j=v j:=by simp[MC,h]
theorem DF{α:Type}:∀(l:List α) (i:Nat) (a:α),i≤l.length→l.insertIdx i a=l.take i++a::l.drop i
 |l,0,a,_=>by simp
 | [],i+1,a,h=>by simp at h
 |b::r,i+1,a,h=>by rw[List.insertIdx_succ_cons,DF r i a (by simpa using h)];rfl
structure Fr(X:Nat→Prop)(w w':World):Prop where
 os:w'.os=w.os
 tape:w'.tape=w.tape
 output:w'.output=w.output
 size:w.heap.size≤w'.heap.size
 block:∀k,k<w.heap.size→¬X k→w'.heap[k]?=w.heap[k]?
theorem Fr.refl(X:Nat→Prop)(w:World):Fr X w w:=⟨rfl,rfl,rfl,nR _,fun _ _ _=>rfl⟩
theorem Fr.trans{X:Nat→Prop}{a b c:World}(h:Fr X a b)(k:Fr X b c):Fr X a c:=⟨k.os.trans h.os,k.tape.trans h.tape,k.output.trans h.output,Nat.le_trans h.size k.size,fun i hi hx=>(k.block i (Nat.lt_of_lt_of_le hi h.size) hx).trans (h.block i hi hx)⟩
theorem Fr.of{X:Nat→Prop}{w w':World}(h:Below w.heap.size w w'):Fr X w w':=⟨h.os,h.tape,h.output,h.size,fun k hk _=>h.block k hk⟩
theorem Fr.bel{X:Nat→Prop}{w w1 w2:World}(h:Fr X w w1)(k:Below w1.heap.size w1 w2):Fr X w w2:=h.trans (Fr.of k)
theorem Fr.setCell{X:Nat→Prop}{w w':World}(h:Fr X w w'){p:Addr}(hp:X p.block∨w.heap.size≤p.block)(u:Value):Fr X w (w'.setCell p u):=
 ⟨h.os,h.tape,h.output,by have:=h.size;simp;exact this,fun k hk hx=>by rw[Below.heap_setCell _ _ _ _ (fun e=>by rcases hp with hp|hp;exact hx (e▸hp);omega)];exact h.block k hk hx⟩
theorem jH{w:World}{B:Nat}{v:Nat→Value}{t:It}{S:Nat→Prop}{K:Nat→Nat→Value}{T:Nat→Nat→Prop}(h:OwnK w B v t S K T){g:Nat}(h2:(v 2).ownBlock=some g):(v 3).ownBlock≠some g:=by
 intro h3
 rcases h.ln.2 with ⟨e1,_⟩|⟨g1,c1,cur1,e1,_,hg1,_⟩
 ·rw[e1] at h2;cases h2
 ·rcases h.kd.2 with ⟨e2,_⟩|⟨g2,c2,cur2,e2,_,hg2,_⟩
  ·rw[e2] at h3;cases h3
  ·rw[e1] at h2
   rw[e2] at h3
   injection h2 with h2
   injection h3 with h3
   have h2:g1=g:=h2
   have h3:g2=g:=h3
   rw[h2] at hg1
   rw[h3,hg1] at hg2
   injection hg2 with hg2
   injection hg2 with _ hg2 _
   exact absurd hg2 (by decide)
theorem YD{w w':World}{b o c:Nat}{v:Nat→Value}{u:Value}(h:∃cur ty,w.heap[b]?=some (.cells cur ty (0,0))∧∀c,c<4→cur[o+c]?=some (v c))(hc:c<4)(hb:w'.heap[b]?=(w.setCell ⟨b,o+c,none⟩ u).heap[b]?):(∃cur ty,w'.heap[b]?=some (.cells cur ty (0,0))∧∀j,j<4→cur[o+j]?=some (MC v c u j))∧∀cur ty,w.heap[b]?=some (.cells cur ty (0,0))→∃cur',w'.heap[b]?=some (.cells cur' ty (0,0))∧cur'.size=cur.size∧∀q,(q<o∨o+4≤q)→cur'[q]?=cur[q]?:=by
 obtain⟨cur,ty,e,hcs⟩:=h
 have e1:=hb.trans (OA u e)
 have hlt:o+c<cur.size:=by
  have:=hcs c hc
  exact(Array.getElem?_eq_some_iff.1 this).1
 refine⟨⟨_,ty,e1,fun j hj=>?_⟩,fun cur' ty' e'=>?_⟩
 ·rw[Array.getElem?_setIfInBounds]
  unfold MC
  by_cases hjc:j=c
  ·rw[if_pos (by omega),if_pos hlt,if_pos hjc]
  ·rw[if_neg (by omega),if_neg hjc]
   exact hcs j hj
 ·rw[e] at e'
  injection e' with e'
  injection e' with h1 h2 _
  subst h1 h2
  refine⟨_,e1,by simp,fun q hq=>?_⟩
  rw[Array.getElem?_setIfInBounds,if_neg (by omega)]
theorem fC{w w':World}{B:Nat}{v:Nat→Value}{t:It}{S:Nat→Prop}{K:Nat→Nat→Value}{T:Nat→Nat→Prop}(h:OwnK w B v t S K T){X:Nat→Prop}(hf:Fr X w w')(hX:∀i q,i<t.kids.length→T i q→¬X q):∀i k,t.kids[i]?=some k→Own w' B (K i) k (T i):=fun i k e=>by
 have hil:=(List.getElem?_eq_some_iff.1 e).1
 exact(h.hr i k e).step (fun q hq=>hf.block q (h.hS q (h.hT i q hil hq).1).2 (hX i q hil hq)) hf.size
theorem ItAt.setHead{w w':World}{B b o:Nat}{x:It}{S:Nat→Prop}{v:Nat→Value}(h:ItAt w B b o x S v)(s:ByteArray)(hf:Fr (· =b) w w')(hb:w'.heap[b]?=(w.setCell ⟨b,o+1,none⟩ (.string s)).heap[b]?):
 ItAt w' B b o (x.setHead s) S (MC v 1 (.string s))∧Upd w w' b o S:=by
 obtain⟨h1,h2⟩:=YD (u:=.string s) h.here (c:=1) (by omega) hb
 obtain⟨K,T,hk⟩:=h.own.parts
 have hn:∀q,S q→q≠b:=fun q hq e=>h.out (e▸hq)
 refine⟨⟨h1,?_,h.out⟩,⟨hf.os,hf.tape,hf.output,hf.size,fun k hk _ hne=>hf.block k hk hne,h2⟩⟩
 refine .mk _ _ K T S ((qA v _ (by omega)).trans hk.h0) (EA _ _ _) ?_ ?_ (fun g hg=>hk.sl g (by rw[qA v _ (by omega)] at hg;exact hg)) (fun g hg=>hk.sk g (by rw[qA v _ (by omega)] at hg;exact hg)) (fun i k e=>fC (t:=x) hk hf (fun i q hi hq=>hn q (hk.hT i q hi hq).1) i k e) (fun i q hi hq=>by rw[qA v _ (by omega),qA v _ (by omega)];exact hk.hT i q hi hq) hk.hd (fun g hg=>⟨(hk.hS g hg).1,Nat.lt_of_lt_of_le (hk.hS g hg).2 hf.size⟩)
 ·rw[qA v _ (by omega)]
  exact CA hk.ln fun g hg hl=>hf.block g hl (hn g (hk.sl g hg))
 ·rw[qA v _ (by omega)]
  exact CA hk.kd fun g hg hl=>hf.block g hl (hn g (hk.sk g hg))
theorem ItAt.setL{w w':World}{B b o:Nat}{x:It}{S:Nat→Prop}{v:Nat→Value}(h:ItAt w B b o x S v){u:Value}{ls:List ByteArray}(hf:Fr (fun k=>k=b∨(v 2).ownBlock=some k) w w')(hb:w'.heap[b]?=(w.setCell ⟨b,o+2,none⟩ u).heap[b]?)
 (hr:w'.ownsRow B 9 1 u ls.length (ls.map Value.string)) (hu:u.ownBlock=(v 2).ownBlock∨∃g,u.ownBlock=some g∧w.heap.size≤g∧g<w'.heap.size) (hB:B≤w.heap.size):
 ∃S' v',ItAt w' B b o (x.setLines ls) S' v'∧(∀q,S' q→S q∨w.heap.size≤q)∧Upd w w' b o S:=by
 obtain⟨h1,h2⟩:=YD (u:=u) h.here (c:=2) (by omega) hb
 obtain⟨K,T,hk⟩:=h.own.parts
 have hn:∀q,S q→q≠b:=fun q hq e=>h.out (e▸hq)
 have hlt:=h.lt
 refine⟨fun q=>S q∨(w.heap.size≤q∧q<w'.heap.size),MC v 2 u,⟨h1,?_,fun hh=>hh.elim h.out (fun e=>by omega)⟩,fun q hq=>hq.imp (fun h=>h) (fun h=>h.1),⟨hf.os,hf.tape,hf.output,hf.size,fun k hk' hs hne=>hf.block k hk' (fun e=>e.elim hne (fun e=>hs (hk.sl k e))),h2⟩⟩
 have hkne:∀g,(v 3).ownBlock=some g→¬(g=b∨(v 2).ownBlock=some g):=fun g hg e=>e.elim (hn g (hk.sk g hg)) (fun e=>jH hk e hg)
 refine .mk _ _ K T _ ((qA v _ (by omega)).trans hk.h0) ((qA v _ (by omega)).trans hk.h1) ?_ ?_ (fun g hg=>?_) (fun g hg=>?_) (fun i k e=>fC (t:=x) hk hf (fun i q hi hq e=>e.elim (hn q (hk.hT i q hi hq).1) (hk.hT i q hi hq).2.1) i k e) (fun i q hi hq=>?_) hk.hd (fun g hg=>?_)
 ·rw[EA];exact hr
 ·rw[qA v _ (by omega)]
  exact CA hk.kd fun g hg hl=>hf.block g hl (hkne g hg)
 ·rw[EA] at hg
  rcases hu with e|⟨g',e,h3,h4⟩
  ·exact .inl (hk.sl g (by rw[←e];exact hg))
  ·rw[e] at hg;injection hg with hg;subst hg;exact .inr ⟨h3,h4⟩
 ·rw[qA v _ (by omega)] at hg
  exact .inl (hk.sk g hg)
 ·have h9:=hk.hT i q hi hq
  refine⟨.inl h9.1,?_,by rw[qA v _ (by omega)];exact h9.2.2⟩
  rw[EA]
  rcases hu with e|⟨g',e,h3,h4⟩
  ·rw[e];exact h9.2.1
  ·rw[e];intro e2;injection e2 with e2;have:=(hk.hS q h9.1).2;omega
 ·rcases hg with hg|hg
  ·exact⟨(hk.hS g hg).1,Nat.lt_of_lt_of_le (hk.hS g hg).2 hf.size⟩
  ·exact⟨by omega,hg.2⟩
theorem ItAt.setLine{w:World}{B b o:Nat}{x:It}{S:Nat→Prop}{v:Nat→Value}(h:ItAt w B b o x S v){i:Nat}(hi:i<x.lines.length)(s:ByteArray):∃g cap,v 2=.slice (some ⟨g,0,none⟩) x.lines.length cap∧w.cell? ⟨g,i,none⟩=some (.string (x.lines[i]))∧w.frozen? ⟨g,i,none⟩=false∧∀w',Fr (· =g) w w'→w'.heap[g]?=(w.setCell ⟨g,i,none⟩ (.string s)).heap[g]?→ItAt w' B b o (x.setLines (x.lines.set i s)) S v∧Upd w w' b o S:=by
 obtain⟨K,T,hk⟩:=h.own.parts
 obtain⟨g,cap,cur,e,hr⟩:=UK hk.ln (by omega)
 have hS:=hk.sl g (by rw[e];rfl)
 have hn:∀q,S q→q≠b:=fun q hq e=>h.out (e▸hq)
 refine⟨g,cap,e,hr.cell (by rw[List.getElem?_map,List.getElem?_eq_getElem hi];rfl),hr.frozen _,fun w' hf hg=>?_⟩
 have hgb:g≠b:=hn g hS
 have hg:=hg.trans (OA _ hr.blk)
 have hbb:w'.heap[b]?=w.heap[b]?:=hf.block b h.lt (fun e=>hgb e.symm)
 have hilt:i<cur.size:=by have:=hr.sz;have:=hr.le;omega
 refine⟨⟨?_,?_,h.out⟩,⟨hf.os,hf.tape,hf.output,hf.size,fun k hk' hs hne=>hf.block k hk' (fun e=>hs (e▸hS)),fun cur' ty' e'=>⟨cur',hbb.trans e',rfl,fun _ _=>rfl⟩⟩⟩
 ·obtain⟨c0,ty,e0,h0⟩:=h.here
  exact⟨c0,ty,hbb.trans e0,h0⟩
 ·have hl:(x.setLines (x.lines.set i s)).lines.length=x.lines.length:=by show (x.lines.set i s).length=_;simp
  refine .mk v _ K T S hk.h0 hk.h1 ?_ ?_ hk.sl hk.sk (fun j k ej=>fC (t:=x) hk hf (fun j q hj hq e2=>(hk.hT j q hj hq).2.1 (by rw[e,e2];rfl)) j k ej) hk.hT hk.hd (fun q hq=>⟨(hk.hS q hq).1,Nat.lt_of_lt_of_le (hk.hS q hq).2 hf.size⟩)
  ·rw[hl]
   show w'.ownsRow B 9 1 (v 2) x.lines.length ((x.lines.set i s).map Value.string)
   rw[e]
   refine RowB.row (cur:=cur.setIfInBounds i (.string s)) ⟨hr.hB,hg,hr.le,hr.mx,by simp[hr.sz],?_,by simp⟩
   rw[Array.toList_setIfInBounds,List.take_set,hr.is,List.map_set]
  ·exact CA hk.kd fun q hq hl'=>hf.block q hl' (fun e2=>jH hk (g:=q) (by rw[e,e2];rfl) hq)
set_option maxRecDepth 100000 in
theorem dE:Tryz.prog.underlying 51=some (.pointer 25):=by rfl
set_option maxRecDepth 100000 in
theorem mG:∃j,Tryz.prog.info? 25=some j∧j.size≠0:=⟨_,rfl,by decide⟩
theorem NK(a:Addr)(w:World):(binOp .eql 51 (.pointer (some a)) (.pointer (some a))).run Tryz.prog w=.ok (.bool true) w:=by
 obtain⟨j,h,_⟩:=mG
 exact run_eql_ptr_same w a dE h
theorem YI{w:World}{B b o b' o':Nat}{x x':It}{S S':Nat→Prop}{v v':Nat→Value}(h:ItAt w B b o x S v)(h':ItAt w B b' o' x' S' v')(hn:¬(b=b'∧o=o')):(binOp .eql 51 (.pointer (some ⟨b,o,none⟩)) (.pointer (some ⟨b',o',none⟩))).run Tryz.prog w=.ok (.bool false) w:=by
 obtain⟨j,hj,hz⟩:=mG
 obtain⟨cur,ty,e,_⟩:=h.here
 obtain⟨cur',ty',e',_⟩:=h'.here
 exact run_eql_ptr_other w dE hj hz (fun e=>hn (by injection e with e1 e2;exact⟨e1,e2⟩)) e e'
theorem yN(a:Addr)(w:World):(binOp .neq 51 (.pointer (some a)) (.pointer (some a))).run Tryz.prog w=.ok (.bool false) w:=by
 have h:=NK a w
 simp only[binOp] at h ⊢
 simp only[Sem.run_bind] at h ⊢
 revert h
 cases (Op.equal 51 (.pointer (some a)) (.pointer (some a))).run Tryz.prog w<;>simp
theorem SL{w:World}{B b o b' o':Nat}{x x':It}{S S':Nat→Prop}{v v':Nat→Value}(h:ItAt w B b o x S v)(h':ItAt w B b' o' x' S' v')(hn:¬(b=b'∧o=o')):(binOp .neq 51 (.pointer (some ⟨b,o,none⟩)) (.pointer (some ⟨b',o',none⟩))).run Tryz.prog w=.ok (.bool true) w:=by
 have h:=YI h h' hn
 simp only[binOp] at h ⊢
 simp only[Sem.run_bind] at h ⊢
 revert h
 cases (Op.equal 51 (.pointer (some ⟨b,o,none⟩)) (.pointer (some ⟨b',o',none⟩))).run Tryz.prog w<;>simp
end Go.Proofs.YtpbolcjcmkmalaaGreatDoor
namespace Go.Proofs.YtpbolcjcmkmalaaGreatDoor
open Go.RowKit
section
variable {P:Program} {ops:Array Oper} {C:World→Prop} {Q:Act→Prop} {o:Oper} {rest:List Oper} {a:Act}
theorem ZI(v:Value)(hw:Region.wanted o (yielded ops a.tmps)=true)(h:∀w,C w→(execOp a.eval o).run P w=.ok (.value v) w)(hk:wpQuiet P ops C Q rest (a.put o.dst v)):wpQuiet P ops C Q (o::rest) a:=by
 unfold wpQuiet
 rw[if_pos hw]
 refine⟨v,fun w hC=>?_,hk⟩
 unfold Oper.quietAt
 rw[h w hC]
 exact⟨rfl,rfl⟩
theorem TL(f:FuncId)(args:Array Value)(v:Value)(hw:Region.wanted o (yielded ops a.tmps)=true)(h:∀w,C w→(execOp a.eval o).run P w=.ok (.enter f args) w)(hc:∀w,C w→Calls P f args w fun e w'=>e=.returned v∧C w')(hk:wpQuiet P ops C Q rest (a.put o.dst v)):wpQuiet P ops C Q (o::rest) a:=by
 unfold wpQuiet
 rw[if_pos hw]
 refine⟨v,fun w hC=>?_,hk⟩
 unfold Oper.quietAt
 rw[h w hC]
 exact⟨rfl,hc w hC⟩
theorem zN(hw:Region.wanted o (yielded ops a.tmps)=false)(hk:wpQuiet P ops C Q rest (a.put o.dst undef)):wpQuiet P ops C Q (o::rest) a:=by
 unfold wpQuiet
 rw[if_neg (by rw[hw];simp)]
 exact hk
end
theorem ZA{P:Program}{C:World→Prop}{id:Nat}{Q:Exit→Act→World→Prop}{a:Act}{w:World}{l:List Oper}(hm:P.follows .mixedOrders=true)(hB:Region.lexB .any l.toArray=true)(hC:C {w with drawn:=w.drawn+1})
 (h:wpQuiet P l.toArray C (fun a'=>∀w',C w'→Q .normal a' w') l a):(Code.region id l.toArray true).wp P Q a w:=wp_region_quiet (C:=C) hm hB hC (by simpa using h)
end Go.Proofs.YtpbolcjcmkmalaaGreatDoor
namespace Go.Proofs.YtpbolcjcmkmalaaGreatDoor
open Go.RowKit Go.Extern.Stop Go.Stop Go.Extern Go.Maps Go.ChangeMaps
def UnF(w:World)(a:Addr):Prop:=(∃u,w.cell? a=some u)∧w.frozen? a=false
theorem UnF.shape{w:World}{a:Addr}(h:UnF w a):∃s,w.shape? a.block=some s:=by
 obtain⟨⟨u,hu⟩,_⟩:=h
 have hc:=hu
 unfold World.cell? at hc
 unfold World.shape?
 split at hc
 ·rename_i e
  exact⟨_,rfl⟩
 ·cases hc
theorem UnF.on{w w':World}{a:Addr}(h:UnF w a)(hb:w'.heap[a.block]?=w.heap[a.block]?):UnF w' a:=
 ⟨by obtain⟨u,hu⟩:=h.1;exact⟨u,(World.cell?_of_block hb).trans hu⟩,(World.frozen?_of_block hb).trans h.2⟩
theorem UnF.set{w:World}{a p:Addr}(h:UnF w a)(u:Value):UnF (w.setCell p u) a:=by
 refine⟨?_,by rw[World.frozen?_setCell];exact h.2⟩
 obtain⟨x,hx⟩:=h.1
 by_cases e:p=a
 ·subst e
  exact⟨u,by rw[World.cell?_setCell_same _ _ _ (by rw[hx])]⟩
 ·exact⟨x,by rw[World.cell?_setCell_other _ _ _ _ e];exact hx⟩
theorem UnF.drewN{w:World}{a:Addr}(h:UnF w a)(n:Nat):UnF (w.drewN n) a:=h
theorem xL{P:Program}(q:Question)(w:World):∃n k,(choose q).run P w=.ok n (w.drewN k):=by
 unfold choose Sem.run
 split
 ·exact⟨0,0,rfl⟩
 ·exact⟨_,1,rfl⟩
theorem ME{P:Program}(a:Addr)(w:World):∃r,(stringish a).run P w=.ok r w:=by
 unfold stringish
 cases h:w.frozen? a
 ·cases hs:w.shape? a.block with
  |none=>exact⟨false,by simp[h,hs]⟩
  |some s=>exact⟨w.frozen? {block:=a.block,off:=s.2},by simp[h,hs]⟩
 ·exact⟨true,by simp[h]⟩
theorem EN{P:Program}{a b:Addr}{w:World}(ha:UnF w a)(hb:UnF w b):∃r k,(sameAddr a b).run P w=.ok r (w.drewN k):=by
 obtain⟨sa,hsa⟩:=ha.shape
 obtain⟨sb,hsb⟩:=hb.shape
 obtain⟨ra,hra⟩:=ME (P:=P) a w
 obtain⟨rb,hrb⟩:=ME (P:=P) b w
 by_cases hbl:a.block=b.block
 ·exact⟨a==b,0,by simp[sameAddr,hbl];rfl⟩
 ·have hm:∃r,(mayBeOne a b).run P w=.ok r w:=by
   unfold mayBeOne
   simp[hra,hrb,shape,hsa,hsb,Sem.run]
  obtain⟨r,hm⟩:=hm
  cases r
  ·exact⟨false,0,by simp[sameAddr,hbl,ha.2,noView,viewAt,hsa,hsb,hm];rfl⟩
  ·by_cases hq:(Question.extern "sameAddr.stringBytes" 2).forced=true
   ·exact⟨false,0,by simp[sameAddr,hbl,ha.2,noView,viewAt,hsa,hsb,hm,hq];rfl⟩
   ·exact⟨_,1,by simp[sameAddr,hbl,ha.2,noView,viewAt,hsa,hsb,hm,hq];exact⟨rfl,rfl⟩⟩
def PlnF(w:World)(a:Addr):Prop:=∃c t,w.heap[a.block]?=some (.cells c t (0,0))
theorem PlnF.on{w w':World}{a:Addr}(h:PlnF w a)(hb:w'.heap[a.block]?=w.heap[a.block]?):PlnF w' a:=by
 obtain⟨c,t,h⟩:=h
 exact⟨c,t,hb.trans h⟩
theorem PlnF.set{w:World}{a:Addr}(h:PlnF w a)(g o:Nat)(u:Value):PlnF (w.setCell ⟨g,o,none⟩ u) a:=by
 obtain⟨c,t,h⟩:=h
 by_cases e:a.block=g
 ·rw[e] at h
  exact⟨_,t,by rw[e];exact OA u h⟩
 ·exact⟨c,t,(Below.heap_setCell _ _ _ _ e).trans h⟩
theorem pP{P:Program}{a b:Addr}{w:World}(ha:PlnF w a)(hb:PlnF w b):(sameAddr a b).run P w=.ok (decide (a=b)) w:=by
 obtain⟨c,t,ha⟩:=ha
 obtain⟨c',t',hb⟩:=hb
 by_cases e:a=b
 ·subst e
  rw[decide_eq_true rfl]
  exact run_sameAddr_same w a
 ·rw[decide_eq_false e]
  exact run_sameAddr_other w e ha hb
theorem fQ{P:Program}{tp te:TypeId}{i:TypeInfo}(hp:P.underlying tp=some (.pointer te))(hte:P.info? te=some i)(hsz:i.size≠0){a b:Addr}{w:World}(ha:UnF w a)(hb:UnF w b):∃r k,(Op.equal tp (.pointer (some a)) (.pointer (some b))).run P w=.ok r (w.drewN k)∧(PlnF w a→PlnF w b→r=decide (a=b)):=by
 obtain⟨r,k,h⟩:=EN (P:=P) ha hb
 have h2:∀d:Nat,(Op.equalIn (d+1) tp (.pointer (some a)) (.pointer (some b))).run P w=.ok r (w.drewN k):=fun d=>by
  simp[Op.equalIn,run_underlying hp,sizeOf,typeInfo,hte,hsz,h]
 refine⟨r,k,by simp[Op.equal,Op.maxDepth,h2 9999],fun pa pb=>?_⟩
 rw[pP pa pb] at h
 injection h with h _
 exact h.symm
theorem SR{a b:Addr}{w:World}(ha:UnF w a)(hb:UnF w b):∃r k,(Op.equal 51 (.pointer (some a)) (.pointer (some b))).run Tryz.prog w=.ok r (w.drewN k)∧(PlnF w a→PlnF w b→r=decide (a=b)):=by
 obtain⟨j,hj,hz⟩:=mG
 exact fQ dE hj hz ha hb
def AR(w:World)(ex:Prop)(F:Addr→Int→Prop)(e:MapEntry):Prop:=∃a x,e.key=.pointer (some a)∧e.val=.int .i64 x∧UnF w a∧(ex→PlnF w a)∧F a x
theorem rH{ex:Prop}{F:Addr→Int→Prop}{a:Addr}:∀(es:List MapEntry) (i:Nat) (w:World),UnF w a→(ex→PlnF w a)→(∀e∈es,AR w ex F e)→∃r k,(Instr.findAsking 51 (.pointer (some a)) es i).run Tryz.prog w=.ok r (w.drewN k)∧(∀j u,r=some (j,u)→∃e,es[j - i]?=some e∧i≤j∧u=e.val∧(ex→e.key=.pointer (some a)))∧(r=none→ex→∀e∈es,e.key≠.pointer (some a))
 | [],i,w,_,_,_=>⟨none,0,by simp[Instr.findAsking];rfl,(fun j u h=>by cases h),fun _ _ e he=>by cases he⟩
 |e::es,i,w,ha,hp,h=>by
  obtain⟨b,x,hk,hv,hb,hpb,hF⟩:=h e (by simp)
  obtain⟨r,k,hr,hex⟩:=SR ha hb
  cases r
  ·obtain⟨r2,k2,h2,h3,h4⟩:=rH (ex:=ex) (F:=F) es (i+1) (w.drewN k) (ha.drewN k) hp (fun e he=>h e (by simp[he]))
   refine⟨r2,k+k2,?_,fun j u hj=>?_,fun hn hx e' he'=>?_⟩
   ·rw[Instr.findAsking,Sem.run_bind,hk,hr,Result.andThen_ok]
    simp only[Bool.false_eq_true,if_false]
    rw[h2]
    simp[World.drewN,Nat.add_assoc]
   ·obtain⟨e',h5,h6,h7,h8⟩:=h3 j u hj
    exact⟨e',by rw[show j - i=(j - (i+1))+1 by omega,List.getElem?_cons_succ];exact h5,by omega,h7,h8⟩
   ·rcases List.mem_cons.1 he' with rfl|he'
    ·intro e2
     rw[hk] at e2
     injection e2 with e2
     injection e2 with e2
     have:=hex (hp hx) (hpb hx)
     rw[e2,decide_eq_true rfl] at this
     cases this
    ·exact h4 hn hx e' he'
  ·refine⟨some (i,e.val),k,?_,fun j u hj=>?_,fun hn=>by cases hn⟩
   ·rw[Instr.findAsking,Sem.run_bind,hk,hr,Result.andThen_ok]
    rfl
   ·injection hj with hj
    injection hj with h1 h2
    subst h1 h2
    refine⟨e,by simp,nR _,rfl,fun hx=>?_⟩
    have:=of_decide_eq_true (hex (hp hx) (hpb hx)).symm
    rw[hk,this]
theorem JG{ex:Prop}{F:Addr→Int→Prop}{a:Addr}(es:List MapEntry)(w:World)(ha:UnF w a)(hp:ex→PlnF w a)(h:∀e∈es,AR w ex F e):∃r k,(Instr.findKey 51 (.pointer (some a)) es).run Tryz.prog w=.ok r (w.drewN k)∧(∀j u,r=some (j,u)→∃e,es[j]?=some e∧u=e.val∧(ex→e.key=.pointer (some a)))∧(r=none→ex→∀e∈es,e.key≠.pointer (some a)):=by
 unfold Instr.findKey
 rw[Sem.run_bind,run_underlying dE,Result.andThen_ok]
 match es,h with
 | [],_=>exact⟨none,0,by simp[Instr.findNow];rfl,(fun j u h=>by cases h),fun _ _ e he=>by cases he⟩
 |e::es,h=>
  obtain⟨b,x,hk,_⟩:=h e (by simp)
  have hs:Instr.findNow (.pointer 25) (.pointer (some a)) (e::es) 0=none:=by
   unfold Instr.findNow
   rw[hk]
   rfl
  rw[hs]
  obtain⟨r,k,h1,h2,h3⟩:=rH (ex:=ex) (F:=F) (e::es) 0 w ha hp h
  exact⟨r,k,h1,fun j u hj=>(by obtain⟨e',h3,_,h4,h5⟩:=h2 j u hj;exact⟨e',by simpa using h3,h4,h5⟩),h3⟩
def MpP(w:World)(mb:Nat)(ex:Prop)(F:Addr→Int→Prop):Prop:=∃es clock,w.heap[mb]?=some (.map es clock)∧(∀e∈es.toList,AR w ex F e)∧(ex→es.toList.Pairwise fun x y=>x.key≠y.key)
section
variable {ex:Prop} {F:Addr→Int→Prop}
theorem MpP.lt{w:World}{mb:Nat}(h:MpP w mb ex F):mb<w.heap.size:=by
 obtain⟨es,cl,h,_⟩:=h
 exact(Array.getElem?_eq_some_iff.1 h).1
theorem MpP.on{w w':World}{mb:Nat}(h:MpP w mb ex F)(hb:w'.heap[mb]?=w.heap[mb]?)(hu:∀a,UnF w a→UnF w' a)(hp:∀a,PlnF w a→PlnF w' a):MpP w' mb ex F:=by
 obtain⟨es,cl,h1,h2,h3⟩:=h
 exact⟨es,cl,hb.trans h1,fun e he=>(by obtain⟨a,x,h3,h4,h5,h6,h7⟩:=h2 e he;exact⟨a,x,h3,h4,hu a h5,fun hx=>hp a (h6 hx),h7⟩),h3⟩
theorem MpP.drewN{w:World}{mb:Nat}(h:MpP w mb ex F)(n:Nat):MpP (w.drewN n) mb ex F:=h
theorem MpP.imp{w:World}{mb:Nat}{F':Addr→Int→Prop}(h:MpP w mb ex F)(hF:∀a x,F a x→F' a x):MpP w mb ex F':=by
 obtain⟨es,cl,h1,h2,h3⟩:=h
 exact⟨es,cl,h1,fun e he=>(by obtain⟨a,x,h3,h4,h5,h6,h7⟩:=h2 e he;exact⟨a,x,h3,h4,h5,h6,hF a x h7⟩),h3⟩
theorem sE(em:Bool)(a:Addr)(w:World):(Instr.checkKey em 10000 51 (.pointer (some a))).run Tryz.prog w=.ok () w:=by
 show (Instr.checkKey em (9999+1) 51 (.pointer (some a))).run Tryz.prog w=.ok () w
 unfold Instr.checkKey
 rw[Sem.run_bind,run_underlying dE,Result.andThen_ok]
 rfl
set_option maxRecDepth 100000 in
theorem mH:Tryz.prog.underlying 155=some (.map 51 3):=by rfl
theorem MpP.look{w:World}{mb:Nat}(h:MpP w mb ex F){a:Addr}(ha:UnF w a)(hp:ex→PlnF w a):∃(x:Int) (is:Bool) (k:Nat),(Instr.lookup 155 (.map (some mb)) (.pointer (some a)) true).run Tryz.prog w=.ok (.tuple #[.int .i64 x,.bool is]) (w.drewN k)∧(is=false→x=0)∧(is=true→∃b,F b x∧(ex→b=a)):=by
 obtain⟨es,cl,h1,h2,_⟩:=h
 obtain⟨r,k,hf,hr,_⟩:=JG es.toList w ha hp h2
 unfold Instr.lookup
 cases r with
 |none=>
  refine⟨0,false,k,?_,fun _=>rfl,fun e=>by cases e⟩
  simp[run_underlying mH,MapKept.run_getObj_map h1,sE,hf,Result.andThen]
 |some p=>
  obtain⟨j,u⟩:=p
  obtain⟨e,he,rfl,hex⟩:=hr j u rfl
  obtain⟨b,x,hk,hx,_,_,hF⟩:=h2 e (List.mem_of_getElem? he)
  refine⟨x,true,k,?_,(fun e=>by cases e),fun _=>⟨b,hF,fun hh=>?_⟩⟩
  ·simp[run_underlying mH,MapKept.run_getObj_map h1,sE,hf,hx,Result.andThen]
  ·have:=hex hh
   rw[hk] at this
   exact Option.some.inj (Value.pointer.inj this)
theorem IN{P:Program}(old new:Value)(w:World):∃u k,(Instr.keyThatStays old new).run P w=.ok u (w.drewN k)∧(u=old∨u=new):=by
 unfold Instr.keyThatStays
 split
 ·exact⟨new,0,rfl,.inr rfl⟩
 ·obtain⟨n,k,hn⟩:=xL (P:=P) (.extern "map.whichKeyStays" 2) w
  rw[Sem.run_bind,hn,Result.andThen_ok]
  by_cases h0:n=0
  ·exact⟨new,k,by rw[if_pos h0];rfl,.inr rfl⟩
  ·exact⟨old,k,by rw[if_neg h0];rfl,.inl rfl⟩
theorem UnF.setBlock{w:World}{mb:Nat}{es:Array MapEntry}{cl:Nat}(hm:w.heap[mb]?=some (.map es cl)){a:Addr}(h:UnF w a)(o:Obj):UnF (setBlock w mb o) a:=by
 refine h.on (heap_setBlock_other hm _ fun e=>?_)
 obtain⟨⟨u,hu⟩,_⟩:=h
 unfold World.cell? at hu
 rw[e,hm] at hu
 cases hu
theorem PlnF.setBlock{w:World}{mb:Nat}{es:Array MapEntry}{cl:Nat}(hm:w.heap[mb]?=some (.map es cl)){a:Addr}(h:PlnF w a)(o:Obj):PlnF (setBlock w mb o) a:=by
 refine h.on (heap_setBlock_other hm _ fun e=>?_)
 obtain⟨c,t,hu⟩:=h
 rw[e,hm] at hu
 cases hu
theorem MpP.store{w:World}{mb:Nat}(h:MpP w mb ex F){a:Addr}(ha:UnF w a)(hp:ex→PlnF w a){x:Int}{F':Addr→Int→Prop}(f1:∀b y,F b y→(ex→b≠a)→F' b y)(f2:F' a x)(f3:∀b y,F b y→(ex→b=a)→F' b x):
 ∃w',(Instr.mapUpdate 155 (.map (some mb)) (.pointer (some a)) (.int .i64 x)).run Tryz.prog w=.ok () w'∧MpP w' mb ex F'∧w.grownBy w' (some mb):=by
 obtain⟨es,cl,h2,h3,h9⟩:=h
 obtain⟨r,k,hf,hr,hno⟩:=JG es.toList w ha hp h3
 have h2k:(w.drewN k).heap[mb]?=some (.map es cl):=h2
 have hgr:∀(n:Nat) (o:Obj),w.grownBy (setBlock (w.drewN n) mb o) (some mb):=fun n o=>⟨rfl,rfl,rfl,by simp[setBlock],fun i _ hi=>heap_setBlock_other (w:=w.drewN n) h2 _ (fun e=>hi (by rw[e]))⟩
 cases r with
 |none=>
  refine⟨setBlock (w.drewN k) mb (.map (es.push {key:=.pointer (some a),val:=.int .i64 x,born:=cl}) (cl+1)),?_,⟨_,_,heap_setBlock_same h2k _,fun e he=>?_,fun hx=>?_⟩,hgr k _⟩
  ·simp[Instr.mapUpdate,run_underlying mH,MapKept.run_getObj_map h2,sE,hf,MapKept.run_setObj_map _ h2k,Result.andThen,setBlock]
  ·rw[Array.toList_push,List.mem_append] at he
   rcases he with he|he
   ·obtain⟨b,y,h4,h5,h6,h7,h8⟩:=h3 e he
    refine⟨b,y,h4,h5,UnF.setBlock h2k (h6.drewN k) _,fun hx=>PlnF.setBlock h2k (h7 hx) _,f1 b y h8 fun hx e2=>?_⟩
    exact hno rfl hx e he (by rw[h4,e2])
   ·obtain rfl:e=_:=by simpa using he
    exact⟨a,x,rfl,rfl,UnF.setBlock h2k (ha.drewN k) _,fun hx=>PlnF.setBlock h2k (hp hx) _,f2⟩
  ·rw[Array.toList_push]
   refine List.pairwise_append.2 ⟨h9 hx,by simp,fun e he e' he'=>?_⟩
   obtain rfl:e'=_:=by simpa using he'
   exact hno rfl hx e he
 |some p=>
  obtain⟨j,u⟩:=p
  obtain⟨e0,he0,rfl,hex⟩:=hr j u rfl
  obtain⟨b0,y0,hk0,hv0,hb0,hp0,hF0⟩:=h3 e0 (List.mem_of_getElem? he0)
  have he0':es[j]?=some e0:=by simpa using he0
  obtain⟨u,k2,hs,hu⟩:=IN (P:=Tryz.prog) e0.key (.pointer (some a)) (w.drewN k)
  have h2k2:(w.drewN (k+k2)).heap[mb]?=some (.map es cl):=h2
  have hba:ex→b0=a:=fun hx=>by
   have:=hex hx
   rw[hk0] at this
   exact Option.some.inj (Value.pointer.inj this)
  have hup:∃b,u=.pointer (some b)∧UnF w b∧(ex→PlnF w b)∧F' b x∧(ex→b=b0):=by
   rcases hu with rfl|rfl
   ·exact⟨b0,hk0,hb0,hp0,f3 b0 y0 hF0 hba,fun _=>rfl⟩
   ·exact⟨a,rfl,ha,hp,f2,fun hx=>(hba hx).symm⟩
  obtain⟨b,rfl,hb,hpb,hFb,hbb⟩:=hup
  refine⟨setBlock (w.drewN (k+k2)) mb (.map (es.modify j fun e=>{e with key:=.pointer (some b),val:=.int .i64 x}) cl),?_,⟨_,_,heap_setBlock_same h2k2 _,fun e he=>?_,fun hx=>?_⟩,?_⟩
  ·simp[Instr.mapUpdate,run_underlying mH,MapKept.run_getObj_map h2,sE,hf,he0',hs,MapKept.run_setObj_map _ h2k2,Result.andThen,setBlock]
  ·obtain⟨i,hi⟩:=List.getElem?_of_mem he
   rw[Array.getElem?_toList,Array.getElem?_modify] at hi
   split at hi
   ·obtain⟨e1,h5,rfl⟩:=Option.map_eq_some_iff.1 hi
    exact⟨b,x,rfl,rfl,UnF.setBlock h2k2 hb _,fun hx=>PlnF.setBlock h2k2 (hpb hx) _,hFb⟩
   ·rename_i hij
    have hi':es.toList[i]?=some e:=by simpa using hi
    obtain⟨b1,y1,h4,h5,h6,h7,h8⟩:=h3 e (List.mem_of_getElem? hi')
    refine⟨b1,y1,h4,h5,UnF.setBlock h2k2 h6 _,fun hx=>PlnF.setBlock h2k2 (h7 hx) _,f1 b1 y1 h8 fun hx e2=>?_⟩
    obtain⟨hj1,hj2⟩:=List.getElem?_eq_some_iff.1 he0
    obtain⟨hi1,hi2⟩:=List.getElem?_eq_some_iff.1 hi'
    have hpw:=List.pairwise_iff_getElem.1 (h9 hx)
    have hke:e.key=e0.key:=by rw[h4,hk0,e2,hba hx]
    rcases Nat.lt_trichotomy i j with hlt|hlt|hlt
    ·exact hpw i j hi1 hj1 hlt (by rw[hi2,hj2];exact hke)
    ·exact hij hlt.symm
    ·exact hpw j i hj1 hi1 hlt (by rw[hi2,hj2];exact hke.symm)
  ·have hkeys:(es.modify j fun e=>{e with key:=.pointer (some b),val:=.int .i64 x}).toList.map (·.key)=es.toList.map (·.key):=by
    apply List.ext_getElem?
    intro i
    simp only[List.getElem?_map,Array.getElem?_toList,Array.getElem?_modify]
    by_cases hij:j=i
    ·subst hij
     simp[he0',hk0,hbb hx]
    ·simp[hij]
   have h10:=h9 hx
   rw[←List.pairwise_map (f:=fun e:MapEntry=>e.key) (R:=fun x y=>x≠y)] at h10 ⊢
   rw[hkeys]
   exact h10
  ·exact hgr (k+k2) (.map (es.modify j fun e=>{e with key:=.pointer (some b),val:=.int .i64 x}) cl)
end
end Go.Proofs.YtpbolcjcmkmalaaGreatDoor
namespace Go.Proofs.YtpbolcjcmkmalaaGreatDoor
open Go.RowKit Go.Extern.Stop Go.Stop Go.Extern
def NodeAt(w:World)(b o:Nat)(v:Nat→Value):Prop:=∃cur,w.heap[b]?=some (.cells cur 25 (0,0))∧∀c,c<4→cur[o+c]?=some (v c)
theorem NodeAt.cell{w:World}{b o:Nat}{v:Nat→Value}(h:NodeAt w b o v){c:Nat}(hc:c<4):w.cell? ⟨b,o+c,none⟩=some (v c):=by
 obtain⟨cur,e,hcs⟩:=h
 unfold World.cell?
 rw[e]
 exact hcs c hc
theorem NodeAt.lt{w:World}{b o:Nat}{v:Nat→Value}(h:NodeAt w b o v):b<w.heap.size:=dA (h.cell (c:=0) (by omega))
theorem NodeAt.frozen{w:World}{b o:Nat}{v:Nat→Value}(h:NodeAt w b o v)(i:Nat):w.frozen? ⟨b,i,none⟩=false:=by
 obtain⟨cur,e,hcs⟩:=h
 unfold World.frozen?
 rw[e]
 simp
def RowI(w:World)(B:Nat)(v:Value)(n:Nat):Prop:=
 (v=.slice none 0 0∧n=0)∨∃g cap cur,v=.slice (some ⟨g,0,none⟩) n cap∧B≤g∧w.heap[g]?=some (.cells cur 25 (0,0))∧n≤cap∧cap≤maxLen∧cur.size=cap * 4
theorem RowI.mono{w:World}{B B':Nat}{v:Value}{n:Nat}(h:RowI w B v n)(hB:B'≤B):RowI w B' v n:=by
 rcases h with h|⟨g,cap,cur,e,hb,r⟩
 ·exact .inl h
 ·exact .inr ⟨g,cap,cur,e,by omega,r⟩
theorem RowI.in{w:World}{B:Nat}{v:Value}{n:Nat}(h:RowI w B v n):∀g,v.ownBlock=some g→B≤g∧g<w.heap.size:=by
 intro g hg
 rcases h with ⟨rfl,_⟩|⟨g',cap,cur,rfl,hb,e,_⟩
 ·cases hg
 ·injection hg with hg
  have hg:g'=g:=hg
  subst hg
  exact⟨hb,(Array.getElem?_eq_some_iff.1 e).1⟩
theorem RowI.of{w:World}{B:Nat}{v:Value}{n:Nat}{xs:List Value}(h:w.ownsRow B 25 4 v n xs):RowI w B v n:=by
 rcases h.2 with h|⟨g,cap,cur,e,hb,hg,h1,h2,h3,_⟩
 ·exact .inl h
 ·exact .inr ⟨g,cap,cur,e,hb,hg,h1,h2,h3⟩
inductive Ren(w:World)(B:Nat)(L:List (Nat×Nat×It)):Nat→Nat→It→(Nat→Prop)→Prop
 |opn (b o:Nat) (t:It) (S:Nat→Prop) (v:Nat→Value) (here:NodeAt w b o v) (h0:v 0=.string t.label) (h1:v 1=.string t.head)
  (ln:w.ownsRow B 9 1 (v 2) t.lines.length (t.lines.map Value.string)) (sl:∀g,(v 2).ownBlock=some g→S g) (hS:∀g,S g→B≤g∧g<w.heap.size) (hb:¬S b) (ho:o % 4=0) (hm:(b,o,t)∈L):Ren w B L b o t S
 |fin (b o:Nat) (t:It) (S:Nat→Prop) (v:Nat→Value) (here:NodeAt w b o v) (h0:v 0=.string t.label) (h1:v 1=.string t.head)
  (ln:w.ownsRow B 9 1 (v 2) t.lines.length (t.lines.map Value.string)) (sl:∀g,(v 2).ownBlock=some g→S g) (hS:∀g,S g→B≤g∧g<w.heap.size) (hb:¬S b) (ho:o % 4=0) (hn:∀t',(b,o,t')∉L)
  (T:Nat→Nat→Prop) (kd:RowI w B (v 3) t.kids.length) (sk:∀g,(v 3).ownBlock=some g→S g) (hr:∀g i k,(v 3).ownBlock=some g→t.kids[i]?=some k→Ren w B L g (i * 4) k (T i))
  (hT:∀i g,i<t.kids.length→T i g→S g∧(v 2).ownBlock≠some g∧(v 3).ownBlock≠some g) (hd:∀i j g,i<t.kids.length→j<t.kids.length→T i g→T j g→i=j):Ren w B L b o t S
structure One3(w w':World)(b o:Nat)(u:Value):Prop where
 size:w.heap.size≤w'.heap.size
 block:∀k,k<w.heap.size→k≠b→(∀cur,w.heap[k]?≠some (.cells cur 51 (0,0)))→w'.heap[k]?=w.heap[k]?
 here:∀cur ty,w.heap[b]?=some (.cells cur ty (0,0))→∃cur',w'.heap[b]?=some (.cells cur' ty (0,0))∧cur'.size=cur.size∧(∀q,q≠o→cur'[q]?=cur[q]?)∧(o<cur.size→cur'[o]?=some u)
structure NewK(w w':World)(B:Nat)(L:List (Nat×Nat×It))(u:Value)(t:It)(T:Nat→Nat→Prop):Prop where
 kd:RowI w' w.heap.size u t.kids.length
 hr:∀g i k,u.ownBlock=some g→t.kids[i]?=some k→Ren w' B L g (i * 4) k (T i)
 hT:∀i g,i<t.kids.length→T i g→w.heap.size≤g∧g<w'.heap.size∧u.ownBlock≠some g
 hd:∀i j g,i<t.kids.length→j<t.kids.length→T i g→T j g→i=j
theorem cE:(25:Nat)≠9:=by decide
theorem oB:(25:Nat)≠51:=by decide
theorem cI:(9:Nat)≠51:=by decide
theorem aF{w:World}{B e s:Nat}{v:Value}{n:Nat}{xs:List Value}(h:w.ownsRow B e s v n xs){g:Nat}(hg:v.ownBlock=some g):∃cur,w.heap[g]?=some (.cells cur e (0,0)):=by
 rcases h.2 with ⟨rfl,_⟩|⟨g',cap,cur,rfl,_,e1,_⟩
 ·cases hg
 ·injection hg with hg
  have hg:g'=g:=hg
  subst hg
  exact⟨cur,e1⟩
theorem One3.row{w w':World}{b o:Nat}{u:Value}(hf:One3 w w' b o u)(hb:∃cur,w.heap[b]?=some (.cells cur 25 (0,0))){B:Nat}{v:Value}{n:Nat}{xs:List Value}(h:w.ownsRow B 9 1 v n xs):w'.ownsRow B 9 1 v n xs:=by
 refine CA h fun g hg hl=>?_
 obtain⟨cur,e⟩:=aF h hg
 obtain⟨cur',e'⟩:=hb
 refine hf.block g hl (fun e2=>?_) (fun c e2=>?_)
 ·subst e2
  rw[e] at e'
  injection e' with e'
  injection e' with _ e' _
  exact cE e'.symm
 ·rw[e] at e2
  injection e2 with e2
  injection e2 with _ e2 _
  exact cI e2
theorem One3.node{w w':World}{b o o0:Nat}{u:Value}(hf:One3 w w' b (o0+3) u)(h0:o0 % 4=0){b':Nat}{v:Nat→Value}(h:NodeAt w b' o v)(ho:o % 4=0)(hn:¬(b'=b∧o=o0)):NodeAt w' b' o v:=by
 obtain⟨cur,e,hc⟩:=h
 by_cases hb:b'=b
 ·subst hb
  obtain⟨cur',e1,_,e3,_⟩:=hf.here cur _ e
  refine⟨cur',e1,fun c hc'=>?_⟩
  rw[e3 _ (by
   intro e5
   have:o≠o0:=fun e=>hn ⟨rfl,e⟩
   omega)]
  exact hc c hc'
 ·exact⟨cur,(hf.block b' (Array.getElem?_eq_some_iff.1 e).1 hb (fun c e2=>by
   rw[e] at e2
   injection e2 with e2
   injection e2 with _ e2 _
   exact oB e2)).trans e,hc⟩
theorem One3.that{w w':World}{b o:Nat}{u:Value}(hf:One3 w w' b (o+3) u){v:Nat→Value}(h:NodeAt w b o v):NodeAt w' b o (MC v 3 u):=by
 obtain⟨cur,e,hc⟩:=h
 obtain⟨cur',e1,e2,e3,e4⟩:=hf.here cur _ e
 refine⟨cur',e1,fun c hc'=>?_⟩
 by_cases h3:c=3
 ·subst h3
  rw[EA]
  exact e4 ((Array.getElem?_eq_some_iff.1 (hc 3 (by omega))).1)
 ·rw[e3 _ (by omega),qA v u h3]
  exact hc c hc'
theorem One3.rowI{w w':World}{b o:Nat}{u:Value}(hf:One3 w w' b o u){B:Nat}{v:Value}{n:Nat}(h:RowI w B v n):RowI w' B v n:=by
 rcases h with h|⟨g,cap,cur,e,hb,hg,h1,h2,h3⟩
 ·exact .inl h
 ·by_cases hgb:g=b
  ·subst hgb
   obtain⟨cur',e1,e2,_,_⟩:=hf.here cur _ hg
   exact .inr ⟨g,cap,cur',e,hb,e1,h1,h2,by omega⟩
  ·exact .inr ⟨g,cap,cur,e,hb,(hf.block g (Array.getElem?_eq_some_iff.1 hg).1 hgb (fun c e2=>by
    rw[hg] at e2
    injection e2 with e2
    injection e2 with _ e2 _
    exact oB e2)).trans hg,h1,h2,h3⟩
theorem Ren.cast{w:World}{B:Nat}{L:List (Nat×Nat×It)}{b o:Nat}{t:It}{S S':Nat→Prop}(h:Ren w B L b o t S)(e:∀q,S q↔S' q):Ren w B L b o t S':=by
 have:S=S':=funext fun q=>propext (e q)
 exact this▸h
theorem Ren.step{w w':World}{B:Nat}{L L':List (Nat×Nat×It)}{b0 o0:Nat}{t0:It}{u:Value}{T0:Nat→Nat→Prop}(hB:B≤w.heap.size)(h0:o0 % 4=0)(hb0:∃cur,w.heap[b0]?=some (.cells cur 25 (0,0)))
 (hf:One3 w w' b0 (o0+3) u) (hk:NewK w w' B L' u t0 T0) (hm0:(b0,o0,t0)∈L) (hL:∀p,p∈L→(p.1=b0∧p.2.1=o0→p.2.2=t0)∧(¬(p.1=b0∧p.2.1=o0)→p∈L'))
 (hL0:∀t',(b0,o0,t')∉L') (hL':∀p,p∈L'→p∈L∨w.heap.size≤p.1) {b o:Nat} {t:It} {S:Nat→Prop} (h:Ren w B L b o t S):
 Ren w' B L' b o t (fun q=>S q∨((b=b0∧o=o0∨S b0)∧w.heap.size≤q∧q<w'.heap.size)):=by
 have hb0l:b0<w.heap.size:=by obtain⟨cur,e⟩:=hb0;exact(Array.getElem?_eq_some_iff.1 e).1
 induction h with
 |opn b o t S v here f0 f1 ln sl hS hb ho hm=>
  have hbl:=here.lt
  by_cases hbo:b=b0∧o=o0
  ·obtain⟨rfl,rfl⟩:=hbo
   obtain rfl:t=t0:=(hL _ hm).1 ⟨rfl,rfl⟩
   refine .fin b o t _ (MC v 3 u) (hf.that here) ((qA v u (by omega)).trans f0) ((qA v u (by omega)).trans f1) ?_ (fun g hg=>.inl (sl g (by rw[qA v u (by omega)] at hg;exact hg))) (fun g hg=>?_) (fun hh=>?_) ho hL0 T0 ?_ (fun g hg=>?_) (fun g i k hg hi=>?_) (fun i g hi hg=>?_) hk.hd
   ·rw[qA v u (by omega)]
    exact hf.row hb0 ln
   ·rcases hg with hg|⟨_,h1,h2⟩
    ·have:=hS g hg;have:=hf.size;omega
    ·omega
   ·rcases hh with hh|⟨_,h1,_⟩
    ·exact hb hh
    ·omega
   ·rw[EA];exact hk.kd.mono hB
   ·rw[EA] at hg
    exact .inr ⟨.inl ⟨rfl,rfl⟩,hk.kd.in g hg⟩
   ·rw[EA] at hg
    exact hk.hr g i k hg hi
   ·have h9:=hk.hT i g hi hg
    rw[qA v u (by omega),EA]
    exact⟨.inr ⟨.inl ⟨rfl,rfl⟩,h9.1,h9.2.1⟩,fun e=>by have:=(hS g (sl g e)).2;omega,h9.2.2⟩
  ·refine .opn b o t _ v (hf.node h0 here ho hbo) f0 f1 (hf.row hb0 ln) (fun g hg=>.inl (sl g hg)) (fun g hg=>?_) (fun hh=>?_) ho ((hL _ hm).2 hbo)
   ·rcases hg with hg|⟨_,h1,h2⟩
    ·have:=hS g hg;have:=hf.size;omega
    ·omega
   ·rcases hh with hh|⟨_,h1,_⟩
    ·exact hb hh
    ·omega
 |fin b o t S v here f0 f1 ln sl hS hb ho hn T kd sk hr hT hd ih=>
  have hbl:=here.lt
  have hbo:¬(b=b0∧o=o0):=by
   rintro ⟨rfl,rfl⟩
   exact hn t0 hm0
  have hTS:∀i q,i<t.kids.length→T i q→q<w.heap.size:=fun i q hi hq=>(hS q (hT i q hi hq).1).2
  refine .fin b o t _ v (hf.node h0 here ho hbo) f0 f1 (hf.row hb0 ln) (fun g hg=>.inl (sl g hg)) (fun g hg=>?_) (fun hh=>?_) ho (fun t' ht=>?_)
   (fun i q=>T i q∨(((v 3).ownBlock=some b0∧i * 4=o0∨T i b0)∧w.heap.size≤q∧q<w'.heap.size)) (hf.rowI kd) (fun g hg=>.inl (sk g hg)) (fun g i k hg hi=>?_) (fun i g hi hg=>?_) (fun i j g hi hj hg hg'=>?_)
  ·rcases hg with hg|⟨_,h1,h2⟩
   ·have:=hS g hg;have:=hf.size;omega
   ·omega
  ·rcases hh with hh|⟨_,h1,_⟩
   ·exact hb hh
   ·omega
  ·rcases hL' _ ht with h1|h1
   ·exact hn t' h1
   ·have h1:w.heap.size≤b:=h1
    omega
  ·refine(ih g i k hg hi).cast fun q=>?_
   rw[hg]
   constructor
   ·rintro (h1|⟨h1|h1,h2⟩)
    ·exact .inl h1
    ·exact .inr ⟨.inl ⟨by rw[h1.1],h1.2⟩,h2⟩
    ·exact .inr ⟨.inr h1,h2⟩
   ·rintro (h1|⟨h1|h1,h2⟩)
    ·exact .inl h1
    ·exact .inr ⟨.inl ⟨by have e:=h1.1;injection e,h1.2⟩,h2⟩
    ·exact .inr ⟨.inr h1,h2⟩
  ·rcases hg with hg|⟨h1,h2,h3⟩
   ·have h9:=hT i g hi hg
    exact⟨.inl h9.1,h9.2⟩
   ·refine⟨.inr ⟨.inr ?_,h2,h3⟩,fun e=>?_,fun e=>?_⟩
    ·rcases h1 with h1|h1
     ·exact sk b0 h1.1
     ·exact(hT i b0 hi h1).1
    ·have:=(hS g (sl g e)).2;omega
    ·have:=(hS g (sk g e)).2;omega
  ·rcases hg with hg|⟨h1,h2,_⟩<;>rcases hg' with hg'|⟨h1',h2',_⟩
   ·exact hd i j g hi hj hg hg'
   ·have:=hTS i g hi hg;omega
   ·have:=hTS j g hj hg';omega
   ·rcases h1 with h1|h1<;>rcases h1' with h1'|h1'
    ·omega
    ·exact absurd h1.1 (hT j b0 hj h1').2.2
    ·exact absurd h1'.1 (hT i b0 hi h1).2.2
    ·exact hd i j b0 hi hj h1 h1'
theorem Ren.own{w:World}{B:Nat}{b o:Nat}{t:It}{S:Nat→Prop}(h:Ren w B [] b o t S):∃v,NodeAt w b o v∧Own w B v t S∧¬S b:=by
 induction h with
 |opn b o t S v here f0 f1 ln sl hS hb ho hm=>cases hm
 |fin b o t S v here f0 f1 ln sl hS hb ho hn T kd sk hr hT hd ih=>
  refine⟨v,here,?_,hb⟩
  rcases kd with ⟨e,hz⟩|⟨g,cap,cur,e,hBg,hg,h1,h2,h3⟩
  ·refine .mk v t (fun _ _=>.nilIface) T S f0 f1 ln ?_ sl sk (fun i k hi=>?_) hT hd hS
   ·rw[e,hz]
    exact World.ownsRow_nil _ _ _ _
   ·have:=(List.getElem?_eq_some_iff.1 hi).1
    omega
  ·have hex:∀i,∃x:Nat→Value,∀k,t.kids[i]?=some k→NodeAt w g (i * 4) x∧Own w B x k (T i):=fun i=>by
    cases hi:t.kids[i]? with
    |none=>exact⟨fun _=>.nilIface,fun k hk=>by cases hk⟩
    |some k=>
     obtain⟨x,hx,ho',_⟩:=ih g i k (by rw[e];rfl) hi
     exact⟨x,fun k' hk'=>by injection hk' with hk';subst hk';exact⟨hx,ho'⟩⟩
   obtain⟨K,hK⟩:=Classical.axiomOfChoice hex
   refine .mk v t K T S f0 f1 ln ⟨LA _ _,.inr ⟨g,cap,cur,e,hBg,hg,h1,h2,h3,?_⟩⟩ sl sk (fun i k hi=>(hK i k hi).2) hT hd hS
   apply List.ext_getElem?
   intro q
   rw[List.getElem?_take]
   split
   ·rename_i hq
    obtain⟨k,hk⟩:∃k,t.kids[q / 4]?=some k:=⟨_,List.getElem?_eq_getElem (by omega)⟩
    obtain⟨cur',e',hc⟩:=(hK (q / 4) k hk).1
    rw[hg] at e'
    injection e' with e'
    injection e' with e' _ _
    subst e'
    have h5:=bB K t.kids.length (q / 4) (q % 4) (by omega) (by omega)
    have h6:=hc (q % 4) (by omega)
    rw[show q / 4 * 4+q % 4=q by omega] at h5 h6
    rw[h5,Array.getElem?_toList]
    exact h6
   ·rename_i hq
    rw[List.getElem?_eq_none (by rw[LA];omega)]
end Go.Proofs.YtpbolcjcmkmalaaGreatDoor
namespace Go.Proofs.YtpbolcjcmkmalaaGreatDoor
open Go.RowKit
theorem zU(b j:Nat):(⟨b,0,none⟩:Addr).add j=⟨b,j,none⟩:=by cases j<;>simp[Addr.add]
theorem yU(b o j:Nat):(⟨b,o,none⟩:Addr).add j=⟨b,o+j,none⟩:=by cases j<;>simp[Addr.add]
theorem SJ(W:World)(cs:List Value)(T:Nat):(W.alloc (.cells cs.toArray T)).rangeAt W.heap.size 0 cs:=fun j u h=>by
 rw[Nat.zero_add,cell_of_row _ _ j cs.toArray T (0,0) (Go.Deep.blk_alloc_new W _)]
 simpa using h
structure Enc(α:Type) where
 f:α→List Value
 k:Nat
 pos:0<k
 len:∀x,(f x).length=k
 one:∀x u,u∈f x→u.oneCell'=true
section
variable {α:Type} (E:Enc α)
def Enc.all(l:List α):List Value:=l.flatMap E.f
theorem Enc.all_nil:E.all []=[]:=rfl
theorem Enc.all_cons(x:α)(l:List α):E.all (x::l)=E.f x++E.all l:=rfl
theorem Enc.all_app(a b:List α):E.all (a++b)=E.all a++E.all b:=by unfold Enc.all;rw[List.flatMap_append]
theorem Enc.all_len:∀l:List α,(E.all l).length=l.length * E.k
 | []=>by simp[Enc.all]
 |x::l=>by rw[E.all_cons,List.length_append,E.len,Enc.all_len l,List.length_cons,Nat.succ_mul];omega
end
structure RowG{α:Type}(E:Enc α)(T:Nat)(w:World)(B:Nat)(v:Value)(l:List α):Prop where
 row:w.ownsRow B T E.k v l.length (E.all l)
 len:l.length≤100000000
section
variable {α:Type} {E:Enc α} {T:Nat}
theorem RowG.any{w:World}{B:Nat}{v:Value}{l:List α}(h:RowG E T w B v l):∃a c,v=.slice a l.length c:=by
 rcases h.row.2 with ⟨rfl,e⟩|⟨g,cap,cur,rfl,_⟩
 ·exact⟨_,_,by rw[e]⟩
 ·exact⟨_,_,rfl⟩
theorem RowG.on{w w':World}{B:Nat}{v:Value}{l:List α}(h:RowG E T w B v l)(hk:∀g,v.ownBlock=some g→B≤g→g<w.heap.size→w'.heap[g]?=w.heap[g]?):RowG E T w' B v l:=by
 refine⟨⟨h.row.1,?_⟩,h.len⟩
 rcases h.row.2 with hn|⟨g,cap,cur,rfl,hb,hgg,rest⟩
 ·exact .inl hn
 ·exact .inr ⟨g,cap,cur,rfl,hb,(hk g rfl hb (Array.getElem?_eq_some_iff.1 hgg).1).trans hgg,rest⟩
theorem RowG.below{w w':World}{B:Nat}{v:Value}{l:List α}(h:RowG E T w B v l)(hb:Below w.heap.size w w'):RowG E T w' B v l:=h.on fun g _ _ hl=>hb.block g hl
theorem RowG.cells{w:World}{B:Nat}{v:Value}{l:List α}(h:RowG E T w B v l){g n cap:Nat}(hv:v=.slice (some ⟨g,0,none⟩) n cap):∀j u,(E.all l)[j]?=some u→w.cell? ⟨g,j,none⟩=some u:=fun j u hu=>by
 have h0:=h.row
 obtain⟨a,c,e⟩:=h.any
 rw[hv] at e
 injection e with e1 e2 e3
 subst e2 hv
 have:=World.ownsRow.cells h0 (g:=g) rfl j u hu
 rwa [zU] at this
theorem CI{S bytes:Nat}(hI:∃i z,Tryz.prog.info? T=some i∧i.zero=some z∧i.size=E.k∧i.bytes=bytes∧z.cells.size=E.k)(hby:bytes≤200)(hU:Tryz.prog.underlying S=some (.slice T)){W:World}{ops:Array Oper}{rest:List Oper}{o:Oper}{a:Act}{Q:Exit→Act→World→Prop}(hgd:o.guard=.none)(s x:Operand)
 (ho:o.op=.call {callee:=.builtin .append,args:=#[s,x],argTypes:=#[S,S]}) (B:Nat) (v:Value) (l:List α) (y:α) (cs:Array Value) (hcs:cs=(E.f y).toArray) (hs:a.eval s=v) (hown:RowG E T W B v l)
 (hx:a.eval x=.slice (some ⟨W.heap.size,0,.none⟩) 1 1) (hB:B≤W.heap.size) (hl:l.length+1≤1000000)
 (h:∀v' w',RowG E T w' B v' (l++[y])→Below B W w'→(∀k,v.ownBlock≠some k→k<W.heap.size→w'.heap[k]?=W.heap[k]?)→(∀k,v'.ownBlock=some k→v.ownBlock=some k∨W.heap.size≤k)→wpList Tryz.prog ops Q rest (a.put o.dst v') w'):wpList Tryz.prog ops Q (o::rest) a (W.alloc (.cells cs T)):=by
 obtain⟨i0,z,h1,h2,h3,h4,h5⟩:=hI
 subst hcs
 have hn:∀(j:Nat) (u:Value),(E.f y)[j]?=some u→(W.alloc (.cells (E.f y).toArray T)).cell? ((⟨W.heap.size,0,.none⟩:Addr).add j)=some u:=fun j u hj=>by
  have:=SJ W (E.f y) T j u hj
  rw[yU]
  exact this
 have hal:=(hown.below ((Below.refl _ _).alloc (nR _) (.cells (E.f y).toArray T)))
 refine wpList_append_own_at _ hgd s x S ho B T i0 z E.k bytes hU h1 h2 h3 h4 h5 E.pos v l.length (E.all l) hs hal.row ⟨W.heap.size,0,.none⟩ 1 1 (E.f y) hx (by rw[E.len,Nat.one_mul]) hn (E.one y) (by unfold maxLen;omega) (by have h6:(l.length+1) * bytes≤1000000 * 200:=Nat.mul_le_mul hl hby;omega) (by simp;omega) ?_
 intro v' w' hown' hgrow _ hblk
 refine h v' w' ⟨?_,by rw[List.length_append];simp only[List.length_cons,List.length_nil];omega⟩ (((Below.refl B W).alloc hB _).grown hgrow (by simp;omega) (fun k hk=>(hown.row.lt k hk).1)) (fun k hk hlt=>?_) (fun k hk=>?_)
 ·rw[List.length_append,E.all_app,show E.all [y]=E.f y by rw[E.all_cons,E.all_nil,List.append_nil]]
  exact hown'
 ·rw[hgrow.block k (by simp;omega) (fun e=>hk e.symm),Go.Deep.blk_alloc_lt _ _ _ hlt]
 ·rcases hblk with e|e
  ·exact .inl (e▸hk)
  ·rw[hk] at e
   injection e with e
   exact .inr (by simp at e;omega)
end
section
variable {α:Type} {E:Enc α} {T:Nat}
end
structure SlV where
 a:Option Addr
 n:Nat
 c:Nat
structure Nest(X Y:Type) where
 E:Enc (X×SlV)
 F:Enc Y
 sub:X→List Y
section
variable {X Y:Type} {N:Nest X Y} {T:Nat} {K:Nat→Prop}
end
end Go.Proofs.YtpbolcjcmkmalaaGreatDoor

import Derived.Test.YtpbolcjcmkmalaaGreatDoorAq00
import Derived.Test.YtpbolcjcmkmalaaGreatDoorAq29
import Derived.Test.YtpbolcjcmkmalaaGreatDoorAq22
import Derived.Test.YtpbolcjcmkmalaaGreatDoorAq25
import Derived.Test.YtpbolcjcmkmalaaGreatDoorAq33
import Derived.Deep.DeepCutAuto
import Derived.Deep.RegionHeld3
import Derived.Test.YtpbolcjcmkmalaaGreatDoorAq28
import Derived.Test.YtpbolcjcmkmalaaGreatDoorAq32
set_option maxHeartbeats 20000000
set_option maxRecDepth 20000
namespace Go.Proofs.YtpbolcjcmkmalaaGreatDoor
open Go.RowKit Go.Extern.Stop Go.Stop Go.Extern
theorem dP{W w4:World}{B b o d:Nat}{x k:It}{S Ty:Nat→Prop}{v y:Nat→Value}{K:Nat→Nat→Value}{T:Nat→Nat→Prop}(h:ItAt W B b o x S v)(hk:OwnK W B v x S K T)(hB:B≤W.heap.size)(hd:d≤x.kids.length){a:Option Addr}{c:Nat}
 (hf:Fr (fun k=>k=b∨(v 3).ownBlock=some k) W w4) (hb:w4.heap[b]?=(W.setCell ⟨b,o+3,none⟩ (.slice a (x.kids.length+1) c)).heap[b]?) (hr:w4.ownsRow B 25 4 (.slice a (x.kids.length+1) c) (x.kids.length+1) (GA (lG K d y) (x.kids.length+1)))
 (hyt:Own w4 B y k Ty) (hTy:∀q,Ty q→W.heap.size≤q) (hu3:∀g,(Value.slice a (x.kids.length+1) c).ownBlock=some g→(v 3).ownBlock=some g∨(W.heap.size≤g∧g<w4.heap.size)) (hTn:∀q,Ty q→(Value.slice a (x.kids.length+1) c).ownBlock≠some q):
 ∃S' v',ItAt w4 B b o (x.setKids (x.kids.insertIdx d k)) S' v'∧(∀q,S' q→S q∨W.heap.size≤q)∧Upd W w4 b o S:=by
 have hl:(x.kids.insertIdx d k).length=x.kids.length+1:=by rw[List.length_insertIdx,if_pos hd]
 have hn':∀q,S q→q≠b:=fun q hq e=>h.out (e▸hq)
 have hlt:=h.lt
 have hst:=fun j k' (ej:x.kids[j]?=some k')=>fC (t:=x) hk hf (fun i q hi hq e2=>e2.elim (hn' q (hk.hT i q hi hq).1) (hk.hT i q hi hq).2.2) j k' ej
 have hin:∀i,i<x.kids.length+1→(i=d∧lG K d y i=y∧lG T d Ty i=Ty)∨∃j,j<x.kids.length∧i≠d∧lG K d y i=K j∧lG T d Ty i=T j∧(j=if i<d then i else i - 1):=fun i hi=>by
  unfold lG
  rcases Nat.lt_trichotomy i d with h1|h1|h1
  ·exact .inr ⟨i,by omega,by omega,by rw[if_pos h1],by rw[if_pos h1],by rw[if_pos h1]⟩
  ·exact .inl ⟨h1,by rw[if_neg (by omega),if_pos h1],by rw[if_neg (by omega),if_pos h1]⟩
  ·exact .inr ⟨i - 1,by omega,by omega,by rw[if_neg (by omega),if_neg (by omega)],by rw[if_neg (by omega),if_neg (by omega)],by rw[if_neg (by omega)]⟩
 have hTS:∀j q,j<x.kids.length→T j q→q<W.heap.size:=fun j q hj hq=>(hk.hS q (hk.hT j q hj hq).1).2
 have hset:ItAt w4 B b o (x.setKids (x.kids.insertIdx d k)) (fun q=>S q∨(W.heap.size≤q∧q<w4.heap.size)) (MC v 3 (.slice a (x.kids.length+1) c))∧Upd W w4 b o S:=by
  refine h.setK (u:=.slice a (x.kids.length+1) c) (ks:=x.kids.insertIdx d k) (K':=lG K d y) (T':=lG T d Ty) (S':=fun q=>S q∨(W.heap.size≤q∧q<w4.heap.size)) hf hb (by rw[hl];exact hr) (fun i k' ei=>?_) (fun q hq=>?_) (fun g hg'=>.inl (hk.sl g hg')) (fun g hg'=>?_) (fun i q hi hq=>?_) (fun i i' q hi hi' hq hq'=>?_) (fun hh=>?_)
  ·have hi:i<x.kids.length+1:=by rw[←hl];exact(List.getElem?_eq_some_iff.1 ei).1
   rcases hin i hi with ⟨h1,h2,h3⟩|⟨j,h1,h2,h3,h4,h5⟩
   ·rw[h2,h3]
    rcases CF hd ei with ⟨h6,_⟩|⟨_,h7⟩|⟨h6,_⟩
    ·omega
    ·rw[h7];exact hyt
    ·omega
   ·rw[h3,h4]
    refine hst j k' ?_
    rcases CF hd ei with ⟨h6,h7⟩|⟨h6,_⟩|⟨h6,h7⟩
    ·rw[h5,if_pos h6];exact h7
    ·exact absurd h6 h2
    ·rw[h5,if_neg (by omega)];exact h7
  ·rcases hq with hq|hq
   ·exact⟨(hk.hS q hq).1,Nat.lt_of_lt_of_le (hk.hS q hq).2 hf.size⟩
   ·exact⟨by omega,hq.2⟩
  ·exact(hu3 g hg').imp (fun h1=>hk.sk g h1) (fun h1=>h1)
  ·rw[hl] at hi
   rcases hin i hi with ⟨h1,h2,h3⟩|⟨j,h1,h2,h3,h4,h5⟩
   ·rw[h3] at hq
    refine⟨.inr ⟨hTy q hq,(hyt.in q hq).2⟩,fun e2=>?_,hTn q hq⟩
    have:=(hk.hS q (hk.sl q e2)).2;have:=hTy q hq;omega
   ·rw[h4] at hq
    have h9:=hk.hT j q h1 hq
    refine⟨.inl h9.1,h9.2.1,fun e2=>?_⟩
    rcases hu3 q e2 with h6|h6
    ·exact h9.2.2 h6
    ·have:=hTS j q h1 hq;omega
  ·rw[hl] at hi hi'
   rcases hin i hi with ⟨h1,h2,h3⟩|⟨j,h1,h2,h3,h4,h5⟩<;>rcases hin i' hi' with ⟨h1',h2',h3'⟩|⟨j',h1',h2',h3',h4',h5'⟩
   ·omega
   ·rw[h3] at hq
    rw[h4'] at hq'
    have:=hTS j' q h1' hq';have:=hTy q hq;omega
   ·rw[h4] at hq
    rw[h3'] at hq'
    have:=hTS j q h1 hq;have:=hTy q hq';omega
   ·rw[h4] at hq
    rw[h4'] at hq'
    have e9:=hk.hd j j' q h1 h1' hq hq'
    rw[h5,h5'] at e9
    split at e9<;>split at e9<;>omega
  ·rcases hh with hh|hh
   ·exact h.out hh
   ·omega
 exact⟨_,_,hset.1,fun q hq=>hq.imp (fun h=>h) (fun h=>h.1),hset.2⟩
structure Put4(w w':World)(g o:Nat)(y:Nat→Value):Prop where
 os:w'.os=w.os
 tape:w'.tape=w.tape
 output:w'.output=w.output
 size:w'.heap.size=w.heap.size
 block:∀q,q≠g→w'.heap[q]?=w.heap[q]?
 row:∀cur ty fz,w.heap[g]?=some (.cells cur ty fz)→∃cur',w'.heap[g]?=some (.cells cur' ty fz)∧cur'.size=cur.size∧(∀c,c<4→o+c<cur.size→cur'[o+c]?=some (y c))∧∀q,(q<o∨o+4≤q)→cur'[q]?=cur[q]?
theorem oV(w:World)(g o:Nat)(y:Nat→Value):Put4 w ((((w.setCell ⟨g,o,none⟩ (y 0)).setCell ⟨g,o+1,none⟩ (y 1)).setCell ⟨g,o+2,none⟩ (y 2)).setCell ⟨g,o+3,none⟩ (y 3)) g o y:=by
 refine⟨rfl,rfl,rfl,by simp,fun q hq=>?_,fun cur ty fz e=>?_⟩
 ·rw[Below.heap_setCell _ _ _ _ hq,Below.heap_setCell _ _ _ _ hq,Below.heap_setCell _ _ _ _ hq,Below.heap_setCell _ _ _ _ hq]
 ·refine⟨(((cur.setIfInBounds o (y 0)).setIfInBounds (o+1) (y 1)).setIfInBounds (o+2) (y 2)).setIfInBounds (o+3) (y 3),?_,by simp,fun c hc hl=>?_,fun q hq=>?_⟩
  ·exact OA _ (OA _ (OA _ (OA _ e)))
  ·simp only[Array.getElem?_setIfInBounds,Array.size_setIfInBounds]
   match c,hc with
   |0,_=>rw[if_neg (by omega),if_neg (by omega),if_neg (by omega),if_pos (by omega),if_pos (by omega)]
   |1,_=>rw[if_neg (by omega),if_neg (by omega),if_pos (by omega),if_pos (by omega)]
   |2,_=>rw[if_neg (by omega),if_pos (by omega),if_pos (by omega)]
   |3,_=>rw[if_pos (by omega),if_pos (by omega)]
  ·simp only[Array.getElem?_setIfInBounds]
   rw[if_neg (by omega),if_neg (by omega),if_neg (by omega),if_neg (by omega)]
theorem nP{w3 w4:World}{B g d n c:Nat}{K:Nat→Nat→Value}{y y':Nat→Value}(hr:w3.ownsRow B 25 4 (.slice (some ⟨g,0,none⟩) n c) n (GA (lG K d y) n))(hd:d<n)(hp:Put4 w3 w4 g (d * 4) y'):w4.ownsRow B 25 4 (.slice (some ⟨g,0,none⟩) n c) n (GA (lG K d y') n):=by
 refine⟨LA _ _,?_⟩
 rcases hr.2 with ⟨e,_⟩|⟨g',cap,cur,e,hb,hg,h1,h2,h3,h4⟩
 ·cases e
 ·injection e with e1 _ e2
  injection e1 with e1
  injection e1 with e1 _ _
  subst e1 e2
  obtain⟨cur',e5,e6,e7,e8⟩:=hp.row cur _ _ hg
  refine .inr ⟨g,c,cur',rfl,hb,e5,h1,h2,by omega,?_⟩
  apply List.ext_getElem?
  intro q
  have hcl:cur.size=c * 4:=h3
  rcases Nat.lt_or_ge q (n * 4) with hq|hq
  ·rw[List.getElem?_take,if_pos hq,kC _ hq,Array.getElem?_toList]
   by_cases hqd:q / 4=d
   ·obtain⟨j,hj⟩:∃j,j=q - d * 4:=⟨_,rfl⟩
    have hj4:j<4:=by omega
    have:=e7 j hj4 (by omega)
    rw[show d * 4+j=q by omega] at this
    rw[this]
    unfold lG
    rw[if_neg (by omega),if_pos hqd,show q % 4=j by omega]
   ·rw[e8 q (by omega)]
    have h9:=kC (lG K d y) hq
    rw[←h4,List.getElem?_take,if_pos hq,Array.getElem?_toList] at h9
    rw[h9]
    unfold lG
    rcases Nat.lt_trichotomy (q / 4) d with h8|h8|h8
    ·rw[if_pos h8,if_pos h8]
    ·exact absurd h8 hqd
    ·rw[if_neg (by omega),if_neg hqd,if_neg (by omega),if_neg hqd]
  ·rw[List.getElem?_eq_none (by rw[List.length_take,Array.length_toList];omega),List.getElem?_eq_none (by rw[LA];omega)]
structure PutH(W:World)(B b o d:Nat)(x k:It)(S:Nat→Prop)(w2:World)(g c:Nat):Prop where
 cell:w2.cell? ⟨b,o+3,none⟩=some (.slice (some ⟨g,0,none⟩) (x.kids.length+1) c)
 lt:g<w2.heap.size
 upd:Upd W w2 b o S
 lies:mF w2 b o (x.setKids (x.kids.insertIdx d k))
 place:∀j,j<4→∃u,w2.cell? ⟨g,d * 4+j,none⟩=some u
 frz:∀i,w2.frozen? ⟨g,i,none⟩=false
 fin:∀(w3 w4:World) (y:Nat→Value) (Ty:Nat→Prop),Below w2.heap.size w2 w3→Put4 w3 w4 g (d * 4) y→Own w3 B y k Ty→(∀q,Ty q→w2.heap.size≤q)→∃S' v',ItAt w4 B b o (x.setKids (x.kids.insertIdx d k)) S' v'∧(∀q,S' q→S q∨W.heap.size≤q)∧Upd W w4 b o S
theorem CS{W:World}{B b o d vb:Nat}{x k:It}{S:Nat→Prop}{v iv:Nat→Value}(h:ItAt W B b o x S v)(hB:B≤W.heap.size)(hBb:B≤b)(hd:d≤x.kids.length)(hn:x.kids.length≤1000000){ka:Option Addr}{kc:Nat}(e:v 3=.slice ka x.kids.length kc)(hi:Lies W (· <B) iv k)(hv:W.heap[vb]?=some (.cells #[iv 0,iv 1,iv 2,iv 3] 25 (0,0)))(hvb:¬S vb):
 Calls Tryz.prog 77 #[.slice ka x.kids.length kc,.int .i64 d,.slice (some ⟨vb,0,none⟩) 1 1] W fun e w'=>∃a n c,e=.returned (.slice a n c)∧StC b o 3 (.slice a n c) w' (fun w2=>∃g c,PutH W B b o d x k S w2 g c):=by
 obtain⟨K,T,hk⟩:=h.own.parts
 have hkd:=hk.kd
 rw[e] at hkd
 obtain⟨f0,f1,⟨fa,fc,f2⟩,fa',fc',f3⟩:=hi.forms
 refine(sO (ns:=[iv 0,iv 1,iv 2,iv 3]) hkd (KH hk) hd hn hv rfl (fun u hu=>by simp only[List.mem_cons,List.not_mem_nil,or_false] at hu;rcases hu with rfl|rfl|rfl|rfl;rw[f0];rfl;rw[f1];rfl;rw[f2];rfl;rw[f3];rfl) (fun e2=>hvb (hk.sk vb (by rw[e];exact e2))) hB).mono ?_
 rintro e' w' ⟨⟨u,rfl,hu,hr⟩,hg⟩
 rw[xF K iv hd] at hr
 obtain⟨g,c,rfl,hgl,hgB⟩:=bD hr (by omega)
 refine⟨_,_,c,rfl,h.stC hk (by rw[e];exact hg) (by rw[e];exact hu) fun w'' hf hb hsz hblk hub=>⟨g,c,?_⟩⟩
 have hgb:g≠b:=hub g rfl
 have hl:(x.kids.insertIdx d k).length=x.kids.length+1:=by rw[List.length_insertIdx,if_pos hd]
 have hn':∀q,S q→q≠b:=fun q hq e=>h.out (e▸hq)
 have hlt:=h.lt
 have hu3:(v 3).ownBlock=some g∨(W.heap.size≤g∧g<w''.heap.size):=by
  rcases hu with e1|⟨g',e1,h5,h6⟩
  ·left;rw[e,←e1];rfl
  ·right
   have e1:some g=some g':=e1
   injection e1 with e1
   subst e1
   exact⟨h5,by rw[hsz];exact h6⟩
 have hr2:w''.ownsRow B 25 4 (.slice (some ⟨g,0,none⟩) (x.kids.length+1) c) (x.kids.length+1) (GA (lG K d iv) (x.kids.length+1)):=CA hr fun g' hg' hl'=>hblk g' (hub g' hg')
 obtain⟨h1,h2⟩:=YD (u:=.slice (some ⟨g,0,none⟩) (x.kids.length+1) c) h.here (c:=3) (by omega) hb
 have hupd:Upd W w'' b o S:=⟨hf.os,hf.tape,hf.output,hf.size,fun q hq hs hne=>hf.block q hq (fun e2=>e2.elim hne (fun e3=>hs (hk.sk q e3))),h2⟩
 have hcs:∀c',c'<4→w''.cell? ⟨b,o+c',none⟩=some (MC v 3 (.slice (some ⟨g,0,none⟩) (x.kids.length+1) c) c'):=fun c' hc'=>by
  obtain⟨cur,ty,e1,e2⟩:=h1
  unfold World.cell?
  rw[e1]
  exact e2 c' hc'
 have hst:=fun j k' (ej:x.kids[j]?=some k')=>fC (t:=x) hk hf (fun i q hi hq e2=>e2.elim (hn' q (hk.hT i q hi hq).1) (hk.hT i q hi hq).2.2) j k' ej
 have hln:w''.ownsRow B 9 1 (v 2) x.lines.length (x.lines.map Value.string):=CA hk.ln fun q hq hl'=>hf.block q hl' (fun e2=>e2.elim (hn' q (hk.sl q hq)) (fun e3=>jH hk hq e3))
 have hkcell:∀i c',i<x.kids.length+1→c'<4→w''.cell? ⟨g,0+i * 4+c',none⟩=some (lG K d iv i c'):=fun i c' hi' hc'=>by
  rw[hr2.cellAt (0+i * 4+c') (by omega),Nat.zero_add]
  exact bB _ (x.kids.length+1) i c' hi' hc'
 have hgh:∃cur,w''.heap[g]?=some (.cells cur 25 (0,0)):=by
  rcases hr2.2 with ⟨e1,_⟩|⟨g',cap,cur,e1,_,hgg,_⟩
  ·cases e1
  ·injection e1 with e1 _ _
   injection e1 with e1
   injection e1 with e1 _ _
   exact⟨cur,by rw[e1];exact hgg⟩
 refine⟨hcs 3 (by omega),by rw[hsz];exact hgl,hupd,⟨_,hcs,?_⟩,fun j hj=>⟨_,by have:=hkcell d j (by omega) hj;rwa [Nat.zero_add] at this⟩,fun i=>?_,?_⟩
 ·obtain⟨la,lc,el⟩:=tA hk.ln
  refine .mk _ _ la (some ⟨g,0,none⟩) lc c (lG K d iv) ((qA v _ (by omega)).trans hk.h0) ((qA v _ (by omega)).trans hk.h1) ((qA v _ (by omega)).trans el) (by rw[EA];show _=Value.slice _ (x.kids.insertIdx d k).length _;rw[hl]) (fun i s hs=>?_) (fun i hi'=>?_) (fun i k' ei=>?_) (by rw[el] at hln;exact zB hln) (by show (x.kids.insertIdx d k).length≤c;rw[hl];exact zB hr2)
  ·obtain⟨hi',_⟩:=List.getElem?_eq_some_iff.1 hs
   have hs:x.lines[i]?=some s:=hs
   have hi':i<x.lines.length:=hi'
   obtain⟨g',cap,e4,hg',hb'⟩:=bD hln (by omega)
   rw[el] at e4 hln
   injection e4 with e4 e5 e6
   rw[e4] at hln
   refine⟨g',0,e4,trivial,?_⟩
   have:=hln.cellAt i (by omega)
   simpa [hs] using this
  ·have hi':i<(x.kids.insertIdx d k).length:=hi'
   exact⟨g,0,rfl,trivial,fun c' hc'=>hkcell i c' (by omega) hc'⟩
  ·have ei:(x.kids.insertIdx d k)[i]?=some k':=ei
   unfold lG
   rcases CF hd ei with ⟨h6,h7⟩|⟨h6,h7⟩|⟨h6,h7⟩
   ·rw[if_pos h6]
    exact(hst i k' h7).lies.step fun q _ _=>⟨rfl,trivial⟩
   ·rw[if_neg (by omega),if_pos h6,h7]
    refine hi.step fun q hq hqB=>⟨hf.block q hq (fun e2=>?_),trivial⟩
    have hqB:q<B:=hqB
    rcases e2 with e2|e2
    ·omega
    ·have:=(hk.hS q (hk.sk q e2)).1;omega
   ·rw[if_neg (by omega),if_neg (by omega)]
    exact(hst (i - 1) k' h7).lies.step fun q _ _=>⟨rfl,trivial⟩
 ·obtain⟨cur,hgh⟩:=hgh
  unfold World.frozen?
  rw[hgh]
  simp
 ·intro w3 w4 y Ty hb3 hp hy hTy
  have hg'':g<w''.heap.size:=by rw[hsz];exact hgl
  have hr3:w3.ownsRow B 25 4 (.slice (some ⟨g,0,none⟩) (x.kids.length+1) c) (x.kids.length+1) (GA (lG K d iv) (x.kids.length+1)):=CA hr2 fun q _ hl'=>hb3.block q hl'
  have hf3:=hf.bel hb3
  have hf4:Fr (fun k=>k=b∨(v 3).ownBlock=some k) W w4:=⟨hp.os.trans hf3.os,hp.tape.trans hf3.tape,hp.output.trans hf3.output,by rw[hp.size];exact hf3.size,fun q hq hx=>by
   rw[hp.block q (fun e2=>?_)]
   ·exact hf3.block q hq hx
   ·rw[e2] at hq hx
    rcases hu3 with h6|h6
    ·exact hx (.inr h6)
    ·omega⟩
  refine dP h hk hB hd hf4 ?_ (nP hr3 (by omega) hp) (hy.step (fun q hq=>hp.block q (fun e2=>by have:=hTy q hq;omega)) (by rw[hp.size];exact nR _)) (fun q hq=>Nat.le_trans hf.size (hTy q hq)) (fun g' hg'=>?_) (fun q hq e2=>?_)
  ·rw[hp.block b (Ne.symm hgb),hb3.block b (Nat.lt_of_lt_of_le hlt hf.size),hb]
  ·have hg':some g=some g':=hg'
   injection hg' with hg'
   subst hg'
   exact hu3.imp (fun h=>h) (fun h6=>⟨h6.1,by rw[hp.size];exact Nat.lt_of_lt_of_le h6.2 hb3.size⟩)
  ·have e2:some g=some q:=e2
   injection e2 with e2
   have:=hTy q hq;omega
theorem PutH.after{W V w2:World}{B b o d g c:Nat}{x k:It}{S:Nat→Prop}(h:PutH V B b o d x k S w2 g c)(hb:Below W.heap.size W V)(hbl:b<W.heap.size):PutH W B b o d x k S w2 g c:=
 ⟨h.cell,h.lt,h.upd.after hb hbl,h.lies,h.place,h.frz,fun w3 w4 y Ty h1 h2 h3 h4=>by
   obtain⟨S',v',q1,q2,q3⟩:=h.fin w3 w4 y Ty h1 h2 h3 h4
   exact⟨S',v',q1,fun q hq=>(q2 q hq).imp (fun h=>h) (fun h=>Nat.le_trans hb.size h),q3.after hb hbl⟩⟩
end Go.Proofs.YtpbolcjcmkmalaaGreatDoor
namespace Go.Proofs.YtpbolcjcmkmalaaGreatDoor
open Go.RowKit
set_option linter.unusedVariables false
section
variable {ρ:Operand→Value} {dst:Option Tmp} {ty:TypeId} {ps:String} {af:Array Go.Edge} {g:Option (Nat×Bool)} {w:World} {x y z:Operand}
set_option maxRecDepth 20000
theorem oI{b:Nat}(h:ρ x=.pointer (some ⟨b,0,none⟩)):(execOp ρ ⟨dst,.fieldAddr 46 x 6,ty,ps,af,g⟩).run Tryz.prog w=.ok (.value (.pointer (some ⟨b,6,none⟩))) w:=by
 simp only[execOp,h]
 go_simp
theorem MS{a:Value}{t0:TypeId}(h:ρ x=a)(hf:ρ (.func 17)=.func (.func 17) #[] #[]):(execOp ρ ⟨dst,.call {callee:=.value (.func 17),args:=#[x],argTypes:=#[t0]},ty,ps,af,g⟩).run Tryz.prog w=.ok (.enter 17 #[a]) w:=by
 simp[execOp,go_sem,h,hf]
theorem rU{g0 n c j:Nat}(h:ρ x=.slice (some ⟨g0,0,none⟩) n c)(h2:ρ y=.int .i64 j)(hj:j<n):(execOp ρ ⟨dst,.indexAddr 23 x y,ty,ps,af,g⟩).run Tryz.prog w=.ok (.value (.pointer (some ⟨g0,j * 4,none⟩))) w:=by
 simp only[execOp,h,h2]
 have h3:¬((n:Int)≤(j:Int)):=by omega
 have h4:((j:Int)<(n:Int)):=by omega
 go_simp
theorem UP{b o:Nat}{v:Nat→Value}{lab hd:ByteArray}{la ka:Option Addr}{ln lc kn kc:Nat}(h:ρ x=.pointer (some ⟨b,o,none⟩))(h2:ρ y=.agg #[v 0,v 1,v 2,v 3])(v0:v 0=.string lab)(v1:v 1=.string hd)(v2:v 2=.slice la ln lc)(v3:v 3=.slice ka kn kc){u0 u1 u2 u3:Value}(c0:w.cell? ⟨b,o,none⟩=some u0)(c1:w.cell? ⟨b,o+1,none⟩=some u1)(c2:w.cell? ⟨b,o+2,none⟩=some u2)(c3:w.cell? ⟨b,o+3,none⟩=some u3)(f0:w.frozen? ⟨b,o,none⟩=false)(f1:w.frozen? ⟨b,o+1,none⟩=false)(f2:w.frozen? ⟨b,o+2,none⟩=false)(f3:w.frozen? ⟨b,o+3,none⟩=false):(execOp ρ ⟨dst,.store 25 x y,ty,ps,af,g⟩).run Tryz.prog w=.ok .skip ((((w.setCell ⟨b,o,none⟩ (v 0)).setCell ⟨b,o+1,none⟩ (v 1)).setCell ⟨b,o+2,none⟩ (v 2)).setCell ⟨b,o+3,none⟩ (v 3)):=by
 rw[v0,v1,v2,v3] at h2
 rw[v0,v1,v2,v3]
 clear v0 v1 v2 v3
 simp only[execOp,h,h2]
 go_simp
end
def WU:Oper:={dst:=some 16,op:=Op.move (Operand.tmp 5),type:=51,pos:= "amend.go:55",after:=#[],guard:=none}
def XU:Oper:={dst:=some 17,op:=Op.nilCheck (Operand.tmp 16),type:=0,pos:= "amend.go:55",after:=#[{on:=0,ground:=Ground.data}],guard:=none}
def YU:Oper:={dst:=some 18,op:=Op.fieldAddr 25 (Operand.tmp 17) 3,type:=0,pos:= "amend.go:55",after:=#[{on:=1,ground:=Ground.data}],guard:=none}
def ZU:Oper:={dst:=some 19,op:=Op.load 23 (Operand.tmp 18),type:=23,pos:= "amend.go:55",after:=#[{on:=2,ground:=Ground.data}],guard:=none}
def aV:Oper:={dst:=some 20,op:=Op.fieldAddr 46 (Operand.tmp 3) 2,type:=0,pos:= "amend.go:55",after:=#[],guard:=none}
def bV:Oper:={dst:=some 21,op:=Op.load 9 (Operand.tmp 20),type:=9,pos:= "amend.go:55",after:=#[{on:=4,ground:=Ground.data}],guard:=none}
def cV:Oper:={dst:=some 22,op:=Op.call {callee:=Callee.value (Operand.func 76),args:=#[Operand.tmp 19,Operand.tmp 21],argTypes:=#[23,9]},type:=3,pos:= "amend.go:55",after:=#[{on:=3,ground:=Ground.data},{on:=5,ground:=Ground.data}],guard:=none}
def dV:Oper:={dst:=some 6,op:=Op.assign (Operand.tmp 22),type:=3,pos:= "amend.go:55",after:=#[{on:=6,ground:=Ground.data},{on:=6,ground:=Ground.chain},{on:=0,ground:=Ground.phase},{on:=1,ground:=Ground.phase},{on:=2,ground:=Ground.phase},{on:=3,ground:=Ground.phase},{on:=4,ground:=Ground.phase},{on:=5,ground:=Ground.phase},{on:=6,ground:=Ground.phase}],guard:=none}
def puAL:List Oper:=[WU,XU,YU,ZU,aV,bV,cV,dV]
theorem xP{mid:List Value}(h:mid.length=7):∃u0 u1 u2 u3 u4 u5 u6:Value,mid=[u0,u1,u2,u3,u4,u5,u6]:=by
 match mid,h with
 | [u0,u1,u2,u3,u4,u5,u6],_=>exact⟨_,_,_,_,_,_,_,rfl⟩
theorem yS{C:World→Prop}{Q:Act→Prop}{pre mid suf:List Value}{d:List Deferred}(hk:pre.length=16)(hm:mid.length=7){b1 o1 g0:Nat}{ka:Option Addr}{zn kc:Nat}{at':ByteArray}{n1:Int}
 (p5:pre[5]?=some (.pointer (some ⟨b1,o1,none⟩))) (p3:pre[3]?=some (.pointer (some ⟨g0,0,none⟩))) (h3:∀W,C W→W.cell? ⟨b1,o1+3,none⟩=some (.slice ka zn kc)) (hA:∀W,C W→W.cell? ⟨g0,2,none⟩=some (.string at'))
 (hB:∀W,C W→Calls Tryz.prog 76 #[.slice ka zn kc,.string at'] W fun e w'=>e=.returned (.int .i64 n1)∧C w')
 (hQ:∀m:List Value,m.length=7→Q (MA (pre.set 6 (.int .i64 n1)) m suf d)):wpQuiet Tryz.prog puAL.toArray C Q puAL (MA pre mid suf d):=by
 obtain⟨u0,u1,u2,u3,u4,u5,u6,rfl⟩:=xP hm
 refine kA (.pointer (some ⟨b1,o1,none⟩)) hk rfl (by decide) (by simp) (zA rfl) (fun W hW=>aB (MA.lo p5)) ?_
 show wpQuiet _ _ C Q _ (MA pre [.pointer (some ⟨b1,o1,none⟩),u1,u2,u3,u4,u5,u6] suf d)
 refine kA (.pointer (some ⟨b1,o1,none⟩)) hk rfl (by decide) (by simp) (zA rfl) (fun W hW=>QD (MA.hi hk (by decide) rfl)) ?_
 show wpQuiet _ _ C Q _ (MA pre [.pointer (some ⟨b1,o1,none⟩),.pointer (some ⟨b1,o1,none⟩),u2,u3,u4,u5,u6] suf d)
 refine kA (.pointer (some ⟨b1,o1+3,none⟩)) hk rfl (by decide) (by simp) (zA rfl) (fun W hW=>IC (MA.hi hk (by decide) rfl)) ?_
 show wpQuiet _ _ C Q _ (MA pre [.pointer (some ⟨b1,o1,none⟩),.pointer (some ⟨b1,o1,none⟩),.pointer (some ⟨b1,o1+3,none⟩),u3,u4,u5,u6] suf d)
 refine kA (.slice ka zn kc) hk rfl (by decide) (by simp) (zA rfl) (fun W hW=>NE (MA.hi hk (by decide) rfl) (h3 W hW)) ?_
 show wpQuiet _ _ C Q _ (MA pre [.pointer (some ⟨b1,o1,none⟩),.pointer (some ⟨b1,o1,none⟩),.pointer (some ⟨b1,o1+3,none⟩),.slice ka zn kc,u4,u5,u6] suf d)
 refine kA (.pointer (some ⟨g0,2,none⟩)) hk rfl (by decide) (by simp) (zA rfl) (fun W hW=>FG (MA.lo p3)) ?_
 show wpQuiet _ _ C Q _ (MA pre [.pointer (some ⟨b1,o1,none⟩),.pointer (some ⟨b1,o1,none⟩),.pointer (some ⟨b1,o1+3,none⟩),.slice ka zn kc,.pointer (some ⟨g0,2,none⟩),u5,u6] suf d)
 refine kA (.string at') hk rfl (by decide) (by simp) (zA rfl) (fun W hW=>ZF (MA.hi hk (by decide) rfl) (hA W hW)) ?_
 show wpQuiet _ _ C Q _ (MA pre [.pointer (some ⟨b1,o1,none⟩),.pointer (some ⟨b1,o1,none⟩),.pointer (some ⟨b1,o1+3,none⟩),.slice ka zn kc,.pointer (some ⟨g0,2,none⟩),.string at',u6] suf d)
 refine BE 76 #[.slice ka zn kc,.string at'] (.int .i64 n1) hk rfl (by decide) (by simp) (zA rfl) (fun W hW=>zD (MA.hi hk (by decide) rfl) (MA.hi hk (by decide) rfl) rfl) (fun W hW=>hB W hW) ?_
 show wpQuiet _ _ C Q _ (MA pre [.pointer (some ⟨b1,o1,none⟩),.pointer (some ⟨b1,o1,none⟩),.pointer (some ⟨b1,o1+3,none⟩),.slice ka zn kc,.pointer (some ⟨g0,2,none⟩),.string at',.int .i64 n1] suf d)
 refine iT (.int .i64 n1) rfl (by omega) (zA rfl) (fun W hW=>SP (MA.hi hk (by decide) rfl)) ?_
 exact wpQuiet_nil (hQ _ rfl)
def eV:Oper:={dst:=some 26,op:=Op.move (Operand.tmp 5),type:=51,pos:= "amend.go:59",after:=#[],guard:=none}
def fV:Oper:={dst:=some 27,op:=Op.nilCheck (Operand.tmp 26),type:=0,pos:= "amend.go:59",after:=#[{on:=0,ground:=Ground.data}],guard:=none}
def gV:Oper:={dst:=some 28,op:=Op.fieldAddr 25 (Operand.tmp 27) 3,type:=0,pos:= "amend.go:59",after:=#[{on:=1,ground:=Ground.data}],guard:=none}
def iV:Oper:={dst:=some 29,op:=Op.load 23 (Operand.tmp 28),type:=23,pos:= "amend.go:59",after:=#[{on:=2,ground:=Ground.data}],guard:=none}
def jV:Oper:={dst:=some 30,op:=Op.fieldAddr 46 (Operand.tmp 3) 6,type:=0,pos:= "amend.go:59",after:=#[],guard:=none}
def kV:Oper:={dst:=some 31,op:=Op.fieldAddr 25 (Operand.tmp 30) 0,type:=0,pos:= "amend.go:59",after:=#[{on:=4,ground:=Ground.data}],guard:=none}
def lV:Oper:={dst:=some 32,op:=Op.load 9 (Operand.tmp 31),type:=9,pos:= "amend.go:59",after:=#[{on:=5,ground:=Ground.data}],guard:=none}
def mV:Oper:={dst:=some 33,op:=Op.call {callee:=Callee.value (Operand.func 69),args:=#[Operand.tmp 29,Operand.tmp 32],argTypes:=#[23,9]},type:=3,pos:= "amend.go:59",after:=#[{on:=3,ground:=Ground.data},{on:=6,ground:=Ground.data}],guard:=none}
def nV:Oper:={dst:=some 34,op:=Op.binOp BinOp.geq 3 (Operand.tmp 33) (Operand.const (Value.int IntKind.i64 0)) 3,type:=4,pos:= "amend.go:59",after:=#[{on:=7,ground:=Ground.data}],guard:=none}
def puBL:List Oper:=[eV,fV,gV,iV,jV,kV,lV,mV,nV]
theorem oR{mid:List Value}(h:mid.length=9):∃u0 u1 u2 u3 u4 u5 u6 u7 u8:Value,mid=[u0,u1,u2,u3,u4,u5,u6,u7,u8]:=by
 match mid,h with
 | [u0,u1,u2,u3,u4,u5,u6,u7,u8],_=>exact⟨_,_,_,_,_,_,_,_,_,rfl⟩
theorem zS{C:World→Prop}{Q:Act→Prop}{pre mid suf:List Value}{d:List Deferred}(hk:pre.length=26)(hm:mid.length=9){b1 o1 g0:Nat}{ka:Option Addr}{zn kc:Nat}{lab:ByteArray}{n1:Int}{same:Bool}
 (p5:pre[5]?=some (.pointer (some ⟨b1,o1,none⟩))) (p3:pre[3]?=some (.pointer (some ⟨g0,0,none⟩))) (h3:∀W,C W→W.cell? ⟨b1,o1+3,none⟩=some (.slice ka zn kc)) (hA:∀W,C W→W.cell? ⟨g0,6,none⟩=some (.string lab))
 (hB:∀W,C W→Calls Tryz.prog 69 #[.slice ka zn kc,.string lab] W fun e w'=>e=.returned (.int .i64 n1)∧C w') (hs:decide (0≤n1)=same)
 (hQ:∀m:List Value,m.length=9→m[8]?=some (.bool same)→Q (MA pre m suf d)):wpQuiet Tryz.prog puBL.toArray C Q puBL (MA pre mid suf d):=by
 obtain⟨u0,u1,u2,u3,u4,u5,u6,u7,u8,rfl⟩:=oR hm
 refine kA (.pointer (some ⟨b1,o1,none⟩)) hk rfl (by decide) (by simp) (zA rfl) (fun W hW=>aB (MA.lo p5)) ?_
 show wpQuiet _ _ C Q _ (MA pre [.pointer (some ⟨b1,o1,none⟩),u1,u2,u3,u4,u5,u6,u7,u8] suf d)
 refine kA (.pointer (some ⟨b1,o1,none⟩)) hk rfl (by decide) (by simp) (zA rfl) (fun W hW=>QD (MA.hi hk (by decide) rfl)) ?_
 show wpQuiet _ _ C Q _ (MA pre [.pointer (some ⟨b1,o1,none⟩),.pointer (some ⟨b1,o1,none⟩),u2,u3,u4,u5,u6,u7,u8] suf d)
 refine kA (.pointer (some ⟨b1,o1+3,none⟩)) hk rfl (by decide) (by simp) (zA rfl) (fun W hW=>IC (MA.hi hk (by decide) rfl)) ?_
 show wpQuiet _ _ C Q _ (MA pre [.pointer (some ⟨b1,o1,none⟩),.pointer (some ⟨b1,o1,none⟩),.pointer (some ⟨b1,o1+3,none⟩),u3,u4,u5,u6,u7,u8] suf d)
 refine kA (.slice ka zn kc) hk rfl (by decide) (by simp) (zA rfl) (fun W hW=>NE (MA.hi hk (by decide) rfl) (h3 W hW)) ?_
 show wpQuiet _ _ C Q _ (MA pre [.pointer (some ⟨b1,o1,none⟩),.pointer (some ⟨b1,o1,none⟩),.pointer (some ⟨b1,o1+3,none⟩),.slice ka zn kc,u4,u5,u6,u7,u8] suf d)
 refine kA (.pointer (some ⟨g0,6,none⟩)) hk rfl (by decide) (by simp) (zA rfl) (fun W hW=>oI (MA.lo p3)) ?_
 show wpQuiet _ _ C Q _ (MA pre [.pointer (some ⟨b1,o1,none⟩),.pointer (some ⟨b1,o1,none⟩),.pointer (some ⟨b1,o1+3,none⟩),.slice ka zn kc,.pointer (some ⟨g0,6,none⟩),u5,u6,u7,u8] suf d)
 refine kA (.pointer (some ⟨g0,6,none⟩)) hk rfl (by decide) (by simp) (zA rfl) (fun W hW=>NJ (MA.hi hk (by decide) rfl)) ?_
 show wpQuiet _ _ C Q _ (MA pre [.pointer (some ⟨b1,o1,none⟩),.pointer (some ⟨b1,o1,none⟩),.pointer (some ⟨b1,o1+3,none⟩),.slice ka zn kc,.pointer (some ⟨g0,6,none⟩),.pointer (some ⟨g0,6,none⟩),u6,u7,u8] suf d)
 refine kA (.string lab) hk rfl (by decide) (by simp) (zA rfl) (fun W hW=>ZF (MA.hi hk (by decide) rfl) (hA W hW)) ?_
 show wpQuiet _ _ C Q _ (MA pre [.pointer (some ⟨b1,o1,none⟩),.pointer (some ⟨b1,o1,none⟩),.pointer (some ⟨b1,o1+3,none⟩),.slice ka zn kc,.pointer (some ⟨g0,6,none⟩),.pointer (some ⟨g0,6,none⟩),.string lab,u7,u8] suf d)
 refine BE 69 #[.slice ka zn kc,.string lab] (.int .i64 n1) hk rfl (by decide) (by simp) (zA rfl) (fun W hW=>NM (MA.hi hk (by decide) rfl) (MA.hi hk (by decide) rfl) rfl) (fun W hW=>hB W hW) ?_
 show wpQuiet _ _ C Q _ (MA pre [.pointer (some ⟨b1,o1,none⟩),.pointer (some ⟨b1,o1,none⟩),.pointer (some ⟨b1,o1+3,none⟩),.slice ka zn kc,.pointer (some ⟨g0,6,none⟩),.pointer (some ⟨g0,6,none⟩),.string lab,.int .i64 n1,u8] suf d)
 refine kA (.bool same) hk rfl (by decide) (by simp) (zA rfl) (fun W hW=>xR (MA.hi hk (by decide) rfl) rfl hs) ?_
 show wpQuiet _ _ C Q _ (MA pre [.pointer (some ⟨b1,o1,none⟩),.pointer (some ⟨b1,o1,none⟩),.pointer (some ⟨b1,o1+3,none⟩),.slice ka zn kc,.pointer (some ⟨g0,6,none⟩),.pointer (some ⟨g0,6,none⟩),.string lab,.int .i64 n1,.bool same] suf d)
 exact wpQuiet_nil (hQ _ rfl rfl)
def RT:Oper:={dst:=some 36,op:=Op.move (Operand.tmp 5),type:=51,pos:= "amend.go:62",after:=#[],guard:=none}
def ST:Oper:={dst:=some 37,op:=Op.move (Operand.tmp 5),type:=51,pos:= "amend.go:62",after:=#[],guard:=none}
def UT:Oper:={dst:=some 38,op:=Op.nilCheck (Operand.tmp 37),type:=0,pos:= "amend.go:62",after:=#[{on:=1,ground:=Ground.data}],guard:=none}
def VT:Oper:={dst:=some 39,op:=Op.fieldAddr 25 (Operand.tmp 38) 3,type:=0,pos:= "amend.go:62",after:=#[{on:=2,ground:=Ground.data}],guard:=none}
def WT:Oper:={dst:=some 40,op:=Op.load 23 (Operand.tmp 39),type:=23,pos:= "amend.go:62",after:=#[{on:=3,ground:=Ground.data}],guard:=none}
def XT:Oper:={dst:=some 41,op:=Op.move (Operand.tmp 6),type:=3,pos:= "amend.go:62",after:=#[],guard:=none}
def YT:Oper:={dst:=some 42,op:=Op.fieldAddr 46 (Operand.tmp 3) 6,type:=0,pos:= "amend.go:62",after:=#[],guard:=none}
def ZT:Oper:={dst:=some 43,op:=Op.load 25 (Operand.tmp 42),type:=25,pos:= "amend.go:62",after:=#[{on:=6,ground:=Ground.data}],guard:=none}
def puC8:Oper:={dst:=some 44,op:=Op.buildSlice 23 1 #[(0,Operand.tmp 43)],type:=23,pos:= "amend.go:62",after:=#[{on:=7,ground:=Ground.data}],guard:=none}
def puC9:Oper:={dst:=some 45,op:=Op.call {callee:=Callee.value (Operand.func 77),args:=#[Operand.tmp 40,Operand.tmp 41,Operand.tmp 44],argTypes:=#[23,3,23]},type:=23,pos:= "amend.go:62",after:=#[{on:=4,ground:=Ground.data},{on:=5,ground:=Ground.data},{on:=8,ground:=Ground.data}],guard:=none}
def puC10:Oper:={dst:=some 46,op:=Op.nilCheck (Operand.tmp 36),type:=0,pos:= "amend.go:62",after:=#[{on:=0,ground:=Ground.data},{on:=0,ground:=Ground.phase},{on:=1,ground:=Ground.phase},{on:=2,ground:=Ground.phase},{on:=3,ground:=Ground.phase},{on:=4,ground:=Ground.phase},{on:=5,ground:=Ground.phase},{on:=6,ground:=Ground.phase},{on:=7,ground:=Ground.phase},{on:=8,ground:=Ground.phase},{on:=9,ground:=Ground.phase}],guard:=none}
def puC11:Oper:={dst:=some 47,op:=Op.fieldAddr 25 (Operand.tmp 46) 3,type:=0,pos:= "amend.go:62",after:=#[{on:=10,ground:=Ground.data},{on:=0,ground:=Ground.phase},{on:=1,ground:=Ground.phase},{on:=2,ground:=Ground.phase},{on:=3,ground:=Ground.phase},{on:=4,ground:=Ground.phase},{on:=5,ground:=Ground.phase},{on:=6,ground:=Ground.phase},{on:=7,ground:=Ground.phase},{on:=8,ground:=Ground.phase},{on:=9,ground:=Ground.phase}],guard:=none}
def qR:Oper:={dst:=none,op:=Op.store 23 (Operand.tmp 47) (Operand.tmp 45),type:=0,pos:= "amend.go:62",after:=#[{on:=11,ground:=Ground.data},{on:=9,ground:=Ground.data},{on:=9,ground:=Ground.chain},{on:=0,ground:=Ground.phase},{on:=1,ground:=Ground.phase},{on:=2,ground:=Ground.phase},{on:=3,ground:=Ground.phase},{on:=4,ground:=Ground.phase},{on:=5,ground:=Ground.phase},{on:=6,ground:=Ground.phase},{on:=7,ground:=Ground.phase},{on:=8,ground:=Ground.phase},{on:=9,ground:=Ground.phase}],guard:=none}
def puCL:List Oper:=[RT,ST,UT,VT,WT,XT,YT,ZT,puC8,puC9,puC10,puC11,qR]
theorem oL{mid:List Value}(h:mid.length=12):∃u0 u1 u2 u3 u4 u5 u6 u7 u8 u9 u10 u11:Value,mid=[u0,u1,u2,u3,u4,u5,u6,u7,u8,u9,u10,u11]:=by
 match mid,h with
 | [u0,u1,u2,u3,u4,u5,u6,u7,u8,u9,u10,u11],_=>exact⟨_,_,_,_,_,_,_,_,_,_,_,_,rfl⟩
theorem AS{W0:World}{Q:Exit→Act→World→Prop}{pre mid suf:List Value}{d:List Deferred}{b1 o1 g0 zn kc ln lc kn kc2 j:Nat}{ka la ka2:Option Addr}{lab hd:ByteArray}{R:World→Prop}(hk:pre.length=36)(hm:mid.length=12)(HP:OS Q)(p5:pre[5]?=some (.pointer (some ⟨b1,o1,none⟩)))(p3:pre[3]?=some (.pointer (some ⟨g0,0,none⟩)))(p6:pre[6]?=some (.int .i64 j))
 (hC:∀V,Below W0.heap.size W0 V→V.cell? ⟨b1,o1+3,none⟩=some (.slice ka zn kc)∧V.cell? ⟨g0,6,none⟩=some (.string lab)∧V.cell? ⟨g0,7,none⟩=some (.string hd)∧V.cell? ⟨g0,8,none⟩=some (.slice la ln lc)∧V.cell? ⟨g0,9,none⟩=some (.slice ka2 kn kc2))
 (hI:∀V vb,Below W0.heap.size W0 V→V.heap[vb]?=some (.cells #[.string lab,.string hd,.slice la ln lc,.slice ka2 kn kc2] 25 (0,0))→W0.heap.size≤vb→Calls Tryz.prog 77 #[.slice ka zn kc,.int .i64 j,.slice (some ⟨vb,0,none⟩) 1 1] V (fun e w'=>∃a n c,e=.returned (.slice a n c)∧StC b1 o1 3 (.slice a n c) w' R))
 (hQ:∀m w'',m.length=12→R w''→Q .normal (MA pre m suf d) w'') {V:World} (hV:Below W0.heap.size W0 V):
 wpLast Tryz.prog .any puCL.toArray Q (fun V=>Below W0.heap.size W0 V) [9,10,11,12] 13 (Array.replicate 13 false) (MA pre mid suf d) V:=by
 obtain⟨u0,u1,u2,u3,u4,u5,u6,u7,u8,u9,u10,u11,rfl⟩:=oL hm
 refine nB (i:=0) (oi:=RT) (.pointer (some ⟨b1,o1,none⟩)) HP hk rfl rfl (by decide) (by simp) rfl (by kernel_rfl) (by kernel_rfl) (by kernel_rfl) (by kernel_rfl) (fun W=>aB (MA.lo p5)) ?_
 show wpLast _ _ _ _ _ _ _ _ (MA pre [.pointer (some ⟨b1,o1,none⟩),u1,u2,u3,u4,u5,u6,u7,u8,u9,u10,u11] suf d) _
 refine nB (i:=1) (oi:=ST) (.pointer (some ⟨b1,o1,none⟩)) HP hk rfl rfl (by decide) (by simp) rfl (by kernel_rfl) (by kernel_rfl) (by kernel_rfl) (by kernel_rfl) (fun W=>aB (MA.lo p5)) ?_
 show wpLast _ _ _ _ _ _ _ _ (MA pre [.pointer (some ⟨b1,o1,none⟩),.pointer (some ⟨b1,o1,none⟩),u2,u3,u4,u5,u6,u7,u8,u9,u10,u11] suf d) _
 refine nB (i:=2) (oi:=UT) (.pointer (some ⟨b1,o1,none⟩)) HP hk rfl rfl (by decide) (by simp) rfl (by kernel_rfl) (by kernel_rfl) (by kernel_rfl) (by kernel_rfl) (fun W=>QD (MA.hi hk (by decide) rfl)) ?_
 show wpLast _ _ _ _ _ _ _ _ (MA pre [.pointer (some ⟨b1,o1,none⟩),.pointer (some ⟨b1,o1,none⟩),.pointer (some ⟨b1,o1,none⟩),u3,u4,u5,u6,u7,u8,u9,u10,u11] suf d) _
 refine nB (i:=3) (oi:=VT) (.pointer (some ⟨b1,o1+3,none⟩)) HP hk rfl rfl (by decide) (by simp) rfl (by kernel_rfl) (by kernel_rfl) (by kernel_rfl) (by kernel_rfl) (fun W=>IC (MA.hi hk (by decide) rfl)) ?_
 show wpLast _ _ _ _ _ _ _ _ (MA pre [.pointer (some ⟨b1,o1,none⟩),.pointer (some ⟨b1,o1,none⟩),.pointer (some ⟨b1,o1,none⟩),.pointer (some ⟨b1,o1+3,none⟩),u4,u5,u6,u7,u8,u9,u10,u11] suf d) _
 refine jD (i:=4) (oi:=WT) (.slice ka zn kc) HP hk rfl rfl (by decide) (by simp) rfl (by kernel_rfl) (by kernel_rfl) (by kernel_rfl) (by kernel_rfl) (by kernel_rfl) hV (fun W hW=>NE (MA.hi hk (by decide) rfl) (hC W hW).1) ?_
 show wpLast _ _ _ _ _ _ _ _ (MA pre [.pointer (some ⟨b1,o1,none⟩),.pointer (some ⟨b1,o1,none⟩),.pointer (some ⟨b1,o1,none⟩),.pointer (some ⟨b1,o1+3,none⟩),.slice ka zn kc,u5,u6,u7,u8,u9,u10,u11] suf d) _
 refine nB (i:=5) (oi:=XT) (.int .i64 j) HP hk rfl rfl (by decide) (by simp) rfl (by kernel_rfl) (by kernel_rfl) (by kernel_rfl) (by kernel_rfl) (fun W=>aB (MA.lo p6)) ?_
 show wpLast _ _ _ _ _ _ _ _ (MA pre [.pointer (some ⟨b1,o1,none⟩),.pointer (some ⟨b1,o1,none⟩),.pointer (some ⟨b1,o1,none⟩),.pointer (some ⟨b1,o1+3,none⟩),.slice ka zn kc,.int .i64 j,u6,u7,u8,u9,u10,u11] suf d) _
 refine nB (i:=6) (oi:=YT) (.pointer (some ⟨g0,6,none⟩)) HP hk rfl rfl (by decide) (by simp) rfl (by kernel_rfl) (by kernel_rfl) (by kernel_rfl) (by kernel_rfl) (fun W=>oI (MA.lo p3)) ?_
 show wpLast _ _ _ _ _ _ _ _ (MA pre [.pointer (some ⟨b1,o1,none⟩),.pointer (some ⟨b1,o1,none⟩),.pointer (some ⟨b1,o1,none⟩),.pointer (some ⟨b1,o1+3,none⟩),.slice ka zn kc,.int .i64 j,.pointer (some ⟨g0,6,none⟩),u7,u8,u9,u10,u11] suf d) _
 refine jD (i:=7) (oi:=ZT) (.agg #[.string lab,.string hd,.slice la ln lc,.slice ka2 kn kc2]) HP hk rfl rfl (by decide) (by simp) rfl (by kernel_rfl) (by kernel_rfl) (by kernel_rfl) (by kernel_rfl) (by kernel_rfl) hV (fun W hW=>nI (MA.hi hk (by decide) rfl) (hC W hW).2.1 (hC W hW).2.2.1 (hC W hW).2.2.2.1 (hC W hW).2.2.2.2) ?_
 show wpLast _ _ _ _ _ _ _ _ (MA pre [.pointer (some ⟨b1,o1,none⟩),.pointer (some ⟨b1,o1,none⟩),.pointer (some ⟨b1,o1,none⟩),.pointer (some ⟨b1,o1+3,none⟩),.slice ka zn kc,.int .i64 j,.pointer (some ⟨g0,6,none⟩),.agg #[.string lab,.string hd,.slice la ln lc,.slice ka2 kn kc2],u8,u9,u10,u11] suf d) _
 refine UA (rs:=[8]) (by kernel_rfl) (by simp) fun j' hj'=>?_
 obtain rfl:j'=8:=by simpa using hj'
 refine FC (o:=puC8) rfl rfl (lI (lab:=lab) (hd:=hd) (la:=la) (ln:=ln) (lc:=lc) (ka2:=ka2) (kn:=kn) (kc2:=kc2) (MA.hi hk (by decide) rfl)) ⟨fun _=>.inr (hV.alloc hV.size _),?_⟩
 rw[show (MA pre [.pointer (some ⟨b1,o1,none⟩),.pointer (some ⟨b1,o1,none⟩),.pointer (some ⟨b1,o1,none⟩),.pointer (some ⟨b1,o1+3,none⟩),.slice ka zn kc,.int .i64 j,.pointer (some ⟨g0,6,none⟩),.agg #[.string lab,.string hd,.slice la ln lc,.slice ka2 kn kc2],u8,u9,u10,u11] suf d).put puC8.dst (.slice (some ⟨V.heap.size,0,none⟩) 1 1)=MA pre [.pointer (some ⟨b1,o1,none⟩),.pointer (some ⟨b1,o1,none⟩),.pointer (some ⟨b1,o1,none⟩),.pointer (some ⟨b1,o1+3,none⟩),.slice ka zn kc,.int .i64 j,.pointer (some ⟨g0,6,none⟩),.agg #[.string lab,.string hd,.slice la ln lc,.slice ka2 kn kc2],.slice (some ⟨V.heap.size,0,none⟩) 1 1,u9,u10,u11] suf d from MA.put hk (by decide) (by simp)]
 refine UA (rs:=[9]) (by kernel_rfl) (by simp) fun j' hj'=>?_
 obtain rfl:j'=9:=by simpa using hj'
 have hvA:=heap_alloc_new V (.cells #[.string lab,.string hd,.slice la ln lc,.slice ka2 kn kc2] 25)
 refine yD (o:=puC9) rfl rfl (sL (MA.hi hk (by decide) rfl) (MA.hi hk (by decide) rfl) (MA.hi hk (by decide) rfl) rfl) (hI _ V.heap.size (hV.alloc hV.size _) hvA hV.size) ?_
 rintro e V1 ⟨ra,rn,rc,rfl,hst⟩
 refine⟨_,rfl,fun _=>.inl (by decide),?_⟩
 rw[show (MA pre [.pointer (some ⟨b1,o1,none⟩),.pointer (some ⟨b1,o1,none⟩),.pointer (some ⟨b1,o1,none⟩),.pointer (some ⟨b1,o1+3,none⟩),.slice ka zn kc,.int .i64 j,.pointer (some ⟨g0,6,none⟩),.agg #[.string lab,.string hd,.slice la ln lc,.slice ka2 kn kc2],.slice (some ⟨V.heap.size,0,none⟩) 1 1,u9,u10,u11] suf d).put puC9.dst (.slice ra rn rc)=MA pre [.pointer (some ⟨b1,o1,none⟩),.pointer (some ⟨b1,o1,none⟩),.pointer (some ⟨b1,o1,none⟩),.pointer (some ⟨b1,o1+3,none⟩),.slice ka zn kc,.int .i64 j,.pointer (some ⟨g0,6,none⟩),.agg #[.string lab,.string hd,.slice la ln lc,.slice ka2 kn kc2],.slice (some ⟨V.heap.size,0,none⟩) 1 1,.slice ra rn rc,u10,u11] suf d from MA.put hk (by decide) (by simp)]
 refine UA (rs:=[10]) (by kernel_rfl) (by simp) fun j' hj'=>?_
 obtain rfl:j'=10:=by simpa using hj'
 refine FC (o:=puC10) rfl rfl (QD (q:=⟨b1,o1,none⟩) (MA.hi hk (by decide) rfl)) ⟨fun _=>.inl (by decide),?_⟩
 rw[show (MA pre [.pointer (some ⟨b1,o1,none⟩),.pointer (some ⟨b1,o1,none⟩),.pointer (some ⟨b1,o1,none⟩),.pointer (some ⟨b1,o1+3,none⟩),.slice ka zn kc,.int .i64 j,.pointer (some ⟨g0,6,none⟩),.agg #[.string lab,.string hd,.slice la ln lc,.slice ka2 kn kc2],.slice (some ⟨V.heap.size,0,none⟩) 1 1,.slice ra rn rc,u10,u11] suf d).put puC10.dst (.pointer (some ⟨b1,o1,none⟩))=MA pre [.pointer (some ⟨b1,o1,none⟩),.pointer (some ⟨b1,o1,none⟩),.pointer (some ⟨b1,o1,none⟩),.pointer (some ⟨b1,o1+3,none⟩),.slice ka zn kc,.int .i64 j,.pointer (some ⟨g0,6,none⟩),.agg #[.string lab,.string hd,.slice la ln lc,.slice ka2 kn kc2],.slice (some ⟨V.heap.size,0,none⟩) 1 1,.slice ra rn rc,.pointer (some ⟨b1,o1,none⟩),u11] suf d from MA.put hk (by decide) (by simp)]
 refine UA (rs:=[11]) (by kernel_rfl) (by simp) fun j' hj'=>?_
 obtain rfl:j'=11:=by simpa using hj'
 refine FC (o:=puC11) rfl rfl (IC (b:=b1) (o:=o1) (MA.hi hk (by decide) rfl)) ⟨fun _=>.inl (by decide),?_⟩
 rw[show (MA pre [.pointer (some ⟨b1,o1,none⟩),.pointer (some ⟨b1,o1,none⟩),.pointer (some ⟨b1,o1,none⟩),.pointer (some ⟨b1,o1+3,none⟩),.slice ka zn kc,.int .i64 j,.pointer (some ⟨g0,6,none⟩),.agg #[.string lab,.string hd,.slice la ln lc,.slice ka2 kn kc2],.slice (some ⟨V.heap.size,0,none⟩) 1 1,.slice ra rn rc,.pointer (some ⟨b1,o1,none⟩),u11] suf d).put puC11.dst (.pointer (some ⟨b1,o1+3,none⟩))=MA pre [.pointer (some ⟨b1,o1,none⟩),.pointer (some ⟨b1,o1,none⟩),.pointer (some ⟨b1,o1,none⟩),.pointer (some ⟨b1,o1+3,none⟩),.slice ka zn kc,.int .i64 j,.pointer (some ⟨g0,6,none⟩),.agg #[.string lab,.string hd,.slice la ln lc,.slice ka2 kn kc2],.slice (some ⟨V.heap.size,0,none⟩) 1 1,.slice ra rn rc,.pointer (some ⟨b1,o1,none⟩),.pointer (some ⟨b1,o1+3,none⟩)] suf d from MA.put hk (by decide) (by simp)]
 refine UA (rs:=[12]) (by kernel_rfl) (by simp) fun j' hj'=>?_
 obtain rfl:j'=12:=by simpa using hj'
 obtain⟨old,ho⟩:=hst.cell
 refine EG (o:=qR) rfl rfl (yR (b:=b1) (o:=o1+3) (p:=ra) (n:=rn) (c:=rc) (MA.hi hk (by decide) rfl) (MA.hi hk (by decide) rfl) ho hst.frz) ⟨fun _=>.inl (by decide),?_⟩
 exact qE (by kernel_rfl) (hQ _ _ rfl (hst.fin _ rfl rfl rfl rfl)) _
def aU:Oper:={dst:=some 55,op:=Op.move (Operand.tmp 5),type:=51,pos:= "amend.go:67",after:=#[],guard:=none}
def bU:Oper:={dst:=some 56,op:=Op.nilCheck (Operand.tmp 55),type:=0,pos:= "amend.go:67",after:=#[{on:=0,ground:=Ground.data}],guard:=none}
def cU:Oper:={dst:=some 57,op:=Op.fieldAddr 25 (Operand.tmp 56) 3,type:=0,pos:= "amend.go:67",after:=#[{on:=1,ground:=Ground.data}],guard:=none}
def dU:Oper:={dst:=some 58,op:=Op.load 23 (Operand.tmp 57),type:=23,pos:= "amend.go:67",after:=#[{on:=2,ground:=Ground.data}],guard:=none}
def eU:Oper:={dst:=some 59,op:=Op.move (Operand.tmp 6),type:=3,pos:= "amend.go:67",after:=#[],guard:=none}
def fU:Oper:={dst:=some 60,op:=Op.fieldAddr 46 (Operand.tmp 3) 6,type:=0,pos:= "amend.go:67",after:=#[],guard:=none}
def gU:Oper:={dst:=some 61,op:=Op.load 25 (Operand.tmp 60),type:=25,pos:= "amend.go:67",after:=#[{on:=5,ground:=Ground.data}],guard:=none}
def puD7:Oper:={dst:=some 62,op:=Op.call {callee:=Callee.value (Operand.func 17),args:=#[Operand.tmp 61],argTypes:=#[25]},type:=25,pos:= "amend.go:67",after:=#[{on:=6,ground:=Ground.data}],guard:=none}
def puD8:Oper:={dst:=some 63,op:=Op.indexAddr 23 (Operand.tmp 58) (Operand.tmp 59),type:=0,pos:= "amend.go:67",after:=#[{on:=3,ground:=Ground.data},{on:=4,ground:=Ground.data},{on:=0,ground:=Ground.phase},{on:=1,ground:=Ground.phase},{on:=2,ground:=Ground.phase},{on:=3,ground:=Ground.phase},{on:=4,ground:=Ground.phase},{on:=5,ground:=Ground.phase},{on:=6,ground:=Ground.phase},{on:=7,ground:=Ground.phase}],guard:=none}
def iU:Oper:={dst:=none,op:=Op.store 25 (Operand.tmp 63) (Operand.tmp 62),type:=0,pos:= "amend.go:67",after:=#[{on:=8,ground:=Ground.data},{on:=7,ground:=Ground.data},{on:=7,ground:=Ground.chain},{on:=0,ground:=Ground.phase},{on:=1,ground:=Ground.phase},{on:=2,ground:=Ground.phase},{on:=3,ground:=Ground.phase},{on:=4,ground:=Ground.phase},{on:=5,ground:=Ground.phase},{on:=6,ground:=Ground.phase},{on:=7,ground:=Ground.phase}],guard:=none}
def puDL:List Oper:=[aU,bU,cU,dU,eU,fU,gU,puD7,puD8,iU]
theorem SO{mid:List Value}(h:mid.length=9):∃u0 u1 u2 u3 u4 u5 u6 u7 u8:Value,mid=[u0,u1,u2,u3,u4,u5,u6,u7,u8]:=by
 match mid,h with
 | [u0,u1,u2,u3,u4,u5,u6,u7,u8],_=>exact⟨_,_,_,_,_,_,_,_,_,rfl⟩
theorem Own.bel{w:World}{B B':Nat}{v:Nat→Value}{t:It}{S:Nat→Prop}(h:Own w B v t S)(hB:B'≤B):Own w B' v t S:=by
 induction h with
 |mk v t K T S h0 h1 ln kd sl sk hr hT hd hS ih=>
  refine .mk v t K T S h0 h1 ⟨ln.1,ln.2.imp (fun h=>h) ?_⟩ ⟨kd.1,kd.2.imp (fun h=>h) ?_⟩ sl sk ih hT hd fun q hq=>⟨Nat.le_trans hB (hS q hq).1,(hS q hq).2⟩
  ·rintro ⟨g,cap,cur,e,h1,h2⟩;exact⟨g,cap,cur,e,Nat.le_trans hB h1,h2⟩
  ·rintro ⟨g,cap,cur,e,h1,h2⟩;exact⟨g,cap,cur,e,Nat.le_trans hB h1,h2⟩
theorem BS{W0:World}{Q:Exit→Act→World→Prop}{pre mid suf:List Value}{d:List Deferred}{b1 o1 g0 g zn kc ln lc kn kc2 j:Nat}{k:It}{la ka2:Option Addr}{lab hd:ByteArray}(hk:pre.length=55)(hm:mid.length=9)(HP:OS Q)(p5:pre[5]?=some (.pointer (some ⟨b1,o1,none⟩)))(p3:pre[3]?=some (.pointer (some ⟨g0,0,none⟩)))(p6:pre[6]?=some (.int .i64 j))
 (hC:∀V,Below W0.heap.size W0 V→V.cell? ⟨b1,o1+3,none⟩=some (.slice (some ⟨g,0,none⟩) zn kc)∧V.cell? ⟨g0,6,none⟩=some (.string lab)∧V.cell? ⟨g0,7,none⟩=some (.string hd)∧V.cell? ⟨g0,8,none⟩=some (.slice la ln lc)∧V.cell? ⟨g0,9,none⟩=some (.slice ka2 kn kc2)) (hj:j<zn)
 (hI:∀V,Below W0.heap.size W0 V→Calls Tryz.prog 17 #[.agg #[.string lab,.string hd,.slice la ln lc,.slice ka2 kn kc2]] V (fun e w'=>∃y Ty,e=.returned (.agg #[y 0,y 1,y 2,y 3])∧Own w' V.heap.size y k Ty∧Below V.heap.size V w'))
 (hPl:∀V,Below W0.heap.size W0 V→(∃u,V.cell? ⟨g,j * 4,none⟩=some u)∧(∃u,V.cell? ⟨g,j * 4+1,none⟩=some u)∧(∃u,V.cell? ⟨g,j * 4+2,none⟩=some u)∧(∃u,V.cell? ⟨g,j * 4+3,none⟩=some u)) (hFz:∀V,Below W0.heap.size W0 V→∀i,V.frozen? ⟨g,i,none⟩=false)
 (hQ:∀m w'' V1 y Ty,m.length=9→Below W0.heap.size W0 V1→Own V1 W0.heap.size y k Ty→Put4 V1 w'' g (j * 4) y→(∀q,Ty q→W0.heap.size≤q)→Q .normal (MA pre m suf d) w'') {V:World} (hV:Below W0.heap.size W0 V):
 wpLast Tryz.prog .any puDL.toArray Q (fun V=>Below W0.heap.size W0 V) [9] 10 (Array.replicate 10 false) (MA pre mid suf d) V:=by
 obtain⟨u0,u1,u2,u3,u4,u5,u6,u7,u8,rfl⟩:=SO hm
 refine nB (i:=0) (oi:=aU) (.pointer (some ⟨b1,o1,none⟩)) HP hk rfl rfl (by decide) (by simp) rfl (by kernel_rfl) (by kernel_rfl) (by kernel_rfl) (by kernel_rfl) (fun W=>aB (MA.lo p5)) ?_
 show wpLast _ _ _ _ _ _ _ _ (MA pre [.pointer (some ⟨b1,o1,none⟩),u1,u2,u3,u4,u5,u6,u7,u8] suf d) _
 refine nB (i:=1) (oi:=bU) (.pointer (some ⟨b1,o1,none⟩)) HP hk rfl rfl (by decide) (by simp) rfl (by kernel_rfl) (by kernel_rfl) (by kernel_rfl) (by kernel_rfl) (fun W=>QD (MA.hi hk (by decide) rfl)) ?_
 show wpLast _ _ _ _ _ _ _ _ (MA pre [.pointer (some ⟨b1,o1,none⟩),.pointer (some ⟨b1,o1,none⟩),u2,u3,u4,u5,u6,u7,u8] suf d) _
 refine nB (i:=2) (oi:=cU) (.pointer (some ⟨b1,o1+3,none⟩)) HP hk rfl rfl (by decide) (by simp) rfl (by kernel_rfl) (by kernel_rfl) (by kernel_rfl) (by kernel_rfl) (fun W=>IC (MA.hi hk (by decide) rfl)) ?_
 show wpLast _ _ _ _ _ _ _ _ (MA pre [.pointer (some ⟨b1,o1,none⟩),.pointer (some ⟨b1,o1,none⟩),.pointer (some ⟨b1,o1+3,none⟩),u3,u4,u5,u6,u7,u8] suf d) _
 refine jD (i:=3) (oi:=dU) (.slice (some ⟨g,0,none⟩) zn kc) HP hk rfl rfl (by decide) (by simp) rfl (by kernel_rfl) (by kernel_rfl) (by kernel_rfl) (by kernel_rfl) (by kernel_rfl) hV (fun W hW=>NE (MA.hi hk (by decide) rfl) (hC W hW).1) ?_
 show wpLast _ _ _ _ _ _ _ _ (MA pre [.pointer (some ⟨b1,o1,none⟩),.pointer (some ⟨b1,o1,none⟩),.pointer (some ⟨b1,o1+3,none⟩),.slice (some ⟨g,0,none⟩) zn kc,u4,u5,u6,u7,u8] suf d) _
 refine nB (i:=4) (oi:=eU) (.int .i64 j) HP hk rfl rfl (by decide) (by simp) rfl (by kernel_rfl) (by kernel_rfl) (by kernel_rfl) (by kernel_rfl) (fun W=>aB (MA.lo p6)) ?_
 show wpLast _ _ _ _ _ _ _ _ (MA pre [.pointer (some ⟨b1,o1,none⟩),.pointer (some ⟨b1,o1,none⟩),.pointer (some ⟨b1,o1+3,none⟩),.slice (some ⟨g,0,none⟩) zn kc,.int .i64 j,u5,u6,u7,u8] suf d) _
 refine nB (i:=5) (oi:=fU) (.pointer (some ⟨g0,6,none⟩)) HP hk rfl rfl (by decide) (by simp) rfl (by kernel_rfl) (by kernel_rfl) (by kernel_rfl) (by kernel_rfl) (fun W=>oI (MA.lo p3)) ?_
 show wpLast _ _ _ _ _ _ _ _ (MA pre [.pointer (some ⟨b1,o1,none⟩),.pointer (some ⟨b1,o1,none⟩),.pointer (some ⟨b1,o1+3,none⟩),.slice (some ⟨g,0,none⟩) zn kc,.int .i64 j,.pointer (some ⟨g0,6,none⟩),u6,u7,u8] suf d) _
 refine jD (i:=6) (oi:=gU) (.agg #[.string lab,.string hd,.slice la ln lc,.slice ka2 kn kc2]) HP hk rfl rfl (by decide) (by simp) rfl (by kernel_rfl) (by kernel_rfl) (by kernel_rfl) (by kernel_rfl) (by kernel_rfl) hV (fun W hW=>nI (MA.hi hk (by decide) rfl) (hC W hW).2.1 (hC W hW).2.2.1 (hC W hW).2.2.2.1 (hC W hW).2.2.2.2) ?_
 show wpLast _ _ _ _ _ _ _ _ (MA pre [.pointer (some ⟨b1,o1,none⟩),.pointer (some ⟨b1,o1,none⟩),.pointer (some ⟨b1,o1+3,none⟩),.slice (some ⟨g,0,none⟩) zn kc,.int .i64 j,.pointer (some ⟨g0,6,none⟩),.agg #[.string lab,.string hd,.slice la ln lc,.slice ka2 kn kc2],u7,u8] suf d) _
 refine UA (rs:=[7]) (by kernel_rfl) (by simp) fun j' hj'=>?_
 obtain rfl:j'=7:=by simpa using hj'
 refine yD (o:=puD7) rfl rfl (MS (MA.hi hk (by decide) rfl) rfl) (hI V hV) ?_
 rintro e V1 ⟨y,Ty,rfl,hy,hb1⟩
 obtain⟨y0,y1,⟨yl,ylc,y2⟩,yk,ykc,y3⟩:=hy.lies.forms
 have hV1:=hV.trans (hb1.mono hV.size)
 refine⟨_,rfl,fun _=>.inr hV1,?_⟩
 rw[show (MA pre [.pointer (some ⟨b1,o1,none⟩),.pointer (some ⟨b1,o1,none⟩),.pointer (some ⟨b1,o1+3,none⟩),.slice (some ⟨g,0,none⟩) zn kc,.int .i64 j,.pointer (some ⟨g0,6,none⟩),.agg #[.string lab,.string hd,.slice la ln lc,.slice ka2 kn kc2],u7,u8] suf d).put puD7.dst (.agg #[y 0,y 1,y 2,y 3])=MA pre [.pointer (some ⟨b1,o1,none⟩),.pointer (some ⟨b1,o1,none⟩),.pointer (some ⟨b1,o1+3,none⟩),.slice (some ⟨g,0,none⟩) zn kc,.int .i64 j,.pointer (some ⟨g0,6,none⟩),.agg #[.string lab,.string hd,.slice la ln lc,.slice ka2 kn kc2],.agg #[y 0,y 1,y 2,y 3],u8] suf d from MA.put hk (by decide) (by simp)]
 refine UA (rs:=[8]) (by kernel_rfl) (by simp) fun j' hj'=>?_
 obtain rfl:j'=8:=by simpa using hj'
 refine FC (o:=puD8) rfl rfl (rU (MA.hi hk (by decide) rfl) (MA.hi hk (by decide) rfl) hj) ⟨fun _=>.inr hV1,?_⟩
 rw[show (MA pre [.pointer (some ⟨b1,o1,none⟩),.pointer (some ⟨b1,o1,none⟩),.pointer (some ⟨b1,o1+3,none⟩),.slice (some ⟨g,0,none⟩) zn kc,.int .i64 j,.pointer (some ⟨g0,6,none⟩),.agg #[.string lab,.string hd,.slice la ln lc,.slice ka2 kn kc2],.agg #[y 0,y 1,y 2,y 3],u8] suf d).put puD8.dst (.pointer (some ⟨g,j * 4,none⟩))=MA pre [.pointer (some ⟨b1,o1,none⟩),.pointer (some ⟨b1,o1,none⟩),.pointer (some ⟨b1,o1+3,none⟩),.slice (some ⟨g,0,none⟩) zn kc,.int .i64 j,.pointer (some ⟨g0,6,none⟩),.agg #[.string lab,.string hd,.slice la ln lc,.slice ka2 kn kc2],.agg #[y 0,y 1,y 2,y 3],.pointer (some ⟨g,j * 4,none⟩)] suf d from MA.put hk (by decide) (by simp)]
 refine UA (rs:=[9]) (by kernel_rfl) (by simp) fun j' hj'=>?_
 obtain rfl:j'=9:=by simpa using hj'
 obtain⟨⟨x0,c0⟩,⟨x1,c1⟩,⟨x2,c2⟩,⟨x3,c3⟩⟩:=hPl V1 hV1
 refine EG (o:=iU) rfl rfl (UP (v:=y) (MA.hi hk (by decide) rfl) (MA.hi hk (by decide) rfl) y0 y1 y2 y3 c0 c1 c2 c3 (hFz V1 hV1 _) (hFz V1 hV1 _) (hFz V1 hV1 _) (hFz V1 hV1 _)) ⟨fun _=>.inl (by decide),?_⟩
 exact qE (by kernel_rfl) (hQ _ _ V1 y Ty rfl hV1 (hy.bel (hV.size)) (oV V1 g (j * 4) y) (fun q hq=>Nat.le_trans hV.size (hy.in q hq).1)) _
end Go.Proofs.YtpbolcjcmkmalaaGreatDoor
namespace Go.Proofs.YtpbolcjcmkmalaaGreatDoor
open Go.RowKit Go.Extern.Stop Go.Stop Go.Extern
theorem lH:∀(p:List ByteArray) (t x y:It),FewIt t→eA t p=some x→FewIt y→FewIt (sA (fun _=>y) p t)
 | [],t,x,y,_,_,h=>by rw[sA];exact h
 |q::r,t,x,y,ht,e,h=>by
  obtain⟨i,z,hi,hz,e⟩:=IA e
  obtain⟨h1,h2,h3,h4,h5,h6⟩:=ht.get
  rw[cB hi hz]
  have h7:=lH r z x y (h6 z (List.mem_of_getElem? hz)) e h
  refine .mk _ h1 ?_ h3 h4 h5 fun k hk=>?_
  ·show (t.kids.set i _).length≤1000
   rw[List.length_set];exact h2
  ·have hk:k∈t.kids.set i (sA (fun _=>y) r z):=hk
   rcases List.mem_or_eq_of_mem_set hk with hk|rfl
   ·exact h6 k hk
   ·exact h7
theorem tJ{x k:It}(hx:FewIt x)(hk:FewIt k)(hl:x.kids.length≤999)(j:Nat):FewIt (x.setKids (x.kids.insertIdx j k)):=by
 obtain⟨h1,h2,h3,h4,h5,h6⟩:=hx.get
 refine .mk _ h1 ?_ h3 h4 h5 fun k' hk'=>?_
 ·show (x.kids.insertIdx j k).length≤1000
  rw[List.length_insertIdx];split<;>omega
 ·have hk':k'∈x.kids.insertIdx j k:=hk'
  by_cases hj:j≤x.kids.length
  ·rw[DF x.kids j k hj] at hk'
   rcases List.mem_append.1 hk' with h|h
   ·exact h6 k' (List.mem_of_mem_take h)
   ·rcases List.mem_cons.1 h with h|h
    ·exact h▸hk
    ·exact h6 k' (List.mem_of_mem_drop h)
  ·rw[List.insertIdx_of_length_lt (by omega)] at hk'
   exact h6 k' hk'
theorem KA{t x:It}{p:List ByteArray}(h:UC t)(hx:eA t p=some x):x.kids.length≤300:=by
 have h1:=QF p t x (x.setKids []) hx
 have h0:WA (x.setKids [])=0:=by rw[RA];rfl
 have h2:=h.2
 have h3:=RA x
 have h4:=xK x.kids
 omega
section
variable {t x:It} {o:OpW} {i:Nat}
theorem wS(h:eA t (cA o.path)=none):putC t o=.bad 5:=by unfold putC;rw[h]
theorem xS(h:eA t (cA o.path)=some x)(h2:pA x.kids o.at'=none):putC t o=.bad 5:=by
 unfold putC;rw[h];simp only[h2]
theorem CQ(h:eA t (cA o.path)=some x)(h2:pA x.kids o.at'=some i)(h3:(iA x.kids o.item.label).isSome):putC t o=.bad 7:=by
 unfold putC;rw[h];simp only[h2];rw[if_pos h3]
theorem vS(h:eA t (cA o.path)=some x)(h2:pA x.kids o.at'=some i)(h3:¬(iA x.kids o.item.label).isSome){c:Nat}(h4:vIt 0 0 [] (sA (fun _=>x.setKids (x.kids.insertIdx i o.item)) (cA o.path) t)=.bad c):putC t o=.bad c:=by
 unfold putC;rw[h];simp only[h2];rw[if_neg h3,h4]
theorem QT(h:eA t (cA o.path)=some x)(h2:pA x.kids o.at'=some i)(h3:¬(iA x.kids o.item.label).isSome){m:Nat}(h4:vIt 0 0 [] (sA (fun _=>x.setKids (x.kids.insertIdx i o.item)) (cA o.path) t)=.ok m):putC t o=.ok (sA (fun _=>x.setKids (x.kids.insertIdx i o.item)) (cA o.path) t):=by
 unfold putC;rw[h];simp only[h2];rw[if_neg h3,h4]
end
theorem jU{w:World}{B b o:Nat}{t:It}{S:Nat→Prop}{v:Nat→Value}(h:ItAt w B b o t S v)(hL:UC t)(hB:B≤w.heap.size)(hBb:B≤b){p:Nat→Addr}{m:Int}(hE:∀w',Below B w w'→Env w' p m)(op:OpW)(hok:OpOk op)(iv:Nat→Value){ex:Prop}(hi:SrcT w B ex iv op.item)(hz:EB op.item≤400000)(hx:ex∨EB op.item≤600)(hFi:FewIt op.item):
 Calls Tryz.prog 32 #[.pointer (some ⟨b,o,none⟩),.agg (FB op iv)] w (ChO w B b o S p (putC t op)):=by
 have ht:=hok.path
 clear hok
 have R1:=wS (t:=t) (o:=op)
 have R2:=fun x=>xS (t:=t) (x:=x) (o:=op)
 have R3:=fun x i=>CQ (t:=t) (x:=x) (i:=i) (o:=op)
 have R4:=fun x i c h h2 h3=>vS (t:=t) (x:=x) (i:=i) (o:=op) h h2 h3 (c:=c)
 have R5:=fun x i m h h2 h3=>QT (t:=t) (x:=x) (i:=i) (o:=op) h h2 h3 (m:=m)
 generalize putC t op=r at *
 cases op with
 |mk kind path at' text new line item=>
  have ht:path.size≤6000:=ht
  have hi:SrcT w B ex iv item:=hi
  have hz:EB item≤400000:=hz
  have hx:ex∨EB item≤600:=hx
  have hFi:FewIt item:=hFi
  obtain⟨f0,f1,⟨la,lc,f2⟩,ka2,kc2,f3⟩:=hi.lies.forms
  show Calls Tryz.prog 32 #[.pointer (some ⟨b,o,none⟩),.agg #[.int .i64 kind,.string path,.string at',.string text,.string new,.int .i64 line,iv 0,iv 1,iv 2,iv 3]] w (ChO w B b o S p r)
  rw[f0,f1,f2,f3]
  have HFm:=aA (aI f0 (aI f1 (aI f2 f3)))
  obtain⟨WB,hWB⟩:∃WB,WB=w.alloc (.cells #[.int .i64 kind,.string path,.string at',.string text,.string new,.int .i64 line,.string item.label,.string item.head,.slice la item.lines.length lc,.slice ka2 item.kids.length kc2] 46):=⟨_,rfl⟩
  have hb0:Below w.heap.size w WB:=by rw[hWB];exact bA _ _
  have hbx:WB.heap[w.heap.size]?=some (.cells #[.int .i64 kind,.string path,.string at',.string text,.string new,.int .i64 line,.string item.label,.string item.head,.slice la item.lines.length lc,.slice ka2 item.kids.length kc2] 46 (0,0)):=by rw[hWB];exact heap_alloc_new _ _
  obtain⟨y0,y1,y2,y3,y4,y5,y6,y7,y8,y9⟩:=yB hbx
  have HLb:=aA (ED path (by omega) m WB (hE _ (hb0.mono hB)).M)
  have HX:=aA hWB
  have H0:=aA h
  have HLaw:=aA hL
  have HF:=aA (RB hL)
  have HB0:=aA hb0
  have HEn:=aA hE
  have HI:=aA (aI hi (aI hz (aI hx hFi)))
  have HY:=aA (aI y2 (aI y6 (aI y7 (aI y8 y9))))
  have HR1:Hid (eA t (cA path)=none→r=.bad 5):=R1
  have HR2:Hid (∀x,eA t (cA path)=some x→pA x.kids at'=none→r=.bad 5):=R2
  have HR3:Hid (∀x i,eA t (cA path)=some x→pA x.kids at'=some i→(iA x.kids item.label).isSome→r=.bad 7):=R3
  have HR4:Hid (∀x i c,eA t (cA path)=some x→pA x.kids at'=some i→¬(iA x.kids item.label).isSome→vIt 0 0 [] (sA (fun _=>x.setKids (x.kids.insertIdx i item)) (cA path) t)=.bad c→r=.bad c):=R4
  have HR5:Hid (∀x i m,eA t (cA path)=some x→pA x.kids at'=some i→¬(iA x.kids item.label).isSome→vIt 0 0 [] (sA (fun _=>x.setKids (x.kids.insertIdx i item)) (cA path) t)=.ok m→r=.ok (sA (fun _=>x.setKids (x.kids.insertIdx i item)) (cA path) t)):=R5
  have HPl:Hid ((cA path).length≤100000):=by show _≤_;have:=jB path;omega
  clear hWB h hL hE y0 y2 y3 y4 y5 y6 y7 y8 y9 hbx hb0 hi hz hx hFi R1 R2 R3 R4 R5 f0 f1 f2 f3
  generalize cA path=ps at *
  go_enter Tryz.func32,Tryz.ntmps32
  go_upto_region 1 with fail
  rw[←HX.out]
  go_wp2_with fail
  refine HLb.out.mono ?_
  rintro e w1 ⟨⟨pa,pc,rfl,hst,hpc⟩,hb1⟩
  have hbw1:=HB0.out.trans (hb1.mono HB0.out.size)
  have HFd:=aA (vH (pc:=pc) (H0.out.on hbw1) HF.out hst HPl.out)
  have HB1:=aA hbw1
  have HYb:=aA hb1
  clear hst hpc hb1 hbw1 y1
  go_wp2_with fail
  refine HFd.out.mono ?_
  rintro e w2 ⟨hfi,hb2⟩
  have HB2:=aA (HB1.out.trans (hb2.mono HB1.out.size))
  have hbW:Below WB.heap.size WB w2:=HYb.out.trans (hb2.mono HYb.out.size)
  have c4:∀q c u,WB.cell? ⟨q,c,none⟩=some u→w2.cell? ⟨q,c,none⟩=some u:=fun q c u hc=>(hbW.cell (p:=⟨q,c,none⟩) (dA hc)).trans hc
  have HY2:=aA (aI (c4 _ _ _ HY.out.1) (aI (c4 _ _ _ HY.out.2.1) (aI (c4 _ _ _ HY.out.2.2.1) (aI (c4 _ _ _ HY.out.2.2.2.1) (c4 _ _ _ HY.out.2.2.2.2)))))
  clear hbW c4 HFd HYb
  unfold lF at hfi
  cases hq:eA t ps with
  |none=>
   rw[hq] at hfi
   have hfi:e=_:=hfi
   subst hfi
   have HO:=aA (HR1.out hq)
   clear hq hb2
   have e1:w2.cell? ⟨4,0,none⟩=some (.iface 214 (.pointer (some (p 4)))):=(HEn.out _ (HB2.out.mono hB)).L.cell 4 (by omega)
   go_wp2
   go_ret
   rw[HO.out]
   exact⟨by omega,EO.err 4 (by omega),HB2.out.mono hB⟩
  |some x=>
   rw[hq] at hfi
   obtain⟨b1,o1,S1,v1,rfl,hf⟩:=hfi
   have hf:=hf.on (by have:=H0.out.lt;have:=HB1.out.size;omega) hb2
   have HF1:=aA hf
   have HQ:=aA hq
   obtain⟨ka,kc,hv3,hc3⟩:=hf.at'.kidsV
   have hkl:=KA HLaw.out hq
   have HV3:=aA hv3
   have HC3:=aA hc3
   have HBe:Hid (∀W,Below w2.heap.size w2 W→Calls Tryz.prog 76 #[.slice ka x.kids.length kc,.string at'] W fun e w'=>e=.returned (.int .i64 (XG (pA x.kids at')))∧Below w2.heap.size w2 w'):=fun W hW=>(UD (hf.at'.on hW).own.lies hv3 (by omega) at').mono fun e w' h=>⟨h.1,hW.trans (h.2.mono hW.size)⟩
   have HLd:Hid (∀W,Below w2.heap.size w2 W→Calls Tryz.prog 69 #[.slice ka x.kids.length kc,.string item.label] W fun e w'=>e=.returned (.int .i64 (XG (iA x.kids item.label)))∧Below w2.heap.size w2 w'):=fun W hW=>(sC (hf.at'.on hW).own.lies hv3 (by omega) item.label).mono fun e w' h=>⟨h.1,hW.trans (h.2.mono hW.size)⟩
   have HCl:Hid (∀W,Below w2.heap.size w2 W→W.cell? ⟨b1,o1+3,none⟩=some (.slice ka x.kids.length kc)∧W.cell? ⟨w.heap.size,2,none⟩=some (.string at')∧W.cell? ⟨w.heap.size,6,none⟩=some (.string item.label)∧W.cell? ⟨w.heap.size,7,none⟩=some (.string item.head)∧W.cell? ⟨w.heap.size,8,none⟩=some (.slice la item.lines.length lc)∧W.cell? ⟨w.heap.size,9,none⟩=some (.slice ka2 item.kids.length kc2)):=fun W hW=>by
    have c4:∀q c u,w2.cell? ⟨q,c,none⟩=some u→W.cell? ⟨q,c,none⟩=some u:=fun q c u hc=>(hW.cell (p:=⟨q,c,none⟩) (dA hc)).trans hc
    exact⟨c4 _ _ _ HC3.out,c4 _ _ _ HY2.out.1,c4 _ _ _ HY2.out.2.1,c4 _ _ _ HY2.out.2.2.1,c4 _ _ _ HY2.out.2.2.2.1,c4 _ _ _ HY2.out.2.2.2.2⟩
   clear hq hb2 hf hv3 hc3
   generalize hxn:x.kids.length=xn at *
   have HXn:=aA hxn
   clear hxn
   go_upto_region 4 with fail
   go_cut [6] (fun c wx=>c=.int .i64 (XG (pA x.kids at'))∧Below w2.heap.size w2 wx)
   case first=>
    refine ZA (C:=fun W=>Below w2.heap.size w2 W) (by kernel_rfl) (by kernel_rfl) (Below.refl _ _).drew ?_
    refine aD 16 7 ?_
    refine yS (b1:=b1) (o1:=o1) (g0:=w.heap.size) rfl rfl rfl rfl (fun W hW=>(HCl.out W hW).1) (fun W hW=>(HCl.out W hW).2.1) HBe.out ?_
    rintro m hm W7 hW7
    obtain⟨u0,u1,u2,u3,u4,u5,u6,rfl⟩:=xP hm
    clear hm
    simp only[MA,List.take_succ_cons,List.take_zero,List.drop_succ_cons,List.drop_zero,List.cons_append,List.nil_append,List.set_cons_zero,List.set_cons_succ]
    go_wp2_with fail
    go_meet
    exact⟨rfl,hW7⟩
   case rest=>
    obtain⟨rfl,hb3⟩:=hcut
    obtain⟨w3,e3,hb3⟩:∃w3,w3=_∧Below w2.heap.size w2 w3:=⟨_,rfl,hb3⟩
    subst e3
    have HB3:=aA hb3
    have HBw3:=aA (HB2.out.trans (hb3.mono HB2.out.size))
    clear hb3 HBe
    cases hj:pA x.kids at' with
    |none=>
     obtain⟨n1,hn1⟩:∃n1:Int,XG (none:Option Nat)=n1:=⟨_,rfl⟩
     have hn0:n1<0:=by rw[←hn1];decide
     have HO:=aA (HR2.out x HQ.out hj)
     rw[hn1]
     clear hj hn1
     have e1:w3.cell? ⟨4,0,none⟩=some (.iface 214 (.pointer (some (p 4)))):=(HEn.out _ (HBw3.out.mono hB)).L.cell 4 (by omega)
     go_wp2
     go_ret
     rw[HO.out]
     exact⟨by omega,EO.err 4 (by omega),HBw3.out.mono hB⟩
    |some j=>
     rw[show XG (some j)=(j:Int) from rfl]
     have hj0:¬((j:Int)<0):=by omega
     have HJ:=aA hj
     have hjl:j≤xn:=by
      rw[QB] at hj
      have:=AD hj
      unfold xA at this
      rw[List.length_map,HXn.out] at this
      exact this
     have HJl:=aA hjl
     obtain⟨has,hhas⟩:∃has:Bool,has=(iA x.kids item.label).isSome:=⟨_,rfl⟩
     have HHas:=aA hhas
     clear hj hjl hhas
     go_upto_region 7 with fail
     go_cut [34] (fun c wx=>c=.bool has∧Below w2.heap.size w2 wx)
     case first=>
      have hs9:decide (0≤XG (iA x.kids item.label))=has:=by
       rw[HHas.out]
       cases iA x.kids item.label with
       |none=>rfl
       |some z=>exact decide_eq_true (Int.natCast_nonneg z)
      refine ZA (C:=fun W=>Below w2.heap.size w2 W) (by kernel_rfl) (by kernel_rfl) HB3.out.drew ?_
      refine aD 26 9 ?_
      refine zS (b1:=b1) (o1:=o1) (g0:=w.heap.size) rfl rfl rfl rfl (fun W hW=>(HCl.out W hW).1) (fun W hW=>(HCl.out W hW).2.2.1) HLd.out hs9 ?_
      rintro m hm hl W7 hW7
      obtain⟨u0,u1,u2,u3,u4,u5,u6,u7,u8,rfl⟩:=oR hm
      obtain rfl:u8=.bool has:=by injection hl
      clear hm hl hs9
      simp only[MA,List.take_succ_cons,List.take_zero,List.drop_succ_cons,List.drop_zero,List.cons_append,List.nil_append]
      go_wp2_with fail
      go_meet
      exact⟨rfl,hW7⟩
     case rest=>
      obtain⟨rfl,hb4⟩:=hcut
      obtain⟨w4,e4,hb4⟩:∃w4,w4=_∧Below w2.heap.size w2 w4:=⟨_,rfl,hb4⟩
      subst e4
      have HB4:=aA hb4
      have HBw4:=aA (HB2.out.trans (hb4.mono HB2.out.size))
      clear hb4 HB3 HBw3 HLd
      cases has
      ·have HHn:Hid (¬(iA x.kids item.label).isSome=true):=fun e=>by rw[←HHas.out] at e;cases e
       have hf4:=HF1.out.on (by have:=H0.out.lt;have:=HB2.out.size;omega) HB4.out
       have HF4:=aA hf4
       have hbS:∀q,S1 q→B≤q:=fun q hq=>(H0.out.own.in q (HF1.out.sub q hq)).1
       have hb1B:B≤b1:=by
        by_cases h0:ps=[]
        ·rw[(HF1.out.root h0).1];exact hBb
        ·exact(H0.out.own.in b1 (HF1.out.inn h0)).1
       have HS1:=aA (aI hbS hb1B)
       have hBw:B≤w4.heap.size:=Nat.le_trans hB HBw4.out.size
       have hS1w:∀q,S1 q→q<w.heap.size:=fun q hq=>(H0.out.own.in q (HF1.out.sub q hq)).2
       have HS2:=aA hS1w
       clear hf4 hbS hb1B HF1 hS1w
       go_upto_region 9 with fail
       refine wp_region_noPanic ?_
       refine eD (S:=fun V=>Below w4.heap.size w4 V) (L:=[9,10,11,12]) (by kernel_rfl) ?_
       refine yJ 36 12 ?_
       refine AS (W0:=w4) (b1:=b1) (o1:=o1) (g0:=w.heap.size) (zn:=xn) (kc:=kc) (ka:=ka) (ln:=item.lines.length) (lc:=lc) (kn:=item.kids.length) (kc2:=kc2) (la:=la) (ka2:=ka2) (lab:=item.label) (hd:=item.head) (j:=j) (R:=fun w5=>∃g c,PutH w4 B b1 o1 j x item S1 w5 g c) rfl rfl (fun _ _ _ _ _ h=>h) rfl rfl rfl ?_ ?_ ?_ (Below.refl _ _).drew
       ·intro V hV
        obtain⟨q1,q2,q3,q4,q5,q6⟩:=HCl.out V (HB4.out.trans (hV.mono HB4.out.size))
        exact⟨q1,q3,q4,q5,q6⟩
       ·intro V vb hV hvk hvb
        have hatV:=HF4.out.at'.on hV
        have hiV:Lies V (· <B) iv item:=HI.out.1.lies.step fun q hq hqB=>⟨(HBw4.out.trans (hV.mono HBw4.out.size)).block q hq,hqB⟩
        have e5:v1 3=.slice ka x.kids.length kc:=by rw[HXn.out];exact HV3.out
        have hpf:=CS (d:=j) (vb:=vb) (iv:=iv) hatV (Nat.le_trans hBw hV.size) HS1.out.2 (by rw[HXn.out];exact HJl.out) (by rw[HXn.out];omega) e5 hiV (by rw[HFm.out.1,HFm.out.2.1,HFm.out.2.2.1,HFm.out.2.2.2];exact hvk) (fun e=>by have:=HS2.out vb e;have:=HBw4.out.size;omega)
        rw[HXn.out] at hpf
        refine hpf.mono ?_
        rintro e w' ⟨a,n,c,he,hst⟩
        refine⟨a,n,c,he,hst.cell,hst.frz,fun w'' h1 h2 h3 h4=>?_⟩
        obtain⟨g,c',hp⟩:=hst.fin w'' h1 h2 h3 h4
        exact⟨g,c',hp.after hV HF4.out.at'.lt⟩
       ·intro m w5 hm hR
        obtain⟨u0,u1,u2,u3,u4,u5,u6,u7,u8,u9,u10,u11,rfl⟩:=oL hm
        obtain⟨g,gc,hp⟩:=hR
        clear hm
        refine NoPanic.normal ?_
        have hbl:=HF4.out.backL w5 _ hp.upd hp.lies
        obtain⟨v5,hc5,hl5⟩:=hbl.1
        obtain⟨l0,l1,⟨za,zc,l2⟩,zk,zkc,l3⟩:=hl5.forms
        have z0:=hc5 0 (by omega)
        have z1:=hc5 1 (by omega)
        have z2:=hc5 2 (by omega)
        have z3:=hc5 3 (by omega)
        rw[Nat.add_zero] at z0
        rw[l0] at z0
        rw[l1] at z1
        rw[l2] at z2
        rw[l3] at z3
        have hbB:Below B w4 w5:=hp.upd.below HS1.out.2 HS1.out.1 hBw
        have hbB5:Below B w w5:=(HBw4.out.mono hB).trans hbB
        have hfx:=BB ps t x HF.out HQ.out
        have hV:=iJ _ (lH ps t x _ HF.out HQ.out (tJ hfx HI.out.2.2.2 (by rw[HXn.out];omega) j)) p m w5 (HEn.out w5 hbB5) _ v5 hl5
        rw[l0,l1,l2,l3] at hV
        have HV:=aA hV
        have HPH:=aA hp
        have HBB:=aA hbB5
        clear hbl hc5 hl5 l0 l1 l2 l3 hbB hV hp hbB5 hfx
        simp only[MA,List.take_succ_cons,List.take_zero,List.drop_succ_cons,List.drop_zero,List.cons_append,List.nil_append]
        generalize hlab:(sA (fun _=>x.setKids (x.kids.insertIdx j item)) ps t).label=tl at *
        generalize hhd:(sA (fun _=>x.setKids (x.kids.insertIdx j item)) ps t).head=th at *
        generalize hln:(sA (fun _=>x.setKids (x.kids.insertIdx j item)) ps t).lines.length=tn at *
        generalize hkn:(sA (fun _=>x.setKids (x.kids.insertIdx j item)) ps t).kids.length=tk at *
        clear hlab hhd hln hkn
        go_wp2_with fail
        refine HV.out.mono ?_
        rintro e w6 ⟨hvt,hb6⟩
        have HB6:=aA hb6
        have HBB6:=aA (HBB.out.trans (hb6.mono (Nat.le_trans hB HBB.out.size)))
        clear hb6 z0 z1 z2 z3
        cases hvi:vIt 0 0 [] (sA (fun _=>x.setKids (x.kids.insertIdx j item)) ps t) with
        |bad cc=>
         rw[hvi] at hvt
         obtain⟨kk,hcc,hkk,rfl⟩:=hvt
         have HO:=aA (HR4.out x j cc HQ.out HJ.out HHn.out hvi)
         clear hvi
         subst hcc
         unfold fD
         go_wp2
         go_ret
         rw[HO.out]
         exact⟨by omega,EO.err kk hkk,HBB6.out⟩
        |ok mm=>
         rw[hvi] at hvt
         have hvt:e=_:=hvt
         subst hvt
         have HO:=aA (HR5.out x j mm HQ.out HJ.out HHn.out hvi)
         clear hvi
         go_upto_region 13 with fail
         refine wp_region_noPanic ?_
         refine eD (S:=fun V=>Below w6.heap.size w6 V) (L:=[9]) (by kernel_rfl) ?_
         refine yJ 55 9 ?_
         refine BS (W0:=w6) (b1:=b1) (o1:=o1) (g0:=w.heap.size) (g:=g) (zn:=xn+1) (kc:=gc) (ln:=item.lines.length) (lc:=lc) (kn:=item.kids.length) (kc2:=kc2) (la:=la) (ka2:=ka2) (lab:=item.label) (hd:=item.head) (j:=j) (k:=item) rfl rfl (fun _ _ _ _ _ h=>h) rfl rfl rfl ?_ (by have:=HJl.out;omega) ?_ ?_ ?_ ?_ (Below.refl _ _).drew
         ·intro V hV
          have h5V:Below w5.heap.size w5 V:=HB6.out.trans (hV.mono HB6.out.size)
          have hcl:=HPH.out.cell
          rw[HXn.out] at hcl
          obtain⟨q1,q2,q3,q4,q5,q6⟩:=HCl.out w4 HB4.out
          have hwb:w.heap.size≠b1:=fun e=>by
           by_cases h0:ps=[]
           ·have:=(HF4.out.root h0).1;have:=H0.out.lt;omega
           ·have:=(H0.out.own.in b1 (HF4.out.inn h0)).2;omega
          have c4:∀c u,w4.cell? ⟨w.heap.size,c,none⟩=some u→V.cell? ⟨w.heap.size,c,none⟩=some u:=fun c u hc=>by
           have h1:w5.cell? ⟨w.heap.size,c,none⟩=some u:=(World.cell?_of_block (a:=⟨w.heap.size,c,none⟩) (HPH.out.upd.block w.heap.size (dA hc) (fun e=>by have:=HS2.out _ e;omega) hwb)).trans hc
           exact(h5V.cell (p:=⟨w.heap.size,c,none⟩) (dA h1)).trans h1
          exact⟨(h5V.cell (p:=⟨b1,o1+3,none⟩) (dA hcl)).trans hcl,c4 _ _ q3,c4 _ _ q4,c4 _ _ q5,c4 _ _ q6⟩
         ·intro V hV
          have hBV:Below B w V:=HBB6.out.trans (hV.mono (Nat.le_trans hB HBB6.out.size))
          have hs:=HI.out.1.on fun k hk=>hBV.block k hk
          have hcp:=fO hs (Nat.le_trans hB hBV.size) HI.out.2.1 HI.out.2.2.1
          rw[HFm.out.1,HFm.out.2.1,HFm.out.2.2.1,HFm.out.2.2.2] at hcp
          refine hcp.mono ?_
          rintro e w' ⟨v',S',h1,h2,h3⟩
          exact⟨v',S',h1,h2,h3⟩
         ·intro V hV
          have h5V:Below w5.heap.size w5 V:=HB6.out.trans (hV.mono HB6.out.size)
          have hp4:∀c,c<4→∃u,V.cell? ⟨g,j * 4+c,none⟩=some u:=fun c hc=>by
           obtain⟨u,hu⟩:=HPH.out.place c hc
           exact⟨u,(h5V.cell (p:=⟨g,j * 4+c,none⟩) (dA hu)).trans hu⟩
          exact⟨hp4 0 (by omega),hp4 1 (by omega),hp4 2 (by omega),hp4 3 (by omega)⟩
         ·intro V hV i
          have h5V:Below w5.heap.size w5 V:=HB6.out.trans (hV.mono HB6.out.size)
          exact(World.frozen?_of_block (a:=⟨g,i,none⟩) (h5V.block g HPH.out.lt)).trans (HPH.out.frz i)
         ·intro m w'' V1 y Ty hm hV1 hy hp4 hTy
          obtain⟨u0,u1,u2,u3,u4,u5,u6,u7,u8,rfl⟩:=SO hm
          clear hm
          refine NoPanic.normal ?_
          simp only[MA,List.take_succ_cons,List.take_zero,List.drop_succ_cons,List.drop_zero,List.cons_append,List.nil_append]
          go_wp2_with fail
          go_ret
          have h5V:Below w5.heap.size w5 V1:=HB6.out.trans (hV1.mono HB6.out.size)
          obtain⟨S',v',q1,q2,q3⟩:=HPH.out.fin V1 w'' y Ty h5V hp4 (hy.bel (Nat.le_trans hB HBB6.out.size)) (fun q hq=>Nat.le_trans HB6.out.size (hTy q hq))
          rw[HO.out]
          exact HF4.out.done H0.out HBw4.out q3 q1 q2
      ·have HO:=aA (HR3.out x j HQ.out HJ.out HHas.out.symm)
       have e1:w4.cell? ⟨6,0,none⟩=some (.iface 214 (.pointer (some (p 6)))):=(HEn.out _ (HBw4.out.mono hB)).L.cell 6 (by omega)
       go_wp2
       go_ret
       rw[HO.out]
       exact⟨by omega,EO.err 6 (by omega),HBw4.out.mono hB⟩
theorem RQ{x:It}{o:OpW}(h:o.kind=2):textC x o=lineC x o.line o.text:=by unfold textC lineC;rw[if_pos h]
theorem SQ{x:It}{o:OpW}(h:o.kind=3):textC x o=addC x o.line o.text:=by unfold textC addC;rw[if_neg (by omega),if_pos h]
theorem TQ{x:It}{o:OpW}(h:o.kind=4):textC x o=dropC x o.line:=by unfold textC dropC;rw[if_neg (by omega),if_neg (by omega),if_pos h]
theorem UQ{x:It}{o:OpW}(h:o.kind=5):textC x o=wordsC x o:=by unfold textC;rw[if_neg (by omega),if_neg (by omega),if_neg (by omega),if_pos h]
theorem FM{x:It}{o:OpW}(h2:¬o.kind=2)(h3:¬o.kind=3)(h4:¬o.kind=4)(h5:¬o.kind=5):textC x o=if chkB o.text=0 then .ok (x.setHead o.text) else .bad (chkB o.text):=by unfold textC;rw[if_neg h2,if_neg h3,if_neg h4,if_neg h5]
theorem qI{w:World}{B b o:Nat}{x:It}{S:Nat→Prop}{v:Nat→Value}(h:ItAt w B b o x S v)(hB:B≤w.heap.size)(hn:x.lines.length≤40)(hfi:∀s,s∈x.lines→RD s){p:Nat→Addr}{m:Int}(hE:Env w p m)(op:OpW)(hok:OpOk op)(iv:Nat→Value)(hiv:∀c,c<4→(iv c).oneCell'=true):
 Calls Tryz.prog 31 #[.pointer (some ⟨b,o,none⟩),.agg (FB op iv)] w (ChO w B b o S p (textC x op)):=by
 obtain⟨WB,hWB⟩:∃WB,WB=w.alloc (.cells (FB op iv) 46):=⟨_,rfl⟩
 have hb0:Below w.heap.size w WB:=by rw[hWB];exact bA _ _
 have hbx:WB.heap[w.heap.size]?=some (.cells (FB op iv) 46 (0,0)):=by rw[hWB];exact heap_alloc_new _ _
 have h1:=h.on hb0
 have hB1:=Nat.le_trans hB hb0.size
 have E1:=hE.on hb0
 have K2:=oJ h1 hB1 E1 op hok iv
 have K3:=PM h1 hB1 (by omega) E1 op hok iv
 have K4:=AL h1 hB1 (by omega) E1 op iv
 have K5:=rI h1 hB1 hn hfi E1 op hok iv
 have KC:=AC op.text (by have:=hok.text;omega) WB (hE:=E1)
 have T2:=RQ (x:=x) (o:=op)
 have T3:=SQ (x:=x) (o:=op)
 have T4:=TQ (x:=x) (o:=op)
 have T5:=UQ (x:=x) (o:=op)
 have T1:=FM (x:=x) (o:=op)
 have HAf:=aA (fun (r:COut) (e:Ending) (w':World) (hh:ChO WB B b o S p r e w')=>hh.after hb0 h.lt hB)
 unfold FB at K2 K3 K4 K5 hbx hWB
 show Calls Tryz.prog 31 #[.pointer (some ⟨b,o,none⟩),.agg #[.int .i64 op.kind,.string op.path,.string op.at',.string op.text,.string op.new,.int .i64 op.line,iv 0,iv 1,iv 2,iv 3]] w (ChO w B b o S p (textC x op))
 have c0:=hiv 0 (by omega)
 have c1:=hiv 1 (by omega)
 have c2:=hiv 2 (by omega)
 have c3:=hiv 3 (by omega)
 generalize lineC x op.line op.text=r2 at *
 generalize addC x op.line op.text=r3 at *
 generalize dropC x op.line=r4 at *
 generalize wordsC x op=r5 at *
 generalize textC x op=r at *
 generalize op.kind=kind at *
 generalize op.path=path at *
 generalize op.at'=at' at *
 generalize op.text=text at *
 generalize op.new=new at *
 generalize op.line=line at *
 generalize iv 0=i0 at *
 generalize iv 1=i1 at *
 generalize iv 2=i2 at *
 generalize iv 3=i3 at *
 obtain⟨y0,y1,y2,y3,y4,y5,y6,y7,y8,y9⟩:=yB hbx
 have HX:=aA hWB
 have H0:=aA h
 have HB0:=aA hb0
 have HK2:=aA K2
 have HK3:=aA K3
 have HK4:=aA K4
 have HK5:=aA K5
 have HKC:=aA KC
 have HT2:=aA T2
 have HT3:=aA T3
 have HT4:=aA T4
 have HT5:=aA T5
 have HT1:=aA T1
 clear hWB h hb0 hbx h1 hB1 hE E1 K2 K3 K4 K5 KC T1 T2 T3 T4 T5 hok hfi hiv
 by_cases k2:kind=2
 ·have HO:=aA (HT2.out k2)
  subst k2
  go_enter Tryz.func31,Tryz.ntmps31
  go_upto_region 1 with fail
  rw[←HX.out]
  go_wp2_with fail
  refine HK2.out.mono ?_
  rintro e w1 hch
  have HCh:=aA (HAf.out _ _ _ hch)
  rw[←HO.out] at HCh
  have he:∃u,e=.returned u:=by
   cases r2 with
   |bad c=>obtain⟨_,h2,_⟩:=hch;unfold EO at h2;split at h2;exact⟨_,h2⟩;obtain⟨k,_,_,h3⟩:=h2;exact⟨_,h3⟩
   |ok y=>exact⟨_,hch.1⟩
  obtain⟨u,rfl⟩:=he
  clear hch
  go_wp2
  go_ret
  exact HCh.out
 ·have m2:(kind==2)=false:=by rw[beq_eq_false_iff_ne];exact k2
  by_cases k3:kind=3
  ·have HO:=aA (HT3.out k3)
   subst k3
   go_enter Tryz.func31,Tryz.ntmps31
   go_upto_region 1 with fail
   rw[←HX.out]
   go_wp2_with fail
   refine HK3.out.mono ?_
   rintro e w1 hch
   have HCh:=aA (HAf.out _ _ _ hch)
   rw[←HO.out] at HCh
   have he:∃u,e=.returned u:=by
    cases r3 with
    |bad c=>obtain⟨_,h2,_⟩:=hch;unfold EO at h2;split at h2;exact⟨_,h2⟩;obtain⟨k,_,_,h3⟩:=h2;exact⟨_,h3⟩
    |ok y=>exact⟨_,hch.1⟩
   obtain⟨u,rfl⟩:=he
   clear hch
   go_wp2
   go_ret
   exact HCh.out
  ·have m3:(kind==3)=false:=by rw[beq_eq_false_iff_ne];exact k3
   by_cases k4:kind=4
   ·have HO:=aA (HT4.out k4)
    subst k4
    go_enter Tryz.func31,Tryz.ntmps31
    go_upto_region 1 with fail
    rw[←HX.out]
    go_wp2_with fail
    refine HK4.out.mono ?_
    rintro e w1 hch
    have HCh:=aA (HAf.out _ _ _ hch)
    rw[←HO.out] at HCh
    have he:∃u,e=.returned u:=by
     cases r4 with
     |bad c=>obtain⟨_,h2,_⟩:=hch;unfold EO at h2;split at h2;exact⟨_,h2⟩;obtain⟨k,_,_,h3⟩:=h2;exact⟨_,h3⟩
     |ok y=>exact⟨_,hch.1⟩
    obtain⟨u,rfl⟩:=he
    clear hch
    go_wp2
    go_ret
    exact HCh.out
   ·have m4:(kind==4)=false:=by rw[beq_eq_false_iff_ne];exact k4
    by_cases k5:kind=5
    ·have HO:=aA (HT5.out k5)
     subst k5
     go_enter Tryz.func31,Tryz.ntmps31
     go_upto_region 1 with fail
     rw[←HX.out]
     go_wp2_with fail
     refine HK5.out.mono ?_
     rintro e w1 hch
     have HCh:=aA (HAf.out _ _ _ hch)
     rw[←HO.out] at HCh
     have he:∃u,e=.returned u:=by
      cases r5 with
      |bad c=>obtain⟨_,h2,_⟩:=hch;unfold EO at h2;split at h2;exact⟨_,h2⟩;obtain⟨k,_,_,h3⟩:=h2;exact⟨_,h3⟩
      |ok y=>exact⟨_,hch.1⟩
     obtain⟨u,rfl⟩:=he
     clear hch
     go_wp2
     go_ret
     exact HCh.out
    ·have m5:(kind==5)=false:=by rw[beq_eq_false_iff_ne];exact k5
     have HO:=aA (HT1.out k2 k3 k4 k5)
     clear HK2 HK3 HK4 HK5 HT1 HT2 HT3 HT4 HT5
     by_cases hc:chkB text=0
     ·rw[hc] at HKC
      rw[if_pos hc] at HO
      clear hc
      go_enter Tryz.func31,Tryz.ntmps31
      go_upto_region 1 with fail
      rw[←HX.out]
      go_wp2_with fail
      refine HKC.out.mono ?_
      rintro e w1 ⟨he,hb1⟩
      unfold EO at he
      rw[if_pos rfl] at he
      subst he
      have hbw:=HB0.out.trans (hb1.mono HB0.out.size)
      have z3:=(hb1.cell (p:=⟨w.heap.size,3,none⟩) (dA y3)).trans y3
      have z1:=(H0.out.on hbw).cell (c:=1) (by omega)
      have zf:=(H0.out.on hbw).frozen (o+1)
      have HBw:=aA hbw
      clear hb1 hbw y3
      generalize v 1=old at *
      go_wp2
      go_ret
      rw[HO.out]
      obtain⟨q1,q2⟩:=(H0.out.on HBw.out).setHead text (Fr.setCell (X:=(· =b)) (Fr.refl _ w1) (p:=⟨b,o+1,none⟩) (.inl rfl) (.string text)) rfl
      exact ChO.after HBw.out H0.out.lt hB ⟨rfl,S,_,q1,fun q hq=>.inl hq,q2⟩
     ·rw[if_neg hc] at HO
      have HC:=aA hc
      clear hc
      generalize chkB text=cu at *
      go_enter Tryz.func31,Tryz.ntmps31
      go_upto_region 1 with fail
      rw[←HX.out]
      go_wp2_with fail
      refine HKC.out.mono ?_
      rintro e w1 ⟨he,hb1⟩
      unfold EO at he
      rw[if_neg HC.out] at he
      obtain⟨k,hk1,hk2,rfl⟩:=he
      have H1:=aA (HB0.out.trans (hb1.mono HB0.out.size))
      have HK:=aA hk1
      clear hb1 hk1
      unfold fD
      go_wp2
      go_ret
      rw[HO.out,HK.out]
      exact⟨by omega,EO.err k hk2,H1.out.mono hB⟩
end Go.Proofs.YtpbolcjcmkmalaaGreatDoor

import Derived.Test.YtpbolcjcmkmalaaGreatDoorAq00
import Derived.Test.YtpbolcjcmkmalaaGreatDoorAq28
import Derived.Test.YtpbolcjcmkmalaaGreatDoorAq10
import Derived.Test.YtpbolcjcmkmalaaGreatDoorAq21
import Derived.Test.YtpbolcjcmkmalaaGreatDoorAq26
import Derived.Test.YtpbolcjcmkmalaaGreatDoorAq25
set_option maxHeartbeats 20000000
set_option maxRecDepth 20000
namespace Go.Proofs.YtpbolcjcmkmalaaGreatDoor
open Go.RowKit Go.Extern.Stop Go.Stop Go.Extern
theorem ItAt.setK{W w':World}{B b o:Nat}{x:It}{S:Nat→Prop}{v:Nat→Value}(h:ItAt W B b o x S v){u:Value}{ks:List It}{K':Nat→Nat→Value}{T':Nat→Nat→Prop}{S':Nat→Prop}(hf:Fr (fun k=>k=b∨(v 3).ownBlock=some k) W w')(hb:w'.heap[b]?=(W.setCell ⟨b,o+3,none⟩ u).heap[b]?)
 (hr:w'.ownsRow B 25 4 u ks.length (GA K' ks.length)) (ho:∀i k,ks[i]?=some k→Own w' B (K' i) k (T' i)) (hS:∀q,S' q→B≤q∧q<w'.heap.size) (hsl:∀g,(v 2).ownBlock=some g→S' g) (hsk:∀g,u.ownBlock=some g→S' g)
 (hT:∀i q,i<ks.length→T' i q→S' q∧(v 2).ownBlock≠some q∧u.ownBlock≠some q) (hd:∀i j q,i<ks.length→j<ks.length→T' i q→T' j q→i=j) (hout:¬S' b):
 ItAt w' B b o (x.setKids ks) S' (MC v 3 u)∧Upd W w' b o S:=by
 obtain⟨h1,h2⟩:=YD (u:=u) h.here (c:=3) (by omega) hb
 obtain⟨K,T,hk⟩:=h.own.parts
 have hn:∀q,S q→q≠b:=fun q hq e=>h.out (e▸hq)
 refine⟨⟨h1,?_,hout⟩,⟨hf.os,hf.tape,hf.output,hf.size,fun k hk' hs hne=>hf.block k hk' (fun e=>e.elim hne (fun e=>hs (hk.sk k e))),h2⟩⟩
 refine .mk _ _ K' T' S' ((qA v _ (by omega)).trans hk.h0) ((qA v _ (by omega)).trans hk.h1) ?_ ?_ (fun g hg=>hsl g (by rw[qA v _ (by omega)] at hg;exact hg)) (fun g hg=>hsk g (by rw[EA] at hg;exact hg)) ho (fun i q hi hq=>?_) hd hS
 ·rw[qA v _ (by omega)]
  exact CA hk.ln fun g hg hl=>hf.block g hl (fun e=>e.elim (hn g (hk.sl g hg)) (fun e=>jH hk hg e))
 ·rw[EA];exact hr
 ·rw[qA v _ (by omega),EA]
  exact hT i q hi hq
def JS{α:Type}(K:Nat→α)(d:Nat):Nat→α:=fun i=>if i<d then K i else K (i+1)
def lG{α:Type}(K:Nat→α)(d:Nat)(y:α):Nat→α:=fun i=>if i<d then K i else if i=d then y else K (i - 1)
theorem kC(K:Nat→Nat→Value){n q:Nat}(h:q<n * 4):(GA K n)[q]?=some (K (q / 4) (q % 4)):=by
 have:=bB K n (q / 4) (q % 4) (by omega) (by omega)
 rwa [show q / 4 * 4+q % 4=q by omega] at this
theorem gK(K:Nat→Nat→Value){n d:Nat}(h:d<n):(GA K n).take (d * 4)++(GA K n).drop ((d+1) * 4)=GA (JS K d) (n - 1):=by
 apply List.ext_getElem?
 intro q
 have hl:((GA K n).take (d * 4)).length=d * 4:=by rw[List.length_take,LA];omega
 rcases Nat.lt_or_ge q ((n - 1) * 4) with hq|hq
 ·rw[kC _ hq]
  unfold JS
  rcases Nat.lt_or_ge q (d * 4) with h1|h1
  ·rw[List.getElem?_append_left (by omega),List.getElem?_take,if_pos h1,kC K (by omega),if_pos (by omega)]
  ·rw[List.getElem?_append_right (by omega),hl,List.getElem?_drop,kC K (by omega),if_neg (by omega)]
   congr 2<;>omega
 ·rw[List.getElem?_eq_none (by rw[List.length_append,hl,List.length_drop,LA];omega),List.getElem?_eq_none (by rw[LA];omega)]
theorem xF(K:Nat→Nat→Value){n d:Nat}(y:Nat→Value)(h:d≤n):(GA K n).take (d * 4)++[y 0,y 1,y 2,y 3]++(GA K n).drop (d * 4)=GA (lG K d y) (n+1):=by
 apply List.ext_getElem?
 intro q
 have hl:((GA K n).take (d * 4)).length=d * 4:=by rw[List.length_take,LA];omega
 have hl2:((GA K n).take (d * 4)++[y 0,y 1,y 2,y 3]).length=d * 4+4:=by rw[List.length_append,hl];rfl
 rcases Nat.lt_or_ge q ((n+1) * 4) with hq|hq
 ·rw[kC _ hq]
  unfold lG
  rcases Nat.lt_or_ge q (d * 4) with h1|h1
  ·rw[List.getElem?_append_left (by omega),List.getElem?_append_left (by omega),List.getElem?_take,if_pos h1,kC K (by omega),if_pos (by omega)]
  ·rcases Nat.lt_or_ge q (d * 4+4) with h2|h2
   ·rw[List.getElem?_append_left (by omega),List.getElem?_append_right (by omega),hl,if_neg (by omega),if_pos (by omega)]
    obtain⟨c,hc⟩:∃c,c=q - d * 4:=⟨_,rfl⟩
    have e:q % 4=c:=by omega
    rw[e,←hc]
    have:c<4:=by omega
    match c,this with
    |0,_=>rfl
    |1,_=>rfl
    |2,_=>rfl
    |3,_=>rfl
   ·rw[List.getElem?_append_right (by omega),hl2,List.getElem?_drop,kC K (by omega),if_neg (by omega),if_neg (by omega)]
    congr 2<;>omega
 ·rw[List.getElem?_eq_none (by rw[List.length_append,hl2,List.length_drop,LA];omega),List.getElem?_eq_none (by rw[LA];omega)]
theorem KH{w:World}{B:Nat}{v:Nat→Value}{t:It}{S:Nat→Prop}{K:Nat→Nat→Value}{T:Nat→Nat→Prop}(h:OwnK w B v t S K T):∀u∈GA K t.kids.length,u.oneCell'=true:=by
 intro u hu
 obtain⟨q,hq,e⟩:=List.getElem_of_mem hu
 have hq':q<t.kids.length * 4:=by rwa [LA] at hq
 have h1:=kC K hq'
 rw[List.getElem?_eq_getElem hq,e] at h1
 injection h1 with h1
 obtain⟨f0,f1,⟨la,lc,f2⟩,ka,kc,f3⟩:=(h.hr (q / 4) _ (List.getElem?_eq_getElem (by omega))).lies.forms
 rw[h1]
 have hc:q % 4<4:=Nat.mod_lt _ (by omega)
 generalize q % 4=c at *
 match c,hc with
 |0,_=>rw[f0];rfl
 |1,_=>rw[f1];rfl
 |2,_=>rw[f2];rfl
 |3,_=>rw[f3];rfl
structure StC(b o c:Nat)(u:Value)(w':World)(Q:World→Prop):Prop where
 cell:∃old,w'.cell? ⟨b,o+c,none⟩=some old
 frz:w'.frozen? ⟨b,o+c,none⟩=false
 fin:∀w'',w''.heap=(w'.setCell ⟨b,o+c,none⟩ u).heap→w''.os=w'.os→w''.tape=w'.tape→w''.output=w'.output→Q w''
theorem ItAt.stC{W w':World}{B b o:Nat}{x:It}{S:Nat→Prop}{v:Nat→Value}(h:ItAt W B b o x S v){K:Nat→Nat→Value}{T:Nat→Nat→Prop}(hk:OwnK W B v x S K T){u:Value}(hg:W.grownBy w' (v 3).ownBlock)(hu:u.ownBlock=(v 3).ownBlock∨∃g,u.ownBlock=some g∧W.heap.size≤g∧g<w'.heap.size){Q:World→Prop}
 (hQ:∀w'',Fr (fun k=>k=b∨(v 3).ownBlock=some k) W w''→w''.heap[b]?=(W.setCell ⟨b,o+3,none⟩ u).heap[b]?→w''.heap.size=w'.heap.size→(∀k,k≠b→w''.heap[k]?=w'.heap[k]?)→(∀g,u.ownBlock=some g→g≠b)→Q w''):StC b o 3 u w' Q:=by
 have hbne:∀g,(v 3).ownBlock=some g→g≠b:=fun g hg e=>h.out (e▸hk.sk g hg)
 have hbb:w'.heap[b]?=W.heap[b]?:=hg.block b h.lt (fun e=>hbne b e.symm rfl)
 refine⟨⟨v 3,(World.cell?_of_block (a:=⟨b,o+3,none⟩) hbb).trans (h.cell (by omega))⟩,(World.frozen?_of_block (a:=⟨b,o+3,none⟩) hbb).trans (h.frozen _),fun w'' h1 h2 h3 h4=>?_⟩
 have hsz:w''.heap.size=w'.heap.size:=by rw[h1];simp
 have hblk:∀k,k≠b→w''.heap[k]?=w'.heap[k]?:=fun k hk=>by rw[h1];exact Below.heap_setCell _ _ _ _ hk
 refine hQ w'' ⟨h2.trans hg.os,h3.trans hg.tape,h4.trans hg.output,by rw[hsz];exact hg.size,fun k hk hx=>?_⟩ ?_ hsz hblk (fun g hg' e=>?_)
 ·rw[hblk k (fun e=>hx (.inl e)),hg.block k hk (fun e=>hx (.inr e.symm))]
 ·obtain⟨cur,ty,e,_⟩:=h.here
  rw[h1,OA u (hbb.trans e),OA u e]
 ·rcases hu with e1|⟨g',e1,h5,_⟩
  ·exact hbne g (by rw[←e1];exact hg') e
  ·rw[e1] at hg';injection hg' with hg';have:=h.lt;omega
theorem mM{W:World}{B b o d:Nat}{x k:It}{S:Nat→Prop}{v:Nat→Value}{K:Nat→Nat→Value}{T:Nat→Nat→Prop}(h:ItAt W B b o x S v)(hk:OwnK W B v x S K T)(hd:x.kids[d]?=some k)(hn:x.kids.length≤1000000){ka:Option Addr}{kc:Nat}(e:v 3=.slice ka x.kids.length kc):
 Calls Tryz.prog 79 #[.slice ka x.kids.length kc,.int .i64 d,.int .i64 ((d:Int)+1)] W fun e w'=>∃a n c,e=.returned (.slice a n c)∧StC b o 3 (.slice a n c) w' (fun w''=>∃v',ItAt w'' B b o (x.setKids (x.kids.eraseIdx d)) (fun q=>S q∧¬T d q) v'∧Own w'' B (K d) k (T d)∧Upd W w'' b o S):=by
 have hdl:=(List.getElem?_eq_some_iff.1 hd).1
 have hkd:=hk.kd
 rw[e] at hkd
 refine(MR hkd (KH hk) hdl hn).mono ?_
 rintro e' w' ⟨⟨u,rfl,hu,hr⟩,hg⟩
 rw[gK K hdl] at hr
 obtain⟨a,c,rfl⟩:=tA hr
 refine⟨a,_,c,rfl,h.stC hk (by rw[e];exact hg) (.inl (by rw[hu,e])) fun w'' hf hb hsz hblk hub=>?_⟩
 have hl:(x.kids.eraseIdx d).length=x.kids.length - 1:=by rw[List.length_eraseIdx,if_pos hdl]
 have hn':∀q,S q→q≠b:=fun q hq e=>h.out (e▸hq)
 have hu3:∀g,(Value.slice a (x.kids.length - 1) c).ownBlock=some g→(v 3).ownBlock=some g:=fun g hg=>by rw[e,←hu];exact hg
 have hst:=fun j k' (ej:x.kids[j]?=some k')=>fC (t:=x) hk hf (fun i q hi hq e2=>e2.elim (hn' q (hk.hT i q hi hq).1) (hk.hT i q hi hq).2.2) j k' ej
 have hsk:∀i,i<x.kids.length - 1→∃j,j<x.kids.length∧j≠d∧JS K d i=K j∧JS T d i=T j∧(j=if i<d then i else i+1):=fun i hi=>by
  unfold JS
  by_cases hid:i<d
  ·exact⟨i,by omega,by omega,by rw[if_pos hid],by rw[if_pos hid],by rw[if_pos hid]⟩
  ·exact⟨i+1,by omega,by omega,by rw[if_neg hid],by rw[if_neg hid],by rw[if_neg hid]⟩
 have hset:ItAt w'' B b o (x.setKids (x.kids.eraseIdx d)) (fun q=>S q∧¬T d q) (MC v 3 (.slice a (x.kids.length - 1) c))∧Upd W w'' b o S:=by
  refine h.setK (u:=.slice a (x.kids.length - 1) c) (ks:=x.kids.eraseIdx d) (K':=JS K d) (T':=JS T d) (S':=fun q=>S q∧¬T d q) hf hb (by rw[hl];exact CA hr fun g hg' hl'=>hblk g (hub g hg')) (fun i k' ei=>?_) (fun q hq=>⟨(hk.hS q hq.1).1,Nat.lt_of_lt_of_le (hk.hS q hq.1).2 hf.size⟩) (fun g hg'=>⟨hk.sl g hg',fun e2=>(hk.hT d g hdl e2).2.1 hg'⟩) (fun g hg'=>⟨hk.sk g (hu3 g hg'),fun e2=>(hk.hT d g hdl e2).2.2 (hu3 g hg')⟩) (fun i q hi hq=>?_) (fun i i' q hi hi' hq hq'=>?_) (fun hh=>h.out hh.1)
  ·have hi:i<x.kids.length - 1:=by rw[←hl];exact(List.getElem?_eq_some_iff.1 ei).1
   obtain⟨j,h1,h2,h3,h4,h5⟩:=hsk i hi
   rw[h3,h4]
   rw[List.getElem?_eraseIdx] at ei
   refine hst j k' ?_
   rw[h5]
   split at ei
   ·rename_i hid;rw[if_pos hid];exact ei
   ·rename_i hid;rw[if_neg hid];exact ei
  ·rw[hl] at hi
   obtain⟨j,h1,h2,h3,h4,h5⟩:=hsk i hi
   rw[h4] at hq
   have h9:=hk.hT j q h1 hq
   exact⟨⟨h9.1,fun e2=>h2 (hk.hd j d q h1 hdl hq e2)⟩,h9.2.1,fun e2=>h9.2.2 (hu3 q e2)⟩
  ·rw[hl] at hi hi'
   obtain⟨j,h1,h2,h3,h4,h5⟩:=hsk i hi
   obtain⟨j',h1',h2',h3',h4',h5'⟩:=hsk i' hi'
   rw[h4] at hq
   rw[h4'] at hq'
   have e9:=hk.hd j j' q h1 h1' hq hq'
   rw[h5,h5'] at e9
   split at e9<;>split at e9<;>omega
 exact⟨_,hset.1,hst d k hd,hset.2⟩
theorem CF{l:List It}{d i:Nat}{k k':It}(hd:d≤l.length)(h:(l.insertIdx d k)[i]?=some k'):(i<d∧l[i]?=some k')∨(i=d∧k'=k)∨(d<i∧l[i - 1]?=some k'):=by
 rw[DF l d k hd] at h
 have hlt:(l.take d).length=d:=by rw[List.length_take];omega
 rcases Nat.lt_trichotomy i d with h1|h1|h1
 ·rw[List.getElem?_append_left (by omega),List.getElem?_take,if_pos h1] at h
  exact .inl ⟨h1,h⟩
 ·subst h1
  rw[List.getElem?_append_right (by omega),hlt,Nat.sub_self,List.getElem?_cons_zero] at h
  injection h with h
  exact .inr (.inl ⟨rfl,h.symm⟩)
 ·rw[List.getElem?_append_right (by omega),hlt,show i - d=(i - d - 1)+1 by omega,List.getElem?_cons_succ,List.getElem?_drop] at h
  exact .inr (.inr ⟨h1,by rw[←h];congr 1;omega⟩)
theorem DS{W:World}{B b o d vb:Nat}{x k:It}{S Ty:Nat→Prop}{v y:Nat→Value}(h:ItAt W B b o x S v)(hB:B≤W.heap.size)(hd:d≤x.kids.length)(hn:x.kids.length≤1000000){ka:Option Addr}{kc:Nat}(e:v 3=.slice ka x.kids.length kc)(hy:Own W B y k Ty)(hTy:∀q,Ty q→¬S q∧q≠b)(hv:W.heap[vb]?=some (.cells #[y 0,y 1,y 2,y 3] 25 (0,0)))(hvb:¬S vb):
 Calls Tryz.prog 77 #[.slice ka x.kids.length kc,.int .i64 d,.slice (some ⟨vb,0,none⟩) 1 1] W fun e w'=>∃a n c,e=.returned (.slice a n c)∧StC b o 3 (.slice a n c) w' (fun w''=>∃S' v',ItAt w'' B b o (x.setKids (x.kids.insertIdx d k)) S' v'∧(∀q,S' q→S q∨Ty q∨W.heap.size≤q)∧Upd W w'' b o S):=by
 obtain⟨K,T,hk⟩:=h.own.parts
 have hkd:=hk.kd
 rw[e] at hkd
 obtain⟨f0,f1,⟨fa,fc,f2⟩,fa',fc',f3⟩:=hy.lies.forms
 refine(sO (ns:=[y 0,y 1,y 2,y 3]) hkd (KH hk) hd hn hv rfl (fun u hu=>by simp only[List.mem_cons,List.not_mem_nil,or_false] at hu;rcases hu with rfl|rfl|rfl|rfl;rw[f0];rfl;rw[f1];rfl;rw[f2];rfl;rw[f3];rfl) (fun e2=>hvb (hk.sk vb (by rw[e];exact e2))) hB).mono ?_
 rintro e' w' ⟨⟨u,rfl,hu,hr⟩,hg⟩
 rw[xF K y hd] at hr
 obtain⟨a,c,rfl⟩:=tA hr
 refine⟨a,_,c,rfl,h.stC hk (by rw[e];exact hg) (by rw[e];exact hu) fun w'' hf hb hsz hblk hub=>?_⟩
 have hl:(x.kids.insertIdx d k).length=x.kids.length+1:=by rw[List.length_insertIdx,if_pos hd]
 have hn':∀q,S q→q≠b:=fun q hq e=>h.out (e▸hq)
 have hlt:=h.lt
 have hu3:∀g,(Value.slice a (x.kids.length+1) c).ownBlock=some g→(v 3).ownBlock=some g∨(W.heap.size≤g∧g<w''.heap.size):=fun g hg'=>by
  rcases hu with e1|⟨g',e1,h5,h6⟩
  ·exact .inl (by rw[e,←e1];exact hg')
  ·rw[e1] at hg';injection hg' with hg';subst hg';exact .inr ⟨h5,by rw[hsz];exact h6⟩
 have hst:=fun j k' (ej:x.kids[j]?=some k')=>fC (t:=x) hk hf (fun i q hi hq e2=>e2.elim (hn' q (hk.hT i q hi hq).1) (hk.hT i q hi hq).2.2) j k' ej
 have hyt:Own w'' B y k Ty:=hy.step (fun g hg'=>hf.block g (hy.in g hg').2 (fun e2=>e2.elim (hTy g hg').2 (fun e2=>(hTy g hg').1 (hk.sk g e2)))) hf.size
 have hin:∀i,i<x.kids.length+1→(i=d∧lG K d y i=y∧lG T d Ty i=Ty)∨∃j,j<x.kids.length∧i≠d∧lG K d y i=K j∧lG T d Ty i=T j∧(j=if i<d then i else i - 1):=fun i hi=>by
  unfold lG
  rcases Nat.lt_trichotomy i d with h1|h1|h1
  ·exact .inr ⟨i,by omega,by omega,by rw[if_pos h1],by rw[if_pos h1],by rw[if_pos h1]⟩
  ·exact .inl ⟨h1,by rw[if_neg (by omega),if_pos h1],by rw[if_neg (by omega),if_pos h1]⟩
  ·exact .inr ⟨i - 1,by omega,by omega,by rw[if_neg (by omega),if_neg (by omega)],by rw[if_neg (by omega),if_neg (by omega)],by rw[if_neg (by omega)]⟩
 have hTS:∀j q,j<x.kids.length→T j q→q<W.heap.size:=fun j q hj hq=>(hk.hS q (hk.hT j q hj hq).1).2
 have hset:ItAt w'' B b o (x.setKids (x.kids.insertIdx d k)) (fun q=>S q∨Ty q∨(W.heap.size≤q∧q<w''.heap.size)) (MC v 3 (.slice a (x.kids.length+1) c))∧Upd W w'' b o S:=by
  refine h.setK (u:=.slice a (x.kids.length+1) c) (ks:=x.kids.insertIdx d k) (K':=lG K d y) (T':=lG T d Ty) (S':=fun q=>S q∨Ty q∨(W.heap.size≤q∧q<w''.heap.size)) hf hb (by rw[hl];exact CA hr fun g hg' hl'=>hblk g (hub g hg')) (fun i k' ei=>?_) (fun q hq=>?_) (fun g hg'=>.inl (hk.sl g hg')) (fun g hg'=>?_) (fun i q hi hq=>?_) (fun i i' q hi hi' hq hq'=>?_) (fun hh=>?_)
  ·have hi:i<x.kids.length+1:=by rw[←hl];exact(List.getElem?_eq_some_iff.1 ei).1
   rcases hin i hi with ⟨h1,h2,h3⟩|⟨j,h1,h2,h3,h4,h5⟩
   ·rw[h2,h3]
    rcases CF hd ei with ⟨h6,_⟩|⟨_,h7⟩|⟨h6,_⟩
    ·omega
    ·rw[h7];exact hyt
    ·omega
   ·rw[h3,h4]
    refine hst j k' ?_
    rcases CF hd ei with ⟨h6,h7⟩|⟨h6,_⟩|⟨h6,h7⟩
    ·rw[h5,if_pos h6];exact h7
    ·exact absurd h6 h2
    ·rw[h5,if_neg (by omega)];exact h7
  ·rcases hq with hq|hq|hq
   ·exact⟨(hk.hS q hq).1,Nat.lt_of_lt_of_le (hk.hS q hq).2 hf.size⟩
   ·exact⟨(hy.in q hq).1,Nat.lt_of_lt_of_le (hy.in q hq).2 hf.size⟩
   ·exact⟨by omega,hq.2⟩
  ·rcases hu3 g hg' with h1|h1
   ·exact .inl (hk.sk g h1)
   ·exact .inr (.inr h1)
  ·rw[hl] at hi
   rcases hin i hi with ⟨h1,h2,h3⟩|⟨j,h1,h2,h3,h4,h5⟩
   ·rw[h3] at hq
    refine⟨.inr (.inl hq),fun e2=>(hTy q hq).1 (hk.sl q e2),fun e2=>?_⟩
    rcases hu3 q e2 with h6|h6
    ·exact(hTy q hq).1 (hk.sk q h6)
    ·have:=(hy.in q hq).2;omega
   ·rw[h4] at hq
    have h9:=hk.hT j q h1 hq
    refine⟨.inl h9.1,h9.2.1,fun e2=>?_⟩
    rcases hu3 q e2 with h6|h6
    ·exact h9.2.2 h6
    ·have:=hTS j q h1 hq;omega
  ·rw[hl] at hi hi'
   rcases hin i hi with ⟨h1,h2,h3⟩|⟨j,h1,h2,h3,h4,h5⟩<;>rcases hin i' hi' with ⟨h1',h2',h3'⟩|⟨j',h1',h2',h3',h4',h5'⟩
   ·omega
   ·rw[h3] at hq
    rw[h4'] at hq'
    exact absurd (hk.hT j' q h1' hq').1 (hTy q hq).1
   ·rw[h4] at hq
    rw[h3'] at hq'
    exact absurd (hk.hT j q h1 hq).1 (hTy q hq').1
   ·rw[h4] at hq
    rw[h4'] at hq'
    have e9:=hk.hd j j' q h1 h1' hq hq'
    rw[h5,h5'] at e9
    split at e9<;>split at e9<;>omega
  ·rcases hh with hh|hh|hh
   ·exact h.out hh
   ·exact(hTy b hh).2 rfl
   ·omega
 exact⟨_,_,hset.1,fun q hq=>hq.imp (fun h=>h) (fun h=>h.imp (fun h=>h) (fun h=>h.1)),hset.2⟩
theorem ItAt.kidsV{w:World}{B b o:Nat}{x:It}{S:Nat→Prop}{v:Nat→Value}(h:ItAt w B b o x S v):∃ka kc,v 3=.slice ka x.kids.length kc∧w.cell? ⟨b,o+3,none⟩=some (.slice ka x.kids.length kc):=by
 obtain⟨_,_,_,ka,kc,e⟩:=h.own.lies.forms
 exact⟨ka,kc,e,by rw[←e];exact h.cell (by omega)⟩
theorem Foc.done{w w1 w2:World}{B b o:Nat}{t:It}{S:Nat→Prop}{v:Nat→Value}{ps:List ByteArray}{b' o':Nat}{x y:It}{S' S'':Nat→Prop}{v' v'':Nat→Value}(h0:ItAt w B b o t S v)(hb:Below w.heap.size w w1)(hf:Foc w1 B b o t S ps b' o' x S' v'){p:Nat→Addr}(hu:Upd w1 w2 b' o' S')(hy:ItAt w2 B b' o' y S'' v'')(hS:∀q,S'' q→S' q∨w1.heap.size≤q):ChO w B b o S p (.ok (sA (fun _=>y) ps t)) (.returned .nilIface) w2:=by
 obtain⟨S3,v3,q1,q2,q3⟩:=hf.back w2 y S'' v'' (fun _=>False) (fun q=>w1.heap.size≤q) hu hy (fun q hq=>hq.elim) (fun q hq hs=>by have:=(h0.own.in q hs).2;have:=hb.size;omega) (fun e=>by have:=h0.lt;have:=hb.size;omega) (fun q hq=>(hS q hq).imp (fun h=>⟨h,fun h=>h⟩) (fun h=>h))
 exact⟨rfl,S3,v3,q1,fun q hq=>(q2 q hq).imp (fun h=>h.1) (fun h=>Nat.le_trans hb.size h),q3.after hb h0.lt⟩
theorem iP{w:World}{B b o:Nat}{t:It}{S:Nat→Prop}{v:Nat→Value}(h:ItAt w B b o t S v)(hF:FewIt t)(hB:B≤w.heap.size){p:Nat→Addr}{m:Int}(hE:Env w p m)(op:OpW)(hok:OpOk op)(iv:Nat→Value):
 Calls Tryz.prog 33 #[.pointer (some ⟨b,o,none⟩),.agg (FB op iv)] w (ChO w B b o S p (SB t op)):=by
 have ht:=hok.path
 clear hok
 cases op with
 |mk kind path at' text new line item=>
  have ht:path.size≤6000:=ht
  show Calls Tryz.prog 33 #[.pointer (some ⟨b,o,none⟩),.agg #[.int .i64 kind,.string path,.string at',.string text,.string new,.int .i64 line,iv 0,iv 1,iv 2,iv 3]] w (ChO w B b o S p (SB t ⟨kind,path,at',text,new,line,item⟩))
  generalize iv 0=i0,iv 1=i1,iv 2=i2,iv 3=i3
  obtain⟨WB,hWB⟩:∃WB,WB=w.alloc (.cells #[.int .i64 kind,.string path,.string at',.string text,.string new,.int .i64 line,i0,i1,i2,i3] 46):=⟨_,rfl⟩
  have hb0:Below w.heap.size w WB:=by rw[hWB];exact bA _ _
  have hbx:WB.heap[w.heap.size]?=some (.cells #[.int .i64 kind,.string path,.string at',.string text,.string new,.int .i64 line,i0,i1,i2,i3] 46 (0,0)):=by rw[hWB];exact heap_alloc_new _ _
  obtain⟨y0,y1,y2,y3,y4,y5,y6,y7,y8,y9⟩:=yB hbx
  have HLb:=aA (ED path (by omega) m WB (hE.on hb0).M)
  have HX:=aA hWB
  have H0:=aA h
  have HF:=aA hF
  have HB0:=aA hb0
  have HEn:=aA (fun w' (hb:Below w.heap.size w w')=>hE.on hb)
  have HR:Hid (∀r,kF t (cA path)=r→SB t ⟨kind,path,at',text,new,line,item⟩=match r with|none=>.bad 5|some (x,i)=>.ok (sA (fun _=>x.setKids (x.kids.eraseIdx i)) (cA path).dropLast t)):=fun r hr=>by
   unfold SB
   show (match kF t (cA path) with|none=>COut.bad 5|some (x,i)=>.ok (sA (fun _=>x.setKids (x.kids.eraseIdx i)) (cA path).dropLast t))=_
   rw[hr]
  have HPl:Hid ((cA path).length≤100000):=by show _≤_;have:=jB path;omega
  clear hWB h hF hE y0 y2 y3 y4 y5 y6 y7 y8 y9 hbx hb0
  generalize SB t ⟨kind,path,at',text,new,line,item⟩=r at *
  generalize cA path=ps at *
  go_enter Tryz.func33,Tryz.ntmps33
  go_upto_region 1 with fail
  rw[←HX.out]
  go_wp2_with fail
  refine HLb.out.mono ?_
  rintro e w1 ⟨⟨pa,pc,rfl,hst,hpc⟩,hb1⟩
  have hbw1:=HB0.out.trans (hb1.mono HB0.out.size)
  have HAr:=aA (qH (H0.out.on hbw1) HF.out hst HPl.out hpc)
  have HB1:=aA hbw1
  clear hst hpc hb1 hbw1
  go_wp2_with fail
  refine HAr.out.mono ?_
  rintro e w2 ⟨har,hb2⟩
  unfold zR at har
  cases hq:kF t ps with
  |none=>
   rw[hq] at har
   have har:e=_:=har
   subst har
   have HO:=aA (HR.out _ hq)
   have hbw2:=HB1.out.trans (hb2.mono HB1.out.size)
   have e1:w2.cell? ⟨4,0,none⟩=some (.iface 214 (.pointer (some (p 4)))):=(HEn.out _ hbw2).L.cell 4 (by omega)
   have HB2:=aA hbw2
   clear hq hb2 hbw2
   go_wp2
   go_ret
   rw[HO.out]
   exact⟨by omega,EO.err 4 (by omega),HB2.out.mono hB⟩
  |some xi=>
   obtain⟨x,i⟩:=xi
   rw[hq] at har
   obtain⟨b',o',S',v',rfl,hf1⟩:=har
   have HO:=aA (HR.out _ hq)
   have hbw2:=HB1.out.trans (hb2.mono HB1.out.size)
   have hf:=hf1.on (by have:=H0.out.lt;have:=HB1.out.size;omega) hb2
   obtain⟨p0,l,k,hp,h1,h2,h3,h4⟩:=yC hq
   have hx:=BB _ t x HF.out h1
   obtain⟨K,T,hk⟩:=hf.at'.own.parts
   obtain⟨ka,kc,hv3,hc3⟩:=hf.at'.kidsV
   have hdl:=(List.getElem?_eq_some_iff.1 h3).1
   have hkl:=hx.get.2.1
   have HD:=aA (mM hf.at' hk h3 (by omega) hv3)
   have hwr:IntKind.i64.wrap ((i:Int)+1)=(i:Int)+1:=by rw[IntKind.wrap_i64];omega
   have HFo:=aA hf
   have HB2:=aA hbw2
   clear hq hb2 hbw2 hf1 hf hk h1 h2 h3 h4 hp hx hv3
   generalize hkn:x.kids.length=kn at *
   clear hkn
   go_wp2_with fail
   refine HD.out.mono ?_
   rintro e w3 ⟨ra,rn,rc,rfl,hst⟩
   obtain⟨old,hcl⟩:=hst.cell
   have hfz:=hst.frz
   have HST:=aA hst.fin
   clear hst
   go_wp2
   go_ret
   rw[HO.out]
   obtain⟨v'',q1,_,q2⟩:=HST.out _ rfl rfl rfl rfl
   exact HFo.out.done H0.out HB2.out q2 q1 (fun q hq=>.inl hq.1)
theorem Upd.then{w w1 w2:World}{b o:Nat}{S S3:Nat→Prop}(h1:Upd w w1 b o S)(h2:Upd w1 w2 b o S3)(hs:∀q,q<w.heap.size→S3 q→S q):Upd w w2 b o S:=by
 refine⟨h2.os.trans h1.os,h2.tape.trans h1.tape,h2.output.trans h1.output,Nat.le_trans h1.size h2.size,fun k hk hn hne=>?_,fun cur ty e=>?_⟩
 ·exact(h2.block k (Nat.lt_of_lt_of_le hk h1.size) (fun hh=>hn (hs k hk hh)) hne).trans (h1.block k hk hn hne)
 ·obtain⟨c1,e1,s1,f1⟩:=h1.here cur ty e
  obtain⟨c2,e2,s2,f2⟩:=h2.here c1 ty e1
  exact⟨c2,e2,s2.trans s1,fun q hq=>(f2 q hq).trans (f1 q hq)⟩
theorem Upd.on{w w1 w2:World}{b o:Nat}{S:Nat→Prop}(h1:Upd w w1 b o S)(h2:Below w1.heap.size w1 w2)(hb:b<w.heap.size):Upd w w2 b o S:=by
 refine⟨h2.os.trans h1.os,h2.tape.trans h1.tape,h2.output.trans h1.output,Nat.le_trans h1.size h2.size,fun k hk hn hne=>?_,fun cur ty e=>?_⟩
 ·exact(h2.block k (Nat.lt_of_lt_of_le hk h1.size)).trans (h1.block k hk hn hne)
 ·obtain⟨c1,e1,s1,f1⟩:=h1.here cur ty e
  exact⟨c1,(h2.block b (Nat.lt_of_lt_of_le hb h1.size)).trans e1,s1,f1⟩
theorem OwnK.on{w w':World}{B:Nat}{v:Nat→Value}{t:It}{S:Nat→Prop}{K:Nat→Nat→Value}{T:Nat→Nat→Prop}(h:OwnK w B v t S K T)(hb:Below w.heap.size w w'):OwnK w' B v t S K T:=
 ⟨h.h0,h.h1,CA h.ln fun g _ hl=>hb.block g hl,CA h.kd fun g _ hl=>hb.block g hl,h.sl,h.sk,fun i k hk=>(h.hr i k hk).step (fun g hg=>hb.block g ((h.hr i k hk).in g hg).2) hb.size,h.hT,h.hd,fun q hq=>⟨(h.hS q hq).1,Nat.lt_of_lt_of_le (h.hS q hq).2 hb.size⟩⟩
theorem wQ{w W w':World}{B b o:Nat}{t:It}{S:Nat→Prop}{v:Nat→Value}(h0:ItAt w B b o t S v)(hb:Below w.heap.size w W){p0:List ByteArray}{b1 o1 i:Nat}{x:It}{S1:Nat→Prop}{v1:Nat→Value}(hf:Foc W B b o t S p0 b1 o1 x S1 v1){K:Nat→Nat→Value}{T:Nat→Nat→Prop}(hk:OwnK W B v1 x S1 K T)(hi:i<x.kids.length){v':Nat→Value}(q1:ItAt w' B b1 o1 (x.setKids (x.kids.eraseIdx i)) (fun q=>S1 q∧¬T i q) v')(q3:Upd W w' b1 o1 S1):
 ∃S3 v3,ItAt w' B b o (dB t x i p0) S3 v3∧(∀q,S3 q→S q∧¬T i q)∧Upd w w' b o S∧(∀q,T i q→S q):=by
 have hT:∀q,T i q→S1 q:=fun q hq=>(hk.hT i q hi hq).1
 obtain⟨S3,v3,e1,e2,e3⟩:=hf.back w' _ _ v' (T i) (fun _=>False) q3 q1 hT (fun _ hq=>hq.elim) (fun hq=>hq) (fun q hq=>.inl hq)
 exact⟨S3,v3,e1,fun q hq=>(e2 q hq).resolve_right (fun h=>h),e3.after hb h0.lt,fun q hq=>hf.sub q (hT q hq)⟩
theorem vQ{w w1 W w':World}{B b o:Nat}{t' y:It}{S S3 Ty:Nat→Prop}(hbl:b<w.heap.size)(hSl:∀q,S q→q<w.heap.size)(hbn:¬S b)(hS3:∀q,S3 q→S q∧¬Ty q)(hTy:∀q,Ty q→S q)(hu:Upd w w1 b o S)(hb:Below w1.heap.size w1 W){qs:List ByteArray}{b3 o3:Nat}{z:It}{S4 S':Nat→Prop}{v4 v':Nat→Value}(hf:Foc W B b o t' S3 qs b3 o3 z S4 v4)(q1:ItAt w' B b3 o3 y S' v')(q2:∀q,S' q→S4 q∨Ty q∨W.heap.size≤q)(q3:Upd W w' b3 o3 S4){p:Nat→Addr}:
 ChO w B b o S p (.ok (sA (fun _=>y) qs t')) (.returned .nilIface) w':=by
 have h13:=hu.size
 have h1W:=hb.size
 have hA:∀q,(Ty q∨W.heap.size≤q)→¬S3 q:=fun q hq hs=>by
  rcases hq with hq|hq
  ·exact(hS3 q hs).2 hq
  ·have:=hSl q (hS3 q hs).1;omega
 have hAb:¬(Ty b∨W.heap.size≤b):=fun hq=>by
  rcases hq with hq|hq
  ·exact hbn (hTy b hq)
  ·omega
 obtain⟨S5,v5,e1,e2,e3⟩:=hf.back w' y S' v' (fun _=>False) (fun q=>Ty q∨W.heap.size≤q) q3 q1 (fun _ hq=>hq.elim) hA hAb (fun q hq=>(q2 q hq).imp (fun h=>⟨h,fun h=>h⟩) (fun h=>h))
 refine⟨rfl,S5,v5,e1,fun q hq=>?_,(hu.on hb hbl).then e3 (fun q _ hq=>(hS3 q hq).1)⟩
 rcases e2 q hq with h9|h9|h9
 ·exact .inl (hS3 q h9.1).1
 ·exact .inl (hTy q h9)
 ·exact .inr (by omega)
theorem QO{W:World}{B b o:Nat}{t':It}{S S3 Ty:Nat→Prop}(hS3:∀q,S3 q→S q∧¬Ty q)(hTy:∀q,Ty q→S q)(hbn:¬S b){qs:List ByteArray}{b3 o3:Nat}{z:It}{S4:Nat→Prop}{v4:Nat→Value}(hf:Foc W B b o t' S3 qs b3 o3 z S4 v4):∀q,Ty q→¬S4 q∧q≠b3:=fun q hq=>by
 refine⟨fun h=>(hS3 q (hf.sub q h)).2 hq,fun e=>?_⟩
 by_cases hq0:qs=[]
 ·exact hbn (by rw[←(hf.root hq0).1,←e];exact hTy q hq)
 ·exact(hS3 b3 (hf.inn hq0)).2 (e▸hq)
end Go.Proofs.YtpbolcjcmkmalaaGreatDoor
namespace Go.Proofs.YtpbolcjcmkmalaaGreatDoor
open Go.RowKit
set_option linter.unusedVariables false
def zT:Oper:={dst:=some 101,op:=Op.move (Operand.tmp 9),type:=51,pos:= "amend.go:116",after:=#[],guard:=none}
def AT:Oper:={dst:=some 102,op:=Op.move (Operand.tmp 9),type:=51,pos:= "amend.go:116",after:=#[],guard:=none}
def BT:Oper:={dst:=some 103,op:=Op.nilCheck (Operand.tmp 102),type:=0,pos:= "amend.go:116",after:=#[{on:=1,ground:=Ground.data}],guard:=none}
def CT:Oper:={dst:=some 104,op:=Op.fieldAddr 25 (Operand.tmp 103) 3,type:=0,pos:= "amend.go:116",after:=#[{on:=2,ground:=Ground.data}],guard:=none}
def DT:Oper:={dst:=some 105,op:=Op.load 23 (Operand.tmp 104),type:=23,pos:= "amend.go:116",after:=#[{on:=3,ground:=Ground.data}],guard:=none}
def ET:Oper:={dst:=some 106,op:=Op.move (Operand.tmp 9),type:=51,pos:= "amend.go:116",after:=#[],guard:=none}
def FT:Oper:={dst:=some 107,op:=Op.nilCheck (Operand.tmp 106),type:=0,pos:= "amend.go:116",after:=#[{on:=5,ground:=Ground.data}],guard:=none}
def GT:Oper:={dst:=some 108,op:=Op.fieldAddr 25 (Operand.tmp 107) 3,type:=0,pos:= "amend.go:116",after:=#[{on:=6,ground:=Ground.data}],guard:=none}
def IT:Oper:={dst:=some 109,op:=Op.load 23 (Operand.tmp 108),type:=23,pos:= "amend.go:116",after:=#[{on:=7,ground:=Ground.data}],guard:=none}
def JT:Oper:={dst:=some 110,op:=Op.fieldAddr 46 (Operand.tmp 3) 2,type:=0,pos:= "amend.go:116",after:=#[],guard:=none}
def jR:Oper:={dst:=some 111,op:=Op.load 9 (Operand.tmp 110),type:=9,pos:= "amend.go:116",after:=#[{on:=9,ground:=Ground.data}],guard:=none}
def mvC11:Oper:={dst:=some 112,op:=Op.call {callee:=Callee.value (Operand.func 76),args:=#[Operand.tmp 109,Operand.tmp 111],argTypes:=#[23,9]},type:=3,pos:= "amend.go:116",after:=#[{on:=8,ground:=Ground.data},{on:=10,ground:=Ground.data}],guard:=none}
def kR:Oper:={dst:=some 113,op:=Op.load 25 (Operand.tmp 10),type:=25,pos:= "amend.go:116",after:=#[],guard:=none}
def mvC13:Oper:={dst:=some 114,op:=Op.buildSlice 23 1 #[(0,Operand.tmp 113)],type:=23,pos:= "amend.go:116",after:=#[{on:=12,ground:=Ground.data}],guard:=none}
def mvC14:Oper:={dst:=some 115,op:=Op.call {callee:=Callee.value (Operand.func 77),args:=#[Operand.tmp 105,Operand.tmp 112,Operand.tmp 114],argTypes:=#[23,3,23]},type:=23,pos:= "amend.go:116",after:=#[{on:=4,ground:=Ground.data},{on:=11,ground:=Ground.data},{on:=13,ground:=Ground.data},{on:=11,ground:=Ground.chain}],guard:=none}
def mvC15:Oper:={dst:=some 116,op:=Op.nilCheck (Operand.tmp 101),type:=0,pos:= "amend.go:116",after:=#[{on:=0,ground:=Ground.data},{on:=0,ground:=Ground.phase},{on:=1,ground:=Ground.phase},{on:=2,ground:=Ground.phase},{on:=3,ground:=Ground.phase},{on:=4,ground:=Ground.phase},{on:=5,ground:=Ground.phase},{on:=6,ground:=Ground.phase},{on:=7,ground:=Ground.phase},{on:=8,ground:=Ground.phase},{on:=9,ground:=Ground.phase},{on:=10,ground:=Ground.phase},{on:=11,ground:=Ground.phase},{on:=12,ground:=Ground.phase},{on:=13,ground:=Ground.phase},{on:=14,ground:=Ground.phase}],guard:=none}
def mvC16:Oper:={dst:=some 117,op:=Op.fieldAddr 25 (Operand.tmp 116) 3,type:=0,pos:= "amend.go:116",after:=#[{on:=15,ground:=Ground.data},{on:=0,ground:=Ground.phase},{on:=1,ground:=Ground.phase},{on:=2,ground:=Ground.phase},{on:=3,ground:=Ground.phase},{on:=4,ground:=Ground.phase},{on:=5,ground:=Ground.phase},{on:=6,ground:=Ground.phase},{on:=7,ground:=Ground.phase},{on:=8,ground:=Ground.phase},{on:=9,ground:=Ground.phase},{on:=10,ground:=Ground.phase},{on:=11,ground:=Ground.phase},{on:=12,ground:=Ground.phase},{on:=13,ground:=Ground.phase},{on:=14,ground:=Ground.phase}],guard:=none}
def lR:Oper:={dst:=none,op:=Op.store 23 (Operand.tmp 117) (Operand.tmp 115),type:=0,pos:= "amend.go:116",after:=#[{on:=16,ground:=Ground.data},{on:=14,ground:=Ground.data},{on:=14,ground:=Ground.chain},{on:=0,ground:=Ground.phase},{on:=1,ground:=Ground.phase},{on:=2,ground:=Ground.phase},{on:=3,ground:=Ground.phase},{on:=4,ground:=Ground.phase},{on:=5,ground:=Ground.phase},{on:=6,ground:=Ground.phase},{on:=7,ground:=Ground.phase},{on:=8,ground:=Ground.phase},{on:=9,ground:=Ground.phase},{on:=10,ground:=Ground.phase},{on:=11,ground:=Ground.phase},{on:=12,ground:=Ground.phase},{on:=13,ground:=Ground.phase},{on:=14,ground:=Ground.phase}],guard:=none}
def mvCL:List Oper:=[zT,AT,BT,CT,DT,ET,FT,GT,IT,JT,jR,mvC11,kR,mvC13,mvC14,mvC15,mvC16,lR]
theorem eJ{mid:List Value}(h:mid.length=17):∃u0 u1 u2 u3 u4 u5 u6 u7 u8 u9 u10 u11 u12 u13 u14 u15 u16:Value,mid=[u0,u1,u2,u3,u4,u5,u6,u7,u8,u9,u10,u11,u12,u13,u14,u15,u16]:=by
 match mid,h with
 | [u0,u1,u2,u3,u4,u5,u6,u7,u8,u9,u10,u11,u12,u13,u14,u15,u16],_=>exact⟨_,_,_,_,_,_,_,_,_,_,_,_,_,_,_,_,_,rfl⟩
section
variable {ρ:Operand→Value} {dst:Option Tmp} {ty:TypeId} {ps:String} {af:Array Go.Edge} {g:Option (Nat×Bool)} {w:World} {x y z:Operand}
set_option maxRecDepth 20000
theorem nI{b o:Nat}{c0 c1 c2 c3:Value}(h:ρ x=.pointer (some ⟨b,o,none⟩))(h0:w.cell? ⟨b,o,none⟩=some c0)(h1:w.cell? ⟨b,o+1,none⟩=some c1)(h2:w.cell? ⟨b,o+2,none⟩=some c2)(h3:w.cell? ⟨b,o+3,none⟩=some c3):(execOp ρ ⟨dst,.load 25 x,ty,ps,af,g⟩).run Tryz.prog w=.ok (.value (.agg #[c0,c1,c2,c3])) w:=by
 simp only[execOp,h]
 go_simp
theorem lI{lab hd:ByteArray}{la ka2:Option Addr}{ln lc kn kc2:Nat}(h:ρ x=.agg #[.string lab,.string hd,.slice la ln lc,.slice ka2 kn kc2]):(execOp ρ ⟨dst,.buildSlice 23 1 #[(0,x)],ty,ps,af,g⟩).run Tryz.prog w=.ok (.value (.slice (some ⟨w.heap.size,0,none⟩) 1 1)) (w.alloc (.cells #[.string lab,.string hd,.slice la ln lc,.slice ka2 kn kc2] 25)):=by
 simp only[execOp]
 go_simp
theorem sL{a b c:Value}{t0 t1 t2:TypeId}(h:ρ x=a)(h1:ρ y=b)(h2:ρ z=c)(hf:ρ (.func 77)=.func (.func 77) #[] #[]):(execOp ρ ⟨dst,.call {callee:=.value (.func 77),args:=#[x,y,z],argTypes:=#[t0,t1,t2]},ty,ps,af,g⟩).run Tryz.prog w=.ok (.enter 77 #[a,b,c]) w:=by
 simp[execOp,go_sem,h,h1,h2,hf]
theorem yR{b o n c:Nat}{p:Option Addr}{old:Value}(h:ρ x=.pointer (some ⟨b,o,none⟩))(h2:ρ y=.slice p n c)(ho:w.cell? ⟨b,o,none⟩=some old)(hf:w.frozen? ⟨b,o,none⟩=false):(execOp ρ ⟨dst,.store 23 x y,ty,ps,af,g⟩).run Tryz.prog w=.ok .skip (w.setCell ⟨b,o,none⟩ (.slice p n c)):=by
 simp only[execOp,h,h2]
 go_simp
end
section
variable {S:World→Prop} {L:List Nat} {Q:Exit→Act→World→Prop} {ops:Array Oper} {P:Program} {pre mid suf:List Value} {d:List Deferred}
def OS(Q:Exit→Act→World→Prop):Prop:=∀c (a:Act) (d:Option Tmp) (v:Value) (w:World),Q (.panic c) (a.put d v) w→Q (.panic c) a w
theorem nB{k j i n:Nat}{oi:Oper}{done:Array Bool}{w:World}(v:Value)(HP:OS Q)(hk:pre.length=k)(hi:ops[i]?=some oi)(hd:oi.dst=some j)(hj:k≤j)(hm:j - k<mid.length)(hg:oi.guard=none)(hs:Region.noSelect ops=true)(hf:Region.free .any ops done i=true)(hr:(Region.ready .any ops done).contains i=true)(hcl:tE .any ops done=true)(hy:∀w,(execOp (MA pre mid suf d).eval oi).run P w=.ok (.value v) w)(h:wpLast P .any ops Q S L n (done.setIfInBounds i true) (MA pre (mid.set (j - k) v) suf d) w):wpLast P .any ops Q S L (n+1) done (MA pre mid suf d) w:=by
 refine qL hi hs hf hr hcl (fun c a w=>HP c a _ _ w) hg hy ?_
 rw[hd,MA.put hk hj hm]
 exact h
theorem jD{k j i n:Nat}{oi:Oper}{done:Array Bool}{w:World}(v:Value)(HP:OS Q)(hk:pre.length=k)(hi:ops[i]?=some oi)(hd:oi.dst=some j)(hj:k≤j)(hm:j - k<mid.length)(hg:oi.guard=none)(hs:Region.noSelect ops=true)(hf:Region.free .any ops done i=true)(hr:(Region.ready .any ops done).contains i=true)(hL:(L.all fun l=>ND .any ops i ops.size l)=true)(hcl:tE .any ops done=true)(hS:S w)(hy:∀w,S w→(execOp (MA pre mid suf d).eval oi).run P w=.ok (.value v) w)(h:wpLast P .any ops Q S L n (done.setIfInBounds i true) (MA pre (mid.set (j - k) v) suf d) w):wpLast P .any ops Q S L (n+1) done (MA pre mid suf d) w:=by
 refine rL hi hs hf hr hL hcl (fun c a w=>HP c a _ _ w) hg hy hS ?_
 rw[hd,MA.put hk hj hm]
 exact h
end
theorem uM{W0:World}{Q:Exit→Act→World→Prop}{pre suf:List Value}{d:List Deferred}{b3 o3 g0 zn kc ln lc kn kc2 j:Nat}{ka la ka2:Option Addr}{lab hd at':ByteArray}{R:World→Prop}{u14 u15 u16:Value}(hk:pre.length=101)(HP:OS Q)(hI:∀V vb,Below W0.heap.size W0 V→V.heap[vb]?=some (.cells #[.string lab,.string hd,.slice la ln lc,.slice ka2 kn kc2] 25 (0,0))→W0.heap.size≤vb→Calls Tryz.prog 77 #[.slice ka zn kc,.int .i64 j,.slice (some ⟨vb,0,none⟩) 1 1] V (fun e w'=>∃a n c,e=.returned (.slice a n c)∧StC b3 o3 3 (.slice a n c) w' R))
 (hQ:∀m w'',m.length=17→R w''→Q .normal (MA pre m suf d) w'') {V:World} {vb:Nat} (hV:Below W0.heap.size W0 V) (hv:V.heap[vb]?=some (.cells #[.string lab,.string hd,.slice la ln lc,.slice ka2 kn kc2] 25 (0,0))) (hvb:W0.heap.size≤vb) {done:Array Bool}
 (r1:Region.ready .any mvCL.toArray done=[14]) (r2:Region.ready .any mvCL.toArray (done.setIfInBounds 14 true)=[15]) (r3:Region.ready .any mvCL.toArray ((done.setIfInBounds 14 true).setIfInBounds 15 true)=[16]) (r4:Region.ready .any mvCL.toArray (((done.setIfInBounds 14 true).setIfInBounds 15 true).setIfInBounds 16 true)=[17]) (r5:Region.ready .any mvCL.toArray ((((done.setIfInBounds 14 true).setIfInBounds 15 true).setIfInBounds 16 true).setIfInBounds 17 true)=[]):
 wpLast Tryz.prog .any mvCL.toArray Q (fun V=>Below W0.heap.size W0 V) [14,15,16,17] 4 done (MA pre [.pointer (some ⟨b3,o3,none⟩),.pointer (some ⟨b3,o3,none⟩),.pointer (some ⟨b3,o3,none⟩),.pointer (some ⟨b3,o3+3,none⟩),.slice ka zn kc,.pointer (some ⟨b3,o3,none⟩),.pointer (some ⟨b3,o3,none⟩),.pointer (some ⟨b3,o3+3,none⟩),.slice ka zn kc,.pointer (some ⟨g0,2,none⟩),.string at',.int .i64 j,.agg #[.string lab,.string hd,.slice la ln lc,.slice ka2 kn kc2],.slice (some ⟨vb,0,none⟩) 1 1,u14,u15,u16] suf d) V:=by
 refine UA r1 (by simp) fun j' hj'=>?_
 obtain rfl:j'=14:=by simpa using hj'
 refine yD (o:=mvC14) rfl rfl (sL (MA.hi hk (by decide) rfl) (MA.hi hk (by decide) rfl) (MA.hi hk (by decide) rfl) rfl) (hI V vb hV hv hvb) ?_
 rintro e V1 ⟨ra,rn,rc,rfl,hst⟩
 refine⟨_,rfl,fun _=>.inl (by decide),?_⟩
 rw[show (MA pre [.pointer (some ⟨b3,o3,none⟩),.pointer (some ⟨b3,o3,none⟩),.pointer (some ⟨b3,o3,none⟩),.pointer (some ⟨b3,o3+3,none⟩),.slice ka zn kc,.pointer (some ⟨b3,o3,none⟩),.pointer (some ⟨b3,o3,none⟩),.pointer (some ⟨b3,o3+3,none⟩),.slice ka zn kc,.pointer (some ⟨g0,2,none⟩),.string at',.int .i64 j,.agg #[.string lab,.string hd,.slice la ln lc,.slice ka2 kn kc2],.slice (some ⟨vb,0,none⟩) 1 1,u14,u15,u16] suf d).put mvC14.dst (.slice ra rn rc)=MA pre [.pointer (some ⟨b3,o3,none⟩),.pointer (some ⟨b3,o3,none⟩),.pointer (some ⟨b3,o3,none⟩),.pointer (some ⟨b3,o3+3,none⟩),.slice ka zn kc,.pointer (some ⟨b3,o3,none⟩),.pointer (some ⟨b3,o3,none⟩),.pointer (some ⟨b3,o3+3,none⟩),.slice ka zn kc,.pointer (some ⟨g0,2,none⟩),.string at',.int .i64 j,.agg #[.string lab,.string hd,.slice la ln lc,.slice ka2 kn kc2],.slice (some ⟨vb,0,none⟩) 1 1,.slice ra rn rc,u15,u16] suf d from MA.put hk (by decide) (by simp)]
 refine UA r2 (by simp) fun j' hj'=>?_
 obtain rfl:j'=15:=by simpa using hj'
 refine FC (o:=mvC15) rfl rfl (QD (q:=⟨b3,o3,none⟩) (MA.hi hk (by decide) rfl)) ⟨fun _=>.inl (by decide),?_⟩
 rw[show (MA pre [.pointer (some ⟨b3,o3,none⟩),.pointer (some ⟨b3,o3,none⟩),.pointer (some ⟨b3,o3,none⟩),.pointer (some ⟨b3,o3+3,none⟩),.slice ka zn kc,.pointer (some ⟨b3,o3,none⟩),.pointer (some ⟨b3,o3,none⟩),.pointer (some ⟨b3,o3+3,none⟩),.slice ka zn kc,.pointer (some ⟨g0,2,none⟩),.string at',.int .i64 j,.agg #[.string lab,.string hd,.slice la ln lc,.slice ka2 kn kc2],.slice (some ⟨vb,0,none⟩) 1 1,.slice ra rn rc,u15,u16] suf d).put mvC15.dst (.pointer (some ⟨b3,o3,none⟩))=MA pre [.pointer (some ⟨b3,o3,none⟩),.pointer (some ⟨b3,o3,none⟩),.pointer (some ⟨b3,o3,none⟩),.pointer (some ⟨b3,o3+3,none⟩),.slice ka zn kc,.pointer (some ⟨b3,o3,none⟩),.pointer (some ⟨b3,o3,none⟩),.pointer (some ⟨b3,o3+3,none⟩),.slice ka zn kc,.pointer (some ⟨g0,2,none⟩),.string at',.int .i64 j,.agg #[.string lab,.string hd,.slice la ln lc,.slice ka2 kn kc2],.slice (some ⟨vb,0,none⟩) 1 1,.slice ra rn rc,.pointer (some ⟨b3,o3,none⟩),u16] suf d from MA.put hk (by decide) (by simp)]
 refine UA r3 (by simp) fun j' hj'=>?_
 obtain rfl:j'=16:=by simpa using hj'
 refine FC (o:=mvC16) rfl rfl (IC (b:=b3) (o:=o3) (MA.hi hk (by decide) rfl)) ⟨fun _=>.inl (by decide),?_⟩
 rw[show (MA pre [.pointer (some ⟨b3,o3,none⟩),.pointer (some ⟨b3,o3,none⟩),.pointer (some ⟨b3,o3,none⟩),.pointer (some ⟨b3,o3+3,none⟩),.slice ka zn kc,.pointer (some ⟨b3,o3,none⟩),.pointer (some ⟨b3,o3,none⟩),.pointer (some ⟨b3,o3+3,none⟩),.slice ka zn kc,.pointer (some ⟨g0,2,none⟩),.string at',.int .i64 j,.agg #[.string lab,.string hd,.slice la ln lc,.slice ka2 kn kc2],.slice (some ⟨vb,0,none⟩) 1 1,.slice ra rn rc,.pointer (some ⟨b3,o3,none⟩),u16] suf d).put mvC16.dst (.pointer (some ⟨b3,o3+3,none⟩))=MA pre [.pointer (some ⟨b3,o3,none⟩),.pointer (some ⟨b3,o3,none⟩),.pointer (some ⟨b3,o3,none⟩),.pointer (some ⟨b3,o3+3,none⟩),.slice ka zn kc,.pointer (some ⟨b3,o3,none⟩),.pointer (some ⟨b3,o3,none⟩),.pointer (some ⟨b3,o3+3,none⟩),.slice ka zn kc,.pointer (some ⟨g0,2,none⟩),.string at',.int .i64 j,.agg #[.string lab,.string hd,.slice la ln lc,.slice ka2 kn kc2],.slice (some ⟨vb,0,none⟩) 1 1,.slice ra rn rc,.pointer (some ⟨b3,o3,none⟩),.pointer (some ⟨b3,o3+3,none⟩)] suf d from MA.put hk (by decide) (by simp)]
 refine UA r4 (by simp) fun j' hj'=>?_
 obtain rfl:j'=17:=by simpa using hj'
 obtain⟨old,ho⟩:=hst.cell
 refine EG (o:=lR) rfl rfl (yR (b:=b3) (o:=o3+3) (p:=ra) (n:=rn) (c:=rc) (MA.hi hk (by decide) rfl) (MA.hi hk (by decide) rfl) ho hst.frz) ⟨fun _=>.inl (by decide),?_⟩
 exact qE r5 (hQ _ _ rfl (hst.fin _ rfl rfl rfl rfl)) _
theorem dS{W0:World}{Q:Exit→Act→World→Prop}{pre mid suf:List Value}{d:List Deferred}{b3 o3 g0 g1 zn kc ln lc kn kc2 j:Nat}{ka la ka2:Option Addr}{lab hd at':ByteArray}{R:World→Prop}(hk:pre.length=101)(hm:mid.length=17)(HP:OS Q)(p9:pre[9]?=some (.pointer (some ⟨b3,o3,none⟩)))(p3:pre[3]?=some (.pointer (some ⟨g0,0,none⟩)))(p10:pre[10]?=some (.pointer (some ⟨g1,0,none⟩)))
 (hC:∀V,Below W0.heap.size W0 V→V.cell? ⟨b3,o3+3,none⟩=some (.slice ka zn kc)∧V.cell? ⟨g0,2,none⟩=some (.string at')∧V.cell? ⟨g1,0,none⟩=some (.string lab)∧V.cell? ⟨g1,1,none⟩=some (.string hd)∧V.cell? ⟨g1,2,none⟩=some (.slice la ln lc)∧V.cell? ⟨g1,3,none⟩=some (.slice ka2 kn kc2))
 (hB:∀V,Below W0.heap.size W0 V→Calls Tryz.prog 76 #[.slice ka zn kc,.string at'] V fun e w'=>e=.returned (.int .i64 j)∧Below V.heap.size V w')
 (hI:∀V vb,Below W0.heap.size W0 V→V.heap[vb]?=some (.cells #[.string lab,.string hd,.slice la ln lc,.slice ka2 kn kc2] 25 (0,0))→W0.heap.size≤vb→Calls Tryz.prog 77 #[.slice ka zn kc,.int .i64 j,.slice (some ⟨vb,0,none⟩) 1 1] V (fun e w'=>∃a n c,e=.returned (.slice a n c)∧StC b3 o3 3 (.slice a n c) w' R))
 (hQ:∀m w'',m.length=17→R w''→Q .normal (MA pre m suf d) w'') {V:World} (hV:Below W0.heap.size W0 V):
 wpLast Tryz.prog .any mvCL.toArray Q (fun V=>Below W0.heap.size W0 V) [14,15,16,17] 18 (Array.replicate 18 false) (MA pre mid suf d) V:=by
 obtain⟨u0,u1,u2,u3,u4,u5,u6,u7,u8,u9,u10,u11,u12,u13,u14,u15,u16,rfl⟩:=eJ hm
 refine nB (i:=0) (oi:=zT) (.pointer (some ⟨b3,o3,none⟩)) HP hk rfl rfl (by decide) (by simp) rfl (by kernel_rfl) (by kernel_rfl) (by kernel_rfl) (by kernel_rfl) (fun W=>aB (MA.lo p9)) ?_
 show wpLast _ _ _ _ _ _ _ _ (MA pre [.pointer (some ⟨b3,o3,none⟩),u1,u2,u3,u4,u5,u6,u7,u8,u9,u10,u11,u12,u13,u14,u15,u16] suf d) _
 refine nB (i:=1) (oi:=AT) (.pointer (some ⟨b3,o3,none⟩)) HP hk rfl rfl (by decide) (by simp) rfl (by kernel_rfl) (by kernel_rfl) (by kernel_rfl) (by kernel_rfl) (fun W=>aB (MA.lo p9)) ?_
 show wpLast _ _ _ _ _ _ _ _ (MA pre [.pointer (some ⟨b3,o3,none⟩),.pointer (some ⟨b3,o3,none⟩),u2,u3,u4,u5,u6,u7,u8,u9,u10,u11,u12,u13,u14,u15,u16] suf d) _
 refine nB (i:=2) (oi:=BT) (.pointer (some ⟨b3,o3,none⟩)) HP hk rfl rfl (by decide) (by simp) rfl (by kernel_rfl) (by kernel_rfl) (by kernel_rfl) (by kernel_rfl) (fun W=>QD (MA.hi hk (by decide) rfl)) ?_
 show wpLast _ _ _ _ _ _ _ _ (MA pre [.pointer (some ⟨b3,o3,none⟩),.pointer (some ⟨b3,o3,none⟩),.pointer (some ⟨b3,o3,none⟩),u3,u4,u5,u6,u7,u8,u9,u10,u11,u12,u13,u14,u15,u16] suf d) _
 refine nB (i:=3) (oi:=CT) (.pointer (some ⟨b3,o3+3,none⟩)) HP hk rfl rfl (by decide) (by simp) rfl (by kernel_rfl) (by kernel_rfl) (by kernel_rfl) (by kernel_rfl) (fun W=>IC (MA.hi hk (by decide) rfl)) ?_
 show wpLast _ _ _ _ _ _ _ _ (MA pre [.pointer (some ⟨b3,o3,none⟩),.pointer (some ⟨b3,o3,none⟩),.pointer (some ⟨b3,o3,none⟩),.pointer (some ⟨b3,o3+3,none⟩),u4,u5,u6,u7,u8,u9,u10,u11,u12,u13,u14,u15,u16] suf d) _
 refine jD (i:=4) (oi:=DT) (.slice ka zn kc) HP hk rfl rfl (by decide) (by simp) rfl (by kernel_rfl) (by kernel_rfl) (by kernel_rfl) (by kernel_rfl) (by kernel_rfl) hV (fun W hW=>NE (MA.hi hk (by decide) rfl) (hC W hW).1) ?_
 show wpLast _ _ _ _ _ _ _ _ (MA pre [.pointer (some ⟨b3,o3,none⟩),.pointer (some ⟨b3,o3,none⟩),.pointer (some ⟨b3,o3,none⟩),.pointer (some ⟨b3,o3+3,none⟩),.slice ka zn kc,u5,u6,u7,u8,u9,u10,u11,u12,u13,u14,u15,u16] suf d) _
 refine nB (i:=5) (oi:=ET) (.pointer (some ⟨b3,o3,none⟩)) HP hk rfl rfl (by decide) (by simp) rfl (by kernel_rfl) (by kernel_rfl) (by kernel_rfl) (by kernel_rfl) (fun W=>aB (MA.lo p9)) ?_
 show wpLast _ _ _ _ _ _ _ _ (MA pre [.pointer (some ⟨b3,o3,none⟩),.pointer (some ⟨b3,o3,none⟩),.pointer (some ⟨b3,o3,none⟩),.pointer (some ⟨b3,o3+3,none⟩),.slice ka zn kc,.pointer (some ⟨b3,o3,none⟩),u6,u7,u8,u9,u10,u11,u12,u13,u14,u15,u16] suf d) _
 refine nB (i:=6) (oi:=FT) (.pointer (some ⟨b3,o3,none⟩)) HP hk rfl rfl (by decide) (by simp) rfl (by kernel_rfl) (by kernel_rfl) (by kernel_rfl) (by kernel_rfl) (fun W=>QD (MA.hi hk (by decide) rfl)) ?_
 show wpLast _ _ _ _ _ _ _ _ (MA pre [.pointer (some ⟨b3,o3,none⟩),.pointer (some ⟨b3,o3,none⟩),.pointer (some ⟨b3,o3,none⟩),.pointer (some ⟨b3,o3+3,none⟩),.slice ka zn kc,.pointer (some ⟨b3,o3,none⟩),.pointer (some ⟨b3,o3,none⟩),u7,u8,u9,u10,u11,u12,u13,u14,u15,u16] suf d) _
 refine nB (i:=7) (oi:=GT) (.pointer (some ⟨b3,o3+3,none⟩)) HP hk rfl rfl (by decide) (by simp) rfl (by kernel_rfl) (by kernel_rfl) (by kernel_rfl) (by kernel_rfl) (fun W=>IC (MA.hi hk (by decide) rfl)) ?_
 show wpLast _ _ _ _ _ _ _ _ (MA pre [.pointer (some ⟨b3,o3,none⟩),.pointer (some ⟨b3,o3,none⟩),.pointer (some ⟨b3,o3,none⟩),.pointer (some ⟨b3,o3+3,none⟩),.slice ka zn kc,.pointer (some ⟨b3,o3,none⟩),.pointer (some ⟨b3,o3,none⟩),.pointer (some ⟨b3,o3+3,none⟩),u8,u9,u10,u11,u12,u13,u14,u15,u16] suf d) _
 refine jD (i:=8) (oi:=IT) (.slice ka zn kc) HP hk rfl rfl (by decide) (by simp) rfl (by kernel_rfl) (by kernel_rfl) (by kernel_rfl) (by kernel_rfl) (by kernel_rfl) hV (fun W hW=>NE (MA.hi hk (by decide) rfl) (hC W hW).1) ?_
 show wpLast _ _ _ _ _ _ _ _ (MA pre [.pointer (some ⟨b3,o3,none⟩),.pointer (some ⟨b3,o3,none⟩),.pointer (some ⟨b3,o3,none⟩),.pointer (some ⟨b3,o3+3,none⟩),.slice ka zn kc,.pointer (some ⟨b3,o3,none⟩),.pointer (some ⟨b3,o3,none⟩),.pointer (some ⟨b3,o3+3,none⟩),.slice ka zn kc,u9,u10,u11,u12,u13,u14,u15,u16] suf d) _
 refine nB (i:=9) (oi:=JT) (.pointer (some ⟨g0,2,none⟩)) HP hk rfl rfl (by decide) (by simp) rfl (by kernel_rfl) (by kernel_rfl) (by kernel_rfl) (by kernel_rfl) (fun W=>FG (MA.lo p3)) ?_
 show wpLast _ _ _ _ _ _ _ _ (MA pre [.pointer (some ⟨b3,o3,none⟩),.pointer (some ⟨b3,o3,none⟩),.pointer (some ⟨b3,o3,none⟩),.pointer (some ⟨b3,o3+3,none⟩),.slice ka zn kc,.pointer (some ⟨b3,o3,none⟩),.pointer (some ⟨b3,o3,none⟩),.pointer (some ⟨b3,o3+3,none⟩),.slice ka zn kc,.pointer (some ⟨g0,2,none⟩),u10,u11,u12,u13,u14,u15,u16] suf d) _
 refine jD (i:=10) (oi:=jR) (.string at') HP hk rfl rfl (by decide) (by simp) rfl (by kernel_rfl) (by kernel_rfl) (by kernel_rfl) (by kernel_rfl) (by kernel_rfl) hV (fun W hW=>ZF (MA.hi hk (by decide) rfl) (hC W hW).2.1) ?_
 show wpLast _ _ _ _ _ _ _ _ (MA pre [.pointer (some ⟨b3,o3,none⟩),.pointer (some ⟨b3,o3,none⟩),.pointer (some ⟨b3,o3,none⟩),.pointer (some ⟨b3,o3+3,none⟩),.slice ka zn kc,.pointer (some ⟨b3,o3,none⟩),.pointer (some ⟨b3,o3,none⟩),.pointer (some ⟨b3,o3+3,none⟩),.slice ka zn kc,.pointer (some ⟨g0,2,none⟩),.string at',u11,u12,u13,u14,u15,u16] suf d) _
 refine jD (i:=12) (oi:=kR) (.agg #[.string lab,.string hd,.slice la ln lc,.slice ka2 kn kc2]) HP hk rfl rfl (by decide) (by simp) rfl (by kernel_rfl) (by kernel_rfl) (by kernel_rfl) (by kernel_rfl) (by kernel_rfl) hV (fun W hW=>nI (MA.lo p10) (hC W hW).2.2.1 (hC W hW).2.2.2.1 (hC W hW).2.2.2.2.1 (hC W hW).2.2.2.2.2) ?_
 show wpLast _ _ _ _ _ _ _ _ (MA pre [.pointer (some ⟨b3,o3,none⟩),.pointer (some ⟨b3,o3,none⟩),.pointer (some ⟨b3,o3,none⟩),.pointer (some ⟨b3,o3+3,none⟩),.slice ka zn kc,.pointer (some ⟨b3,o3,none⟩),.pointer (some ⟨b3,o3,none⟩),.pointer (some ⟨b3,o3+3,none⟩),.slice ka zn kc,.pointer (some ⟨g0,2,none⟩),.string at',u11,.agg #[.string lab,.string hd,.slice la ln lc,.slice ka2 kn kc2],u13,u14,u15,u16] suf d) _
 refine UA (rs:=[11,13]) (by kernel_rfl) (by simp) fun j' hj'=>?_
 rcases (by simpa using hj':j'=11∨j'=13) with rfl|rfl
 ·refine yD (o:=mvC11) rfl rfl (zD (MA.hi hk (by decide) rfl) (MA.hi hk (by decide) rfl) rfl) (hB V hV) ?_
  rintro e V1 ⟨rfl,hb1⟩
  have hV1:=hV.trans (hb1.mono hV.size)
  refine⟨_,rfl,fun _=>.inr hV1,?_⟩
  rw[show (MA pre [.pointer (some ⟨b3,o3,none⟩),.pointer (some ⟨b3,o3,none⟩),.pointer (some ⟨b3,o3,none⟩),.pointer (some ⟨b3,o3+3,none⟩),.slice ka zn kc,.pointer (some ⟨b3,o3,none⟩),.pointer (some ⟨b3,o3,none⟩),.pointer (some ⟨b3,o3+3,none⟩),.slice ka zn kc,.pointer (some ⟨g0,2,none⟩),.string at',u11,.agg #[.string lab,.string hd,.slice la ln lc,.slice ka2 kn kc2],u13,u14,u15,u16] suf d).put mvC11.dst (.int .i64 j)=MA pre [.pointer (some ⟨b3,o3,none⟩),.pointer (some ⟨b3,o3,none⟩),.pointer (some ⟨b3,o3,none⟩),.pointer (some ⟨b3,o3+3,none⟩),.slice ka zn kc,.pointer (some ⟨b3,o3,none⟩),.pointer (some ⟨b3,o3,none⟩),.pointer (some ⟨b3,o3+3,none⟩),.slice ka zn kc,.pointer (some ⟨g0,2,none⟩),.string at',.int .i64 j,.agg #[.string lab,.string hd,.slice la ln lc,.slice ka2 kn kc2],u13,u14,u15,u16] suf d from MA.put hk (by decide) (by simp)]
  refine UA (rs:=[13]) (by kernel_rfl) (by simp) fun j' hj'=>?_
  obtain rfl:j'=13:=by simpa using hj'
  refine FC (o:=mvC13) rfl rfl (lI (lab:=lab) (hd:=hd) (la:=la) (ln:=ln) (lc:=lc) (ka2:=ka2) (kn:=kn) (kc2:=kc2) (MA.hi hk (by decide) rfl)) ⟨fun _=>.inr (hV1.alloc hV1.size _),?_⟩
  rw[show (MA pre [.pointer (some ⟨b3,o3,none⟩),.pointer (some ⟨b3,o3,none⟩),.pointer (some ⟨b3,o3,none⟩),.pointer (some ⟨b3,o3+3,none⟩),.slice ka zn kc,.pointer (some ⟨b3,o3,none⟩),.pointer (some ⟨b3,o3,none⟩),.pointer (some ⟨b3,o3+3,none⟩),.slice ka zn kc,.pointer (some ⟨g0,2,none⟩),.string at',.int .i64 j,.agg #[.string lab,.string hd,.slice la ln lc,.slice ka2 kn kc2],u13,u14,u15,u16] suf d).put mvC13.dst (.slice (some ⟨V1.heap.size,0,none⟩) 1 1)=MA pre [.pointer (some ⟨b3,o3,none⟩),.pointer (some ⟨b3,o3,none⟩),.pointer (some ⟨b3,o3,none⟩),.pointer (some ⟨b3,o3+3,none⟩),.slice ka zn kc,.pointer (some ⟨b3,o3,none⟩),.pointer (some ⟨b3,o3,none⟩),.pointer (some ⟨b3,o3+3,none⟩),.slice ka zn kc,.pointer (some ⟨g0,2,none⟩),.string at',.int .i64 j,.agg #[.string lab,.string hd,.slice la ln lc,.slice ka2 kn kc2],.slice (some ⟨V1.heap.size,0,none⟩) 1 1,u14,u15,u16] suf d from MA.put hk (by decide) (by simp)]
  exact uM hk HP hI hQ (hV1.alloc hV1.size _) (heap_alloc_new _ _) hV1.size (by kernel_rfl) (by kernel_rfl) (by kernel_rfl) (by kernel_rfl) (by kernel_rfl)
 ·refine FC (o:=mvC13) rfl rfl (lI (lab:=lab) (hd:=hd) (la:=la) (ln:=ln) (lc:=lc) (ka2:=ka2) (kn:=kn) (kc2:=kc2) (MA.hi hk (by decide) rfl)) ⟨fun _=>.inr (hV.alloc hV.size _),?_⟩
  rw[show (MA pre [.pointer (some ⟨b3,o3,none⟩),.pointer (some ⟨b3,o3,none⟩),.pointer (some ⟨b3,o3,none⟩),.pointer (some ⟨b3,o3+3,none⟩),.slice ka zn kc,.pointer (some ⟨b3,o3,none⟩),.pointer (some ⟨b3,o3,none⟩),.pointer (some ⟨b3,o3+3,none⟩),.slice ka zn kc,.pointer (some ⟨g0,2,none⟩),.string at',u11,.agg #[.string lab,.string hd,.slice la ln lc,.slice ka2 kn kc2],u13,u14,u15,u16] suf d).put mvC13.dst (.slice (some ⟨V.heap.size,0,none⟩) 1 1)=MA pre [.pointer (some ⟨b3,o3,none⟩),.pointer (some ⟨b3,o3,none⟩),.pointer (some ⟨b3,o3,none⟩),.pointer (some ⟨b3,o3+3,none⟩),.slice ka zn kc,.pointer (some ⟨b3,o3,none⟩),.pointer (some ⟨b3,o3,none⟩),.pointer (some ⟨b3,o3+3,none⟩),.slice ka zn kc,.pointer (some ⟨g0,2,none⟩),.string at',u11,.agg #[.string lab,.string hd,.slice la ln lc,.slice ka2 kn kc2],.slice (some ⟨V.heap.size,0,none⟩) 1 1,u14,u15,u16] suf d from MA.put hk (by decide) (by simp)]
  refine UA (rs:=[11]) (by kernel_rfl) (by simp) fun j' hj'=>?_
  obtain rfl:j'=11:=by simpa using hj'
  have hvA:=heap_alloc_new V (.cells #[.string lab,.string hd,.slice la ln lc,.slice ka2 kn kc2] 25)
  refine yD (o:=mvC11) rfl rfl (zD (MA.hi hk (by decide) rfl) (MA.hi hk (by decide) rfl) rfl) (hB _ (hV.alloc hV.size _)) ?_
  rintro e V1 ⟨rfl,hb1⟩
  have hVa:=hV.alloc hV.size (.cells #[.string lab,.string hd,.slice la ln lc,.slice ka2 kn kc2] 25)
  have hV1:=hVa.trans (hb1.mono hVa.size)
  refine⟨_,rfl,fun _=>.inr hV1,?_⟩
  rw[show (MA pre [.pointer (some ⟨b3,o3,none⟩),.pointer (some ⟨b3,o3,none⟩),.pointer (some ⟨b3,o3,none⟩),.pointer (some ⟨b3,o3+3,none⟩),.slice ka zn kc,.pointer (some ⟨b3,o3,none⟩),.pointer (some ⟨b3,o3,none⟩),.pointer (some ⟨b3,o3+3,none⟩),.slice ka zn kc,.pointer (some ⟨g0,2,none⟩),.string at',u11,.agg #[.string lab,.string hd,.slice la ln lc,.slice ka2 kn kc2],.slice (some ⟨V.heap.size,0,none⟩) 1 1,u14,u15,u16] suf d).put mvC11.dst (.int .i64 j)=MA pre [.pointer (some ⟨b3,o3,none⟩),.pointer (some ⟨b3,o3,none⟩),.pointer (some ⟨b3,o3,none⟩),.pointer (some ⟨b3,o3+3,none⟩),.slice ka zn kc,.pointer (some ⟨b3,o3,none⟩),.pointer (some ⟨b3,o3,none⟩),.pointer (some ⟨b3,o3+3,none⟩),.slice ka zn kc,.pointer (some ⟨g0,2,none⟩),.string at',.int .i64 j,.agg #[.string lab,.string hd,.slice la ln lc,.slice ka2 kn kc2],.slice (some ⟨V.heap.size,0,none⟩) 1 1,u14,u15,u16] suf d from MA.put hk (by decide) (by simp)]
  exact uM hk HP hI hQ hV1 ((hb1.block _ (by simp)).trans hvA) hV.size (by kernel_rfl) (by kernel_rfl) (by kernel_rfl) (by kernel_rfl) (by kernel_rfl)
end Go.Proofs.YtpbolcjcmkmalaaGreatDoor

import Derived.Test.YtpbolcjcmkmalaaGreatDoorAq00
import Derived.Test.YtpbolcjcmkmalaaGreatDoorAq22
set_option maxHeartbeats 20000000
set_option maxRecDepth 20000
namespace Go.Proofs.YtpbolcjcmkmalaaGreatDoor
open Go.RowKit Go.Extern.Stop Go.Stop Go.Extern
theorem IF{g:Nat}{ks:List It}:∀i,(opens g ks i).Pairwise fun p q=>¬(p.1=q.1∧p.2.1=q.2.1)
 |0=>by rw[opens];exact List.Pairwise.nil
 |i+1=>by
  cases hk:ks[i]? with
  |none=>
   have:opens g ks (i+1)=opens g ks i:=by rw[opens,hk];exact List.append_nil _
   rw[this]
   exact IF i
  |some k=>
   by_cases hz:k.kids=[]
   ·rw[JD hk hz];exact IF i
   ·rw[KD hk hz]
    refine List.pairwise_append.2 ⟨IF i,by simp,fun p hp q hq e=>?_⟩
    obtain rfl:q=(g,i * 4,k):=by simpa using hq
    obtain⟨j,h1,_,_,_,h5⟩:=(uD i p).1 hp
    have h6:p.2.1=i * 4:=e.2
    omega
def iD:List (Nat×Nat×It)→Nat
 | []=>0
 |p::r=>1+JB p.2.2.kids+iD r
theorem fI:∀(a b:List (Nat×Nat×It)),iD (a++b)=iD a+iD b
 | [],b=>by rw[List.nil_append,iD];omega
 |p::r,b=>by rw[List.cons_append,iD,iD,fI r b];omega
theorem gI{g:Nat}{ks:List It}:∀i,i≤ks.length→iD (opens g ks i)≤JB (ks.take i)
 |0,_=>by rw[opens,iD];omega
 |i+1,h=>by
  obtain⟨k,hk⟩:∃k,ks[i]?=some k:=⟨_,List.getElem?_eq_getElem (by omega)⟩
  have ih:=gI (g:=g) (ks:=ks) i (by omega)
  have hw:JB (ks.take (i+1))=JB (ks.take i)+EB k:=by
   obtain⟨hi,e⟩:=List.getElem?_eq_some_iff.1 hk
   rw[List.take_succ_eq_append_getElem hi,e]
   have:∀l:List It,JB (l++[k])=JB l+EB k:=fun l=>by
    induction l with
    |nil=>show EB k+JB []=JB []+EB k;omega
    |cons a r ih=>rw[List.cons_append,JB,JB,ih];omega
   exact this _
  have hk2:=ZB k
  rw[hw]
  by_cases hz:k.kids=[]
  ·rw[JD hk hz];omega
  ·rw[KD hk hz,fI,iD,iD]
   show iD (opens g ks i)+(1+JB k.kids+0)≤_
   omega
theorem gL:∀l:List (Nat×Nat×It),l.length≤iD l
 | []=>nR _
 |p::r=>by rw[iD,List.length_cons];have:=gL r;omega
structure C1(w w':World)(b o:Nat)(u:Value):Prop where
 bx:BelX w.heap.size b w w'
 here:∀cur ty,w.heap[b]?=some (Obj.cells cur ty (0,0))→∃cur',w'.heap[b]?=some (Obj.cells cur' ty (0,0))∧cur'.size=cur.size∧(∀q,q≠o→cur'[q]?=cur[q]?)∧(o<cur.size→cur'[o]?=some u)
theorem C1.of{w w1:World}(hb:Below w.heap.size w w1){b:Nat}(hl:b<w.heap.size)(o:Nat)(u:Value):C1 w (w1.setCell ⟨b,o,none⟩ u) b o u:=by
 refine⟨⟨hb.os,hb.tape,hb.output,by simpa using hb.size,fun k hk hne=>by rw[Below.heap_setCell _ _ _ _ hne];exact hb.block k hk⟩,fun cur ty e=>⟨cur.setIfInBounds o u,OA u ((hb.block b hl).trans e),by simp,fun q hq=>?_,fun ho=>?_⟩⟩
 ·rw[Array.getElem?_setIfInBounds,if_neg (fun e=>hq e.symm)]
 ·rw[Array.getElem?_setIfInBounds,if_pos rfl,if_pos ho]
theorem C1.drew{w w':World}{b o:Nat}{u:Value}(h:C1 w w' b o u)(n:Nat):C1 w (w'.drewN n) b o u:=⟨⟨h.bx.os,h.bx.tape,h.bx.output,h.bx.size,h.bx.block⟩,h.here⟩
theorem C1.trans{a b c:World}{q o:Nat}{u u':Value}(h:C1 a b q o u)(k:C1 b c q o u'):C1 a c q o u':=by
 refine⟨h.bx.trans ⟨k.bx.os,k.bx.tape,k.bx.output,k.bx.size,fun i hi hn=>k.bx.block i (Nat.lt_of_lt_of_le hi h.bx.size) hn⟩,fun cur ty e=>?_⟩
 obtain⟨c1,e1,e2,e3,e4⟩:=h.here cur ty e
 obtain⟨c2,g1,g2,g3,g4⟩:=k.here c1 ty e1
 exact⟨c2,g1,g2.trans e2,fun i hi=>(g3 i hi).trans (e3 i hi),fun ho=>g4 (by omega)⟩
theorem C1.cell{w w':World}{b o:Nat}{u:Value}(h:C1 w w' b o u){cur:Array Value}{ty:Nat}(e:w.heap[b]?=some (Obj.cells cur ty (0,0)))(ho:o<cur.size):w'.cell? ⟨b,o,none⟩=some u:=by
 obtain⟨c1,e1,e2,e3,e4⟩:=h.here cur ty e
 unfold World.cell?
 rw[e1]
 exact e4 ho
theorem C1.one{w w':World}{b o:Nat}{u:Value}(h:C1 w w' b o u):One3 w w' b o u:=⟨h.bx.size,fun k hk hne _=>h.bx.block k hk hne,h.here⟩
theorem KQ{w:World}{N rb most:Nat}{ex:Prop}{t:It}{v:Nat→Value}(hv:SrcT w N ex v t)(hrb:NodeAt w rb 0 v)(hNr:N≤rb)(hN:N≤w.heap.size)(hm:JB t.kids≤most)(hm2:most≤100000000)(hz:JB t.kids≤400000):
 Calls Tryz.prog 68 #[.agg iC,.pointer (some ⟨rb,0,none⟩),.int .i64 most] w fun e w'=>e=.returned (.tuple #[])∧BelX w.heap.size rb w w'∧∃v' S,NodeAt w' rb 0 v'∧Own w' w.heap.size v' t S∧¬S rb:=by
 obtain⟨f0,f1,la,lc,f2,cl,bl,hlc,hl⟩:=hv.texts
 obtain⟨ka,kc,K,hfk⟩:=hv.fk
 obtain⟨W,hW⟩:∃W,W=w.alloc (.cells iC 75):=⟨_,rfl⟩
 have hb0:Below w.heap.size w W:=by rw[hW];exact bA _ _
 have hbx:W.heap[w.heap.size]?=some (.cells iC 75 (0,0)):=by rw[hW];exact heap_alloc_new _ _
 have hnW:NodeAt W rb 0 v:=by
  obtain⟨cur,e,hc⟩:=hrb
  exact⟨cur,(hb0.block rb (Array.getElem?_eq_some_iff.1 e).1).trans e,hc⟩
 have HO:=aA (pR hnW f2 bl (fun i s hs=>by
  obtain⟨b,o,e,hbN,hc⟩:=hl i s hs
  exact⟨b,o,e,(hb0.cell (p:=⟨b,o+i,none⟩) (dA hc)).trans hc⟩) (fun e=>⟨List.eq_nil_of_length_eq_zero (by have:=cl e;omega),cl e⟩))
 obtain⟨x0,x1,x2,x3,x4⟩:=pO hbx
 have HX:=aA hW
 have HRb:=aA (aI hrb (aI hNr hN))
 have HSt:Hid (∀w1 u,Below W.heap.size W w1→w1.ownsRow W.heap.size 9 1 u t.lines.length (t.lines.map Value.string)→∀w2,w2=(w1.setCell ⟨rb,2,none⟩ u).alloc (.cells #[.pointer (some ⟨rb,0,none⟩)] EJ)→RenI w N rb ex t most (.slice (some ⟨w1.heap.size,0,none⟩) 1 1) [(rb,0,t)] w2∧w2.heap[w.heap.size]?=some (.cells iC 75 (0,0))):=fun w1 u hb1 hu w2 hw2=>by
  have hrbl:rb<w1.heap.size:=Nat.lt_of_lt_of_le hnW.lt hb1.size
  have hn1:NodeAt w1 rb 0 v:=hnW.on (hb1.block rb hnW.lt)
  have hn2:NodeAt (w1.setCell ⟨rb,2,none⟩ u) rb 0 (MC v 2 u):=NodeAt.set (c:=2) hn1 (by omega) u
  obtain⟨c1,ec1,_⟩:=hn1
  have hal:∀q,q<w1.heap.size→q≠rb→w2.heap[q]?=w1.heap[q]?:=fun q hq hne=>by
   rw[hw2,Below.heap_alloc _ _ _ (by simpa using hq),Below.heap_setCell _ _ _ _ hne]
  have hs2:w2.heap.size=w1.heap.size+1:=by rw[hw2];simp
  have hn3:NodeAt w2 rb 0 (MC v 2 u):=hn2.on (by rw[hw2,Below.heap_alloc _ _ _ (by simpa using hrbl)])
  have hWs:w.heap.size<W.heap.size:=(Array.getElem?_eq_some_iff.1 hbx).1
  have hrW:rb<w.heap.size:=hrb.lt
  have hlow:BelX w.heap.size rb w w2:=⟨by rw[hw2];exact hb1.os.trans hb0.os,by rw[hw2];exact hb1.tape.trans hb0.tape,by rw[hw2];exact hb1.output.trans hb0.output,by have:=hb1.size;omega,fun q hq hne=>by
   rw[hal q (by have:=hb1.size;omega) hne,hb1.block q (by omega),hb0.block q hq]⟩
  refine⟨⟨hlow,⟨fun q=>u.ownBlock=some q,.opn rb 0 t _ (MC v 2 u) hn3 ((qA v u (by omega)).trans f0) ((qA v u (by omega)).trans f1) ?_ (fun q hq=>by rw[EA] at hq;exact hq) (fun q hq=>?_) (fun e=>?_) rfl (by simp)⟩,?_,fun p hp=>?_,by simp,by show JB t.kids+0≤most;omega⟩,?_⟩
  ·rw[EA]
   refine vD (CA hu fun q hq hl=>hal q hl fun e=>?_) (by omega)
   obtain⟨c9,e9⟩:=aF hu hq
   rw[e,ec1] at e9
   injection e9 with e9
   injection e9 with _ e9 _
   exact cE e9
  ·have:=hu.lt q hq
   omega
  ·have:=hu.lt rb e
   have:=hnW.lt
   omega
  ·have:=QRow.new (w1.setCell ⟨rb,2,none⟩ u) (rb,0) w.heap.size (by simp;have:=hb1.size;omega)
   rw[show (w1.setCell ⟨rb,2,none⟩ u).heap.size=w1.heap.size by simp] at this
   rw[hw2]
   exact this
  ·obtain rfl:p=(rb,0,t):=by simpa using hp
   exact⟨rfl,.inl rfl,_,ka,kc,K,hn3,by rw[qA v u (by omega)];exact hfk⟩
  ·rw[hal _ (by have:=hb1.size;omega) (by omega),hb1.block _ hWs]
   exact hbx
 have HM:=aA (aI hm2 (aI hz hm))
 have HB0:=aA hb0
 clear hW hb0 hbx hnW hl f0 f1 f2 hfk hv hrb hm hz cl bl hlc
 go_enter Tryz.func68,Tryz.ntmps68
 go_upto_region 1 with fail
 rw[←HX.out]
 go_wp2_with fail
 refine HO.out.mono ?_
 rintro e w1 ⟨rfl,w1',u,hb1,hu,rfl⟩
 obtain⟨hst,hbx⟩:=HSt.out w1' u hb1 hu _ rfl
 have hI0:=aA hst
 have hX0:=aA hbx
 clear hst hbx hu hb1 HO HSt x0 x1 x2 x3 x4
 go_wp2_with fail
 go_loopg [2,6] (1+JB t.kids) (fun k mo v wr=>∃(m:Nat) (L:List (Nat×Nat×It)),mo=.int .i64 m∧m≤100000000∧iD L≤k∧k≤400001∧RenI w N rb ex t m v L wr∧wr.heap[w.heap.size]?=some (.cells iC 75 (0,0)))
 case atStart=>
  refine⟨most,[(rb,0,t)],rfl,HM.out.1,?_,?_,hI0.out,hX0.out⟩
  ·show 1+JB t.kids+0≤_;omega
  ·have:=HM.out.2.1;omega
 case round=>
  obtain⟨m,L,rfl,hm,hk1,hk2,hI,hbx⟩:=hrel
  clear hI0 hX0
  cases L with
  |nil=>
   obtain⟨qa,qc,rfl,_,_⟩:=hI.q.is
   obtain⟨S,hS⟩:=hI.ren
   obtain⟨v',hn,ho,hb⟩:=hS.own
   have HE:=aA (aI hI.low (aI hn (aI ho hb)))
   clear hI hS hn ho hb hbx
   show Code.wp _ _ _ _ _
   go_wp2
   refine bodyPost_end (results_none rfl _ _ _) rfl ⟨rfl,HE.out.1,v',S,HE.out.2⟩
  |cons p0 Lr=>
   obtain⟨b0,o0,t0⟩:=p0
   obtain⟨qg,qo,qc,rfl,hqh,hqc,hqt⟩:=QRow.head (p:=(b0,o0)) (r:=Lr.map pl) hI.q
   obtain⟨h04,hNb,x,fa,fc,K,hx,hfk⟩:=hI.nodes (b0,o0,t0) (by simp)
   have hNb:b0=rb∨w.heap.size≤b0:=hNb
   have hNb':N≤b0:=by have:=HRb.out.2.1;have:=HRb.out.2.2;omega
   have hloN:Below N w wr:=BelX.down2 hI.low HRb.out.2.2 HRb.out.2.1
   have HLo:=aA hloN
   have h04:o0 % 4=0:=h04
   have hx:NodeAt wr b0 o0 x:=hx
   have hfk:Fk w N ex (x 3) t0 fa fc K:=hfk
   have c3:=hx.cell (c:=3) (by omega)
   rw[hfk.is] at c3
   have hqh:wr.cell? ⟨qg,qo,none⟩=some (.pointer (some ⟨b0,o0,none⟩)):=hqh
   obtain⟨y0,y1,y2,y3,y4⟩:=pO hbx
   obtain⟨qa,hqa⟩:∃qa,(if qc=1 then some (⟨qg,qo,none⟩:Addr) else some ⟨qg,qo+1,none⟩)=qa:=⟨_,rfl⟩
   rw[hqa] at hqt
   have hlow:∀{W:World},Below N w W→∀k,k<N→W.heap[k]?=w.heap[k]?:=fun h k hk=>h.block k hk
   have hbud:JB t0.kids+fF Lr≤m:=hI.bud
   have how:cC t0.kids≤JB t0.kids:=by
    have:=gF (g:=0) (ks:=t0.kids) t0.kids.length (nR _)
    rw[List.take_length] at this
    omega
   have HFit:Hid (∀W,Below N w W→Calls Tryz.prog 106 #[.agg iC,.slice fa t0.kids.length fc,.int .i64 m] W fun e w'=>e=.returned (.tuple #[.slice fa t0.kids.length fc,.int .i64 ((m - cC t0.kids:Nat):Int)])∧Below W.heap.size W w'):=fun W hW=>YS (fun i k hi=>by
    obtain⟨b,o,e1,e2,e3⟩:=hfk.hk i (List.getElem?_eq_some_iff.1 hi).1
    obtain⟨_,_,la2,lc2,g2,_,g3,_⟩:=(hfk.hr i k hi).texts
    have:=e3 2 (by omega)
    rw[g2] at this
    exact⟨b,o,la2,lc2,e1,(World.cell?_of_block (a:=⟨b,o+i * 4+2,none⟩) (hlow hW b e2)).trans this,g3⟩) hfk.bk (by omega) hm
   have HCl:Hid (∀W,Below N w W→Calls Tryz.prog 107 #[.slice fa t0.kids.length fc] W fun e w'=>(∃v,e=.returned v∧w'.ownsRow W.heap.size 25 4 v t0.kids.length (GA K t0.kids.length))∧Below W.heap.size W w'):=fun W hW=>sH fa t0.kids.length fc K W (by have:=hfk.bk;omega) (fun i hi=>by
    obtain⟨b,o,e1,e2,e3⟩:=hfk.hk i hi
    exact⟨b,o,e1,fun q hq=>(World.cell?_of_block (a:=⟨b,o+i * 4+q,none⟩) (hlow hW b e2)).trans (e3 q hq)⟩) (fun i q hi hq=>by
    obtain⟨g0,g1,⟨la2,lc2,g2⟩,ka2,kc2,g3⟩:=(hfk.hr i _ (List.getElem?_eq_getElem hi)).lies.forms
    match q,hq with
    |0,_=>rw[g0];rfl
    |1,_=>rw[g1];rfl
    |2,_=>rw[g2];rfl
    |3,_=>rw[g3];rfl) (fun e=>by have h1:=hfk.ck e;have h2:=hfk.hkc;exact⟨by omega,h1⟩)
   have HI:=aA hI
   have HQ:=aA hqt
   have HK:=aA (aI hfk (aI hx (aI h04 (aI hNb hNb'))))
   have HMm:=aA (aI hm (aI hk1 (aI hk2 (aI hbud how))))
   have HBx:=aA hbx
   have hnL:(Lr.map pl).length≤400001:=by
    have h1:=gL Lr
    have h2:1+JB t0.kids+iD Lr≤gk:=hk1
    rw[List.length_map];omega
   have HLr:Hid (Lr.length≤400001):=by rw[List.length_map] at hnL;exact hnL
   clear hI hqt hfk hx h04 hk1 hk2 hbud how hbx hlow hNb hNb' hloN
   generalize hnn:t0.kids.length=n at *
   have HNn:=aA hnn
   clear hnn
   generalize (Lr.map pl).length=lq at *
   go_wp2_with fail
   go_region_held3 (fun V=>V.cell? ⟨w.heap.size,0,none⟩=some (.func (.func 62) #[] #[])∧V.cell? ⟨qg,qo,none⟩=some (.pointer (some ⟨b0,o0,none⟩))) (first|exact⟨y0,hqh⟩|go_keep) ((go_simp;go_at_call 62;refine(MH b0 o0 wr.drew).mono ?_;rintro e w1 ⟨rfl,ew⟩;subst w1))
   all_goals go_wp2_with fail
   go_upto_region 6 with fail
   go_cut [2] (fun mo wx=>mo=.int .i64 ((m - cC t0.kids:Nat):Int)∧C1 wr wx b0 (o0+3) (.slice fa n fc))
   case first=>
    have hfz:∀i,wr.frozen? ⟨b0,i,none⟩=false:=fun i=>HK.out.2.1.frozen i
    have hbe:b0≠w.heap.size:=fun e=>by
     obtain⟨cur,e1,_⟩:=HK.out.2.1
     rw[e,HBx.out] at e1
     injection e1 with e1
     injection e1 with _ e1 _
     exact absurd e1 (by decide)
    have HCx:Hid (∀W,Below wr.heap.size wr W→(W.cell? ⟨w.heap.size,0,none⟩=some (.func (.func 62) #[] #[])∧W.cell? ⟨w.heap.size,1,none⟩=some (.func (.func 63) #[] #[])∧W.cell? ⟨w.heap.size,2,none⟩=some (.func (.func 65) #[] #[])∧W.cell? ⟨w.heap.size,3,none⟩=some (.int .i64 67108864)∧W.cell? ⟨w.heap.size,4,none⟩=some (.int .i64 600)∧W.cell? ⟨b0,o0+3,none⟩=some (.slice fa n fc))∧W.frozen? ⟨b0,o0+3,none⟩=false):=fun W hW=>⟨⟨(hW.cell (p:=⟨w.heap.size,0,none⟩) (dA y0)).trans y0,(hW.cell (p:=⟨w.heap.size,1,none⟩) (dA y1)).trans y1,(hW.cell (p:=⟨w.heap.size,2,none⟩) (dA y2)).trans y2,(hW.cell (p:=⟨w.heap.size,3,none⟩) (dA y3)).trans y3,(hW.cell (p:=⟨w.heap.size,4,none⟩) (dA y4)).trans y4,(hW.cell (p:=⟨b0,o0+3,none⟩) (dA c3)).trans c3⟩,(World.frozen?_of_block (a:=⟨b0,o0+3,none⟩) (hW.block b0 (dA c3))).trans (hfz _)⟩
    go_region_held3 (fun V=>V.cell? ⟨w.heap.size,0,none⟩=some (.func (.func 62) #[] #[])∧V.cell? ⟨w.heap.size,1,none⟩=some (.func (.func 63) #[] #[])∧V.cell? ⟨w.heap.size,2,none⟩=some (.func (.func 65) #[] #[])∧V.cell? ⟨w.heap.size,3,none⟩=some (.int .i64 67108864)∧V.cell? ⟨w.heap.size,4,none⟩=some (.int .i64 600)∧V.cell? ⟨b0,o0+3,none⟩=some (.slice fa n fc)) (first|exact⟨y0,y1,y2,y3,y4,c3⟩|exact⟨z0,z1,z2,z3,z4,z5⟩|(refine⟨?_,?_,?_,?_,?_,World.cell?_setCell_same _ _ _ (by rw[z5])⟩<;>go_keep)|go_keep) ((go_simp;go_at_call 106;refine(HFit.out wr.drew.drew HLo.out.drew.drew).mono ?_;rintro e w2 ⟨rfl,hb2⟩;(obtain⟨⟨z0,z1,z2,z3,z4,z5⟩,zf⟩:=HCx.out w2 ⟨hb2.os,hb2.tape,hb2.output,hb2.size,hb2.block⟩);(have H2:=aA hb2);clear hb2))
    all_goals go_wp2_with fail
    all_goals go_meet
    all_goals exact⟨rfl,(C1.of (w:=wr) ⟨H2.out.os,H2.out.tape,H2.out.output,H2.out.size,H2.out.block⟩ (dA c3) (o0+3) (.slice fa n fc)).drew 0⟩
   case rest=>
    obtain⟨rfl,hC⟩:=hcut
    obtain⟨cur0,hcu,hcc⟩:=HK.out.2.1
    have hsz0:o0+3<cur0.size:=(Array.getElem?_eq_some_iff.1 (hcc 3 (by omega))).1
    have d3:=hC.cell hcu hsz0
    have hlowC:Below N wr wc:=BelX.down2 hC.bx (Nat.le_trans HRb.out.2.2 HI.out.low.size) HK.out.2.2.2.2
    have HClw:=aA (HCl.out wc (HLo.out.trans hlowC))
    have hbl:b0<wc.heap.size:=dA d3
    have hfz:wc.frozen? ⟨b0,o0+3,none⟩=false:=by
     obtain⟨c1,e1,_⟩:=hC.here cur0 _ hcu
     unfold World.frozen?
     rw[e1]
     simp
    have HC0:=aA (aI hC (aI hlowC (aI hcu hsz0)))
    clear hC hlowC hcu hcc hsz0 HCl HFit c3 hqh y0 y1 y2 y3 y4
    go_wp2_with fail
    refine HClw.out.mono ?_
    rintro e w3 ⟨⟨u,rfl,hu⟩,hb3⟩
    obtain⟨ua,uc,rfl⟩:=tA hu
    have e3:=(hb3.cell (p:=⟨b0,o0+3,none⟩) hbl).trans d3
    have ef:w3.frozen? ⟨b0,o0+3,none⟩=false:=(World.frozen?_of_block (a:=⟨b0,o0+3,none⟩) (hb3.block b0 hbl)).trans hfz
    obtain⟨w5,hw5⟩:∃w5,w5=w3.setCell ⟨b0,o0+3,none⟩ (.slice ua n uc):=⟨_,rfl⟩
    have hC5:C1 wr w5 b0 (o0+3) (.slice ua n uc):=by rw[hw5];exact HC0.out.1.trans (C1.of hb3 hbl _ _)
    have g3:=hC5.cell HC0.out.2.2.1 HC0.out.2.2.2
    have HW5:=aA hw5
    have HU:=aA (aI hu (aI hb3 hC5))
    clear hw5 hC5 hu hb3 d3 hfz HClw
    go_upto_region 8 with fail
    rw[←HW5.out]
    have hbox:w5.heap[w.heap.size]?=some (.cells iC 75 (0,0)):=by
     rw[HU.out.2.2.bx.block _ (Array.getElem?_eq_some_iff.1 HBx.out).1 (fun e=>by
      have h1:=HBx.out
      rw[e,HC0.out.2.2.1] at h1
      injection h1 with h1
      injection h1 with _ h1 _
      exact absurd h1 (by decide))]
     exact HBx.out
    obtain⟨c5,hc5,_⟩:=HU.out.2.2.here cur0 _ HC0.out.2.2.1
    have hlow5:Below N w w5:=HLo.out.trans (BelX.down2 HU.out.2.2.bx (Nat.le_trans HRb.out.2.2 HI.out.low.size) HK.out.2.2.2.2)
    have HQ5:Hid (QRow w5 w.heap.size (.slice qa lq (qc - 1)) (Lr.map pl)):=HQ.out.on fun q cur e=>HU.out.2.2.bx.block q (Array.getElem?_eq_some_iff.1 e).1 (fun e2=>by
     rw[e2,HC0.out.2.2.1] at e
     injection e with e
     injection e with _ e _
     exact oB e)
    have HB5:=aA (aI hbox (aI hc5 hlow5))
    clear hbox hc5 hlow5 HQ
    by_cases hn0:n=0
    ·have HN0:=aA hn0
     subst hn0
     have hk0:t0.kids=[]:=List.eq_nil_of_length_eq_zero HNn.out
     have hnext:=HI.out.next (Ln:=[]) (v':=.slice qa lq (qc - 1)) (m':=m - cC t0.kids) (T:=fun _ _=>False) HU.out.2.2.one ⟨HU.out.2.2.bx.os,HU.out.2.2.bx.tape,HU.out.2.2.bx.output,HU.out.2.2.bx.size,fun q hq hne=>HU.out.2.2.bx.block q (Nat.lt_of_lt_of_le hq HI.out.low.size) (by have:=HK.out.2.2.2.1;omega)⟩ ⟨by
      rw[hk0]
      have h1:=RowI.of HU.out.1
      have h2:RowI w5 wc.heap.size (.slice ua 0 uc) 0:=by
       rcases h1 with h1|⟨q,cap,cur,e,hb,hq,h2,h3,h4⟩
       ·exact .inl h1
       ·refine .inr ⟨q,cap,cur,e,hb,?_,h2,h3,h4⟩
        rw[HW5.out,Below.heap_setCell _ _ _ _ (by show q≠b0;omega)]
        exact hq
      exact h2.mono HC0.out.1.bx.size,(fun g i k _ hi=>by rw[hk0] at hi;cases hi),(fun i q hi _=>by rw[hk0] at hi;cases hi),(fun i i' q hi _ _ _=>by rw[hk0] at hi;cases hi)⟩ (fun p hp=>by cases hp) List.Pairwise.nil (by rw[List.append_nil];exact HQ5.out) (by rw[List.append_nil,hk0,cC];have:=HMm.out.2.2.2.1;rw[hk0,JB] at this;omega)
     rw[List.append_nil] at hnext
     have HNe:=aA (aI hnext HB5.out.1)
     have HSn:Hid (iD Lr<gk):=by
      show _<_
      have h1:1+JB t0.kids+iD Lr≤gk:=HMm.out.2.1
      omega
     clear hnext HQ5 hk0
     go_wp2_with fail
     obtain⟨wo,hwo⟩:∃wo,wo=wr:=⟨_,rfl⟩
     subst hwo
     go_loopw [6,49] (fun op i wx=>op=.slice qa lq (qc - 1)∧i=.int .i64 0∧wx=w5) (fun _ _ _=>0)
     case atStart=>exact⟨rfl,rfl,rfl⟩
     case round=>
      obtain⟨rfl,rfl,rfl⟩:=hrel
      go_wp2_with fail
      go_roundg (iD Lr)
      case measure=>exact HSn.out
      case rel=>exact⟨m - cC t0.kids,_,rfl,by have:=HMm.out.1;omega,nR _,by have h1:=HSn.out;have h2:=HMm.out.2.2.1;omega,HNe.out.1,HNe.out.2⟩
    ·obtain⟨g,cap,hge,hgl,hgB⟩:=bD HU.out.1 (by omega)
     injection hge with hge1 _ hge2
     subst hge1 hge2
     have hgb:g≠b0:=by omega
     have hgx:g≠w.heap.size:=fun e=>by
      have h1:=(Array.getElem?_eq_some_iff.1 HBx.out).1
      have:=HC0.out.1.bx.size
      omega
     have HK0:Hid (KidI w5 w5 g uc K t0.kids 0 Lr (.slice qa lq (qc - 1)) w.heap.size (fun _ _=>False)∧n≤uc∧uc≤maxLen):=by
      have hw5:=HW5.out
      rcases HU.out.1.2 with ⟨e1,_⟩|⟨g',cap',cur,e1,_,hg1,h1,h2,h3,h4⟩
      ·cases e1
      ·injection e1 with e1 _ e2
       injection e1 with e1
       injection e1 with e1 _ _
       subst e1 e2
       have hg5:w5.heap[g]?=some (.cells cur rA (0,0)):=by rw[hw5,Below.heap_setCell _ _ _ _ hgb];exact hg1
       refine⟨⟨rfl,rfl,rfl,nR _,(Array.getElem?_eq_some_iff.1 hg5).1,fun _ _ _ _=>rfl,⟨cur,hg5,h3⟩,fun j _ hj=>⟨cur,hg5,fun c hc=>?_⟩,fun j k hj=>by omega,fun j q hj=>by omega,fun j j' q hj=>by omega,?_⟩,h1,h2⟩
       ·have hj:j<n:=by rw[←HNn.out];exact hj
        have h5:=bB K n j c hj hc
        rw[←h4,List.getElem?_take,if_pos (by omega)] at h5
        simpa using h5
       ·show QRow w5 w.heap.size _ ((Lr++[]).map pl)
        rw[List.append_nil]
        exact HQ5.out
     have hnz:n≤100000:=by have:=HK.out.1.bk;have:=HNn.out;omega
     have HG:=aA (aI hgl (aI hgB (aI hgb hgx)))
     clear HQ5 hgl hgB hn0
     go_wp2_with fail
     obtain⟨wo,hwo⟩:∃wo,wo=wr:=⟨_,rfl⟩
     subst hwo
     go_loopw [6,49] (fun op i wx=>∃(j:Nat) (T:Nat→Nat→Prop) (qv:Value),qv=op∧j≤n∧i=.int .i64 j∧KidI w5 wx g uc K t0.kids j Lr qv w.heap.size T) (fun _ i _=>n - (RowKit.intOf i).toNat)
     case atStart=>exact⟨0,_,_,rfl,by omega,rfl,HK0.out.1⟩
     case round=>
      obtain⟨j,T,qv,rfl,hj,rfl,hki⟩:=hrel
      obtain⟨wx,hwx⟩:∃wx,wx=wr:=⟨_,rfl⟩
      subst hwx
      by_cases hjn:j<n
      ·obtain⟨k,hk⟩:∃k,t0.kids[j]?=some k:=⟨_,List.getElem?_eq_getElem (by have:=HNn.out;omega)⟩
       have hjz:(j:Int)<n:=by omega
       have hlowx:Below N w wx:=HB5.out.2.2.trans ⟨hki.os,hki.tape,hki.output,hki.size,fun q hq=>hki.old q (Nat.lt_of_lt_of_le hq (Nat.le_trans HRb.out.2.2 HB5.out.2.2.size)) (by have:=HG.out.2.1;have:=HC0.out.2.1.size;have:=HI.out.low.size;have:=HRb.out.2.2;omega) (fun h=>by have:=HRb.out.2.2;omega)⟩
       have hbxx:wx.heap[w.heap.size]?=some (.cells iC 75 (0,0)):=by
        rw[hki.old _ (Array.getElem?_eq_some_iff.1 HB5.out.1).1 HG.out.2.2.2.symm (fun _ c e=>by
         rw[HB5.out.1] at e
         injection e with e
         injection e with _ e _
         exact absurd e (by decide))]
        exact HB5.out.1
       have hb0x:wx.heap[b0]?=w5.heap[b0]?:=hki.old _ (Array.getElem?_eq_some_iff.1 HB5.out.2.1).1 HG.out.2.2.1.symm (fun _ c e=>by
        rw[HB5.out.2.1] at e
        injection e with e
        injection e with _ e _
        exact oB e)
       have g3x:=(World.cell?_of_block (a:=⟨b0,o0+3,none⟩) hb0x).trans g3
       obtain⟨y0,y1,_,_,_⟩:=pO hbxx
       have hnj:=hki.todo j (nR _) (by have:=HNn.out;omega)
       obtain⟨t0',t1',la2,lc2,t2,t3,t4,_,t5⟩:=(HK.out.1.hr j k hk).texts
       obtain⟨ka2,kc2,K2,hfk2⟩:=(HK.out.1.hr j k hk).fk
       have HOw:=aA (pR hnj t2 t4 (fun i s hs=>by
        obtain⟨b,o,e1,e2,e3⟩:=t5 i s hs
        exact⟨b,o,e1,(World.cell?_of_block (a:=⟨b,o+i,none⟩) (hlowx.block b e2)).trans e3⟩) (fun e=>⟨List.eq_nil_of_length_eq_zero (by have:=t3 e;omega),t3 e⟩))
       have hgl:=hnj.lt
       have hbgl:w.heap.size<wx.heap.size:=(Array.getElem?_eq_some_iff.1 hbxx).1
       have hHK:=HG.out.2.2.2
       have HKI:=aA (aI hki (aI hk (aI hnj (aI t0' t1'))))
       have HFk2:=aA hfk2
       have HLx:=aA hlowx
       clear hki hk hnj t0' t1' t2 t3 t4 t5 hfk2 hlowx hb0x hbxx g3
       go_wp2_with fail
       refine HOw.out.mono ?_
       rintro e9 w9 ⟨rfl,w1x,u2,hbx1,hu2,rfl⟩
       obtain⟨wy,hwy⟩:∃wy,wy=w1x.setCell ⟨g,j * 4+2,none⟩ u2:=⟨_,rfl⟩
       have hy0:wy.cell? ⟨w.heap.size,0,none⟩=some (.func (.func 62) #[] #[]):=by
        rw[hwy,World.cell?_setCell_far _ _ _ _ hHK]
        exact(hbx1.cell (p:=⟨w.heap.size,0,none⟩) hbgl).trans y0
       obtain⟨hfy,hny⟩:=zO (N:=w.heap.size) (u2:=u2) HKI.out.2.2.1 hbx1
       rw[←hwy] at hfy hny
       have hc3y:=hny.cell (c:=3) (by omega)
       rw[qA _ u2 (by omega),HFk2.out.is] at hc3y
       have hfzy:wy.frozen? ⟨g,j * 4+3,none⟩=false:=hny.frozen _
       have HY:=aA (aI hbx1 (aI hu2 (aI hwy (aI hfy hny))))
       have HWy:=aA hwy
       have hqy:QRow wy w.heap.size qv ((Lr++opens g t0.kids j).map pl):=HKI.out.1.queue.on fun q cur e=>by
        have hqg:q≠g:=fun e2=>by
         obtain⟨c9,e9,_⟩:=HKI.out.1.row
         rw[e2,e9] at e
         injection e with e
         injection e with _ e _
         exact oB e
        rw[hwy,Below.heap_setCell _ _ _ _ hqg]
        exact hbx1.block q (Array.getElem?_eq_some_iff.1 e).1
       have HQy:=aA hqy
       have hNy:w.heap.size≤wy.heap.size:=Nat.le_trans HLx.out.size hfy.size
       have hlq:((Lr++opens g t0.kids j).map pl).length+1≤1000000:=by
        rw[List.length_map,List.length_append]
        have h1:=VI (g:=g) (ks:=t0.kids) j
        have h2:=HLr.out
        omega
       have HNy:=aA (aI hNy hlq)
       clear hbx1 hu2 hfy hny hwy hqy hNy hlq
       rw[←HWy.out]
       by_cases hkk:k.kids=[]
       ·have HKk:=aA hkk
        rw[hkk] at hc3y
        have HC2:Hid (Calls Tryz.prog 107 #[.slice ka2 0 kc2] wy fun e w'=>(∃v,e=.returned v∧w'.ownsRow wy.heap.size 25 4 v 0 (GA K2 0))∧Below wy.heap.size wy w'):=sH ka2 0 kc2 K2 wy (by omega) (fun i hi=>by omega) (fun i q hi=>by omega) (fun e=>⟨rfl,HFk2.out.ck e⟩)
        have hc3y:wy.cell? ⟨g,j * 4+3,none⟩=some (.slice ka2 0 kc2):=hc3y
        have hgy:=dA hc3y
        clear hkk
        go_wp2_with (first|(go_at_call 62;refine(MH g (j * 4) wy).mono ?_;rintro e w1 ⟨rfl,ew⟩;subst w1)|(go_at_call 107;refine HC2.out.mono ?_;rintro e w7 ⟨⟨u3,rfl,hu3⟩,hb7⟩;(obtain⟨ra,rc,rfl⟩:=tA hu3);(have hc7:=(hb7.cell (p:=⟨g,j * 4+3,none⟩) hgy).trans hc3y);(have hf7:w7.frozen? ⟨g,j * 4+3,none⟩=false:=(World.frozen?_of_block (a:=⟨g,j * 4+3,none⟩) (hb7.block g hgy)).trans hfzy);(have H7:=aA (aI hu3 hb7));clear hu3 hb7))
        all_goals go_roundw
        case rel=>
         obtain⟨hfx,hdx⟩:=jN (N:=w.heap.size) HKI.out.2.2.1 HKI.out.2.2.2.1 HKI.out.2.2.2.2 HY.out.1 HY.out.2.1 HKk.out (by rw[←HWy.out];exact H7.out.2) (by rw[←HWy.out];exact H7.out.1)
         refine⟨j+1,_,_,rfl,by omega,by go_num,HKI.out.1.step HKI.out.2.1 hfx hdx ?_⟩
         rw[JD HKI.out.2.1 HKk.out]
         refine HQy.out.on fun q cur e=>?_
         have hqg:q≠g:=fun e2=>by
          obtain⟨c9,e9,_⟩:=HY.out.2.2.2.2
          rw[e2,e9] at e
          injection e with e
          injection e with _ e _
          exact oB e
         rw[Below.heap_setCell _ _ _ _ hqg]
         exact H7.out.2.block q (Array.getElem?_eq_some_iff.1 e).1
        case measure=>simp[RowKit.intOf];omega
       ·have hkp:0<k.kids.length:=List.length_pos_iff.2 hkk
        have hkz:(0:Int)<(k.kids.length:Int):=by omega
        have HKk:=aA hkk
        clear hkk
        go_wp2_with (first|(go_at_call 62;refine(MH g (j * 4) wy).mono ?_;rintro e w1 ⟨rfl,ew⟩;subst w1)|(at_builtin;go_loud (refine DI rfl (.tmp 70) (.tmp 72) rfl w.heap.size qv _ (g,j * 4) (by simp[Act.eval]) HQy.out (by simp[Act.eval]) HNy.out.1 HNy.out.2 ?_);intro v' w6 hq6 hqf6;have H6:=aA (aI hq6 hqf6);clear hq6 hqf6))
        all_goals go_roundw
        case rel=>
         obtain⟨hfx,hdx⟩:=yO (N:=w.heap.size) HKI.out.2.2.1 HKI.out.2.2.2.1 HKI.out.2.2.2.2 HY.out.1 HY.out.2.1 HKk.out (by rw[←HWy.out];exact H6.out.2)
         refine⟨j+1,_,_,rfl,by omega,by go_num,HKI.out.1.step HKI.out.2.1 hfx hdx ?_⟩
         rw[KD HKI.out.2.1 HKk.out,←List.append_assoc,List.map_append]
         exact H6.out.1
        case measure=>simp[RowKit.intOf];omega
      ·obtain rfl:j=n:=by omega
       have hnn:=HNn.out
       have hki':=hki
       rw[←hnn] at hki'
       have hso:wo.heap.size≤w5.heap.size:=HU.out.2.2.bx.size
       have hgo:wo.heap.size≤g:=by have:=HG.out.2.1;have:=HC0.out.1.bx.size;omega
       have hNo:w.heap.size≤wo.heap.size:=HI.out.low.size
       have hb0w:wx.heap[b0]?=w5.heap[b0]?:=hki.old _ (Array.getElem?_eq_some_iff.1 HB5.out.2.1).1 HG.out.2.2.1.symm (fun _ c e=>by
        rw[HB5.out.2.1] at e
        injection e with e
        injection e with _ e _
        exact oB e)
       have hlowx:BelX w.heap.size rb wo wx:=⟨hki.os.trans HU.out.2.2.bx.os,hki.tape.trans HU.out.2.2.bx.tape,hki.output.trans HU.out.2.2.bx.output,Nat.le_trans hso hki.size,fun q hq hne=>(hki.old q (by omega) (by omega) (fun h=>by omega)).trans (HU.out.2.2.bx.block q (by omega) (by have:=HK.out.2.2.2.1;omega))⟩
       have hone:One3 wo wx b0 (o0+3) (.slice (some ⟨g,0,none⟩) t0.kids.length uc):=by
        refine⟨Nat.le_trans hso hki.size,fun q hq hne hp=>?_,fun cur ty e=>?_⟩
        ·have h1:=HU.out.2.2.bx.block q hq hne
         rw[hki.old q (by omega) (by omega) (fun _ c=>by rw[h1];exact hp c),h1]
        ·obtain⟨c9,e1,e2⟩:=HU.out.2.2.here cur ty e
         rw[hnn]
         exact⟨c9,hb0w.trans e1,e2⟩
       have hLrl:∀p,p∈Lr→p.1<wo.heap.size:=fun p hp=>by
        obtain⟨_,_,x9,_,_,_,hx9,_⟩:=HI.out.nodes p (List.mem_cons_of_mem _ hp)
        exact hx9.lt
       have hsw:=gF (g:=g) (ks:=t0.kids) t0.kids.length (nR _)
       have hsn:=gI (g:=g) (ks:=t0.kids) t0.kids.length (nR _)
       rw[List.take_length] at hsw hsn
       have hnext:=HI.out.next (Ln:=opens g t0.kids t0.kids.length) (v':=qv) (m':=m - cC t0.kids) hone hlowx (hki'.newK (w:=wo) hNo hso hgo (by rw[hnn];exact HK0.out.2.1) HK0.out.2.2 hLrl) (fun p hp=>by
        obtain⟨j',h1,h2,h3,h4,h5⟩:=(uD _ _).1 hp
        obtain⟨x9,hx9⟩:=hki'.done j' p.2.2 h1 h2
        obtain⟨ka9,kc9,K9,hf9⟩:=(HK.out.1.hr j' _ h2).fk
        refine⟨by omega,by omega,x9,ka9,kc9,K9,?_,?_⟩
        ·rw[h4,h5];exact hx9.at'
        ·rw[hx9.op h3];exact hf9) (IF _) hki'.queue (by
        rw[iI]
        have:=HMm.out.2.2.2.1
        omega)
       have hbx9:wx.heap[w.heap.size]?=some (.cells iC 75 (0,0)):=by
        rw[hki.old _ (Array.getElem?_eq_some_iff.1 HB5.out.1).1 HG.out.2.2.2.symm (fun _ c e=>by
         rw[HB5.out.1] at e
         injection e with e
         injection e with _ e _
         exact absurd e (by decide))]
        exact HB5.out.1
       have HNe:=aA (aI hnext hbx9)
       have HSn:Hid (iD (Lr++opens g t0.kids t0.kids.length)<gk):=by
        show _<_
        rw[fI]
        have h1:1+JB t0.kids+iD Lr≤gk:=HMm.out.2.1
        omega
       clear hnext hbx9 hsw hsn hLrl hone hlowx hb0w hki hki' hnn
       go_wp2_with fail
       go_roundg (iD (Lr++opens g t0.kids t0.kids.length))
       case measure=>exact HSn.out
       case rel=>exact⟨m - cC t0.kids,_,rfl,by have:=HMm.out.1;omega,nR _,by have h1:=HSn.out;have h2:=HMm.out.2.2.1;omega,HNe.out.1,HNe.out.2⟩
end Go.Proofs.YtpbolcjcmkmalaaGreatDoor

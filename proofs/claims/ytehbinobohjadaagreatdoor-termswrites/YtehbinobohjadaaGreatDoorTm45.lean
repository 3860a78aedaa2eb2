import Derived.Test.YtehbinobohjadaaGreatDoorTm00
import Derived.Test.YtehbinobohjadaaGreatDoorTm39
set_option maxHeartbeats 20000000
set_option maxRecDepth 20000
namespace Go.Proofs.YtehbinobohjadaaGreatDoor
open Go.RowKit
set_option linter.unusedSectionVars false
variable [Inhabited TP]
theorem Tryz.infoNf:∃i z,Tryz.prog.info? 25=some i∧i.zero=some z∧i.size=ntE.k∧i.bytes=64∧z.cells.size=ntE.k:=by
 have h:(Tryz.prog.info? 25).map (fun i=>(i.zero,i.size,i.bytes))=some (some (.agg #[.string ⟨#[]⟩,.string ⟨#[]⟩,.int .i64 0,.slice none 0 0]),4,64):=by kernel_rfl
 obtain⟨i,h1,h2⟩:=Option.map_eq_some_iff.1 h
 simp only[Prod.mk.injEq] at h2
 exact⟨i,_,h1,h2.1,h2.2.1,h2.2.2,rfl⟩
structure FmT(w0 w:World)(eb e1 e2:Nat)(t:Tn)(ka:Option Addr)(kc:Nat)(v:Value)(l:List (Tn×SlV)):Prop where
 o0:eb=w0.heap.size
 o1:eb<e1
 o2:e1<e2
 b0:w.heap[eb]?=some (.cells #[.string t.kind,.string t.word,.int .i64 t.num,.slice ka t.kids.length kc] 44 (0,0))
 b1:w.heap[e1]?=some (.cells #[.string ⟨#[]⟩,.string ⟨#[]⟩,.int .i64 0,.slice none 0 0] 25 (0,0))
 b2:w.heap[e2]?=some (.cells #[.string t.kind,.string t.word,.int .i64 t.num,v] 25 (0,0))
 row:RowG ntE 25 w (e2+1) v l
 kids:∀(i:Nat) (p:Tn×SlV),l[i]?=some p→t.kids[i]?=some p.1∧p.2.n=p.1.kids.length∧NT w (fun k=>e2+1≤k∧k<w.heap.size∧v.ownBlock≠some k) p.2.a p.2.c p.1
 bel:Below eb w0 w
 nr:NT w0 (·<w0.heap.size) ka kc t
theorem FmT.nrw{w0 w:World}{eb e1 e2:Nat}{t:Tn}{ka:Option Addr}{kc:Nat}{v:Value}{l:List (Tn×SlV)}(h:FmT w0 w eb e1 e2 t ka kc v l):NT w (·<w.heap.size) ka kc t:=h.nr.grow (by have:=h.bel;rw[h.o0] at this;exact this)
theorem FmT.push{w0 wr w5 w6:World}{eb e1 e2:Nat}{t u:Tn}{ka:Option Addr}{kc:Nat}{v v':Value}{l:List (Tn×SlV)}{s:SlV}(h:FmT w0 wr eb e1 e2 t ka kc v l)(hu:t.kids[l.length]?=some u)(hb5:Below wr.heap.size wr w5)(hn:NT w5 (fun k=>wr.heap.size≤k∧k<w5.heap.size) s.a s.c u)(hsn:s.n=u.kids.length)
 (hr6:RowG ntE 25 w6 (e2+1) v' (l++[(u,s)])) (hb6:Below (e2+1) w5 w6) (hk6:∀k,v.ownBlock≠some k→k<w5.heap.size→w6.heap[k]?=w5.heap[k]?) (hv6:∀k,v'.ownBlock=some k→v.ownBlock=some k∨w5.heap.size≤k):
 w6.cell? ⟨e2,3,none⟩=some v∧w6.frozen? ⟨e2,3,none⟩=false∧FmT w0 (w6.setCell ⟨e2,3,none⟩ v') eb e1 e2 t ka kc v' (l++[(u,s)]):=by
 have h1:=h.o1
 have h2:=h.o2
 have he2:e2<wr.heap.size:=RI h.b2
 have hz5:=hb5.size
 have hz6:=hb6.size
 have hb:∀k,k≤e2→w6.heap[k]?=wr.heap[k]?:=fun k hk=>(hb6.block k (by omega)).trans (hb5.block k (by omega))
 have x2:=(hb e2 (nR _)).trans h.b2
 have hs:∀k,k≠e2→(w6.setCell ⟨e2,3,none⟩ v').heap[k]?=w6.heap[k]?:=fun k hk=>Below.heap_setCell _ _ _ _ hk
 have hsz:(w6.setCell ⟨e2,3,none⟩ v').heap.size=w6.heap.size:=by simp
 have hown:∀k,v.ownBlock=some k→e2+1≤k∧k<wr.heap.size:=fun k hk=>h.row.blk hk
 refine⟨by rw[cell_of_row _ _ 3 _ _ _ x2];rfl,frozen_of_row _ _ _ _ _ x2,h.o0,h1,h2,(hs eb (by omega)).trans ((hb eb (by omega)).trans h.b0),(hs e1 (by omega)).trans ((hb e1 (by omega)).trans h.b1),?_,hr6.on fun k hk hge _=>hs k (by omega),fun i p hp=>?_,?_,h.nr⟩
 ·rw[heap_setCell_same _ _ _ _ _ _ x2];rfl
 ·rcases Nat.lt_or_ge i l.length with hi|hi
  ·rw[List.getElem?_append_left hi] at hp
   obtain⟨p1,p2,p3⟩:=h.kids i p hp
   refine⟨p1,p2,p3.step fun b ⟨q1,q2,q3⟩=>⟨?_,q1,by rw[hsz];omega,fun e=>?_⟩⟩
   ·rw[hs b (by omega),hk6 b q3 (by omega)]
    exact hb5.block b q2
   ·rcases hv6 b e with e9|e9
    ·exact q3 e9
    ·omega
  ·have hil:i=l.length:=by
    have:=(List.getElem?_eq_some_iff.1 hp).1
    simp at this
    omega
   subst hil
   rw[List.getElem?_append_right (nR _)] at hp
   simp at hp
   subst hp
   refine⟨hu,hsn,hn.step fun b ⟨q1,q2⟩=>⟨?_,by omega,by rw[hsz];omega,fun e=>?_⟩⟩
   ·rw[hs b (by omega),hk6 b (fun e=>by have:=(hown b e).2;omega) q2]
   ·rcases hv6 b e with e9|e9
    ·have:=(hown b e9).2;omega
    ·omega
 ·exact((h.bel.trans (hb5.mono (by omega))).trans (hb6.mono (by omega))).setCell (p:=⟨e2,3,none⟩) (by show eb≤e2;omega) _
theorem FmT.whole{w0 w w':World}{eb e1 e2:Nat}{t:Tn}{ka:Option Addr}{kc n c:Nat}{a:Option Addr}{l:List (Tn×SlV)}(h:FmT w0 w eb e1 e2 t ka kc (.slice a n c) l)(hl:l.length=t.kids.length)(hO:SmT t)(hb:∀k,e2<k→k<w.heap.size→w'.heap[k]?=w.heap[k]?)(hsz:w.heap.size≤w'.heap.size):n=t.kids.length∧NT w' (fun k=>w0.heap.size≤k∧k<w'.heap.size) a c t:=by
 have h0:=h.o0
 have h1:=h.o1
 have h2:=h.o2
 obtain⟨a',c',e⟩:=h.row.any
 injection e with ea en ec
 subst ea ec
 have hlen:=hO.of.1
 have get:∀(i:Nat) (u:Tn),t.kids[i]?=some u→∃p,l[i]?=some p∧p.1=u:=fun i u hu=>by
  have hi:=(List.getElem?_eq_some_iff.1 hu).1
  obtain⟨p,hp⟩:∃p,l[i]?=some p:=⟨_,List.getElem?_eq_getElem (by omega)⟩
  have p1:=(h.kids i p hp).1
  rw[p1] at hu
  injection hu with hu
  exact⟨p,hp,hu⟩
 refine⟨en.trans hl,.mk t a c (fun i=>((l[i]?).map (·.2.a)).getD none) (fun i=>((l[i]?).map (·.2.c)).getD 0) (fun i u hu=>?_) (fun i u hu=>?_) ?_ (by omega)⟩
 ·obtain⟨p,hp,rfl⟩:=get i u hu
  obtain⟨_,p2,_⟩:=h.kids i p hp
  have hi:=(List.getElem?_eq_some_iff.1 hu).1
  rcases h.row.row.2 with ⟨e,e0⟩|⟨g,cap,cur,e,hge,hgg,hcap,_⟩
  ·omega
  ·injection e with e5 e6 e7
   subst e5
   have hgl:g<w.heap.size:=RI hgg
   refine⟨g,0,rfl,⟨by omega,by omega⟩,fun c2 u2 hc2=>?_⟩
   have hc3:(ntE.f p)[c2]?=some u2:=by
    rw[hp] at hc2
    rw[←hc2]
    show [Value.string p.1.kind,.string p.1.word,.int .i64 p.1.num,.slice p.2.a p.2.n p.2.c][c2]?=_
    rw[p2]
    rfl
   have h9:=h.row.cells (g:=g) (n:=n) (cap:=c) rfl _ _ (ntE.all_get l i p hp c2 u2 hc3)
   rw[show ntE.k=4 from rfl] at h9
   rw[show 0+i * 4+c2=i * 4+c2 by omega]
   exact(World.cell?_of_block (a:=⟨g,i * 4+c2,none⟩) (hb g (by omega) hgl)).trans h9
 ·obtain⟨p,hp,rfl⟩:=get i u hu
  obtain⟨_,_,p3⟩:=h.kids i p hp
  simp only[hp,Option.map_some,Option.getD_some]
  exact p3.step fun b ⟨q1,q2,_⟩=>⟨hb b (by omega) q2,by omega,by omega⟩
 ·rw[←hl]
  rcases h.row.row.2 with ⟨e,e0⟩|⟨g,cap,cur,e,_,_,hcap,_⟩
  ·injection e with _ e3 e4
   omega
  ·injection e with _ e3 e4
   omega
def wU(t:Tn):Prop:=∀(w:World) (ka:Option Addr) (kc:Nat),NT w (·<w.heap.size) ka kc t→
 Calls Tryz.prog 26 #[.agg #[.string t.kind,.string t.word,.int .i64 t.num,.slice ka t.kids.length kc]] w fun e w'=>(∃sa sc,e=.returned (.agg #[.string t.kind,.string t.word,.int .i64 t.num,.slice sa t.kids.length sc])∧NT w' (fun k=>w.heap.size≤k∧k<w'.heap.size) sa sc t)∧Below w.heap.size w w'
theorem JS{t:Tn}(hO:SmT t)(ih:∀(i:Nat) (u:Tn),t.kids[i]?=some u→wU u):wU t:=by
 intro w ka kc hn
 obtain⟨W,hW⟩:∃W,W=((w.alloc (.cells #[.string t.kind,.string t.word,.int .i64 t.num,.slice ka t.kids.length kc] 44)).alloc (.cells #[.string ⟨#[]⟩,.string ⟨#[]⟩,.int .i64 0,.slice none 0 0] 25)).alloc (.cells #[.string t.kind,.string t.word,.int .i64 t.num,.slice none 0 0] 25):=⟨_,rfl⟩
 obtain⟨eb,heb⟩:∃eb,eb=w.heap.size:=⟨_,rfl⟩
 obtain⟨e1,he1⟩:∃e1,e1=w.heap.size+1:=⟨_,rfl⟩
 obtain⟨e2,he2⟩:∃e2,e2=w.heap.size+1+1:=⟨_,rfl⟩
 have hS:FmT w W eb e1 e2 t ka kc (.slice none 0 0) []:=by
  rw[hW,heb,he1,he2]
  refine⟨rfl,by omega,by omega,?_,?_,?_,RowG.nil _ _,fun i p hp=>by simp at hp,?_,hn⟩
  ·rw[Go.Deep.blk_alloc_lt _ _ _ (by simp;omega),Go.Deep.blk_alloc_lt _ _ _ (by simp)]
   exact Go.Deep.blk_alloc_new w _
  ·rw[Go.Deep.blk_alloc_lt _ _ _ (by simp)]
   have:=Go.Deep.blk_alloc_new (w.alloc (.cells #[.string t.kind,.string t.word,.int .i64 t.num,.slice ka t.kids.length kc] 44)) (.cells #[.string ⟨#[]⟩,.string ⟨#[]⟩,.int .i64 0,.slice none 0 0] 25)
   simpa using this
  ·have:=Go.Deep.blk_alloc_new ((w.alloc (.cells #[.string t.kind,.string t.word,.int .i64 t.num,.slice ka t.kids.length kc] 44)).alloc (.cells #[.string ⟨#[]⟩,.string ⟨#[]⟩,.int .i64 0,.slice none 0 0] 25)) (.cells #[.string t.kind,.string t.word,.int .i64 t.num,.slice none 0 0] 25)
   simpa using this
  ·exact(uS _ _).trans (((uS _ _).mono (by simp)).trans ((uS _ _).mono (by simp;omega)))
 have HS:=aA hS
 have HO:=aA hO
 have HI:=aA ih
 have hkl:=hO.of.1
 have HEb:=aA heb
 obtain⟨kn,hkn⟩:∃kn,kn=t.kids.length:=⟨_,rfl⟩
 rw[←hkn] at hkl
 have HK:=aA hkn
 clear hS hO ih hn hkn
 go_enter Tryz.func26,Tryz.ntmps26
 go_upto_region 2 with fail
 rw[←hW,←he2,←he1,←heb]
 clear hW he2 he1 heb
 go_wp2_with fail
 go_loopw [4] (fun i wr=>∃(j:Nat) (v:Value) (l:List (Tn×SlV)),j≤kn∧i=.int .i64 j∧l.length=j∧FmT w wr eb e1 e2 t ka kc v l) (fun i _=>kn - (RowKit.intOf i).toNat)
 case atStart=>exact⟨0,_,[],by omega,rfl,rfl,HS.out⟩
 case round=>
  clear HS
  obtain⟨j,v,l,hj,rfl,hlj,hS⟩:=hrel
  obtain⟨va,vn,vc,rfl,hvn⟩:=hS.row.any3
  have HS:=aA hS
  have HLj:=aA hlj
  have v3:wr.cell? ⟨eb,3,none⟩=some (.slice ka kn kc):=by rw[cell_of_row _ eb 3 _ _ _ hS.b0,HK.out];rfl
  have x0:wr.cell? ⟨e2,0,none⟩=some (.string t.kind):=by rw[cell_of_row _ e2 0 _ _ _ hS.b2];rfl
  have x1:wr.cell? ⟨e2,1,none⟩=some (.string t.word):=by rw[cell_of_row _ e2 1 _ _ _ hS.b2];rfl
  have x2:wr.cell? ⟨e2,2,none⟩=some (.int .i64 t.num):=by rw[cell_of_row _ e2 2 _ _ _ hS.b2];rfl
  have x3:wr.cell? ⟨e2,3,none⟩=some (.slice va vn vc):=by rw[cell_of_row _ e2 3 _ _ _ hS.b2];rfl
  have he2:e2<wr.heap.size:=RI hS.b2
  have hebl:eb<wr.heap.size:=RI hS.b0
  by_cases hlt:j<kn
  ·have c0:decide ((j:Int)<kn)=true:=by simp;omega
   have hjz:(j:Int)<kn:=by omega
   obtain⟨u,hu⟩:∃u,t.kids[j]?=some u:=⟨_,List.getElem?_eq_getElem (by have:=HK.out;omega)⟩
   obtain⟨g,o,ka',kc',rfl,hgw,hyr,hur⟩:=hS.nrw.is.2.2 j u hu
   have y0:=hyr 0 _ rfl
   have y1:=hyr 1 _ rfl
   have y2:=hyr 2 _ rfl
   have y3:=hyr 3 _ rfl
   rw[Nat.add_zero] at y0
   have HC:=aA (HI.out j u hu wr.drew ka' kc' (hur.grow (Below.refl _ wr).drew))
   have HU:=aA hu
   have hB0:e2+1≤wr.heap.size:=he2
   have hl0:l.length+1≤1000000:=by omega
   have HRowD:Hid (∀V,Below wr.heap.size wr V→RowG ntE 25 V (e2+1) (.slice va vn vc) l):=fun V hV=>hS.row.below hV
   clear hS hvn hlj hu hur x0 x1 x2 hyr
   go_upto_region 5 with fail
   go_region_law
    (first
      |(go_simp
        go_at_call 26
        refine HC.out.mono ?_
        rintro e w5 ⟨⟨sa,sc,rfl,hn5⟩,hb5⟩
        have hb6:Below wr.heap.size wr w5:=(Below.refl _ wr).drew.trans hb5
        have x5:=(hb6.cell (p:=⟨e2,3,none⟩) he2).trans x3
        have x6:=UV x5 (.cells #[.string u.kind,.string u.word,.int .i64 u.num,.slice sa u.kids.length sc] 25)
        have hz5:wr.heap.size≤w5.heap.size:=hb6.size
        have hne5:¬e2=w5.heap.size:=by omega
        have hn6:NT w5 (fun k=>wr.heap.size≤k∧k<w5.heap.size) sa sc u:=hn5
        have HN5:=aA (aI hb6 hn6)
        clear hn5 hn6 hb5 hb6)
      |(refine XL (E:=ntE) Tryz.infoNf (by decide) Tryz.underlying23 rfl (.tmp 20) (.tmp 27) rfl (e2+1) (.slice va vn vc) l (u,(⟨sa,u.kids.length,sc⟩:SlV)) _ rfl (by first|(simp[Act.eval];done)|simp[Act.eval,Act.put]) (HRowD.out _ HN5.out.1) (by first|(simp[Act.eval];done)|simp[Act.eval,Act.put]) (by omega) hl0 ?_
        intro v6 w6 hr6 hb6 hk6 hv6
        obtain⟨pa,pn,pc,rfl,hpn⟩:=hr6.any3
        have hpp:=HS.out.push (s:=⟨sa,u.kids.length,sc⟩) (by rw[HLj.out];exact HU.out) HN5.out.1 HN5.out.2 rfl hr6 hb6 hk6 hv6
        have HPp:=aA (aI hpp.2.2 hpn)
        have q0:=hpp.1
        have q1:=hpp.2.1
        clear hr6 hb6 hk6 hv6 hpp hpn))
   all_goals
    go_wp2
    go_roundw
    case rel=>exact⟨j+1,_,_,hlt,by go_num,by rw[List.length_append,HLj.out];rfl,HPp.out.1⟩
    case measure=>simp[RowKit.intOf];omega
  ·have c0:decide ((j:Int)<kn)=false:=by simp;omega
   have hjk:j=kn:=by omega
   have k0:wr.cell? ⟨e1,0,none⟩=some (.string ⟨#[]⟩):=by rw[cell_of_row _ e1 0 _ _ _ hS.b1];rfl
   have k1:wr.cell? ⟨e1,1,none⟩=some (.string ⟨#[]⟩):=by rw[cell_of_row _ e1 1 _ _ _ hS.b1];rfl
   have k2:wr.cell? ⟨e1,2,none⟩=some (.int .i64 0):=by rw[cell_of_row _ e1 2 _ _ _ hS.b1];rfl
   have k3:wr.cell? ⟨e1,3,none⟩=some (.slice none 0 0):=by rw[cell_of_row _ e1 3 _ _ _ hS.b1];rfl
   have kf:∀j,wr.frozen? ⟨e1,j,none⟩=false:=fun j=>frozen_of_row _ e1 _ _ _ hS.b1
   have kf0:=kf 0
   have kf1:=kf 1
   have kf2:=kf 2
   have kf3:=kf 3
   have he1:e1<wr.heap.size:=RI hS.b1
   have HF:Hid (∀x y z q,(vn=t.kids.length∧NT ((((wr.setCell ⟨e1,0,none⟩ x).setCell ⟨e1,1,none⟩ y).setCell ⟨e1,2,none⟩ z).setCell ⟨e1,3,none⟩ q) (fun k=>w.heap.size≤k∧k<((((wr.setCell ⟨e1,0,none⟩ x).setCell ⟨e1,1,none⟩ y).setCell ⟨e1,2,none⟩ z).setCell ⟨e1,3,none⟩ q).heap.size) va vc t)∧Below w.heap.size w ((((wr.setCell ⟨e1,0,none⟩ x).setCell ⟨e1,1,none⟩ y).setCell ⟨e1,2,none⟩ z).setCell ⟨e1,3,none⟩ q)):=fun x y z q=>by
    have hb:=hS.bel
    rw[HEb.out] at hb
    have ho1:=hS.o1
    have ho2:=hS.o2
    have heb:=HEb.out
    refine⟨hS.whole (by rw[HLj.out,hjk];exact HK.out) HO.out (fun k hk _=>?_) (by simp),(((hb.setCell (p:=⟨e1,0,none⟩) (by show w.heap.size≤e1;omega) _).setCell (p:=⟨e1,1,none⟩) (by show w.heap.size≤e1;omega) _).setCell (p:=⟨e1,2,none⟩) (by show w.heap.size≤e1;omega) _).setCell (p:=⟨e1,3,none⟩) (by show w.heap.size≤e1;omega) _⟩
    have hke:k≠e1:=by omega
    rw[Below.heap_setCell _ _ _ _ hke,Below.heap_setCell _ _ _ _ hke,Below.heap_setCell _ _ _ _ hke,Below.heap_setCell _ _ _ _ hke]
   have hvk:vn=t.kids.length:=(HF.out (.bool true) (.bool true) (.bool true) (.bool true)).1.1
   subst hvk
   clear kf hS hvn hlj hjk
   go_wp2
   refine bodyPost_ret (v:=.agg #[.string t.kind,.string t.word,.int .i64 t.num,.slice va t.kids.length vc]) (by simp[results,Tryz.results26,go_sem,k0,k1,k2,k3]) rfl ⟨⟨va,vc,rfl,?_⟩,?_⟩
   ·exact(HF.out _ _ _ _).1.2
   ·exact(HF.out _ _ _ _).2
theorem XV:∀(n:Nat) (t:Tn),SizeOf.sizeOf t=n→SmT t→wU t:=by
 intro n
 induction n using Nat.strongRecOn with
 |ind n ih=>
  intro t hn hO
  exact JS hO fun i u hu=>ih _ (by rw[←hn];exact gE hu) u rfl (hO.of.2 i u hu)
end Go.Proofs.YtehbinobohjadaaGreatDoor

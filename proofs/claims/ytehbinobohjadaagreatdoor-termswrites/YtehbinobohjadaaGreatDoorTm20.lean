import Derived.Test.YtehbinobohjadaaGreatDoorTm00
import Derived.Test.YtehbinobohjadaaGreatDoorTm19
import Derived.Test.YtehbinobohjadaaGreatDoorTm11
set_option maxHeartbeats 20000000
set_option maxRecDepth 20000
namespace Go.Proofs.YtehbinobohjadaaGreatDoor
open Go.RowKit Go.Extern.Stop Go.Stop Go.Extern
theorem Tryz.infoNode:∃i z,Tryz.prog.info? 25=some i∧i.zero=some z∧i.size=4∧i.bytes=64∧z.cells.size=4:=by
 have h:(Tryz.prog.info? 25).map (fun i=>(i.zero.map (fun z=>z.cells.size),i.size,i.bytes))=some (some 4,4,64):=by kernel_rfl
 obtain⟨i,hi,e⟩:=Option.map_eq_some_iff.1 h
 injection e with e1 e2
 injection e2 with e2 e3
 obtain⟨z,hz,e4⟩:=Option.map_eq_some_iff.1 e1
 exact⟨i,z,hi,hz,e2,e3,e4⟩
theorem mL(w:World)(a b c d:Value)(t:TypeId):∀(j:Nat) (u:Value),[a,b,c,d][j]?=some u→(w.alloc (.cells #[a,b,c,d] t)).cell? ((⟨w.heap.size,0,none⟩:Addr).add j)=some u:=by
 intro j u hj
 have h6:(⟨w.heap.size,0,none⟩:Addr).add j=⟨w.heap.size,j,none⟩:=by
  unfold Addr.add
  split
  ·rename_i h0
   rw[h0]
  ·simp
 rw[h6]
 have h1:=BG (rE (W:=w) (g:=w.heap.size) (cs:=#[a,b,c,d]) (t:=t) rfl)
 match j,hj with
 |0,hj=>simp at hj;subst hj;exact h1 0 (by omega)
 |1,hj=>simp at hj;subst hj;exact h1 1 (by omega)
 |2,hj=>simp at hj;subst hj;exact h1 2 (by omega)
 |3,hj=>simp at hj;subst hj;exact h1 3 (by omega)
theorem JL{w:World}{B e s:Nat}{a:Option Addr}{n c:Nat}{xs:List Value}(h:w.ownsRow B e s (.slice a n c) n xs)(hn:0<n):∃g,a=some ⟨g,0,none⟩∧B≤g∧n≤c∧∀i u,xs[i]?=some u→w.cell? ⟨g,i,none⟩=some u:=by
 rcases h.2 with ⟨_,h0⟩|⟨g,cap,cur,e1,hb,_,hc,_⟩
 ·omega
 ·injection e1 with e2 e3 e4
  refine⟨g,e2,hb,by omega,fun i u hu=>?_⟩
  have hrow:=h
  rw[e2] at hrow
  have h5:=hrow.cells (g:=g) rfl i u hu
  have h6:(⟨g,0,none⟩:Addr).add i=⟨g,i,none⟩:=by
   unfold Addr.add
   split
   ·rename_i h0
    rw[h0]
   ·simp
  rw[h6] at h5
  exact h5
theorem NL.twoC{w:World}{P:Nat→Prop}{g kc:Nat}{a b:Nat→Value}{x y:Nd}(h:NL w P a x)(h':NL w P b y)(hg:P g)(hc:∀c,c<4→w.cell? ⟨g,c,none⟩=some (a c))(hc':∀c,c<4→w.cell? ⟨g,4+c,none⟩=some (b c))(hk:2≤kc)(k s:ByteArray)(n:Nat):NL w P (nv (.string k) (.string s) (.int .i64 n) (.slice (some ⟨g,0,none⟩) 2 kc)) (.mk k s n [x,y]):=by
 refine .mk _ _ (some ⟨g,0,none⟩) kc (fun i=>if i=0 then a else b) rfl rfl rfl rfl (fun i hi=>⟨g,0,rfl,hg,fun c hq=>?_⟩) (fun i k e=>?_) hk
 ·have hi:i<2:=hi
  rcases (show i=0∨i=1 by omega) with rfl|rfl
  ·simpa using hc c hq
  ·simpa using hc' c hq
 ·match i,e with
  |0,e=>injection e with e;subst e;exact h
  |1,e=>injection e with e;subst e;exact h'
  |_+2,e=>cases e
theorem EM{L:List Tok}{rp tb f:Nat}(h1:QRule L rp tb 84 (GC L f)):∀(w:World) (k n:Nat),QS L rp tb w k n→k+1<L.length→KB L (f+1) k n≠.out→Calls Tryz.prog 157 #[.pointer (some ⟨rp,0,none⟩)] w fun e w'=>QEnd L rp tb w (KB L (f+1) k n) (fun x v w'=>pH w.heap.size x v w') e w':=by
 intro w k n h hmore hn
 have lo:=h.lows
 obtain⟨R,hR⟩:∃R,R=KB L (f+1) k n:=⟨_,rfl⟩
 rw[←hR] at hn ⊢
 rw[KB] at hR
 obtain⟨W1,hW1⟩:∃W1,W1=w.alloc (.cells #[.string ⟨#[]⟩,.string ⟨#[]⟩,.int .i64 0,.slice none 0 0] 25):=⟨_,rfl⟩
 have hst:StartQ w W1:=by rw[hW1];exact StartQ.new w
 have HX:=aA hW1
 have HNo:=aA hn
 have HL:=aA lo
 have HQ1:=aA (aI (h.below hst.bel) (aI (Below.x hst.bel rp (nR _)) (aI hst.blk True.intro)))
 have hs1:=hst.lt
 have hrp:=lo.r
 have hq1:=h.below hst.bel
 clear h hW1 hst hn lo
 have H1:=aA h1
 have HR:=aA hR
 have HE:=yH (L:=L) (rp:=rp) (tb:=tb)
 have HD:=sG (L:=L) (rp:=rp) (tb:=tb) ⟨#[40]⟩ (by decide)
 have HC:=sG (L:=L) (rp:=rp) (tb:=tb) ⟨#[44]⟩ (by decide)
 have HLv:=GI (L:=L) (rp:=rp) (tb:=tb) ⟨#[41]⟩ (by decide)
 obtain⟨i0,iz,hi0⟩:=Tryz.infoNode
 have HI:=aA hi0
 unfold sg at HR
 clear hq1 hR h1 hi0
 go_enter Tryz.func157,Tryz.ntmps157
 go_upto_region 2 with (rw[←HX.out];go_at_call 141;refine(HE.out _ _ _ HQ1.out.1 hmore).mono ?_;rintro e W2 hE;rcases hr:TB L k n with _|⟨c,a⟩|⟨x1,k1,n1⟩;(·exact absurd hr NE);(·rw[hr] at hE;obtain⟨hb,⟨p,rfl⟩⟩:=hE;obtain rfl:R=.bad c a:=(by rw[HR.out,hr,PR.bind_bad]);exact(show _∧_ from⟨rfl,HQ1.out.2.1.then hb HQ1.out.2.1.size,⟨_,rfl⟩⟩));rw[hr] at hE;obtain⟨hb,hq,v,rfl,rfl⟩:=hE;rw[hr,PR.bind_ok] at HR;have hs2:=hb.size;have HW2:=aA (aI hq (aI (HQ1.out.2.1.then hb HQ1.out.2.1.size) (aI ((hb.block _ (hs1) (by omega)).trans HQ1.out.2.2.1) True.intro)));have EW2:=aA hr;clear hb hq hr)
 obtain⟨V2,hV2⟩:∃V2,V2=W2.alloc (.cells #[.string x1,.string ⟨#[]⟩,.int .i64 0,.slice none 0 0] 25):=⟨_,rfl⟩
 rw[←hV2]
 have hb2:Below W2.heap.size W2 V2:=by rw[hV2];exact bA _ _
 have hn2:V2.heap[W2.heap.size]?=some (.cells #[.string x1,.string ⟨#[]⟩,.int .i64 0,.slice none 0 0] 25 (0,0)):=by rw[hV2];exact heap_alloc_new _ _
 have hl2:W2.heap.size<V2.heap.size:=by rw[hV2];simp
 have HV2:=aA (aI (HW2.out.1.below hb2) (aI (HW2.out.2.1.then (Below.x hb2 rp (nR _)) HW2.out.2.1.size) (aI hn2 (aI ((hb2.block _ (by omega)).trans HW2.out.2.2.1) True.intro))))
 generalize W2.heap.size=g3 at *
 clear hV2 hb2 hn2 HW2
 go_upto_region 3 with (go_at_call 39;refine(HD.out _ _ _ HV2.out.1).mono ?_;rintro e W3 hE;rcases hr:bB L ⟨#[40]⟩ k1 n1 with _|⟨c,a⟩|⟨x2,k2,n2⟩;(·exact absurd hr bC);(·rw[hr] at hE;obtain⟨hb,⟨p,rfl⟩⟩:=hE;obtain rfl:R=.bad c a:=(by rw[HR.out,hr,PR.bind_bad]);exact(show _∧_ from⟨rfl,HV2.out.2.1.then hb HV2.out.2.1.size,⟨_,rfl⟩⟩));rw[hr] at hE;obtain⟨hb,hq,v,rfl,rfl⟩:=hE;rw[hr,PR.bind_ok] at HR;have hs3:=hb.size;have HW3:=aA (aI hq (aI (HV2.out.2.1.then hb HV2.out.2.1.size) (aI ((hb.block _ (by omega) (by omega)).trans HV2.out.2.2.1) (aI ((hb.block _ (by omega) (by omega)).trans HV2.out.2.2.2.1) True.intro))));have EW3:=aA hr;clear hb hq hr)
 clear HV2
 have HS2:=aA (fun (V:World) (hb:Below W3.heap.size W3 V)=>H1.out.at HW3.out.1 (PR.bind_not (HR.out▸HNo.out)) hb)
 obtain⟨z0,z1,z2,z3,zf⟩:=tA HW3.out.2.2.1
 go_region_law
  (first
    |(go_simp;go_at_call 84;refine(HS2.out _ ?_).mono ?_;(·first|exact Below.refl _ _|exact(Below.refl _ _).drew|exact ME (Below.refl _ _) _);rintro e W4 hE;rcases hr:GC L f k2 n2 with _|⟨c,a⟩|⟨x3,k3,n3⟩;(·exact absurd hr (PR.bind_not (HR.out▸HNo.out)));(·rw[hr] at hE;obtain⟨hb,⟨p,rfl⟩⟩:=hE;obtain rfl:R=.bad c a:=(by rw[HR.out,hr,PR.bind_bad]);exact(show _∧_ from⟨rfl,HW3.out.2.1.then hb HW3.out.2.1.size,⟨_,rfl⟩⟩));rw[hr] at hE;obtain⟨hb,hq,v,rfl,s0,s1,s2,sa,sn,sc,rfl,hN⟩:=hE;rw[hr,PR.bind_ok] at HR;have hs4:=hb.size;have h3':=(hb.block g3 (by omega) (by omega)).trans HW3.out.2.2.1;have HW4:=aA (aI hq (aI (HW3.out.2.1.then hb HW3.out.2.1.size) (aI h3' (aI ((hb.block w.heap.size (by omega) (by omega)).trans HW3.out.2.2.2.1) hN))));have EW4:=aA hr;obtain⟨y0,y1,y2,y3,yf⟩:=tA h3';have y3a:=(((Below.refl W4.heap.size W4).alloc (nR _) (.cells #[.string s0,.string s1,.int .i64 s2,.slice sa sn sc] 25)).cell (p:=⟨g3,3,none⟩) (show g3<W4.heap.size by omega)).trans y3;clear hb hq hr hN h3')
    |(refine eD rfl (.tmp 10) (.tmp 13) 23 rfl (g3+1) 25 i0 iz 4 64 Tryz.underlying23 HI.out.1 HI.out.2.1 HI.out.2.2.1 HI.out.2.2.2.1 HI.out.2.2.2.2 (by decide) (.slice none 0 0) 0 [] (by first|(simp[Act.eval];done)|simp[Act.eval,Act.put]) ⟨rfl,.inl ⟨rfl,rfl⟩⟩ ⟨W4.heap.size,0,none⟩ 1 1 [.string s0,.string s1,.int .i64 s2,.slice sa sn sc] (by first|(simp[Act.eval];done)|simp[Act.eval,Act.put]) rfl (mL _ _ _ _ _ _) (by intro u hu;simp only[List.mem_cons,List.not_mem_nil,or_false] at hu;rcases hu with rfl|rfl|rfl|rfl<;>rfl) (by decide) (by unfold maxLen;omega) (by omega) (by simp;omega) ?_
      intro v' W5 ho hg hw
      obtain⟨va,vc,hv'⟩:=pE ho
      subst hv'
      have hva:va=some ⟨W4.heap.size+1,0,none⟩:=by
       obtain⟨g9,e9,_⟩:=JL ho (by omega)
       rw[e9] at hw ⊢
       rcases hw with hw|hw
       ·cases hw
       ·simp[Value.ownBlock] at hw
        rw[hw]
      subst hva
      have hb5:Below W4.heap.size W4 W5:=(bA _ _).grown hg (by simp) (fun k hk=>by cases hk)
      have hs5:W4.heap.size+2≤W5.heap.size:=by have:=hg.size;simp at this;have h9:W4.heap.size+1<W5.heap.size:=(ho.lt _ rfl).2;omega
      have h3':=(hb5.block g3 (by omega)).trans HW4.out.2.2.1
      have HW5:=aA (aI (HW4.out.1.below hb5) (aI (HW4.out.2.1.then (Below.x hb5 rp (nR _)) HW4.out.2.1.size) (aI h3' (aI ((hb5.block w.heap.size (by omega)).trans HW4.out.2.2.2.1) (aI (HW4.out.2.2.2.2.step (w':=W5) (P':=fun b=>w.heap.size<b∧b≠g3∧b<W4.heap.size) fun b hb hp=>⟨hb5.block b hb,by omega,by omega,hb⟩) ho)))))
      obtain⟨x0,x1',x2',x3',xf⟩:=tA h3'
      clear ho hg hw hb5 h3'))
 all_goals (
  obtain⟨V5,hV5⟩:∃V5,V5=W5.setCell ⟨g3,3,none⟩ (.slice (some ⟨W4.heap.size+1,0,none⟩) 1 vc):=⟨_,rfl⟩
  rw[←hV5]
  have hb5:∀b,b≠g3→V5.heap[b]?=W5.heap[b]?:=fun b hb=>by rw[hV5];exact Below.heap_setCell _ _ _ _ hb
  have hn5:V5.heap[g3]?=some (.cells #[.string x1,.string ⟨#[]⟩,.int .i64 0,.slice (some ⟨W4.heap.size+1,0,none⟩) 1 vc] 25 (0,0)):=by rw[hV5,LA HW5.out.2.2.1 _];simp
  have hz5:V5.heap.size=W5.heap.size:=by rw[hV5];simp
  have hB5:Below w.heap.size W5 V5:=by rw[hV5];exact(Below.refl _ _).setCell (by show w.heap.size≤g3;omega) _
  have HV5:=aA (aI (HW5.out.1.keep HL.out fun b hb=>hb5 b (by omega)) (aI (HW5.out.2.1.then (Below.x hB5 rp (nR _)) (nR _)) (aI hn5 (aI ((hb5 _ (by omega)).trans HW5.out.2.2.2.1) (aI (HW5.out.2.2.2.2.1.step (w':=V5) (P':=fun b=>w.heap.size<b∧b≠g3∧b<W4.heap.size) fun b hb hp=>⟨hb5 b hp.2.1,hp⟩) (mC HW5.out.2.2.2.2.2 fun g hg _=>hb5 g (by have:=(HW5.out.2.2.2.2.2.lt g hg).1;omega)))))))
  have hl4:g3<W4.heap.size:=by omega
  generalize hc0:W4.heap.size=c0 at *
  clear hV5 hb5 hn5 hB5 HW5 z0 z1 z2 z3 zf y0 y1 y2 y3 yf y3a x0 x1' x2' x3' xf HW4 HS2
  go_upto_region 5 with (go_at_call 39;refine(HC.out _ _ _ HV5.out.1).mono ?_;rintro e W6 hE;rcases hr:bB L ⟨#[44]⟩ k3 n3 with _|⟨c,a⟩|⟨x4,k4,n4⟩;(·exact absurd hr bC);(·rw[hr] at hE;obtain⟨hb,⟨p,rfl⟩⟩:=hE;obtain rfl:R=.bad c a:=(by rw[HR.out,hr,PR.bind_bad]);exact(show _∧_ from⟨rfl,HV5.out.2.1.then hb HV5.out.2.1.size,⟨_,rfl⟩⟩));rw[hr] at hE;obtain⟨hb,hq,v,rfl,rfl⟩:=hE;rw[hr,PR.bind_ok] at HR;have hs6:=hb.size;have HW6:=aA (aI hq (aI (HV5.out.2.1.then hb HV5.out.2.1.size) (aI ((hb.block _ (by omega) (by omega)).trans HV5.out.2.2.1) (aI ((hb.block _ (by omega) (by omega)).trans HV5.out.2.2.2.1) True.intro))));have EW6:=aA hr;have HN6:=aA (aI (HV5.out.2.2.2.2.1.step (w':=W6) (P':=fun b=>w.heap.size<b∧b≠g3∧b<c0) fun b hb' hp=>⟨hb.block b hb' (by omega),hp⟩) (mC HV5.out.2.2.2.2.2 fun g hg hl=>hb.block g hl (by have:=(HV5.out.2.2.2.2.2.lt g hg).1;omega)));clear hb hq hr)
  clear HV5
  have HS7:=aA (fun (V:World) (hb:Below W6.heap.size W6 V)=>H1.out.at HW6.out.1 (PR.bind_not (HR.out▸HNo.out)) hb)
  obtain⟨z0,z1,z2,z3,zf⟩:=tA HW6.out.2.2.1
  go_region_law
   (first
     |(go_simp;go_at_call 84;refine(HS7.out _ ?_).mono ?_;(·first|exact Below.refl _ _|exact(Below.refl _ _).drew|exact ME (Below.refl _ _) _);rintro e W7 hE;rcases hr:GC L f k4 n4 with _|⟨c,a⟩|⟨x5,k5,n5⟩;(·exact absurd hr (PR.bind_not (HR.out▸HNo.out)));(·rw[hr] at hE;obtain⟨hb,⟨p,rfl⟩⟩:=hE;obtain rfl:R=.bad c a:=(by rw[HR.out,hr,PR.bind_bad]);exact(show _∧_ from⟨rfl,HW6.out.2.1.then hb HW6.out.2.1.size,⟨_,rfl⟩⟩));rw[hr] at hE;obtain⟨hb,hq,v,rfl,t0,t1,t2,ta,tn,tc,rfl,hN⟩:=hE;rw[hr,PR.bind_ok] at HR;have hs7:=hb.size;have h3':=(hb.block g3 (by omega) (by omega)).trans HW6.out.2.2.1;have HW7:=aA (aI hq (aI (HW6.out.2.1.then hb HW6.out.2.1.size) (aI h3' (aI ((hb.block w.heap.size (by omega) (by omega)).trans HW6.out.2.2.2.1) (aI (hN.step (w':=W7) (P':=fun b=>W6.heap.size≤b∧b<W7.heap.size) fun b hb' hp=>⟨rfl,hp,hb'⟩) (aI (HN6.out.1.step (w':=W7) (P':=fun b=>w.heap.size<b∧b≠g3∧b<c0) fun b hb' hp=>⟨hb.block b hb' (by omega),hp⟩) (mC HN6.out.2 fun g hg hl=>hb.block g hl (by have:=(HN6.out.2.lt g hg).1;omega))))))));have EW7:=aA hr;obtain⟨y0,y1,y2,y3,yf⟩:=tA h3';have y3a:=(((Below.refl W7.heap.size W7).alloc (nR _) (.cells #[.string t0,.string t1,.int .i64 t2,.slice ta tn tc] 25)).cell (p:=⟨g3,3,none⟩) (show g3<W7.heap.size by omega)).trans y3;clear hb hq hr hN h3')
     |(refine eD rfl (.tmp 19) (.tmp 22) 23 rfl (g3+1) 25 i0 iz 4 64 Tryz.underlying23 HI.out.1 HI.out.2.1 HI.out.2.2.1 HI.out.2.2.2.1 HI.out.2.2.2.2 (by decide) (.slice (some ⟨c0+1,0,none⟩) 1 vc) 1 [.string s0,.string s1,.int .i64 s2,.slice sa sn sc] (by first|(simp[Act.eval];done)|simp[Act.eval,Act.put]) (mC HW7.out.2.2.2.2.2.2 fun g _ hl=>(bA _ _).block g hl) ⟨W7.heap.size,0,none⟩ 1 1 [.string t0,.string t1,.int .i64 t2,.slice ta tn tc] (by first|(simp[Act.eval];done)|simp[Act.eval,Act.put]) rfl (mL _ _ _ _ _ _) (by intro u hu;simp only[List.mem_cons,List.not_mem_nil,or_false] at hu;rcases hu with rfl|rfl|rfl|rfl<;>rfl) (by decide) (by unfold maxLen;omega) (by omega) (by simp;omega) ?_
       intro v' W8 ho hg hw
       obtain⟨va,vc2,hv'⟩:=pE ho
       subst hv'
       obtain⟨g9,e9,hg9,hcap,hcell⟩:=JL ho (by omega)
       subst e9
       have hs8:W7.heap.size<W8.heap.size:=by have:=hg.size;simp at this;omega
       have hb8:∀b,b<W7.heap.size→b≠c0+1→W8.heap[b]?=W7.heap[b]?:=fun b hb hne=>(hg.block b (by simp;omega) (by intro e;injection e with e;exact hne e)).trans ((bA _ _).block b hb)
       have hB8:Below w.heap.size W7 W8:=⟨by rw[hg.os];rfl,by rw[hg.tape];rfl,by rw[hg.output];rfl,by omega,fun b hb=>hb8 b (by omega) (by omega)⟩
       have h3':=(hb8 g3 (by omega) (by omega)).trans HW7.out.2.2.1
       have HW8:=aA (aI (HW7.out.1.keep HL.out fun b hb=>hB8.block b hb) (aI (HW7.out.2.1.then (Below.x hB8 rp (nR _)) (nR _)) (aI h3' (aI ((hb8 w.heap.size (by omega) (by omega)).trans HW7.out.2.2.2.1) True.intro))))
       have hNN:NL W8 (fun b=>w.heap.size<b∧b≠g3) (nv (.string x1) (.string ⟨#[]⟩) (.int .i64 0) (.slice (some ⟨g9,0,none⟩) 2 vc2)) (.mk x1 ⟨#[]⟩ 0 [x3,x5]):=NL.twoC (a:=nv (.string s0) (.string s1) (.int .i64 s2) (.slice sa sn sc)) (b:=nv (.string t0) (.string t1) (.int .i64 t2) (.slice ta tn tc)) (HW7.out.2.2.2.2.2.1.step fun b hb hp=>⟨hb8 b hb (by omega),hp.1,hp.2.1⟩) (HW7.out.2.2.2.2.1.step fun b hb hp=>⟨hb8 b hb (by omega),by omega,by omega⟩) ⟨by omega,by omega⟩ (fun c hc=>hcell c _ (by rcases (show c=0∨c=1∨c=2∨c=3 by omega) with rfl|rfl|rfl|rfl<;>rfl)) (fun c hc=>hcell (4+c) _ (by rcases (show c=0∨c=1∨c=2∨c=3 by omega) with rfl|rfl|rfl|rfl<;>rfl)) hcap x1 ⟨#[]⟩ 0
       have HN8:=aA hNN
       obtain⟨x0,x1',x2',x3',xf⟩:=tA h3'
       clear ho hg hw hcell hb8 hB8 h3' hNN))
  all_goals (
   obtain⟨V8,hV8⟩:∃V8,V8=W8.setCell ⟨g3,3,none⟩ (.slice (some ⟨g9,0,none⟩) 2 vc2):=⟨_,rfl⟩
   rw[←hV8]
   have hb8:∀b,b≠g3→V8.heap[b]?=W8.heap[b]?:=fun b hb=>by rw[hV8];exact Below.heap_setCell _ _ _ _ hb
   have hn8:V8.heap[g3]?=some (.cells #[.string x1,.string ⟨#[]⟩,.int .i64 0,.slice (some ⟨g9,0,none⟩) 2 vc2] 25 (0,0)):=by rw[hV8,LA HW8.out.2.2.1 _];simp
   have hz8:V8.heap.size=W8.heap.size:=by rw[hV8];simp
   have hB8:Below w.heap.size W8 V8:=by rw[hV8];exact(Below.refl _ _).setCell (by show w.heap.size≤g3;omega) _
   have HV8:=aA (aI (HW8.out.1.keep HL.out fun b hb=>hb8 b (by omega)) (aI (HW8.out.2.1.then (Below.x hB8 rp (nR _)) (nR _)) (aI hn8 (aI ((hb8 _ (by omega)).trans HW8.out.2.2.2.1) (HN8.out.step (w':=V8) (P':=fun b=>w.heap.size<b) fun b hb hp=>⟨hb8 b hp.2,hp.1⟩)))))
   have hn5:1≤n5:=by rw[(YF L f).su _ _ _ _ _ EW7.out,EE EW6.out,(YF L f).su _ _ _ _ _ EW4.out,EE EW3.out,yD EW2.out];omega
   clear hV8 hb8 hn8 hB8 HW8 z0 z1 z2 z3 zf y0 y1 y2 y3 yf y3a x0 x1' x2' x3' xf HW7 HS7 HN8
   go_wp2_with (go_at_call 151;refine(HLv.out _ _ _ HV8.out.1 hn5).mono ?_;rintro e W9 hE;rcases hr:dC L ⟨#[41]⟩ k5 n5 with _|⟨c,a⟩|⟨x6,k6,n6⟩;(·exact absurd hr OF);(·rw[hr] at hE;obtain⟨hb,⟨p,rfl⟩⟩:=hE;obtain rfl:R=.bad c a:=(by rw[HR.out,hr,PR.bind_bad]);exact(show _∧_ from⟨rfl,HV8.out.2.1.then hb HV8.out.2.1.size,⟨_,rfl⟩⟩));rw[hr] at hE;obtain⟨hb,hq,v,rfl,rfl⟩:=hE;rw[hr,PR.bind_ok] at HR;have hs9:=hb.size;have HW9:=aA (aI hq (aI (HV8.out.2.1.then hb HV8.out.2.1.size) (aI ((hb.block _ (by omega) (by omega)).trans HV8.out.2.2.1) (aI ((hb.block _ (by omega) (by omega)).trans HV8.out.2.2.2.1) True.intro))));have EW9:=aA hr;obtain⟨z0,z1,z2,z3,zf⟩:=tA HW9.out.2.2.1;obtain⟨q0,q1,q2,q3,qf⟩:=tA HW9.out.2.2.2.1;have HN9:=aA (HV8.out.2.2.2.2.step (w':=W9) (P':=fun b=>w.heap.size<b) fun b hb' hp=>⟨hb.block b hb' (by omega),hp⟩);clear hb hq hr)
   obtain⟨q0,q1,q2,q3,qf⟩:=tA HW9.out.2.2.2.1
   refine bodyPost_ret (v:=.agg #[.string x1,.string ⟨#[]⟩,.int .i64 0,.slice (some ⟨g9,0,none⟩) 2 vc2]) (by simp[results,Tryz.results157,go_sem,q0,q1,q2,q3]) rfl ?_
   obtain rfl:=HR.out
   exact VD HL.out HW9.out.2.1 HW9.out.1 HN9.out))
end Go.Proofs.YtehbinobohjadaaGreatDoor

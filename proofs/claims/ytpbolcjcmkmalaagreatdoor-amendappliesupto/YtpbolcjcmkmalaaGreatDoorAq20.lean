import Derived.Test.YtpbolcjcmkmalaaGreatDoorAq00
import Derived.Test.YtpbolcjcmkmalaaGreatDoorAq19
set_option maxHeartbeats 20000000
set_option maxRecDepth 20000
namespace Go.Proofs.YtpbolcjcmkmalaaGreatDoor
open Go.RowKit Go.Extern.Stop Go.Stop Go.Extern
def JA(path:ByteArray)(x t:It):It:=if path.toList==[] then x else lB [x] (cA path) t
theorem UH{path:ByteArray}(h:(path.toList==[])=false):∃p r,cA path=p::r:=by
 cases hp:cA path with
 |cons p r=>exact⟨p,r,rfl⟩
 |nil=>
  exfalso
  unfold cA at hp
  split at hp
  ·rename_i h0
   have e:path=⟨#[]⟩:=by
    cases path with
    |mk a=>
     have h1:a=#[]:=Array.eq_empty_of_size_eq_zero h0
     rw[h1]
   rw[e] at h
   simp[ByteArray.toList,ByteArray.toList.loop,ByteArray.size] at h
  ·exact qC (bl path) (List.map_eq_nil_iff.1 hp)
structure WithS(w W:World)(a b:Array Value):Prop where
 l:W.heap[w.heap.size]?=some (.cells a 25 (0,0))
 x:W.heap[w.heap.size+1]?=some (.cells b 25 (0,0))
 r:W.heap[w.heap.size+1+1]?=some (.cells #[.string ⟨#[]⟩,.string ⟨#[]⟩,.slice none 0 0,.slice none 0 0] 25 (0,0))
 sz:W.heap.size=w.heap.size+3
 bel:Below w.heap.size w W
theorem WithS.start(w:World)(a b:Array Value):WithS w (((w.alloc (.cells a 25)).alloc (.cells b 25)).alloc (.cells #[.string ⟨#[]⟩,.string ⟨#[]⟩,.slice none 0 0,.slice none 0 0] 25)) a b:=by
 have e1:=OC w (.cells a 25) (.cells b 25)
 have e2:((w.alloc (.cells a 25)).alloc (.cells b 25)).heap.size=w.heap.size+2:=by simp
 refine⟨?_,?_,?_,by simp,((bA _ _).alloc (by simp) _).alloc (by simp;omega) _⟩
 ·rw[Below.heap_alloc _ _ _ (by omega)];exact e1.1
 ·rw[Below.heap_alloc _ _ _ (by omega)];exact e1.2
 ·have h:=heap_alloc_new ((w.alloc (.cells a 25)).alloc (.cells b 25)) (.cells #[.string ⟨#[]⟩,.string ⟨#[]⟩,.slice none 0 0,.slice none 0 0] 25)
  rw[e2] at h;exact h
theorem WithS.on{w W W':World}{a b:Array Value}(h:WithS w W a b)(hb:Below W.heap.size W W'):W'.heap[w.heap.size]?=some (.cells a 25 (0,0))∧W'.heap[w.heap.size+1]?=some (.cells b 25 (0,0))∧W'.heap[w.heap.size+1+1]?=some (.cells #[.string ⟨#[]⟩,.string ⟨#[]⟩,.slice none 0 0,.slice none 0 0] 25 (0,0)):=by
 have:=h.sz
 exact⟨(hb.block _ (by omega)).trans h.l,(hb.block _ (by omega)).trans h.x,(hb.block _ (by omega)).trans h.r⟩
theorem PQ(W:World)(n:Nat)(x0 x1 x2 x3:Value)(b:Nat)(h:b≠n):((((W.setCell ⟨n,0,none⟩ x0).setCell ⟨n,1,none⟩ x1).setCell ⟨n,2,none⟩ x2).setCell ⟨n,3,none⟩ x3).heap[b]?=W.heap[b]?:=by
 rw[Below.heap_setCell _ _ _ _ h,Below.heap_setCell _ _ _ _ h,Below.heap_setCell _ _ _ _ h,Below.heap_setCell _ _ _ _ h]
theorem iM{w W:World}(h:Below w.heap.size w W)(n:Nat)(hn:w.heap.size≤n)(x0 x1 x2 x3:Value):Below w.heap.size w ((((W.setCell ⟨n,0,none⟩ x0).setCell ⟨n,1,none⟩ x1).setCell ⟨n,2,none⟩ x2).setCell ⟨n,3,none⟩ x3):=
 (((h.setCell (p:=⟨n,0,none⟩) hn _).setCell (p:=⟨n,1,none⟩) hn _).setCell (p:=⟨n,2,none⟩) hn _).setCell (p:=⟨n,3,none⟩) hn _
set_option maxRecDepth 10000 in
theorem EC(P:Nat→Prop)(path:ByteArray)(hp:path.size≤100000)(t x:It)(v u:Nat→Value)(w:World)(hL:Lies w P v t)(hx:Lies w P u x)(hs:jA t≤4194304):
 Calls Tryz.prog 40 #[.agg #[v 0,v 1,v 2,v 3],.string path,.agg #[u 0,u 1,u 2,u 3]] w (RpOut P w (JA path x t)):=by
 obtain⟨f0,f1,⟨la,lc,f2⟩,⟨ka,kc,f3⟩⟩:=hL.forms
 obtain⟨g0,g1,⟨ma,mc,g2⟩,⟨na,nc,g3⟩⟩:=hx.forms
 have HL:=aA (hL.inn.vals f0 f1 f2 f3)
 have HX:=aA (hx.inn.vals g0 g1 g2 g3)
 rw[f0,f1,f2,f3,g0,g1,g2,g3]
 clear hL hx f0 f1 f2 f3 g0 g1 g2 g3
 generalize t.label=t0 at *
 generalize t.head=t1 at *
 generalize t.lines.length=t2 at *
 generalize t.kids.length=t3 at *
 generalize x.label=x0 at *
 generalize x.head=x1 at *
 generalize x.lines.length=x2 at *
 generalize x.kids.length=x3 at *
 have HW:=aA (WithS.start w #[.string t0,.string t1,.slice la t2 lc,.slice ka t3 kc] #[.string x0,.string x1,.slice ma x2 mc,.slice na x3 nc])
 go_enter Tryz.func40,Tryz.ntmps40
 go_upto_region 1 with fail
 obtain⟨W3,hW3⟩:∃W3,W3=((w.alloc (.cells #[.string t0,.string t1,.slice la t2 lc,.slice ka t3 kc] 25)).alloc (.cells #[.string x0,.string x1,.slice ma x2 mc,.slice na x3 nc] 25)).alloc (.cells #[.string ⟨#[]⟩,.string ⟨#[]⟩,.slice none 0 0,.slice none 0 0] 25):=⟨_,rfl⟩
 rw[←hW3] at HW
 rw[←hW3]
 clear hW3
 have hsz1:w.heap.size+3≤W3.heap.size:=by have:=HW.out.sz;omega
 have hsz2:W3.heap.size≤w.heap.size+3:=by have:=HW.out.sz;omega
 obtain⟨l0,l1,l2,l3,lf⟩:=gA HW.out.l
 obtain⟨m0,m1,m2,m3,mf⟩:=gA HW.out.x
 obtain⟨r0,r1,r2,r3,rf⟩:=gA HW.out.r
 cases he:(path.toList==[])
 ·obtain⟨p,r,hpr⟩:=UH he
  have hpn:=jB path
  rw[hpr,List.length_cons] at hpn
  have HT:Hid (JA path x t=lB [x] (p::r) t):=by show _=_;unfold JA;rw[he,hpr];rfl
  have HPa:Hid (∀W:World,Below W3.heap.size W3 W→Calls Tryz.prog 44 #[.string path] W fun e w'=>∃pa pc,e=.returned (.slice pa (r.length+1) pc)∧WayIs w' pa (p::r)∧r.length+1≤pc∧Below W.heap.size W w'):=fun W hW=>by
   refine(wC path hp W).mono ?_
   rintro e w4 ⟨⟨pv,rfl,hrow⟩,hb4⟩
   rw[hpr] at hrow
   obtain⟨pa,pc,rfl⟩:=tA hrow
   refine⟨pa,pc,rfl,⟨fun i s hs=>?_⟩,zB hrow,hb4⟩
   obtain⟨g,e1,e2,e3,e4⟩:=LC hrow hs
   exact⟨g,0,e1,e3,by rw[Nat.zero_add];exact e4⟩
  have HC:Hid (∀(W:World) (xb:Nat) (pa:Option Addr) (pc:Nat),Below W3.heap.size W3 W→WayIs W pa (p::r)→r.length+1≤pc→W.heap[xb]?=some (.cells #[.string x0,.string x1,.slice ma x2 mc,.slice na x3 nc] 25 (0,0))→Calls Tryz.prog 46 #[.agg #[.string t0,.string t1,.slice la t2 lc,.slice ka t3 kc],.slice pa (r.length+1) pc,.slice (some ⟨xb,0,none⟩) 1 1] W fun e w'=>∃v6:Nat→Value,e=.returned (.agg #[v6 0,v6 1,v6 2,v6 3])∧Lies w' (fun k=>(P k∧k<w.heap.size)∨w.heap.size+3≤k) v6 (JA path x t)∧Below W3.heap.size W3 w'):=fun W xb pa pc hW hw hpc hxb=>by
   have hb:=HW.out.bel.trans (hW.mono (by omega))
   have hsW:=hW.size
   obtain⟨q0,q1,q2,q3,_⟩:=gA hxb
   have h5:=KF (fun k=>P k∧k<w.heap.size) [x] (some ⟨xb,0,none⟩) 1 (fun _=>wA (.string x0) (.string x1) (.slice ma x2 mc) (.slice na x3 nc)) r p t _ W pa pc (HL.out.bel hb) hw hpc (by omega) ⟨by simp,fun i hi=>⟨xb,0,rfl,lt_of_block hxb,fun c hc=>?_⟩,fun i y hy=>?_⟩ hs
   ·refine h5.mono ?_
    rintro e w6 ⟨⟨v6,rfl,hL6⟩,hb6⟩
    refine⟨v6,rfl,?_,hW.trans (hb6.mono hsW)⟩
    rw[HT.out]
    exact hL6.step fun b _ hp=>⟨rfl,hp.imp id fun h=>by omega⟩
   ·obtain rfl:i=0:=by simpa using hi
    match c,hc with
    |0,_=>exact q0
    |1,_=>exact q1
    |2,_=>exact q2
    |3,_=>exact q3
   ·cases i with
    |zero=>obtain rfl:x=y:=by simpa using hy
           exact HX.out.bel hb
    |succ i=>simp at hy
  clear HT hpr
  generalize r.length=rn at *
  obtain⟨e1,e2,_⟩:=HW.out.on (W':=W3.drew.alloc (.cells #[.string x0,.string x1,.slice ma x2 mc,.slice na x3 nc] 25)) ((Below.refl _ _).drew.alloc (nR _) _)
  obtain⟨a0,a1,a2,a3,af⟩:=gA e1
  obtain⟨b0,b1,b2,b3,bf⟩:=gA e2
  clear e1 e2
  obtain⟨e1,e2,_⟩:=HW.out.on (W':=W3.alloc (.cells #[.string x0,.string x1,.slice ma x2 mc,.slice na x3 nc] 25)) (bA _ _)
  obtain⟨a0',a1',a2',a3',af'⟩:=gA e1
  obtain⟨b0',b1',b2',b3',bf'⟩:=gA e2
  clear e1 e2
  have n0:w.heap.size≠W3.heap.size:=by omega
  have n1:w.heap.size+1≠W3.heap.size:=by omega
  have n2:w.heap.size+1+1≠W3.heap.size:=by omega
  have n3:W3.heap.size≠w.heap.size:=by omega
  have n4:W3.heap.size≠w.heap.size+1:=by omega
  go_wp2_with fail
  go_region_with
   (first
     |(go_at_call 44
       first
        |(refine(HPa.out W3.drew ⟨rfl,rfl,rfl,nR _,fun _ _=>rfl⟩).mono ?_
          rintro e w4 ⟨pa,pc,rfl,hw4,hpc,hb4⟩
          have HB4:Hid (Below W3.heap.size W3 w4):=⟨hb4.1,hb4.2,hb4.3,hb4.4,hb4.5⟩
          have HB5:Hid (Below W3.heap.size W3 (w4.alloc (.cells #[.string x0,.string x1,.slice ma x2 mc,.slice na x3 nc] 25))):=HB4.out.alloc HB4.out.size _
          have HW5:Hid (WayIs (w4.alloc (.cells #[.string x0,.string x1,.slice ma x2 mc,.slice na x3 nc] 25)) pa (p::r)):=hw4.on (bA _ _)
          have hx5:=heap_alloc_new w4 (.cells #[.string x0,.string x1,.slice ma x2 mc,.slice na x3 nc] 25)
          obtain⟨k1,k2,k3⟩:=HW.out.on HB4.out
          obtain⟨l0',l1',l2',l3',lf'⟩:=gA k1
          obtain⟨m0',m1',m2',m3',mf'⟩:=gA k2
          have hs4:W3.heap.size≤w4.heap.size:=HB4.out.size
          obtain⟨e1,e2,_⟩:=HW.out.on HB5.out
          obtain⟨d0,d1,d2,d3,df⟩:=gA e1
          obtain⟨c0,c1,c2,c3,cf⟩:=gA e2
          clear e1 e2
          have q0:w.heap.size≠w4.heap.size:=by omega
          have q1:w.heap.size+1≠w4.heap.size:=by omega
          clear hw4 hb4 k1 k2 k3 hs4)
        |(refine(HPa.out (W3.drew.alloc (.cells #[.string x0,.string x1,.slice ma x2 mc,.slice na x3 nc] 25)) ((Below.refl _ _).drew.alloc (nR _) _)).mono ?_
          rintro e w5 ⟨pa,pc,rfl,hw5,hpc,hb5⟩
          have HB5:Hid (Below W3.heap.size W3 w5):=((Below.refl W3.heap.size W3).drew.alloc (nR _) _).trans (hb5.mono (by simp))
          have HW5:Hid (WayIs w5 pa (p::r)):=hw5
          have hx5:=(hb5.block W3.heap.size (by simp)).trans (heap_alloc_new W3.drew (.cells #[.string x0,.string x1,.slice ma x2 mc,.slice na x3 nc] 25))
          obtain⟨k1,k2,k3⟩:=HW.out.on HB5.out
          obtain⟨l0',l1',l2',l3',lf'⟩:=gA k1
          obtain⟨m0',m1',m2',m3',mf'⟩:=gA k2
          clear hw5 hb5 k1 k2 k3))
     |(go_at_call 46
       refine(HC.out _ _ _ _ HB5.out HW5.out hpc hx5).mono ?_
       rintro e w6 ⟨v6,rfl,hL6,hb6⟩
       obtain⟨f0,f1,⟨fa,fc,f2⟩,⟨ga,gd,f3⟩⟩:=hL6.forms
       rw[f0,f1,f2,f3]
       have HF:=aA (hL6.vals f0 f1 f2 f3)
       have HB6:=aA hb6
       obtain⟨_,_,k3⟩:=HW.out.on hb6
       obtain⟨s0,s1,s2,s3,sf⟩:=gA k3
       generalize (JA path x t).label=o0 at *
       generalize (JA path x t).head=o1 at *
       generalize (JA path x t).lines.length=o2 at *
       generalize (JA path x t).kids.length=o3 at *
       clear hL6 hb6 k3 f0 f1 f2 f3))
  all_goals
   go_wp2
   refine bodyPost_ret (v:=.agg #[.string o0,.string o1,.slice fa o2 fc,.slice ga o3 gd]) (by simp[results,Tryz.results40,go_sem,s0,s1,s2,s3]) rfl ?_
   have hb:=iM (HW.out.bel.trans (HB6.out.mono (by omega))) (w.heap.size+1+1) (by omega) (.string o0) (.string o1) (.slice fa o2 fc) (.slice ga o3 gd)
   refine⟨⟨wA (.string o0) (.string o1) (.slice fa o2 fc) (.slice ga o3 gd),rfl,HF.out.step fun b _ hp=>⟨PQ w6 _ _ _ _ _ b ?_,?_⟩⟩,hb⟩
   ·rcases hp with hp|hp
    ·have:=hp.2;omega
    ·omega
   ·exact hp.imp (fun h=>h.1) (fun h=>by omega)
 ·have HT:Hid (JA path x t=x):=by show _=_;unfold JA;rw[he];rfl
  go_wp2
  refine bodyPost_ret (v:=.agg #[.string x0,.string x1,.slice ma x2 mc,.slice na x3 nc]) (by simp[results,Tryz.results40,go_sem,r0,r1,r2,r3]) rfl ?_
  rw[HT.out]
  have hb:=iM HW.out.bel (w.heap.size+1+1) (by omega) (.string x0) (.string x1) (.slice ma x2 mc) (.slice na x3 nc)
  exact⟨⟨wA (.string x0) (.string x1) (.slice ma x2 mc) (.slice na x3 nc),rfl,(HX.out.bel hb).step fun b _ hp=>⟨rfl,.inl hp.1⟩⟩,hb⟩
end Go.Proofs.YtpbolcjcmkmalaaGreatDoor

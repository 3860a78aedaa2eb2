import Derived.Test.YtpbolcjcmkmalaaGreatDoorAq00
import Derived.Test.YtpbolcjcmkmalaaGreatDoorAq43
import Derived.Test.YtpbolcjcmkmalaaGreatDoorAq41
import Derived.Deep.RegionHeld3
import Derived.Test.YtpbolcjcmkmalaaGreatDoorAq39
set_option maxHeartbeats 20000000
set_option maxRecDepth 20000
namespace Go.Proofs.YtpbolcjcmkmalaaGreatDoor
open Go.RowKit Go.Extern.Stop Go.Stop Go.Extern
def DoneR(w:World)(r:POut)(e:Ending)(w':World):Prop:=Below w.heap.size w w'∧∃(s h:ByteArray) (la ka:Option Addr) (ln lc kn kc:Nat),e=.returned (.agg #[.string s,.string h,.slice la ln lc,.slice ka kn kc,.int .i64 (PD r),.int .i64 (XN r)])∧
 ((∀u,r≠.ok u)→s=⟨#[]⟩∧h=⟨#[]⟩∧la=none∧ka=none∧ln=0∧lc=0∧kn=0∧kc=0)∧
 ∀u,r=.ok u→∃v':Nat→Value,#[v' 0,v' 1,v' 2,v' 3]=#[.string s,.string h,.slice la ln lc,.slice ka kn kc]∧Lies w' (fun _=>True) v' u
theorem BM{W:World}{b T:Nat}{x y z q p1 p2 u0 u1 u2 u3 u4 u5:Value}(h:W.heap[b]?=some (.cells #[x,y,z,q,p1,p2] T (0,0))):((((((W.setCell ⟨b,0,none⟩ u0).setCell ⟨b,1,none⟩ u1).setCell ⟨b,2,none⟩ u2).setCell ⟨b,3,none⟩ u3).setCell ⟨b,4,none⟩ u4).setCell ⟨b,5,none⟩ u5).heap[b]?=some (.cells #[u0,u1,u2,u3,u4,u5] T (0,0)):=by
 rw[heap_setCell_same _ _ _ _ _ _ (heap_setCell_same _ _ _ _ _ _ (heap_setCell_same _ _ _ _ _ _ (heap_setCell_same _ _ _ _ _ _ (heap_setCell_same _ _ _ _ _ _ (heap_setCell_same _ _ _ _ _ _ h)))))]
 rfl
theorem uP{W:World}{b k:Nat}{u0 u1 u2 u3 u4 u5:Value}(h:k≠b):((((((W.setCell ⟨b,0,none⟩ u0).setCell ⟨b,1,none⟩ u1).setCell ⟨b,2,none⟩ u2).setCell ⟨b,3,none⟩ u3).setCell ⟨b,4,none⟩ u4).setCell ⟨b,5,none⟩ u5).heap[k]?=W.heap[k]?:=by
 rw[Below.heap_setCell _ _ _ _ h,Below.heap_setCell _ _ _ _ h,Below.heap_setCell _ _ _ _ h,Below.heap_setCell _ _ _ _ h,Below.heap_setCell _ _ _ _ h,Below.heap_setCell _ _ _ _ h]
theorem VS{w W:World}{b:Nat}(h:Below w.heap.size w W)(hb:w.heap.size≤b)(u0 u1 u2 u3 u4 u5:Value):Below w.heap.size w ((((((W.setCell ⟨b,0,none⟩ u0).setCell ⟨b,1,none⟩ u1).setCell ⟨b,2,none⟩ u2).setCell ⟨b,3,none⟩ u3).setCell ⟨b,4,none⟩ u4).setCell ⟨b,5,none⟩ u5):=
 (((((h.setCell (p:=⟨b,0,none⟩) hb _).setCell (p:=⟨b,1,none⟩) hb _).setCell (p:=⟨b,2,none⟩) hb _).setCell (p:=⟨b,3,none⟩) hb _).setCell (p:=⟨b,4,none⟩) hb _).setCell (p:=⟨b,5,none⟩) hb _
theorem WL{W:World}{g:Nat}{a b c d e f:Value}{t:TypeId}(h:W.heap[g]?=some (.cells #[a,b,c,d,e,f] t (0,0))):W.cell? ⟨g,0,none⟩=some a∧W.cell? ⟨g,1,none⟩=some b∧W.cell? ⟨g,2,none⟩=some c∧W.cell? ⟨g,3,none⟩=some d∧W.cell? ⟨g,4,none⟩=some e∧W.cell? ⟨g,5,none⟩=some f∧∀i,W.frozen? ⟨g,i,none⟩=false:=by
 simp[World.cell?,World.frozen?,h]
theorem TB{P:Program}{fn:Func}{p:Tmp}{ty:TypeId}(h:fn.results=#[.cell p ty])(tmps:Array Value)(w:World)(g:Nat)(t:TypeId)(cs:Array Value)(fr:Nat×Nat)(d:TypeDesc)
 (hp:tmps.getD p undef=.pointer (some ⟨g,0,none⟩)) (hg:w.heap[g]?=some (.cells cs t fr))
 (hu:P.underlying ty=some d) (hd:(match d with| .struct _| .array _ _=>true|_=>false)=true) (hi:(P.info? ty).map (·.size)=some cs.size):
 (results fn tmps).run P w=.ok (.agg cs) w:=by
 have hp':tmps[p]?.getD undef=.pointer (some ⟨g,0,none⟩):=by simpa using hp
 simp[results,h,hp',asAddr,run_loadVar_row w g t ty cs fr d hg hu hd hi]
theorem DoneR.err{w w7:World}{g:Nat}{r:POut}{code at9:Int}(hr:∀u,r≠.ok u)(hb:Below w.heap.size w w7)(hg:w.heap.size≤g)(hc:code=PD r)(ha:at9=XN r):
 DoneR w r (.returned (.agg #[.string ⟨#[]⟩,.string ⟨#[]⟩,.slice none 0 0,.slice none 0 0,.int .i64 code,.int .i64 at9])) ((((((w7.setCell ⟨g,0,none⟩ (.string ⟨#[]⟩)).setCell ⟨g,1,none⟩ (.string ⟨#[]⟩)).setCell ⟨g,2,none⟩ (.slice none 0 0)).setCell ⟨g,3,none⟩ (.slice none 0 0)).setCell ⟨g,4,none⟩ (.int .i64 code)).setCell ⟨g,5,none⟩ (.int .i64 at9)):=by
 subst hc ha
 exact⟨VS hb hg _ _ _ _ _ _,_,_,_,_,_,_,_,_,rfl,fun _=>⟨rfl,rfl,rfl,rfl,rfl,rfl,rfl,rfl⟩,fun u e=>absurd e (hr u)⟩
theorem US{w W:World}{b:Nat}(h:Below w.heap.size w W)(hb:w.heap.size≤b)(u0 u1 u2 u3:Value):Below w.heap.size w ((((W.setCell ⟨b,0,none⟩ u0).setCell ⟨b,1,none⟩ u1).setCell ⟨b,2,none⟩ u2).setCell ⟨b,3,none⟩ u3):=
 (((h.setCell (p:=⟨b,0,none⟩) hb _).setCell (p:=⟨b,1,none⟩) hb _).setCell (p:=⟨b,2,none⟩) hb _).setCell (p:=⟨b,3,none⟩) hb _
theorem SM{w:World}{P:Nat→Prop}{v':Nat→Value}{u:It}{s h:ByteArray}{la ka:Option Addr}{ln lc kn kc:Nat}(hf:#[v' 0,v' 1,v' 2,v' 3]=#[Value.string s,.string h,.slice la ln lc,.slice ka kn kc])(hl:Lies w P v' u):s=u.label∧h=u.head∧ln=u.lines.length∧kn=u.kids.length∧Lies w P (wA (.string s) (.string h) (.slice la ln lc) (.slice ka kn kc)) u:=by
 simp only[Array.mk.injEq,List.cons.injEq,and_true] at hf
 obtain⟨e0,e1,e2,e3⟩:=hf
 have hv:=hl.vals e0 e1 e2 e3
 obtain⟨k0,k1,⟨a,c,k2⟩,b,d,k3⟩:=hl.forms
 rw[e0] at k0
 rw[e1] at k1
 rw[e2] at k2
 rw[e3] at k3
 injection k0 with k0
 injection k1 with k1
 injection k2 with _ k2 _
 injection k3 with _ k3 _
 exact⟨k0,k1,k2,k3,hv⟩
def pV(w:World)(t:It)(ops:List OpW)(n:Nat)(t' ee:Value)(wr:World):Prop:=∃(j:Nat) (u:It) (la ka:Option Addr) (lc kc:Nat),j≤n∧t'=.int .i64 j∧ee=.int .i64 0∧Below w.heap.size w wr∧wr.heap[w.heap.size]?=some (.cells #[.string u.label,.string u.head,.slice la u.lines.length lc,.slice ka u.kids.length kc] rA (0,0))∧wr.heap[w.heap.size+1]?=some (.cells #[.string ⟨#[]⟩,.string ⟨#[]⟩,.slice none 0 0,.slice none 0 0,.int .i64 0,.int .i64 0] 35 (0,0))∧Lies wr (fun k=>k≠w.heap.size∧k≠w.heap.size+1) (wA (.string u.label) (.string u.head) (.slice la u.lines.length lc) (.slice ka u.kids.length kc)) u∧UC u∧allC 0 t ops=allC j u (ops.drop j)
theorem vL{w:World}{N:Nat}{t:It}{v:Nat→Value}(hv:Lies w (fun k=>k<w.heap.size) v t)(hF:FewIt t)(hz:jA t≤4194304){ops:List OpW}{oa:Option Addr}{oc:Nat}(ho:EI w N oa ops)(hN:N≤w.heap.size)(hs:∀op,op∈ops→jA op.item≤400000)(hn:ops.length≤1000):
 Calls Tryz.prog 10 #[.agg #[v 0,v 1,v 2,v 3],.slice oa ops.length oc] w (DoneR w (applyC t ops)):=by
 have R1:=fun c=>eR (t:=t) (ops:=ops) (c:=c)
 have R2:=fun m=>dM (t:=t) (ops:=ops) (m:=m)
 have R3:=fun m i c=>UN (t:=t) (ops:=ops) (m:=m) (i:=i) (c:=c)
 have R4:=fun u m=>VN (t:=t) (u:=u) (ops:=ops) (m:=m)
 generalize applyC t ops=r at *
 obtain⟨f0,f1,⟨la,lc,f2⟩,ka,kc,f3⟩:=hv.forms
 have hvv:=hv.vals f0 f1 f2 f3
 rw[f0,f1,f2,f3]
 obtain⟨W2,hW2⟩:∃W2,W2=(w.alloc (.cells #[.string t.label,.string t.head,.slice la t.lines.length lc,.slice ka t.kids.length kc] rA)).alloc (.cells #[.string ⟨#[]⟩,.string ⟨#[]⟩,.slice none 0 0,.slice none 0 0,.int .i64 0,.int .i64 0] 35):=⟨_,rfl⟩
 have ha:=OC w (.cells #[.string t.label,.string t.head,.slice la t.lines.length lc,.slice ka t.kids.length kc] rA) (.cells #[.string ⟨#[]⟩,.string ⟨#[]⟩,.slice none 0 0,.slice none 0 0,.int .i64 0,.int .i64 0] 35)
 rw[←hW2] at ha
 have hs2:W2.heap.size=w.heap.size+2:=by rw[hW2];simp
 have hb2:Below w.heap.size w W2:=by rw[hW2];exact(bA _ _).alloc (by simp) _
 have hval:=NC t hF hz W2 (fun k=>k<w.heap.size) (wA _ _ _ _) (hvv.bel hb2)
 have HVl:=aA hval
 have HW2:=aA hW2
 have HB2:=aA (aI hb2 hs2)
 have HBx:=aA ha
 have HL0:=aA (hvv.bel hb2)
 have HO:=aA (aI ho (aI hN hs))
 have HR:=aA (aI R1 (aI R2 (aI R3 R4)))
 obtain⟨n,hnn⟩:∃n,n=ops.length:=⟨_,rfl⟩
 have HNn:=aA hnn
 rw[←hnn] at hn ⊢
 obtain⟨l0,l1,l2,l3,_⟩:=gA ha.1
 clear f0 f1 f2 f3 hvv hv hF hz ho hN hs hnn hW2 ha hs2 hb2 hval R1 R2 R3 R4
 go_enter Tryz.func10,Tryz.ntmps10
 go_upto_region 1 with fail
 rw[←HW2.out]
 go_wp2_with fail
 refine HVl.out.mono ?_
 rintro e w3 ⟨rfl,hb3⟩
 have HB3:=aA hb3
 clear l0 l1 l2 l3 hb3
 have hx1:=(HB3.out.block (w.heap.size+1) (by have:=HB2.out.2;omega)).trans HBx.out.2
 obtain⟨z0,z1,z2,z3,z4,z5,zf⟩:=WL hx1
 have HZ:=aA hx1
 clear hx1
 cases hvi:vIt 0 0 [] t with
 |bad c=>
  have hc0:=oH _ _ _ _ _ hvi
  have hcz:(0:Int)<(c:Int):=by omega
  have HO1:=aA (HR.out.1 c hvi)
  have hvc:gC (.bad c)=c:=rfl
  rw[hvc]
  clear hvi hvc
  go_wp2
  refine bodyPost_ret (v:=.agg #[.string ⟨#[]⟩,.string ⟨#[]⟩,.slice none 0 0,.slice none 0 0,.int .i64 c,.int .i64 (-1)]) (TB Tryz.results10 _ _ (w.heap.size+1) 35 #[.string ⟨#[]⟩,.string ⟨#[]⟩,.slice none 0 0,.slice none 0 0,.int .i64 c,.int .i64 (-1)] (0,0) _ rfl (BM HZ.out) Tryz.underlying35 rfl rfl) rfl ?_
  rw[HO1.out]
  exact DoneR.err (fun u e=>by cases e) (HB2.out.1.trans (HB3.out.mono HB2.out.1.size)) (by omega) rfl rfl
 |ok mm=>
  have hvc:gC (.ok mm)=0:=rfl
  rw[hvc]
  by_cases hbig:100<n
  ·have hbz:(100:Int)<(n:Int):=by omega
   have HO1:=aA (HR.out.2.1 mm hvi (by have:=HNn.out;omega))
   clear hvi hvc
   go_wp2
   refine bodyPost_ret (v:=.agg #[.string ⟨#[]⟩,.string ⟨#[]⟩,.slice none 0 0,.slice none 0 0,.int .i64 2,.int .i64 (-1)]) (TB Tryz.results10 _ _ (w.heap.size+1) 35 #[.string ⟨#[]⟩,.string ⟨#[]⟩,.slice none 0 0,.slice none 0 0,.int .i64 2,.int .i64 (-1)] (0,0) _ rfl (BM HZ.out) Tryz.underlying35 rfl rfl) rfl ?_
   rw[HO1.out]
   exact DoneR.err (fun u e=>by cases e) (HB2.out.1.trans (HB3.out.mono HB2.out.1.size)) (by omega) rfl rfl
  ·have hbz:¬(100:Int)<(n:Int):=by omega
   have hnb:¬100<ops.length:=by have:=HNn.out;omega
   have HR3:=aA (fun i c=>HR.out.2.2.1 mm i c hvi hnb)
   have HR4:=aA (fun u=>HR.out.2.2.2 u mm hvi hnb)
   have HLaw:Hid (UC t):=law_iff.2 ⟨mm,hvi⟩
   have hl3:Lies w3 (fun k=>k≠w.heap.size∧k≠w.heap.size+1) (wA (.string t.label) (.string t.head) (.slice la t.lines.length lc) (.slice ka t.kids.length kc)) t:=HL0.out.step fun b hb hp=>⟨HB3.out.block b hb,by omega,by omega⟩
   have HSt:Hid (pV w t ops n (.int .i64 ((0:Nat):Int)) (.int .i64 0) w3):=⟨0,t,la,ka,lc,kc,by omega,rfl,rfl,HB2.out.1.trans (HB3.out.mono HB2.out.1.size),(HB3.out.block _ (by have:=HB2.out.2;omega)).trans HBx.out.1,HZ.out,hl3,HLaw.out,rfl⟩
   clear hvi hvc hnb HR z0 z1 z2 z3 z4 z5 zf HZ hl3
   go_wp2_with fail
   go_loopw [5,6] (fun ee t' wr=>pV w t ops n t' ee wr) (fun _ t' _=>(n - RowKit.intOf t').toNat)
   case atStart=>exact HSt.out
   case round=>
    obtain⟨j,u,la',ka',lc',kc',hj,rfl,rfl,hb,hrl,hrz,hlu,hlw,hall⟩:=hrel
    have HB:=aA hb
    have HRw:=aA (aI hrl hrz)
    have HLu:=aA hlu
    have HLw:=aA hlw
    have HAll:=aA hall
    obtain⟨l0,l1,l2,l3,lf⟩:=gA hrl
    clear hb hrl hrz hlu hlw hall HSt
    by_cases hjn:j<n
    ·have hjz:(j:Int)<n:=by omega
     obtain⟨op,hop⟩:∃op,ops[j]?=some op:=⟨_,List.getElem?_eq_getElem (by have:=HNn.out;omega)⟩
     obtain⟨ob,oo,iv,rfl,hbN,hcs,hsr,hw6,hfi,hok⟩:=HO.out.1 j op hop
     obtain⟨g0,g1,⟨ila,ilc,g2⟩,ika,ikc,g3⟩:=hsr.lies.forms
     have hobl:ob<w.heap.size:=Nat.lt_of_lt_of_le hbN HO.out.2.1
     have hcw:∀c u,(FB op iv)[c]?=some u→wr.cell? ⟨ob,oo+j * 10+c,none⟩=some u:=fun c u hu=>(World.cell?_of_block (a:=⟨ob,oo+j * 10+c,none⟩) (HB.out.block ob hobl)).trans (hcs c u hu)
     have hone:∀W,(∀k,k<wr.heap.size→W.heap[k]?=wr.heap[k]?)→Calls Tryz.prog 20 #[.agg #[.string u.label,.string u.head,.slice la' u.lines.length lc',.slice ka' u.kids.length kc'],.agg (FB op iv)] W (OneR W (fun k=>k≠w.heap.size∧k≠w.heap.size+1) (oneC u op)):=fun W hW=>by
      rw[←IQ HLw.out]
      exact OT (v:=wA _ _ _ _) HLw.out hok hfi (HO.out.2.2 op (List.mem_of_getElem? hop)) (HLu.out.step fun b hb hp=>⟨hW b hb,hp⟩) (hsr.lies.step fun b hb hp=>⟨(hW b (Nat.lt_of_lt_of_le hb HB.out.size)).trans (HB.out.block b hb),by have:=HO.out.2.1;omega,by have:=HO.out.2.1;omega⟩)
     unfold FB at hcw hone
     rw[g0,g1,g2,g3] at hcw hone
     have y0:=hcw 0 _ rfl
     have y1:=hcw 1 _ rfl
     have y2:=hcw 2 _ rfl
     have y3:=hcw 3 _ rfl
     have y4:=hcw 4 _ rfl
     have y5:=hcw 5 _ rfl
     have y6:=hcw 6 _ rfl
     have y7:=hcw 7 _ rfl
     have y8:=hcw 8 _ rfl
     have y9:=hcw 9 _ rfl
     rw[Nat.add_zero] at y0
     have HOne:=aA hone
     have hdrop:ops.drop j=op::ops.drop (j+1):=by
      obtain⟨h1,h2⟩:=List.getElem?_eq_some_iff.1 hop
      rw[←h2]
      exact List.drop_eq_getElem_cons h1
     have HDr:=aA hdrop
     have HLw2:Hid (∀u',oneC u op=.ok u'→UC u'):=fun u' e=>gH HLw.out e
     have hne:ob≠w.heap.size:=by omega
     have hne':¬w.heap.size=ob:=by omega
     have hnl:=(Array.getElem?_eq_some_iff.1 HRw.out.1).1
     have hnz:=(Array.getElem?_eq_some_iff.1 HRw.out.2).1
     have HNl:=aA (aI hnl hnz)
     clear hop hbN hcs hsr hw6 hfi hok g0 g1 g2 g3 hcw hone hdrop hobl hnl hnz
     generalize hkd:op.kind=kd at *
     generalize hpt:op.path=opt at *
     generalize hat9:op.at'=oat at *
     generalize htx:op.text=otx at *
     generalize hnw:op.new=onw at *
     generalize hli:op.line=oli at *
     generalize hil:op.item.label=oil at *
     generalize hih:op.item.head=oih at *
     generalize hiln:op.item.lines.length=oiln at *
     generalize hikn:op.item.kids.length=oikn at *
     clear hkd hpt hat9 htx hnw hli hil hih hiln hikn
     cases hone:oneC u op with
     |bad c=>
      rw[hone] at HOne
      have HRj:=aA (HR3.out j c (by rw[HAll.out,HDr.out,allC,hone]))
      clear hone HR4 HLw2
      go_wp2_with fail
      go_region_with (first|(go_simp;go_at_call 20;refine(HOne.out wr.drew (fun k _=>rfl)).mono ?_;rintro e w7 ⟨hb7,s7,h7,la7,ka7,ln7,lc7,kn7,kc7,code,rfl,rfl,hc0⟩;have hcz:(0:Int)<(c:Int):=(by omega);have hl7:=(hb7.block w.heap.size HNl.out.1).trans HRw.out.1;have hz7:=(hb7.block (w.heap.size+1) HNl.out.2).trans HRw.out.2;obtain⟨q0,q1,q2,q3,qf⟩:=gA hl7;obtain⟨z0,z1,z2,z3,z4,z5,zf⟩:=WL hz7;have H7:=aA (aI hb7 (aI hl7 hz7));clear hb7 hl7 hz7 l0 l1 l2 l3 lf y0 y1 y2 y3 y4 y5 y6 y7 y8 y9))
      all_goals go_wp2
      all_goals
       refine bodyPost_ret (v:=.agg #[.string ⟨#[]⟩,.string ⟨#[]⟩,.slice none 0 0,.slice none 0 0,.int .i64 c,.int .i64 j]) (TB Tryz.results10 _ _ (w.heap.size+1) 35 #[.string ⟨#[]⟩,.string ⟨#[]⟩,.slice none 0 0,.slice none 0 0,.int .i64 c,.int .i64 j] (0,0) _ rfl (BM ((PA (by omega)).trans H7.out.2.2)) Tryz.underlying35 rfl rfl) rfl ?_
       rw[HRj.out]
       refine DoneR.err (fun u e=>by cases e) (US (HB.out.trans (Below.mono (Below.trans (Below.drew (Below.refl wr.heap.size wr)) H7.out.1) HB.out.size)) (nR _) _ _ _ _) (by omega) rfl rfl
     |ok u'=>
      rw[hone] at HOne
      have HLu':=aA (HLw2.out u' hone)
      have HAl':Hid (allC 0 t ops=allC (j+1) u' (ops.drop (j+1))):=by show _=_;rw[HAll.out,HDr.out,allC,hone]
      clear hone HR3 HR4 HLw2
      go_wp2_with fail
      go_region_with (first|(go_simp;go_at_call 20;refine(HOne.out wr.drew (fun k _=>rfl)).mono ?_;rintro e w7 ⟨hb7,s7,h7,la7,ka7,ln7,lc7,kn7,kc7,code,rfl,rfl,v7,hv7,hlv7⟩;obtain⟨es,eh,el,ek,hlx⟩:=SM hv7 hlv7;subst es eh el ek;have HLx:=aA hlx;clear hlx hlv7 hv7;have hl7:=(hb7.block w.heap.size HNl.out.1).trans HRw.out.1;have hz7:=(hb7.block (w.heap.size+1) HNl.out.2).trans HRw.out.2;obtain⟨q0,q1,q2,q3,qf⟩:=gA hl7;obtain⟨z0,z1,z2,z3,z4,z5,zf⟩:=WL hz7;have H7:=aA (aI hb7 (aI hl7 hz7));clear hb7 hl7 hz7 l0 l1 l2 l3 lf y0 y1 y2 y3 y4 y5 y6 y7 y8 y9))
      all_goals go_wp2
      all_goals
       go_roundw
       case rel=>
        refine⟨j+1,u',la7,ka7,lc7,kc7,by omega,by go_num,rfl,US (HB.out.trans (Below.mono (Below.trans (Below.drew (Below.refl wr.heap.size wr)) H7.out.1) HB.out.size)) (nR _) _ _ _ _,NA H7.out.2.1,(PA (by omega)).trans H7.out.2.2,HLx.out.step fun b hb hp=>?_,HLu'.out,HAl'.out⟩
        have hne9:b≠w.heap.size∧b≠w.heap.size+1:=by
         have h1:=HNl.out
         have h2:wr.drew.heap.size=wr.heap.size:=rfl
         rcases hp with hp|hp
         ·exact hp
         ·rw[h2] at hp;omega
        exact⟨PA hne9.1,hne9⟩
       case measure=>simp[RowKit.intOf];omega
    ·have hjz:¬(j:Int)<n:=by omega
     have hje:j=n:=by omega
     have hfin:=HAll.out
     rw[List.drop_eq_nil_of_le (by have:=HNn.out;omega),allC] at hfin
     have HFin:=aA (HR4.out u hfin)
     obtain⟨z0,z1,z2,z3,z4,z5,zf⟩:=WL HRw.out.2
     clear hfin HR3 HR4 hje
     go_wp2
     refine bodyPost_ret (v:=.agg #[.string u.label,.string u.head,.slice la' u.lines.length lc',.slice ka' u.kids.length kc',.int .i64 0,.int .i64 (-1)]) (TB Tryz.results10 _ _ (w.heap.size+1) 35 #[.string u.label,.string u.head,.slice la' u.lines.length lc',.slice ka' u.kids.length kc',.int .i64 0,.int .i64 (-1)] (0,0) _ rfl (BM (HRw.out.2)) Tryz.underlying35 rfl rfl) rfl ?_
     rw[HFin.out]
     refine⟨VS HB.out (by omega) _ _ _ _ _ _,u.label,u.head,la',ka',u.lines.length,lc',u.kids.length,kc',rfl,fun h=>absurd rfl (h u),fun u2 e=>?_⟩
     injection e with e
     subst e
     exact⟨wA (.string u.label) (.string u.head) (.slice la' u.lines.length lc') (.slice ka' u.kids.length kc'),rfl,HLu.out.step fun b hb hp=>⟨uP hp.2,trivial⟩⟩
theorem GJ{w W:World}{N:Nat}{oa:Option Addr}{ops:List OpW}(h:OpsRaw w N oa ops)(hN:N≤w.heap.size)(hb:Below w.heap.size w W):OpsRaw W N oa ops:=h.on fun q hq=>hb.block q (by omega)
def VP:It:=.mk ⟨#[]⟩ ⟨#[]⟩ [] []
theorem kJ(w:World):Lies w (fun _=>True) (wA (.string ⟨#[]⟩) (.string ⟨#[]⟩) (.slice none 0 0) (.slice none 0 0)) VP:=
 .mk _ _ none none 0 0 (fun _ _=>.nilIface) rfl rfl rfl rfl (fun i s h=>by cases h) (fun i h=>absurd h (Nat.not_lt_zero _)) (fun i k h=>by cases h) (nR _) (nR _)
theorem cM:SmallIt VP:=IG (NL ⟨#[]⟩ (Nat.zero_le _))
theorem KS{w:World}{p:Nat→Addr}{r:POut}{er:Value}(L:Laid w p)(he:ErrAt w p r er){s h:ByteArray}{la ka:Option Addr}{ln lc kn kc:Nat}:
 Calls Tryz.prog 11 #[er,.agg #[.string s,.string h,.slice la ln lc,.slice ka kn kc,.int .i64 (PD r),.int .i64 (XN r)]] w fun e w'=>e=.returned (.bool true)∧Below w.heap.size w w':=by
 obtain⟨W1,hW1⟩:∃W1,W1=w.alloc (.cells #[.string s,.string h,.slice la ln lc,.slice ka kn kc,.int .i64 (PD r),.int .i64 (XN r)] 35):=⟨_,rfl⟩
 have hb1:Below w.heap.size w W1:=by rw[hW1];exact bA _ _
 have hx1:W1.heap[w.heap.size]?=some (.cells #[.string s,.string h,.slice la ln lc,.slice ka kn kc,.int .i64 (PD r),.int .i64 (XN r)] 35 (0,0)):=by rw[hW1];exact heap_alloc_new _ _
 have HC:=aA (IR (L.below hb1) (he.below hb1))
 have HW1:=aA hW1
 have HX1:=aA (aI hb1 hx1)
 clear hW1 hb1 hx1 he L
 generalize PD r=cn at *
 generalize XN r=an at *
 go_enter Tryz.func11,Tryz.ntmps11
 go_upto_region 1 with fail
 rw[←HW1.out]
 go_wp2_with fail
 refine HC.out.mono ?_
 rintro e w2 ⟨rfl,hb2⟩
 obtain⟨z0,z1,z2,z3,z4,z5,_⟩:=WL ((hb2.block w.heap.size (Array.getElem?_eq_some_iff.1 HX1.out.2).1).trans HX1.out.2)
 have HB2:=aA (HX1.out.1.trans (hb2.mono HX1.out.1.size))
 clear hb2
 by_cases h0:cn=0
 ·subst h0
  go_wp2
  go_ret
  exact⟨rfl,HB2.out⟩
 ·have h0z:¬(cn:Int)=0:=by omega
  have h0b:((cn:Int)==0)=false:=by simpa using h0z
  go_wp2
  go_ret
  exact⟨rfl,HB2.out⟩
theorem qF(t:It)(hsz:jA t≤1048576)(a:List OpW)(xa:Option Addr)(xc:Nat)(p:Nat→Addr)(m:Int)(w:World)(hE:Env w p m)(v:Nat→Value)(hs:RawT w w.heap.size v t)(hx:OpsRaw w w.heap.size xa a)(hn:a.length≤1048576):
 Calls Tryz.prog 3 #[.agg #[v 0,v 1,v 2,v 3],.slice xa a.length xc] w fun e w'=>e=.returned (.bool true)∧Below w.heap.size w w':=by
 obtain⟨f0,f1,⟨la,lc,f2⟩,ka,kc,f3⟩:=hs.lies.forms
 have hsW:∀W,Below w.heap.size w W→RawT W w.heap.size v t:=fun W hb=>hs.on fun q hq=>hb.block q hq
 have hfw:∀W,Below w.heap.size w W→_:=fun W hb=>nM t (by omega) v W _ (hsW W hb).lies
 have hfx:∀W,Below w.heap.size w W→Calls Tryz.prog 8 #[.slice xa a.length xc] W (rV W a):=fun W hb=>oO (oc:=xc) (fun i op hi=>by
  obtain⟨b,o,iv,e,h1,h2,h3,h4⟩:=GJ hx (nR _) hb i op hi
  exact⟨b,o,iv,e,Nat.lt_of_lt_of_le h1 hb.size,h2,h3.mono hb.size,h4⟩) hn
 have hlv:∀W,Below w.heap.size w W→_:=fun W hb=>WP (hE.on hb)
 have hap:YA 0 t≤400→∀W,Below w.heap.size w W→∀(ops':List OpW) (oa':Option Addr) (oc':Nat),EI W w.heap.size oa' ops'→ops'.length≤102→_:=fun h1 W hb ops' oa' oc' h3 h4=>(eM ((hsW W hb).src (tH _ t (nR _) 0 h1)) hb.size (by have:=YF _ t (nR _) 0 h1;omega) (.inr (by have:=YF _ t (nR _) 0 h1;omega)) (tH _ t (nR _) 0 h1) h3 (by omega) (hE.on hb) (oc:=oc')).mono fun e w' h=>BR h
 have haq:YA 0 t≤400→FewO a→∀W,Below w.heap.size w W→Calls Tryz.prog 10 #[.agg #[v 0,v 1,v 2,v 3],.slice xa a.length xc] W (DoneR W (applyC t a)):=fun h1 hf W hb=>vL (N:=w.heap.size) ((hsW W hb).lies.step fun b hb' hp=>⟨rfl,hb'⟩) (tH _ t (nR _) 0 h1) (by have:=bF _ t (nR _) 0 h1;omega) (hf.ops (GJ hx (nR _) hb)) hb.size (fun op hop=>by have h2:=hf.it op hop;have:=bF _ op.item (nR _) 0 h2;omega) (by have:=hf.len;omega)
 have hxI:FewO a→∀W,Below w.heap.size w W→EI W w.heap.size xa a:=fun h W hb=>h.ops (GJ hx (nR _) hb)
 rw[f0,f1,f2,f3] at hfw hap haq
 rw[f0,f1,f2,f3]
 obtain⟨W1,hW1⟩:∃W1,W1=w.alloc (.cells #[.string t.label,.string t.head,.slice la t.lines.length lc,.slice ka t.kids.length kc] rA):=⟨_,rfl⟩
 have hb1:Below w.heap.size w W1:=by rw[hW1];exact bA _ _
 have hx1:W1.heap[w.heap.size]?=some (.cells #[.string t.label,.string t.head,.slice la t.lines.length lc,.slice ka t.kids.length kc] rA (0,0)):=by rw[hW1];exact heap_alloc_new _ _
 have HFw:=aA hfw
 have HFx:=aA hfx
 have HLv:=aA hlv
 have HAp:=aA hap
 have HAq:=aA haq
 have HI:=aA hxI
 have HB1:=aA hb1
 have HX1:=aA hx1
 have HW1:=aA hW1
 have HE:=aA hE
 have hs1:w.heap.size<W1.heap.size:=(Array.getElem?_eq_some_iff.1 hx1).1
 have HCl:Hid (∀W,Below W1.heap.size W1 W→W.cell? ⟨w.heap.size,0,none⟩=some (.string t.label)∧W.cell? ⟨w.heap.size,1,none⟩=some (.string t.head)∧W.cell? ⟨w.heap.size,2,none⟩=some (.slice la t.lines.length lc)∧W.cell? ⟨w.heap.size,3,none⟩=some (.slice ka t.kids.length kc)):=fun W hW=>by
  obtain⟨c0,c1,c2,c3,_⟩:=gA ((hW.block w.heap.size hs1).trans HX1.out)
  exact⟨c0,c1,c2,c3⟩
 obtain⟨an,han⟩:∃n,n=a.length:=⟨_,rfl⟩
 have HN:=aA han
 rw[←han] at hn HFx HAq ⊢
 obtain⟨sn,hsn⟩:∃sn,sn=YA 0 t:=⟨_,rfl⟩
 rw[←hsn] at HFw HAp HAq
 clear hsz hE hs hx f0 f1 f2 f3 hsW hfw hfx hlv hap haq hxI hb1 hx1 hW1 han hsn
 generalize t.label=tl at *
 generalize t.head=th at *
 generalize t.lines.length=tn at *
 generalize t.kids.length=tk at *
 go_enter Tryz.func3,Tryz.ntmps3
 go_upto_region 1 with fail
 rw[←HW1.out]
 go_wp2_with fail
 refine(HLv.out W1 HB1.out).mono ?_
 rintro e w2 ⟨rfl,hb2⟩
 have HC2:=aA hb2
 have HB2:=aA (HB1.out.trans (hb2.mono HB1.out.size))
 obtain⟨x0,x1,x2,x3⟩:=HCl.out w2 hb2
 clear hb2
 go_wp2_with fail
 refine(HFw.out w2 HB2.out).mono ?_
 rintro e w3 ⟨rfl,hb3⟩
 have HC3:=aA (HC2.out.trans (hb3.mono HC2.out.size))
 have HB3:=aA (HB2.out.trans (hb3.mono HB2.out.size))
 clear hb3 x0 x1 x2 x3
 go_wp2_with fail
 refine(HFx.out w3 HB3.out).mono ?_
 rintro e w4 ⟨⟨q,rfl,hq⟩,hb4⟩
 have HC4:=aA (HC3.out.trans (hb4.mono HC3.out.size))
 have HB4:=aA (HB3.out.trans (hb4.mono HB3.out.size))
 clear hb4
 rcases Nat.lt_or_ge 400 sn with hfew|hfew
 ·have hfew:¬sn≤400:=by omega
  have hfd:decide (sn≤400)=false:=decide_eq_false hfew
  rw[hfd]
  clear hfd hfew hq
  go_wp2
  go_ret
  exact⟨rfl,HB4.out⟩
 rw[decide_eq_true hfew]
 cases q
 ·clear hq
  go_wp2
  go_ret
  exact⟨rfl,HB4.out⟩
 have HFO:=aA (hq rfl)
 have HA1:Hid (∀W,Below w.heap.size w W→_):=fun W hW=>HAp.out hfew W hW a xa xc (HI.out HFO.out W hW) HFO.out.len
 have HA2:=aA (HAq.out hfew HFO.out)
 rw[←HN.out] at HA1
 clear hq hfew HAp HAq HFw HFx HLv HI
 have HLw:Hid (∀u,applyC t a=.ok u→UC u):=fun u hu=>qM _ _ _ _ (POut.inv hu).1 (POut.inv hu).2.2
 generalize applyC t a=r at *
 obtain⟨x0,x1,x2,x3⟩:=HCl.out w4 HC4.out
 go_wp2_with fail
 refine(HA1.out w4 HB4.out).mono ?_
 rintro e w7 ⟨hb7,s1,h1,la1,ka1,ln1,lc1,kn1,kc1,er1,rfl,he1,hz1,ho1⟩
 have HC7:=aA (HC4.out.trans (hb7.mono HC4.out.size))
 have HB7:=aA (HB4.out.trans (hb7.mono HB4.out.size))
 have HE1:=aA he1
 have HO1:=aA (aI hz1 ho1)
 clear hb7 he1 hz1 ho1 HA1 x0 x1 x2 x3
 obtain⟨W8,hW8⟩:∃W8,W8=w7.alloc (.cells #[.string s1,.string h1,.slice la1 ln1 lc1,.slice ka1 kn1 kc1] rA):=⟨_,rfl⟩
 have HW8:=aA hW8
 have hb8:Below w7.heap.size w7 W8:=by rw[hW8];exact bA _ _
 have HX8:Hid (W8.heap[w7.heap.size]?=some (.cells #[.string s1,.string h1,.slice la1 ln1 lc1,.slice ka1 kn1 kc1] rA (0,0))):=by show _=_;rw[hW8];exact heap_alloc_new _ _
 have HC8:=aA (HC7.out.trans (hb8.mono HC7.out.size))
 have HB8:=aA (HB7.out.trans (hb8.mono HB7.out.size))
 have HD8:=aA hb8
 clear hW8 hb8
 go_upto_region 7 with fail
 rw[←HW8.out]
 obtain⟨x0,x1,x2,x3⟩:=HCl.out W8 HC8.out
 go_wp2_with fail
 refine(HA2.out W8 HB8.out).mono ?_
 rintro e w9 ⟨hb9,s2,h2,la2,ka2,ln2,lc2,kn2,kc2,rfl,hz2,ho2⟩
 have HB9:=aA (HB8.out.trans (hb9.mono HB8.out.size))
 have HD9:=aA (HD8.out.trans (hb9.mono HD8.out.size))
 have HX9:=aA ((hb9.block w7.heap.size (Array.getElem?_eq_some_iff.1 HX8.out).1).trans HX8.out)
 have HO2:=aA (aI hz2 ho2)
 clear hb9 hz2 ho2 HA2 x0 x1 x2 x3
 obtain⟨W10,hW10⟩:∃W10,W10=w9.alloc (.cells #[.string s2,.string h2,.slice la2 ln2 lc2,.slice ka2 kn2 kc2,.int .i64 (PD r),.int .i64 (XN r)] 35):=⟨_,rfl⟩
 have HW10:=aA hW10
 have hb10:Below w9.heap.size w9 W10:=by rw[hW10];exact bA _ _
 have HY10:Hid (W10.heap[w9.heap.size]?=some (.cells #[.string s2,.string h2,.slice la2 ln2 lc2,.slice ka2 kn2 kc2,.int .i64 (PD r),.int .i64 (XN r)] 35 (0,0))):=by show _=_;rw[hW10];exact heap_alloc_new _ _
 have HX10:=aA ((hb10.block w7.heap.size (Array.getElem?_eq_some_iff.1 HX9.out).1).trans HX9.out)
 have HB10:=aA (HB9.out.trans (hb10.mono HB9.out.size))
 have HD10:=aA (HD9.out.trans (hb10.mono HD9.out.size))
 have HF10:=aA hb10
 have HTd:=aA (KS (s:=s2) (h:=h2) (la:=la2) (ka:=ka2) (ln:=ln2) (lc:=lc2) (kn:=kn2) (kc:=kc2) (HE.out.on HB10.out).L (HE1.out.below HD10.out))
 clear hW10 hb10 HX8 HX9
 go_upto_region 8 with fail
 rw[←HW10.out]
 obtain⟨y0,y1,y2,y3,y4,y5,_⟩:=WL HY10.out
 go_wp2_with fail
 refine HTd.out.mono ?_
 rintro e w11 ⟨rfl,hb11⟩
 have HB11:=aA (HB10.out.trans (hb11.mono HB10.out.size))
 have HD11:=aA (HD10.out.trans (hb11.mono HD10.out.size))
 have HF11:=aA (HF10.out.trans (hb11.mono HF10.out.size))
 have hx11:=(hb11.block w7.heap.size (Array.getElem?_eq_some_iff.1 HX10.out).1).trans HX10.out
 have hy11:=(hb11.block w9.heap.size (Array.getElem?_eq_some_iff.1 HY10.out).1).trans HY10.out
 have HSm:Hid (Calls Tryz.prog 12 #[.agg #[.string s1,.string h1,.slice la1 ln1 lc1,.slice ka1 kn1 kc1],.agg #[.string s2,.string h2,.slice la2 ln2 lc2,.slice ka2 kn2 kc2]] w11 fun e w'=>e=.returned (.bool true)∧Below w11.heap.size w11 w'):=by
  rcases HE1.out.is with ⟨⟨u,hu⟩,_⟩|⟨hu,_,_⟩
  ·obtain⟨v1,S1,hv1,hown1⟩:=HO1.out.2 u hu
   obtain⟨v2,hv2,hl2⟩:=HO2.out.2 u hu
   have hl1:Lies w11 (fun _=>True) v1 u:=hown1.lies.step fun q hq _=>⟨HD11.out.block q hq,trivial⟩
   have hl2':Lies w11 (fun _=>True) v2 u:=hl2.step fun q hq _=>⟨HF11.out.block q hq,trivial⟩
   have hsm:=XK (kN (HLw.out u hu)) w11 _ _ v1 v2 hl1 hl2'
   rw[hv1,hv2] at hsm
   exact hsm
  ·obtain⟨rfl,rfl,rfl,rfl,rfl,rfl,rfl,rfl⟩:=HO1.out.1 hu
   obtain⟨rfl,rfl,rfl,rfl,rfl,rfl,rfl,rfl⟩:=HO2.out.1 hu
   exact XK cM w11 _ _ (wA _ _ _ _) (wA _ _ _ _) (kJ w11) (kJ w11)
 clear y0 y1 y2 y3 y4 y5 hb11
 obtain⟨x0,x1,x2,x3,_⟩:=gA hx11
 obtain⟨y0,y1,y2,y3,y4,y5,_⟩:=WL hy11
 clear hx11 hy11
 go_wp2_with fail
 refine HSm.out.mono ?_
 rintro e w12 ⟨rfl,hb12⟩
 have HB12:=aA (HB11.out.trans (hb12.mono HB11.out.size))
 clear hb12 x0 x1 x2 x3 y0 y1 y2 y3 y4 y5
 go_wp2
 go_ret
 exact⟨rfl,HB12.out⟩
end Go.Proofs.YtpbolcjcmkmalaaGreatDoor

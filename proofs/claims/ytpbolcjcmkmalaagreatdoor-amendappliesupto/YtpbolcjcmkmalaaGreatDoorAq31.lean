import Derived.Test.YtpbolcjcmkmalaaGreatDoorAq00
import Derived.Test.YtpbolcjcmkmalaaGreatDoorAq21
import Derived.Test.YtpbolcjcmkmalaaGreatDoorAq29
import Derived.Test.YtpbolcjcmkmalaaGreatDoorAq19
import Derived.Test.YtpbolcjcmkmalaaGreatDoorAq09
import Derived.Test.YtpbolcjcmkmalaaGreatDoorAq26
import Derived.Deep.DeepCutAuto
import Derived.Deep.RegionHeld3
set_option maxHeartbeats 20000000
set_option maxRecDepth 20000
namespace Go.Proofs.YtpbolcjcmkmalaaGreatDoor
open Go.RowKit Go.Extern.Stop Go.Stop Go.Extern
theorem AU{w w':World}(h:Below w.drew.heap.size w.drew w'):Below w.heap.size w w':=⟨h.os,h.tape,h.output,h.size,h.block⟩
theorem XS{w w':World}{n:Nat}(h:Below (w.drewN n).heap.size (w.drewN n) w'):Below w.heap.size w w':=⟨h.os,h.tape,h.output,h.size,h.block⟩
theorem cS{w:World}{B b o:Nat}{t:It}{S:Nat→Prop}{v:Nat→Value}(h:ItAt w B b o t S v)(hL:UC t)(hB:B≤w.heap.size){p:Nat→Addr}{m:Int}(hE:Env w p m)(op:OpW)(hok:OpOk op)(iv:Nat→Value):
 Calls Tryz.prog 35 #[.pointer (some ⟨b,o,none⟩),.agg (FB op iv)] w (ChO w B b o S p (moveC t op)):=by
 have ht:=hok.path
 have htn:=hok.new
 clear hok
 have R1:=eS (t:=t) (o:=op)
 have R2:=fS (t:=t) (o:=op)
 have R3:=fun x i k y=>LT (t:=t) (x:=x) (i:=i) (k:=k) (y:=y) (o:=op)
 have R4:=fun x i k y=>KT (t:=t) (x:=x) (i:=i) (k:=k) (y:=y) (o:=op)
 have R5:=fun x i k y=>xQ (t:=t) (x:=x) (i:=i) (k:=k) (y:=y) (o:=op)
 have R6:=fun x i k y=>uQ (t:=t) (x:=x) (i:=i) (k:=k) (y:=y) (o:=op)
 have R7:=fun x i k y=>MT (t:=t) (x:=x) (i:=i) (k:=k) (y:=y) (o:=op)
 generalize moveC t op=r at *
 cases op with
 |mk kind path at' text new line item=>
  have ht:path.size≤6000:=ht
  have htn:new.size≤6000:=htn
  show Calls Tryz.prog 35 #[.pointer (some ⟨b,o,none⟩),.agg #[.int .i64 kind,.string path,.string at',.string text,.string new,.int .i64 line,iv 0,iv 1,iv 2,iv 3]] w (ChO w B b o S p r)
  generalize iv 0=i0,iv 1=i1,iv 2=i2,iv 3=i3
  obtain⟨WB,hWB⟩:∃WB,WB=w.alloc (.cells #[.int .i64 kind,.string path,.string at',.string text,.string new,.int .i64 line,i0,i1,i2,i3] 46):=⟨_,rfl⟩
  have hb0:Below w.heap.size w WB:=by rw[hWB];exact bA _ _
  have hbx:WB.heap[w.heap.size]?=some (.cells #[.int .i64 kind,.string path,.string at',.string text,.string new,.int .i64 line,i0,i1,i2,i3] 46 (0,0)):=by rw[hWB];exact heap_alloc_new _ _
  obtain⟨y0,y1,y2,y3,y4,y5,y6,y7,y8,y9⟩:=yB hbx
  have hw1:w.heap.size<WB.heap.size:=by rw[hWB];simp
  have HL1:Hid (∀W,Below WB.heap.size WB W→Calls Tryz.prog 30 #[.string path] W fun e w'=>(∃a c,e=.returned (.slice a (cA path).length c)∧StrsN w.heap.size w' a (cA path)∧(cA path).length≤c)∧Below WB.heap.size WB w'):=fun W hW=>(OH path (by omega) m w.heap.size W (Nat.le_trans hb0.size hW.size) (hE.on (hb0.trans (hW.mono hb0.size))).M).mono fun e w' h=>⟨h.1,hW.trans (h.2.mono hW.size)⟩
  have HL2:Hid (∀W,Below WB.heap.size WB W→Calls Tryz.prog 30 #[.string new] W fun e w'=>(∃a c,e=.returned (.slice a (cA new).length c)∧StrsN w.heap.size w' a (cA new)∧(cA new).length≤c)∧Below WB.heap.size WB w'∧Below W.heap.size W w'):=fun W hW=>(OH new (by omega) m w.heap.size W (Nat.le_trans hb0.size hW.size) (hE.on (hb0.trans (hW.mono hb0.size))).M).mono fun e w' h=>⟨h.1,hW.trans (h.2.mono hW.size),h.2⟩
  have HX:=aA hWB
  have H0:=aA h
  have HLaw:=aA hL
  have HF:=aA (RB hL)
  have HB0:=aA hb0
  have HEn:=aA (fun w' (hb:Below w.heap.size w w')=>hE.on hb)
  have HR1:Hid (kF t (cA path)=none→r=.bad 5):=R1
  have HR2:Hid (eA t (cA new)=none→r=.bad 5):=R2
  have HR3:Hid (∀x i k y,Mv t (cA path) (cA new) x i k y→cA path<+:cA new→r=.bad 5):=R3
  have HR4:Hid (∀x i k y,Mv t (cA path) (cA new) x i k y→¬cA path<+:cA new→(pA y.kids at'=none∨(cA path).dropLast=cA new∧at'=k.label)→r=.bad 5):=R4
  have HR5:Hid (∀x i k y,Mv t (cA path) (cA new) x i k y→¬cA path<+:cA new→¬(pA y.kids at'=none∨(cA path).dropLast=cA new∧at'=k.label)→((cA path).dropLast≠cA new∧(iA y.kids k.label).isSome)→r=.bad 7):=R5
  have HR6:Hid (∀x i k y,Mv t (cA path) (cA new) x i k y→¬cA path<+:cA new→¬(pA y.kids at'=none∨(cA path).dropLast=cA new∧at'=k.label)→¬((cA path).dropLast≠cA new∧(iA y.kids k.label).isSome)→6<(cA new).length+xB k→r=.bad 2):=R6
  have HR7:Hid (∀x i k y,Mv t (cA path) (cA new) x i k y→¬cA path<+:cA new→¬(pA y.kids at'=none∨(cA path).dropLast=cA new∧at'=k.label)→¬((cA path).dropLast≠cA new∧(iA y.kids k.label).isSome)→¬6<(cA new).length+xB k→∀z j,eA (dB t x i (cA path).dropLast) (cA new)=some z→pA z.kids at'=some j→r=.ok (sA (fun _=>z.setKids (z.kids.insertIdx j k)) (cA new) (dB t x i (cA path).dropLast))):=R7
  have hpl:(cA path).length≤100000:=by have:=jB path;omega
  have hql:(cA new).length≤100000:=by have:=jB new;omega
  have HPl:=aA (aI hpl hql)
  have HW1:=aA hw1
  clear hWB h hL hE y0 y3 y5 y6 y7 y8 y9 hbx hb0 R1 R2 R3 R4 R5 R6 R7 hpl hql hw1
  generalize cA path=ps at *
  generalize cA new=qs at *
  go_enter Tryz.func35,Tryz.ntmps35
  go_upto_region 1 with fail
  rw[←HX.out]
  go_cut [5,6] (fun x1 x2 wx=>∃pa pc qa qc,x1=.slice pa ps.length pc∧x2=.slice qa qs.length qc∧StrsN w.heap.size wx pa ps∧StrsN w.heap.size wx qa qs∧ps.length≤pc∧qs.length≤qc∧Below WB.heap.size WB wx)
  case first=>
   go_region_with (go_at_call 30;first|(refine(HL1.out _ ?_).mono ?_;(· first|exact Below.refl _ _|exact(Below.refl _ _).drew|exact FA (Below.refl _ _) _);rintro e w1 ⟨⟨pa,pc,rfl,hst,hpc⟩,hb1⟩;have z4:=(hb1.cell (p:=⟨w.heap.size,4,none⟩) HW1.out).trans y4;have H1:=aA (aI hst (aI hpc hb1));clear hst hpc hb1)|(refine(HL2.out _ ?_).mono ?_;(· first|exact H1.out.2.2|exact H1.out.2.2.drew|exact FA H1.out.2.2 _);rintro e w2 ⟨⟨qa,qc,rfl,hst,hpc⟩,hb2,hb3⟩;have H2:=aA (aI hst (aI hpc (aI hb2 (H1.out.1.on (by first|exact hb3|exact AU hb3|exact XS hb3)))));clear hst hpc hb2 hb3))
   all_goals go_wp2_with fail
   all_goals go_meet
   all_goals first|exact⟨_,_,_,_,rfl,rfl,H2.out.2.2.2,H2.out.1,H1.out.2.1,H2.out.2.1,H2.out.2.2.1⟩|trace_state
  case rest=>
   obtain⟨pa,pc,qa,qc,rfl,rfl,hsp,hsq,hpc,hqc,hb1⟩:=hcut
   have hbw1:=HB0.out.trans (hb1.mono HB0.out.size)
   have HB1:=aA hbw1
   have HS:=aA (aI hsp hsq)
   have HC:=aA (aI hpc hqc)
   have z2:=(hb1.cell (p:=⟨w.heap.size,2,none⟩) HW1.out).trans y2
   have HAr:=aA (qH (H0.out.on hbw1) HF.out hsp.at' HPl.out.1 hpc)
   clear hsp hsq hpc hqc hb1 hbw1 y1 y2 y4 HL1 HL2
   go_wp2_with fail
   refine HAr.out.mono ?_
   rintro e w2 ⟨har,hb2⟩
   unfold zR at har
   have HB2:=aA (HB1.out.trans (hb2.mono HB1.out.size))
   have HQ2:=aA (HS.out.2.on hb2)
   have HP2:=aA (HS.out.1.on hb2)
   have x2:=(hb2.cell (p:=⟨w.heap.size,2,none⟩) (dA z2)).trans z2
   have HFd:=aA (vH (pc:=qc) (H0.out.on HB2.out) HF.out HQ2.out.at' HPl.out.2)
   clear z2 HAr
   cases hq:kF t ps with
   |none=>
    rw[hq] at har
    have har:e=_:=har
    subst har
    have HO:=aA (HR1.out hq)
    clear hq hb2
    go_wp2_with fail
    refine HFd.out.mono ?_
    rintro e w3 ⟨hfi,hb3⟩
    have he:∃q,e=.returned (.pointer q):=by
     unfold lF at hfi
     split at hfi
     ·exact⟨_,hfi⟩
     ·obtain⟨_,_,_,_,h9,_⟩:=hfi
      exact⟨_,h9⟩
    obtain⟨q,rfl⟩:=he
    have HB3:=aA (HB2.out.trans (hb3.mono HB2.out.size))
    clear hfi hb3
    have e1:w3.cell? ⟨4,0,none⟩=some (.iface 214 (.pointer (some (p 4)))):=(HEn.out _ HB3.out).L.cell 4 (by omega)
    go_wp2
    go_ret
    rw[HO.out]
    exact⟨by omega,EO.err 4 (by omega),HB3.out.mono hB⟩
   |some xi=>
    obtain⟨x,i⟩:=xi
    rw[hq] at har
    obtain⟨b1,o1,S1,v1,rfl,hf1⟩:=har
    have hf1:=hf1.on (by have:=H0.out.lt;have:=HB1.out.size;omega) hb2
    have HF1:=aA hf1
    have HQ:=aA hq
    clear hq hb2 hf1
    go_wp2_with fail
    refine HFd.out.mono ?_
    rintro e w3 ⟨hfi,hb3⟩
    have HB3:=aA (HB2.out.trans (hb3.mono HB2.out.size))
    have x2:=(hb3.cell (p:=⟨w.heap.size,2,none⟩) (dA x2)).trans x2
    unfold lF at hfi
    cases hq2:eA t qs with
    |none=>
     rw[hq2] at hfi
     have hfi:e=_:=hfi
     subst hfi
     have HO:=aA (HR2.out hq2)
     clear hq2 hb3
     have e1:w3.cell? ⟨4,0,none⟩=some (.iface 214 (.pointer (some (p 4)))):=(HEn.out _ HB3.out).L.cell 4 (by omega)
     go_wp2
     go_ret
     rw[HO.out]
     exact⟨by omega,EO.err 4 (by omega),HB3.out.mono hB⟩
    |some y=>
     rw[hq2] at hfi
     obtain⟨b2,o2,S2,v2,rfl,hf2⟩:=hfi
     have hf2:=hf2.on (by have:=H0.out.lt;have:=HB2.out.size;omega) hb3
     have hf1:=HF1.out.on (by have:=H0.out.lt;have:=HB2.out.size;omega) hb3
     obtain⟨p0,l,k,hp,h1,h2,h3,h4⟩:=yC HQ.out
     have HMv:Hid (Mv t ps qs x i k y):=⟨HQ.out,hq2,h3⟩
     have HLi:=aA (ZR (pc:=qc) (qc:=pc) (HQ2.out.on hb3).at' (HP2.out.on hb3).at' HPl.out.1 HC.out.2)
     have hlt:=H0.out.lt
     have HF2:=aA hf2
     have HF1':=aA hf1
     have HP:=aA (aI hp (aI h1 (aI h2 (aI h3 h4))))
     have HP3:=aA (aI (HP2.out.on hb3) (HQ2.out.on hb3))
     clear hq2 hb3 hf1 hf2 hp h1 h2 h3 h4 HFd HS HP2 HQ2 HF1 HB1 HB2
     have hle:=nN qs ps
     cases hli:SI qs ps
     ·have HN:Hid (¬ps<+:qs):=fun e=>by rw[hle.2 e] at hli;cases hli
      rw[hli] at HLi
      clear hli hle
      go_wp2_with fail
      refine HLi.out.mono ?_
      rintro e w4 ⟨rfl,hb4⟩
      have hf1:=HF1'.out.on (by have:=HB3.out.size;omega) hb4
      have hf2:=HF2.out.on (by have:=HB3.out.size;omega) hb4
      obtain⟨g,cap,K,T,e3,hk,hat⟩:=hf1.at'.kid HP.out.2.2.2.1
      have c3:=hf1.at'.cell (c:=3) (by omega)
      rw[e3] at c3
      obtain⟨g0,g1,⟨la,lc,g2⟩,ka,kc,g3⟩:=hat.own.lies.forms
      have k0:=hat.cell (c:=0) (by omega)
      have k1:=hat.cell (c:=1) (by omega)
      have k2:=hat.cell (c:=2) (by omega)
      have k3:=hat.cell (c:=3) (by omega)
      rw[g0,Nat.add_zero] at k0
      rw[g1] at k1
      rw[g2] at k2
      rw[g3] at k3
      have hil:=(List.getElem?_eq_some_iff.1 HP.out.2.2.2.1).1
      have hiz:(i:Int)<(x.kids.length:Int):=by omega
      have hkl:=(BB _ t x HF.out HP.out.2.1).get.2.1
      obtain⟨W6,hW6⟩:∃W6,W6=w4.alloc (.cells #[.string k.label,.string k.head,.slice la k.lines.length lc,.slice ka k.kids.length kc] 25):=⟨_,rfl⟩
      have hb6:Below w4.heap.size w4 W6:=by rw[hW6];exact bA _ _
      have hbi:W6.heap[w4.heap.size]?=some (.cells #[.string k.label,.string k.head,.slice la k.lines.length lc,.slice ka k.kids.length kc] 25 (0,0)):=by rw[hW6];exact heap_alloc_new _ _
      have x4:=(hb4.cell (p:=⟨w.heap.size,2,none⟩) (dA x2)).trans x2
      have HB4:=aA (HB3.out.trans (hb4.mono HB3.out.size))
      have HW6:=aA hW6
      have HF1:=aA hf1
      have HF2:=aA hf2
      have HK:=aA (aI hk (aI e3 hat))
      have HG:=aA (aI g0 (aI g1 (aI g2 g3)))
      have HP4:=aA (aI (HP3.out.1.on hb4) (HP3.out.2.on hb4))
      have HB6:=aA hb6
      have HBi:=aA hbi
      clear hW6 hf1 hf2 hk e3 hat g0 g1 g2 g3 hb4 hb6 hbi x2 HLi HP3
      generalize hkn:x.kids.length=kn at *
      have HKn:=aA hkn
      clear hkn
      go_upto_region 7 with fail
      rw[←HW6.out]
      obtain⟨m0,m1,m2,m3,mf⟩:=gA HBi.out
      have x6:=(HB6.out.cell (p:=⟨w.heap.size,2,none⟩) (dA x4)).trans x4
      have hf2:=HF2.out.on (by have:=HB4.out.size;omega) HB6.out
      obtain⟨ka2,kc2,hv3,d3⟩:=hf2.at'.kidsV
      have hyl:=(BB _ t y HF.out HMv.out.fd).get.2.1
      have HBe:Hid (∀W,Below W6.heap.size W6 W→Calls Tryz.prog 76 #[.slice ka2 y.kids.length kc2,.string at'] W fun e w'=>e=.returned (.int .i64 (XG (pA y.kids at')))∧Below W6.heap.size W6 w'):=fun W hW=>(UD (hf2.at'.on hW).own.lies hv3 (by omega) at').mono fun e w' h=>⟨h.1,hW.trans (h.2.mono hW.size)⟩
      have HLd:Hid (∀W,Below W6.heap.size W6 W→Calls Tryz.prog 69 #[.slice ka2 y.kids.length kc2,.string k.label] W fun e w'=>e=.returned (.int .i64 (XG (iA y.kids k.label)))∧Below W6.heap.size W6 w'):=fun W hW=>(sC (hf2.at'.on hW).own.lies hv3 (by omega) k.label).mono fun e w' h=>⟨h.1,hW.trans (h.2.mono hW.size)⟩
      have hs1:=Foc.same ((H0.out.on HB4.out).on HB6.out) (HF1.out.on (by have:=HB4.out.size;omega) HB6.out) hf2
      have HSm:Hid ((b2=b1∧o2=o1)↔ps.dropLast=qs):=by
       refine⟨fun h=>?_,fun h=>?_⟩
       ·have:=hs1.1 ⟨h.1.symm,h.2.symm⟩
        exact this
       ·have:=hs1.2 h
        exact⟨this.1.symm,this.2.symm⟩
      have HV3:=aA hv3
      obtain⟨bad,hbad⟩:∃bad:Bool,(bad=true↔(pA y.kids at'=none∨ps.dropLast=qs∧at'=k.label)):=⟨@decide _ (Classical.propDecidable _),@decide_eq_true_iff _ (Classical.propDecidable _)⟩
      have HBad:=aA hbad
      have H46:Hid (w4.heap.size<W6.heap.size):=dA m0
      clear hf2 hv3 hs1 hbad x4 c3 k0 k1 k2 k3
      generalize hyn:y.kids.length=yn at *
      have HYn:=aA hyn
      clear hyn
      go_cut [64] (fun c wx=>c=.bool bad∧Below W6.heap.size W6 wx)
      case first=>
       have HCl:Hid (∀W,Below W6.heap.size W6 W→W.cell? ⟨b2,o2+3,none⟩=some (.slice ka2 yn kc2)∧W.cell? ⟨w.heap.size,2,none⟩=some (.string at')∧W.cell? ⟨w4.heap.size,0,none⟩=some (.string k.label)):=fun W hW=>⟨(hW.cell (p:=⟨b2,o2+3,none⟩) (dA d3)).trans d3,(hW.cell (p:=⟨w.heap.size,2,none⟩) (dA x6)).trans x6,(hW.cell (p:=⟨w4.heap.size,0,none⟩) (dA m0)).trans m0⟩
       clear m1 m2 m3 mf
       cases hbe:pA y.kids at' with
       |none=>
        obtain⟨n1,hn1⟩:∃n1:Int,XG (none:Option Nat)=n1:=⟨_,rfl⟩
        have hn0:n1<0:=by rw[←hn1];decide
        have hb1:bad=true:=HBad.out.2 (.inl hbe)
        rw[hbe,hn1] at HBe
        clear hbe hn1
        subst hb1
        refine ZA (C:=fun W=>Below W6.heap.size W6 W) (by kernel_rfl) (by kernel_rfl) (Below.refl _ _).drew ?_
        refine aD 45 20 ?_
        refine tQ (same:=true) (b1:=b1) (o1:=o1) (b2:=b2) (o2:=o2) (g0:=w.heap.size) (g1:=w4.heap.size) (lab:=k.label) rfl rfl rfl rfl rfl rfl (fun W hW=>(HCl.out W hW).1) (fun W hW=>(HCl.out W hW).2.1) (fun W hW=>(HCl.out W hW).2.2) HBe.out hn0 ?_
        rintro m hm hl W7 hW7
        obtain⟨u0,u1,u2,u3,u4,u5,u6,u7,u8,u9,u10,u11,u12,u13,u14,u15,u16,u17,u18,u19,rfl⟩:=DG hm
        obtain rfl:u19=.bool true:=by injection hl
        clear hm hl
        simp only[MA,List.take_succ_cons,List.take_zero,List.drop_succ_cons,List.drop_zero,List.cons_append,List.nil_append]
        go_wp2_with fail
        go_meet
        exact⟨rfl,hW7⟩
       |some j=>
        rw[hbe,show XG (some j)=(j:Int) from rfl] at HBe
        have hj0:¬((j:Int)<0):=by omega
        by_cases hsm:b2=b1∧o2=o1
        ·obtain⟨e1,e2⟩:=hsm
         have hpq:=HSm.out.1 ⟨e1,e2⟩
         have hbd:(at'.toList==k.label.toList)=bad:=by
          rw[Bool.eq_iff_iff,HBad.out,hbe,beq_iff_eq]
          exact⟨fun h=>.inr ⟨hpq,oG h⟩,fun h=>h.elim (fun h=>by cases h) (fun h=>by rw[h.2])⟩
         have hE:∀W,Below W6.heap.size W6 W→(binOp .eql 51 (.pointer (some ⟨b2,o2,none⟩)) (.pointer (some ⟨b1,o1,none⟩))).run Tryz.prog W=.ok (.bool true) W:=fun W _=>by rw[e1,e2];exact NK _ W
         clear hbe hpq e1 e2
         refine ZA (C:=fun W=>Below W6.heap.size W6 W) (by kernel_rfl) (by kernel_rfl) (Below.refl _ _).drew ?_
         refine aD 45 20 ?_
         refine OO (b1:=b1) (o1:=o1) (b2:=b2) (o2:=o2) (g0:=w.heap.size) (g1:=w4.heap.size) (lab:=k.label) rfl rfl rfl rfl rfl rfl (fun W hW=>(HCl.out W hW).1) (fun W hW=>(HCl.out W hW).2.1) (fun W hW=>(HCl.out W hW).2.2) HBe.out hj0 hE hbd ?_
         rintro m hm hl W7 hW7
         obtain⟨u0,u1,u2,u3,u4,u5,u6,u7,u8,u9,u10,u11,u12,u13,u14,u15,u16,u17,u18,u19,rfl⟩:=DG hm
         obtain rfl:u19=.bool bad:=by injection hl
         clear hm hl
         simp only[MA,List.take_succ_cons,List.take_zero,List.drop_succ_cons,List.drop_zero,List.cons_append,List.nil_append]
         go_wp2_with fail
         go_meet
         exact⟨rfl,hW7⟩
        ·have hbd:bad=false:=by
          cases hbv:bad
          ·rfl
          ·rcases HBad.out.1 hbv with h9|h9
           ·rw[hbe] at h9;cases h9
           ·exact absurd (HSm.out.2 h9.1) hsm
         clear hbe
         subst hbd
         have hE:∀W,Below W6.heap.size W6 W→(binOp .eql 51 (.pointer (some ⟨b2,o2,none⟩)) (.pointer (some ⟨b1,o1,none⟩))).run Tryz.prog W=.ok (.bool false) W:=fun W hW=>YI ((HF2.out.at'.on HB6.out).on hW) ((HF1.out.at'.on HB6.out).on hW) hsm
         clear hsm
         refine ZA (C:=fun W=>Below W6.heap.size W6 W) (by kernel_rfl) (by kernel_rfl) (Below.refl _ _).drew ?_
         refine aD 45 20 ?_
         refine rN (same:=true) (b1:=b1) (o1:=o1) (b2:=b2) (o2:=o2) (g0:=w.heap.size) (g1:=w4.heap.size) (lab:=k.label) rfl rfl rfl rfl rfl rfl (fun W hW=>(HCl.out W hW).1) (fun W hW=>(HCl.out W hW).2.1) (fun W hW=>(HCl.out W hW).2.2) HBe.out hj0 hE ?_
         rintro m hm hl W7 hW7
         obtain⟨u0,u1,u2,u3,u4,u5,u6,u7,u8,u9,u10,u11,u12,u13,u14,u15,u16,u17,u18,u19,rfl⟩:=DG hm
         obtain rfl:u19=.bool false:=by injection hl
         clear hm hl
         simp only[MA,List.take_succ_cons,List.take_zero,List.drop_succ_cons,List.drop_zero,List.cons_append,List.nil_append]
         go_wp2_with fail
         go_meet
         exact⟨rfl,hW7⟩
      case rest=>
       obtain⟨rfl,hb7⟩:=hcut
       obtain⟨w7,e7,hb7⟩:∃w7,w7=_∧Below W6.heap.size W6 w7:=⟨_,rfl,hb7⟩
       subst e7
       have hbw7:Below w.heap.size w w7:=HB4.out.trans ((HB6.out.trans (hb7.mono HB6.out.size)).mono HB4.out.size)
       have HB7:=aA hb7
       have HBw7:=aA hbw7
       clear hb7 hbw7 HBe
       cases bad
       ·have HBf:Hid (¬(pA y.kids at'=none∨ps.dropLast=qs∧at'=k.label)):=fun e=>by have:=HBad.out.2 e;cases this
        clear HBad
        obtain⟨nm,hnm⟩:∃nm:Bool,(nm=true↔(ps.dropLast≠qs∧(iA y.kids k.label).isSome)):=⟨@decide _ (Classical.propDecidable _),@decide_eq_true_iff _ (Classical.propDecidable _)⟩
        have HNm:=aA hnm
        have HCl:Hid (∀W,Below W6.heap.size W6 W→W.cell? ⟨b2,o2+3,none⟩=some (.slice ka2 yn kc2)∧W.cell? ⟨w.heap.size,2,none⟩=some (.string at')∧W.cell? ⟨w4.heap.size,0,none⟩=some (.string k.label)):=fun W hW=>⟨(hW.cell (p:=⟨b2,o2+3,none⟩) (dA d3)).trans d3,(hW.cell (p:=⟨w.heap.size,2,none⟩) (dA x6)).trans x6,(hW.cell (p:=⟨w4.heap.size,0,none⟩) (dA m0)).trans m0⟩
        have HM6:=aA (aI x6 (aI m0 (aI m1 (aI m2 m3))))
        have HD3:=aA d3
        clear hnm x6 m0 m1 m2 m3 mf d3
        go_upto_region 9 with fail
        go_cut [78] (fun c wx=>c=.bool nm∧Below W6.heap.size W6 wx)
        case first=>
         by_cases hsm:b2=b1∧o2=o1
         ·obtain⟨e1,e2⟩:=hsm
          have hpq:=HSm.out.1 ⟨e1,e2⟩
          have hbd:nm=false:=by
           cases hbv:nm
           ·rfl
           ·exact absurd hpq (HNm.out.1 hbv).1
          subst hbd
          have hE:∀W,Below W6.heap.size W6 W→(binOp .neq 51 (.pointer (some ⟨b2,o2,none⟩)) (.pointer (some ⟨b1,o1,none⟩))).run Tryz.prog W=.ok (.bool false) W:=fun W _=>by rw[e1,e2];exact yN _ W
          clear hpq e1 e2
          refine ZA (C:=fun W=>Below W6.heap.size W6 W) (by kernel_rfl) (by kernel_rfl) HB7.out.drew ?_
          refine aD 66 13 ?_
          refine PO (same:=true) (b1:=b1) (o1:=o1) (b2:=b2) (o2:=o2) (g1:=w4.heap.size) (lab:=k.label) rfl rfl rfl rfl rfl (fun W hW=>(HCl.out W hW).1) (fun W hW=>(HCl.out W hW).2.2) HLd.out hE ?_
          rintro m hm hl W7 hW7
          obtain⟨u0,u1,u2,u3,u4,u5,u6,u7,u8,u9,u10,u11,u12,rfl⟩:=WF hm
          obtain rfl:u12=.bool false:=by injection hl
          clear hm hl
          simp only[MA,List.take_succ_cons,List.take_zero,List.drop_succ_cons,List.drop_zero,List.cons_append,List.nil_append]
          go_wp2_with fail
          go_meet
          exact⟨rfl,hW7⟩
         ·have hs9:decide (0≤XG (iA y.kids k.label))=nm:=by
           rw[Bool.eq_iff_iff,HNm.out,decide_eq_true_iff]
           constructor
           ·intro h9
            refine⟨fun e=>hsm (HSm.out.2 e),?_⟩
            cases hk9:iA y.kids k.label with
            |none=>rw[hk9] at h9;revert h9;decide
            |some z=>rfl
           ·rintro ⟨_,h9⟩
            obtain⟨z,hz⟩:=Option.isSome_iff_exists.1 h9
            rw[hz]
            exact Int.natCast_nonneg z
          have hE:∀W,Below W6.heap.size W6 W→(binOp .neq 51 (.pointer (some ⟨b2,o2,none⟩)) (.pointer (some ⟨b1,o1,none⟩))).run Tryz.prog W=.ok (.bool true) W:=fun W hW=>SL ((HF2.out.at'.on HB6.out).on hW) ((HF1.out.at'.on HB6.out).on hW) hsm
          clear hsm
          refine ZA (C:=fun W=>Below W6.heap.size W6 W) (by kernel_rfl) (by kernel_rfl) HB7.out.drew ?_
          refine aD 66 13 ?_
          refine sN (b1:=b1) (o1:=o1) (b2:=b2) (o2:=o2) (g1:=w4.heap.size) (lab:=k.label) rfl rfl rfl rfl rfl (fun W hW=>(HCl.out W hW).1) (fun W hW=>(HCl.out W hW).2.2) HLd.out hE hs9 ?_
          rintro m hm hl W7 hW7
          obtain⟨u0,u1,u2,u3,u4,u5,u6,u7,u8,u9,u10,u11,u12,rfl⟩:=WF hm
          obtain rfl:u12=.bool nm:=by injection hl
          clear hm hl
          simp only[MA,List.take_succ_cons,List.take_zero,List.drop_succ_cons,List.drop_zero,List.cons_append,List.nil_append]
          go_wp2_with fail
          go_meet
          exact⟨rfl,hW7⟩
        case rest=>
         obtain⟨rfl,hb8⟩:=hcut
         obtain⟨w8,e8,hb8⟩:∃w8,w8=_∧Below W6.heap.size W6 w8:=⟨_,rfl,hb8⟩
         subst e8
         have hbw8:Below w.heap.size w w8:=HB4.out.trans ((HB6.out.trans (hb8.mono HB6.out.size)).mono HB4.out.size)
         have HB8:=aA hb8
         have HBw8:=aA hbw8
         clear hb8 hbw8 hf1 hf2 x2 HF1' HCl HLd HD3 HBw7 HB7 HV3
         cases nm
         ·have HNf:Hid (¬(ps.dropLast≠qs∧(iA y.kids k.label).isSome)):=fun e=>by have:=HNm.out.2 e;cases this
          clear HNm
          have hlk:xB k≤7:=by
           have h1:=(qB p0 0 t x HLaw.out.1 HP.out.2.1).deep
           have h2:=AE x.kids k (List.mem_of_getElem? HP.out.2.2.2.1)
           rw[DC] at h1
           omega
          have HLk:=aA hlk
          obtain⟨z2,z3,z4,z5,z6⟩:=HM6.out
          have n0:=(HB8.out.cell (p:=⟨w4.heap.size,0,none⟩) (dA z3)).trans z3
          have n1:=(HB8.out.cell (p:=⟨w4.heap.size,1,none⟩) (dA z4)).trans z4
          have n2:=(HB8.out.cell (p:=⟨w4.heap.size,2,none⟩) (dA z5)).trans z5
          have n3:=(HB8.out.cell (p:=⟨w4.heap.size,3,none⟩) (dA z6)).trans z6
          clear z2 z3 z4 z5 z6
          have HFk:=aA ((BB _ t x HF.out HP.out.2.1).get.2.2.2.2.2 k (List.mem_of_getElem? HP.out.2.2.2.1))
          have hb48:Below w4.heap.size w4 w8:=HB6.out.trans (HB8.out.mono HB6.out.size)
          have hlev:=DK (jA k) k (nR _) HFk.out (by omega) (K i) w8 _ ((HK.out.1.on hb48).hr i k HP.out.2.2.2.1).lies
          rw[HG.out.1,HG.out.2.1,HG.out.2.2.1,HG.out.2.2.2] at hlev
          have HLev:=aA hlev
          have HB48:=aA hb48
          have hql:=HPl.out.2
          obtain⟨lk,hlk2⟩:∃lk,lk=xB k:=⟨_,rfl⟩
          have HLq:=aA hlk2
          rw[←hlk2] at HLev hlk
          have hwr:IntKind.i64.wrap ((qs.length:Int)+(lk:Int))=(qs.length:Int)+(lk:Int):=by rw[IntKind.wrap_i64];omega
          clear hlev hb48 hlk2
          go_wp2_with fail
          refine HLev.out.mono ?_
          rintro e w9 ⟨rfl,hb9⟩
          have HB9:=aA hb9
          have HBw9:=aA (HBw8.out.trans (hb9.mono HBw8.out.size))
          clear hb9 HLev
          by_cases h6:(6:Int)<(qs.length:Int)+(lk:Int)
          ·have HO:=aA (HR6.out _ _ _ _ HMv.out HN.out HBf.out HNf.out (by have:=HLq.out;omega))
           have e1:w9.cell? ⟨0,0,none⟩=some (.iface 214 (.pointer (some (p 1)))):=(HEn.out _ HBw9.out).L.cell 1 (by omega)
           clear n0 n1 n2 n3
           go_wp2
           go_ret
           rw[HO.out]
           exact⟨by omega,EO.err 1 (by omega),HBw9.out.mono hB⟩
          ·have H6:Hid (¬6<qs.length+xB k):=fun e=>h6 (by have:=HLq.out;omega)
           have HN9:=aA (aI ((HB9.out.cell (p:=⟨w4.heap.size,0,none⟩) (dA n0)).trans n0) (aI ((HB9.out.cell (p:=⟨w4.heap.size,1,none⟩) (dA n1)).trans n1) (aI ((HB9.out.cell (p:=⟨w4.heap.size,2,none⟩) (dA n2)).trans n2) ((HB9.out.cell (p:=⟨w4.heap.size,3,none⟩) (dA n3)).trans n3))))
           have HX9:=aA ((HB9.out.cell (p:=⟨w.heap.size,2,none⟩) (dA ((HB8.out.cell (p:=⟨w.heap.size,2,none⟩) (dA HM6.out.1)).trans HM6.out.1))).trans ((HB8.out.cell (p:=⟨w.heap.size,2,none⟩) (dA HM6.out.1)).trans HM6.out.1))
           have hb49:Below w4.heap.size w4 w9:=HB48.out.trans (HB9.out.mono HB48.out.size)
           have hf1:=HF1.out.on (by have:=HB4.out.size;omega) hb49
           have HK9:=aA (HK.out.1.on hb49)
           have hxl:x.kids.length≤1000000:=by rw[HKn.out];omega
           have e3:v1 3=.slice (some ⟨g,0,none⟩) x.kids.length cap:=by rw[HKn.out];exact HK.out.2.1
           have hc3:=hf1.at'.cell (c:=3) (by omega)
           have hdr:=mM hf1.at' HK9.out HP.out.2.2.2.1 hxl e3
           rw[e3] at hc3
           rw[HKn.out] at hdr hc3
           have HD:=aA hdr
           have HF1n:=aA hf1
           have HP9:=aA (aI (HP4.out.1.on hb49) (HP4.out.2.on hb49))
           have HB49:=aA hb49
           have hwr2:IntKind.i64.wrap ((i:Int)+1)=(i:Int)+1:=by rw[IntKind.wrap_i64];omega
           clear hdr hf1 n0 n1 n2 n3 hb49 hxl e3 hwr HF1 HF2 HP4 HB48 HLk HM6
           go_wp2_with fail
           refine HD.out.mono ?_
           rintro e w10 ⟨ra,rn,rc,rfl,hst⟩
           obtain⟨old,hcl⟩:=hst.cell
           have hfz:=hst.frz
           have HST:=aA hst.fin
           clear hst HD hc3 hwr2
           obtain⟨w11,h11⟩:∃w11,w11=w10.setCell ⟨b1,o1+3,none⟩ (.slice ra rn rc):=⟨_,rfl⟩
           have H11:=aA h11
           clear h11
           go_upto_region 14 with fail
           rw[←H11.out]
           have hpd:ps.dropLast=p0:=by rw[HP.out.1];simp
           have hps:ps=ps.dropLast++[l]:=by rw[hpd];exact HP.out.1
           have hSw:∀q,S q→q<w.heap.size:=fun q hq=>(H0.out.own.in q hq).2
           have hb1w:b1<w.heap.size:=by
            by_cases h0:ps.dropLast=[]
            ·rw[(HF1n.out.root h0).1];exact H0.out.lt
            ·exact hSw b1 (HF1n.out.inn h0)
           obtain⟨v5,q1,q2,q3⟩:=HST.out w11 (by rw[H11.out]) (by rw[H11.out];rfl) (by rw[H11.out];rfl) (by rw[H11.out];rfl)
           have hS1w:∀q,S1 q→q<w.heap.size:=fun q hq=>hSw q (HF1n.out.sub q hq)
           obtain⟨S3,v3',e1,e2,e4,e5⟩:=wQ H0.out HBw9.out HF1n.out HK9.out (by rw[HKn.out];exact hil) q1 q3
           have hlaw:=RH HLaw.out HF1n.out.fnd HP.out.2.2.2.1
           obtain⟨z,j,hz,hj,hjl⟩:=pG (a:=at') HLaw.out.1.ds HF1n.out.fnd HP.out.2.2.2.1 HP.out.2.2.2.2 (by rw[←hps];exact HN.out) HMv.out.fd (fun e=>HBf.out (.inl e)) (fun e=>HBf.out (.inr ⟨e.1,by rw[HP.out.2.2.2.2];exact e.2⟩))
           have hfar:∀q c u,w.heap.size≤q→w9.cell? ⟨q,c,none⟩=some u→w11.cell? ⟨q,c,none⟩=some u:=fun q c u hq hc=>(World.cell?_of_block (a:=⟨q,c,none⟩) (q3.block q (dA hc) (fun e=>by have:=hS1w q e;omega) (by omega))).trans hc
           have HN11:=aA (aI (hfar _ _ _ HB4.out.size HN9.out.1) (aI (hfar _ _ _ HB4.out.size HN9.out.2.1) (aI (hfar _ _ _ HB4.out.size HN9.out.2.2.1) (hfar _ _ _ HB4.out.size HN9.out.2.2.2))))
           have HX11:=aA (hfar _ _ _ (nR _) HX9.out)
           have hq11:=HP9.out.2.upd q3 hb1w hS1w
           have HFd:=aA (vH (pc:=qc) e1 (RB hlaw) hq11.at' HPl.out.2)
           have HE1:=aA e1
           have HE2:=aA (aI e2 (aI e4 (aI e5 (aI q2 (aI hSw (RB hlaw))))))
           have HZ:=aA (aI hz (aI hj hjl))
           clear hpd hps hb1w q1 q2 q3 hS1w e1 e2 e4 e5 hlaw hz hj hjl hfar hq11 hSw HST hcl hfz HK9 HP9 HN9 HX9
           go_wp2_with fail
           refine HFd.out.mono ?_
           rintro e w12 ⟨hfi,hb12⟩
           unfold lF at hfi
           rw[HZ.out.1] at hfi
           obtain⟨b3,o3,S4,v4,rfl,hf3⟩:=hfi
           have hb11:b<w11.heap.size:=HE1.out.lt
           have hf4:=hf3.on hb11 hb12
           obtain⟨za,zc,hv4,hc4⟩:=hf4.at'.kidsV
           have HF4:=aA hf4
           have HB12:=aA hb12
           clear hf3 hb12 HFd hf4 hb11
           go_upto_region 15 with fail
           refine wp_region_noPanic ?_
           refine eD (S:=fun V=>Below w12.heap.size w12 V) (L:=[14,15,16,17]) (by kernel_rfl) ?_
           refine yJ 101 17 ?_
           have hzl:=(BB _ _ z HE2.out.2.2.2.2.2 HZ.out.1).get.2.1
           have hbw:w.heap.size≤w12.heap.size:=Nat.le_trans HE2.out.2.1.size HB12.out.size
           refine dS (W0:=w12) (b3:=b3) (o3:=o3) (g0:=w.heap.size) (g1:=w4.heap.size) (zn:=z.kids.length) (kc:=zc) (ka:=za) (ln:=k.lines.length) (lc:=lc) (kn:=k.kids.length) (kc2:=kc) (la:=la) (ka2:=ka) (lab:=k.label) (hd:=k.head) (at':=at') (j:=j) (R:=fun w''=>ChO w B b o S p (.ok (sA (fun _=>z.setKids (z.kids.insertIdx j k)) qs (dB t x i ps.dropLast))) (.returned .nilIface) w'') rfl rfl (fun _ _ _ _ _ h=>h) rfl rfl rfl ?_ ?_ ?_ ?_ (Below.refl _ _).drew
           ·intro V hV
            have c4:∀q c u,w11.cell? ⟨q,c,none⟩=some u→V.cell? ⟨q,c,none⟩=some u:=fun q c u hc=>(hV.cell (p:=⟨q,c,none⟩) (by have:=dA hc;have:=HB12.out.size;exact Nat.lt_of_lt_of_le (dA hc) HB12.out.size)).trans ((HB12.out.cell (p:=⟨q,c,none⟩) (dA hc)).trans hc)
            exact⟨(hV.cell (p:=⟨b3,o3+3,none⟩) (dA hc4)).trans hc4,c4 _ _ _ HX11.out,c4 _ _ _ HN11.out.1,c4 _ _ _ HN11.out.2.1,c4 _ _ _ HN11.out.2.2.1,c4 _ _ _ HN11.out.2.2.2⟩
           ·intro V hV
            refine(UD (HF4.out.at'.on hV).own.lies hv4 (by omega) at').mono fun e w' h=>⟨?_,h.2⟩
            rw[h.1,HZ.out.2.1]
            rfl
           ·intro V vb hV hvk hvb
            have hat:=HF4.out.at'.on hV
            have hTy:=QO HE2.out.1 HE2.out.2.2.1 H0.out.out HF4.out
            have hS4w:∀q,S4 q→q<w.heap.size:=fun q hq=>HE2.out.2.2.2.2.1 q (HE2.out.1 q (HF4.out.sub q hq)).1
            have hbV:Below w11.heap.size w11 V:=HB12.out.trans (hV.mono HB12.out.size)
            have hyo:Own V B (K i) k (T i):=HE2.out.2.2.2.1.step (fun q hq=>hbV.block q (HE2.out.2.2.2.1.in q hq).2) hbV.size
            have hf5:=HF4.out.on (Nat.lt_of_lt_of_le H0.out.lt hbw) hV
            refine(DS (d:=j) (vb:=vb) (k:=k) (y:=K i) (Ty:=T i) hat (Nat.le_trans hB (Nat.le_trans hbw hV.size)) HZ.out.2.2 (by omega) hv4 hyo hTy (by rw[HG.out.1,HG.out.2.1,HG.out.2.2.1,HG.out.2.2.2];exact hvk) (fun e=>by have:=hS4w vb e;omega)).mono ?_
            rintro e w' ⟨a,n,c,he,hst⟩
            refine⟨a,n,c,he,hst.cell,hst.frz,fun w'' h1 h2 h3 h4=>?_⟩
            obtain⟨S',v',r1,r2,r3⟩:=hst.fin w'' h1 h2 h3 h4
            exact vQ H0.out.lt HE2.out.2.2.2.2.1 H0.out.out HE2.out.1 HE2.out.2.2.1 HE2.out.2.1 hbV hf5 r1 r2 r3
           ·intro m w'' hm hR
            obtain⟨u0,u1,u2,u3,u4,u5,u6,u7,u8,u9,u10,u11,u12,u13,u14,u15,u16,rfl⟩:=eJ hm
            clear hm
            refine NoPanic.normal ?_
            simp only[MA,List.take_succ_cons,List.take_zero,List.drop_succ_cons,List.drop_zero,List.cons_append,List.nil_append]
            go_wp2_with fail
            go_ret
            rw[HR7.out _ _ _ _ HMv.out HN.out HBf.out HNf.out H6.out z j HZ.out.1 HZ.out.2.1]
            exact hR
         ·have HO:=aA (HR5.out _ _ _ _ HMv.out HN.out HBf.out (HNm.out.1 rfl))
          have e1:w8.cell? ⟨6,0,none⟩=some (.iface 214 (.pointer (some (p 6)))):=(HEn.out _ HBw8.out).L.cell 6 (by omega)
          go_wp2
          go_ret
          rw[HO.out]
          exact⟨by omega,EO.err 6 (by omega),HBw8.out.mono hB⟩
       ·have HO:=aA (HR4.out _ _ _ _ HMv.out HN.out (HBad.out.1 rfl))
        have e1:w7.cell? ⟨4,0,none⟩=some (.iface 214 (.pointer (some (p 4)))):=(HEn.out _ HBw7.out).L.cell 4 (by omega)
        clear x6 m0 m1 m2 m3 mf d3
        go_wp2
        go_ret
        rw[HO.out]
        exact⟨by omega,EO.err 4 (by omega),HBw7.out.mono hB⟩
     ·have HO:=aA (HR3.out _ _ _ _ HMv.out (hle.1 hli))
      rw[hli] at HLi
      clear hli hle
      go_wp2_with fail
      refine HLi.out.mono ?_
      rintro e w4 ⟨rfl,hb4⟩
      have HB4:=aA (HB3.out.trans (hb4.mono HB3.out.size))
      clear hb4
      have e1:w4.cell? ⟨4,0,none⟩=some (.iface 214 (.pointer (some (p 4)))):=(HEn.out _ HB4.out).L.cell 4 (by omega)
      go_wp2
      go_ret
      rw[HO.out]
      exact⟨by omega,EO.err 4 (by omega),HB4.out.mono hB⟩
end Go.Proofs.YtpbolcjcmkmalaaGreatDoor

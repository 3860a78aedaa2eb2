import Derived.Test.YtpbolcjcmkmalaaGreatDoorAq00
import Derived.Test.YtpbolcjcmkmalaaGreatDoorAq25
import Derived.Test.YtpbolcjcmkmalaaGreatDoorAq37
import Derived.BigQuiet
set_option maxHeartbeats 20000000
set_option maxRecDepth 20000
namespace Go.Proofs.YtpbolcjcmkmalaaGreatDoor
open Go.RowKit Go.Extern.Stop Go.Stop Go.Extern
theorem BO{s:ByteArray}{w w':World}{e:Ending}(h:RO s w w' e):Below w.heap.size w w'∧∃n v1 v2,e=.returned (.tuple #[.agg #[.int .i64 n,.string v1,.string v2],.bool (isLab s)]):=by
 obtain⟨hb,h⟩:=h
 refine⟨hb,?_⟩
 rcases h with ⟨k,l,hl,rfl⟩|⟨hn,n,v1,v2,rfl⟩
 ·have:isLab s=true:=by unfold isLab;exact @decide_eq_true _ (Classical.propDecidable _) ⟨k,l,hl⟩
  rw[this];exact⟨_,_,_,rfl⟩
 ·have:isLab s=false:=by unfold isLab;exact @decide_eq_false _ (Classical.propDecidable _) hn
  rw[this];exact⟨_,_,_,rfl⟩
theorem AK{s:ByteArray}(h:s.size≤300):leB s=if lineB s=true then 0 else 1:=by unfold leB;rw[if_neg (by omega)]
set_option maxRecDepth 10000 in
theorem NC(t:It)(hF:FewIt t)(hsz:jA t≤4194304)(w:World)(P:Nat→Prop)(v:Nat→Value)(hL:Lies w P v t):
 Calls Tryz.prog 19 #[.agg #[v 0,v 1,v 2,v 3]] w fun e w'=>e=.returned (.int .i64 (gC (vIt 0 0 [] t)))∧Below w.heap.size w w':=by
 obtain⟨f0,f1,⟨la,lc,f2⟩,⟨ka,kc,f3⟩⟩:=hL.forms
 have HO:Hid (gC (scanF 0 (NB 0 0 [] t))=gC (vIt 0 0 [] t)):=by show _=_;rw[sP,LN]
 have HRk:=aA (fun i r (h:(NB 0 0 [] t)[i]?=some r)=>(oM _ t (nR _) hF 0 0 4194304 [] (nR _) (by simp) (by omega) r (List.mem_of_getElem? h)).1)
 have HRf:=aA (fun i r h=>DN (t:=t) (i:=i) (r:=r) h)
 have hrl:=SE _ t (nR _) 0 0 []
 obtain⟨W1,hW1⟩:∃W1,W1=w.alloc (.cells #[.string t.label,.string t.head,.slice la t.lines.length lc,.slice ka t.kids.length kc] 25):=⟨_,rfl⟩
 have hb1:Below w.heap.size w W1:=by rw[hW1];exact bA _ _
 have hx1:W1.heap[w.heap.size]?=some (.cells #[.string t.label,.string t.head,.slice la t.lines.length lc,.slice ka t.kids.length kc] 25 (0,0)):=by rw[hW1];exact heap_alloc_new _ _
 have HFl:=aA (qO t hsz W1 P v (hL.bel hb1))
 rw[f0,f1,f2,f3] at HFl
 rw[f0,f1,f2,f3]
 have HB1:=aA hb1
 have HW1:=aA hW1
 have hs1:=hb1.size
 obtain⟨x0,x1,x2,x3,xf⟩:=gA hx1
 have hrn:(NB 0 0 [] t).length≤4194304:=by omega
 clear hL f0 f1 f2 f3 hb1 hx1 hW1 hsz hF hrl
 generalize gC (vIt 0 0 [] t)=O at *
 generalize NB 0 0 [] t=rows at *
 generalize t.label=l0 at *
 generalize t.head=l1 at *
 generalize t.lines.length=l2 at *
 generalize t.kids.length=l3 at *
 go_enter Tryz.func19,Tryz.ntmps19
 go_upto_region 1 with fail
 rw[←HW1.out]
 go_wp2_with fail
 go_at_call 36
 refine HFl.out.mono ?_
 rintro e w2 ⟨ra,rc,V,rfl,hFA,hb2⟩
 have HFA:=aA hFA
 have HB2:=aA (HB1.out.trans (hb2.mono hs1))
 have hB2:=hb2.size
 clear hFA hb2 x0 x1 x2 x3 xf
 obtain⟨rn,hrne⟩:∃rn,rn=rows.length:=⟨_,rfl⟩
 rw[←hrne] at hrn HFA
 rw[←hrne]
 have HRn:=aA hrne
 clear hrne
 go_wp2_with fail
 go_loopw [4] (fun y wr=>∃i:Nat,i≤rn∧y=.int .i64 i∧gC (scanF i (rows.drop i))=O∧Below w2.heap.size w2 wr) (fun y _=>(rn - RowKit.intOf y).toNat)
 case atStart=>exact⟨0,by omega,rfl,by rw[List.drop_zero];exact HO.out,Below.refl _ _⟩
 case round=>
  obtain⟨i,hi,rfl,hsc,hbw⟩:=hrel
  obtain⟨wo,ewo⟩:∃wo,wo=wr:=⟨_,rfl⟩
  subst wr
  have HSc:=aA hsc
  have HBw:=aA hbw
  have hsw:=hbw.size
  clear hsc hbw
  by_cases hin:i<rn
  ·have hiz:(i:Int)<rn:=by omega
   obtain⟨r,hr⟩:∃r,rows[i]?=some r:=⟨_,List.getElem?_eq_getElem (by rw[←HRn.out];exact hin)⟩
   have HOk:=aA (HRk.out i r hr)
   have HFi:=aA (HRf.out i r hr)
   have HSt:=aA (FN hr)
   have HFw:=aA (HFA.out.on hB2 HBw.out)
   have HRw:=aA (HFw.out.each i r hr)
   obtain⟨-,g,hra,cx⟩:=HFw.out.get hr
   subst hra
   obtain⟨g0,g1,⟨pa,pc,g2⟩,⟨pk,pkc,g3⟩⟩:=HRw.out.it.forms
   obtain⟨np,g5⟩:=HRw.out.pa
   obtain⟨ua,uc,g7,hup⟩:=HRw.out.up
   have g4:=HRw.out.dp
   have g6:=HRw.out.nt
   have y0:wo.cell? ⟨g,i * 8,none⟩=some (V i 0):=cx 0 (by omega)
   have y1:=cx 1 (by omega)
   have y2:=cx 2 (by omega)
   have y3:=cx 3 (by omega)
   have y4:=cx 4 (by omega)
   have y5:=cx 5 (by omega)
   have y6:=cx 6 (by omega)
   have y7:=cx 7 (by omega)
   rw[g0] at y0
   rw[g1] at y1
   rw[g2] at y2
   rw[g3] at y3
   rw[g4] at y4
   rw[g5] at y5
   rw[g6] at y6
   rw[g7] at y7
   have HLn:=aA (HRw.out.it.linesIn g2).2
   have HUp:=aA hup
   have hfw:=HOk.out.few.get
   have hdp:=HOk.out.dp
   have hnt:=HOk.out.nt
   have hul:=HOk.out.ul
   obtain⟨q1,q2,q3,q4,q5,_⟩:=hfw
   obtain⟨T,hT⟩:∃T,T=r.item:=⟨_,rfl⟩
   have HRE:Hid (rowE i r=if 6<r.deep∨300<i∨OB T=true then 2 else if labelOk r.deep (r.up.take r.nth) T=false then 7 else if textsOk T=false then 1 else 0):=by show _=_;rw[hT];rfl
   rw[←hT] at HLn q1 q3 q4 q5 y0 y1 y2 y3
   clear g0 g1 g2 g3 g4 g5 g6 g7 hup cx hT
   have HGr:Hid (OB T=(decide (40<T.lines.length)||(iB T.head||T.lines.any iB))):=rfl
   have HTx:Hid (textsOk T=(lineB T.head&&!(T.lines.any badB))):=rfl
   have hlg:iB T.head=decide ((300:Int)<(T.head.size:Int)):=by unfold iB;rw[decide_eq_decide];omega
   obtain⟨ln,hln⟩:∃ln,ln=T.lines.length:=⟨_,rfl⟩
   rw[←hln] at y2 q1
   have HLl:=aA hln
   have HLb:=aA (fun w=>NG T.label q5 w)
   have HQ3:=aA q3
   obtain⟨W5,hW5⟩:∃W5,W5=wo.alloc (.cells #[.string T.label,.string T.head,.slice pa ln pc,.slice pk T.kids.length pkc,.int .i64 r.deep,.string np,.int .i64 r.nth,.slice ua r.up.length uc] 82):=⟨_,rfl⟩
   have hb5:Below wo.heap.size wo W5:=by rw[hW5];exact bA _ _
   have hx5:W5.heap[wo.heap.size]?=some (.cells #[.string T.label,.string T.head,.slice pa ln pc,.slice pk T.kids.length pkc,.int .i64 r.deep,.string np,.int .i64 r.nth,.slice ua r.up.length uc] 82 (0,0)):=by rw[hW5];exact heap_alloc_new _ _
   have HX5:=aA hx5
   have HB5:=aA hb5
   have hs5:=lt_of_block hx5
   clear hb5 hln q3 hr
   generalize T.kids.length=xk at *
   generalize r.deep=dd at *
   generalize r.nth=nn at *
   generalize r.up=up at *
   generalize hun:up.length=un at *
   generalize rowE i r=RE at *
   go_upto_region 6 with fail
   rw[←hW5]
   clear hW5 y0 y1 y2 y3 y4 y5 y6 y7
   obtain⟨z0,z1,z2,z3,z4,z5,z6,z7⟩:=lO hx5
   clear hx5
   go_wp2_with fail
   go_loop [6,7] (fun lg y=>∃k:Nat,k≤ln∧y=.int .i64 k∧lg=.bool (iB T.head||(T.lines.take k).any iB)) (fun _ y=>(ln - RowKit.intOf y).toNat)
   case atStart=>exact⟨0,by omega,rfl,by rw[List.take_zero,hlg];simp⟩
   case round=>
    obtain⟨k,hk,rfl,rfl⟩:=hrel
    by_cases hkl:k<ln
    ·have hkz:(k:Int)<ln:=by omega
     obtain⟨x,hx⟩:∃x,T.lines[k]?=some x:=⟨_,List.getElem?_eq_getElem (by rw[←HLl.out];exact hkl)⟩
     obtain⟨gb,go,hpa,_,cx⟩:=HLn.out k x hx
     subst hpa
     have dx:=(HB5.out.cell (p:=⟨gb,go+k,none⟩) (dA cx)).trans cx
     have HA:=aA (pH iB T.lines k x hx)
     have hlx:iB x=decide ((300:Int)<(x.size:Int)):=by unfold iB;rw[decide_eq_decide];omega
     clear cx hx
     generalize hq:(iB T.head||(T.lines.take k).any iB)=q at *
     have HQ:=aA hq
     clear hq
     cases q
     ·go_wp2
      go_round
      case rel=>exact⟨k+1,by omega,by go_num,congrArg Value.bool (by rw[HA.out,←Bool.or_assoc,HQ.out,hlx];simp)⟩
      case measure=>simp[RowKit.intOf];omega
     ·go_wp2
      go_round
      case rel=>exact⟨k+1,by omega,by go_num,congrArg Value.bool (by rw[HA.out,←Bool.or_assoc,HQ.out];rfl)⟩
      case measure=>simp[RowKit.intOf];omega
    ·obtain rfl:k=ln:=by omega
     have hkz:¬(k:Int)<k:=by omega
     have hall:=kL (l:=T.lines) HLl.out
     rw[hall]
     generalize hq:(iB T.head||T.lines.any iB)=q at *
     have HQ:=aA hq
     have HW5:=aA (HBw.out.trans (HB5.out.mono hsw))
     have HAll:=aA (HB2.out.trans (HW5.out.mono (HB2.out.size)))
     clear hq hall hlg
     by_cases h6:6<dd
     ·have h6d:(6:Int)<(dd:Int):=by omega
      have HE:Hid (O=2):=by
       have h:RE=2:=by rw[HRE.out,if_pos (.inl h6)]
       show _=_
       rw[←HSc.out,HSt.out,h];rfl
      clear h6
      go_wp2
      go_ret
      exact⟨by rw[HE.out];rfl,HAll.out⟩
     have h6d:¬(6:Int)<(dd:Int):=by omega
     by_cases h3:300<i
     ·have h3d:(300:Int)<(i:Int):=by omega
      have HE:Hid (O=2):=by
       have h:RE=2:=by rw[HRE.out,if_pos (.inr (.inl h3))]
       show _=_
       rw[←HSc.out,HSt.out,h];rfl
      clear h3
      go_wp2
      go_ret
      exact⟨by rw[HE.out];rfl,HAll.out⟩
     have h3d:¬(300:Int)<(i:Int):=by omega
     by_cases h4:40<k
     ·have h4d:(40:Int)<(k:Int):=by omega
      have HE:Hid (O=2):=by
       have h:RE=2:=by rw[HRE.out,if_pos (.inr (.inr (by rw[HGr.out,←HLl.out];simp[h4])))]
       show _=_
       rw[←HSc.out,HSt.out,h];rfl
      clear h4
      go_wp2
      go_ret
      exact⟨by rw[HE.out];rfl,HAll.out⟩
     have h4d:¬(40:Int)<(k:Int):=by omega
     cases q
     case true=>
      have HE:Hid (O=2):=by
       have h:RE=2:=by rw[HRE.out,if_pos (.inr (.inr (by rw[HGr.out];simp)))]
       show _=_
       rw[←HSc.out,HSt.out,h];rfl
      clear h6 h3 h4
      go_wp2
      go_ret
      exact⟨by rw[HE.out];rfl,HAll.out⟩
     have HRE2:Hid (RE=if labelOk dd (up.take nn) T=false then 7 else if textsOk T=false then 1 else 0):=by
      show _=_
      rw[HRE.out,if_neg]
      rintro (h|h|h)
      ·exact h6 h
      ·exact h3 h
      ·rw[HGr.out,←HLl.out] at h
       simp[h4] at h
     have hnl:T.head.size≤300∧T.lines.any iB=false:=by
      have h:=HQ.out
      rw[Bool.or_eq_false_iff] at h
      refine⟨?_,h.2⟩
      have h1:=h.1
      unfold iB at h1
      have:=of_decide_eq_false h1
      omega
     have HNl:Hid (∀x∈T.lines,x.size≤300):=fun x hx=>by
      have h:=hnl.2
      rw[List.any_eq_false] at h
      have h1:=h x hx
      unfold iB at h1
      simp at h1
      exact h1
     have hh3:=hnl.1
     have HLo:Hid (labelOk dd (up.take nn) T=if dd=0 then decide (T.label.size=0) else isLab T.label&&!((up.take nn).any fun k=>k.label.toList==T.label.toList)):=rfl
     clear h6 h3 h4 hnl HRE HGr
     go_wp2_with fail
     go_at_call 37
     refine(HLb.out _).mono ?_
     rintro e w6 hR
     obtain⟨hb6,ln1,v1,v2,rfl⟩:=BO hR
     clear hR
     obtain⟨W7,hW7⟩:∃W7,W7=w6.alloc (.cells #[.int .i64 ln1,.string v1,.string v2] 84):=⟨_,rfl⟩
     have hb67:Below w6.heap.size w6 W7:=by rw[hW7];exact bA _ _
     have hb57:Below W5.heap.size W5 W7:=hb6.trans (hb67.mono hb6.size)
     have hx7:=(hb57.block wo.heap.size hs5).trans HX5.out
     have HX7:=aA hx7
     have hs7:=lt_of_block hx7
     have HR7:=aA (HB5.out.trans (hb57.mono (by omega)))
     have HW7:=aA (HW5.out.trans (hb57.mono (by have:=HW5.out.size;omega)))
     go_upto_region 14 with fail
     rw[←hW7]
     clear hW7 hb6 hb67 hb57 z0 z1 z2 z3 z4 z5 z6 z7
     obtain⟨z0,z1,z2,z3,z4,z5,z6,z7⟩:=lO hx7
     clear hx7
     obtain⟨ok0,HK0,HOK⟩:∃ok0,Hid (ok0=if i=0 then decide (T.label.size=0) else isLab T.label)∧Hid (labelOk dd (up.take nn) T=(ok0&&!((up.take nn).any fun k=>k.label.toList==T.label.toList))):=by
      refine⟨_,rfl,?_⟩
      show _=_
      rw[HLo.out]
      by_cases h0:i=0
      ·rw[if_pos (HFi.out.1.2 h0),if_pos h0,HFi.out.2 h0,List.take_zero]
       simp
      ·rw[if_neg (fun e=>h0 (HFi.out.1.1 e)),if_neg h0]
     have hcase:i=0∧ok0=decide (T.label.size=0)∨i≠0∧ok0=isLab T.label:=by
      by_cases h0:i=0
      ·exact .inl ⟨h0,by rw[HK0.out,if_pos h0]⟩
      ·exact .inr ⟨h0,by rw[HK0.out,if_neg h0]⟩
     have hE:=LB T.label
     generalize labelOk dd (up.take nn) T=lo at *
     generalize isLab T.label=il at *
     have hst:((i:Int)==0)=true∧T.label.toList.isEmpty=ok0∨((i:Int)==0)=false∧il=ok0:=by
      rcases hcase with ⟨h1,h2⟩|⟨h1,h2⟩
      ·exact .inl ⟨by rw[h1];rfl,by rw[hE,h2]⟩
      ·exact .inr ⟨by rw[beq_eq_false_iff_ne];omega,h2.symm⟩
     clear hcase hE HK0 HLo HFi
     generalize T.label=lb at *
     generalize hle:lb.toList.isEmpty=le at *
     obtain⟨OK0,hOK0⟩:∃OK0,OK0=ok0:=⟨_,rfl⟩
     rw[←hOK0] at hst HOK
     clear hOK0
     rcases hst with ⟨h0z,he0⟩|⟨h0z,he0⟩
     all_goals
      have he1:=he0.symm
      subst he1
      go_wp2_with fail
      go_loopw [9,10] (fun okv y w3=>∃k:Nat,k≤nn∧y=.int .i64 k∧okv=.bool (OK0&&!((up.take k).any fun q=>q.label.toList==lb.toList))∧Below W7.heap.size W7 w3) (fun _ y _=>(nn - RowKit.intOf y).toNat)
      case atStart=>exact⟨0,by omega,rfl,by rw[List.take_zero];simp,Below.refl _ _⟩
      case round=>
       obtain⟨j,hj,rfl,rfl,hb3⟩:=hrel
       obtain⟨w3,ew3⟩:∃w3,w3=wr:=⟨_,rfl⟩
       subst wr
       have HB3:=aA hb3
       have hx3:=(hb3.block wo.heap.size hs7).trans HX7.out
       clear hb3 z0 z1 z2 z3 z4 z5 z6 z7
       obtain⟨z0,z1,z2,z3,z4,z5,z6,z7⟩:=lO hx3
       clear hx3
       by_cases hjn:j<nn
       ·have hjz:(j:Int)<nn:=by omega
        have hju:(j:Int)<un:=by omega
        obtain⟨x,hx⟩:∃x,up[j]?=some x:=⟨_,List.getElem?_eq_getElem (by rw[hun];omega)⟩
        obtain⟨ub,uo,hua,_,cu⟩:=HUp.out j x hx
        subst hua
        have du:=(HB3.out.cell (p:=⟨ub,uo+j * 4,none⟩) (by have h1:=dA cu;have h2:=HR7.out.size;show ub<_;omega)).trans ((HR7.out.cell (p:=⟨ub,uo+j * 4,none⟩) (dA cu)).trans cu)
        have HA:=aA (pH (fun q:It=>q.label.toList==lb.toList) up j x hx)
        clear cu hx
        generalize hq3:(OK0&&!((up.take j).any fun q=>q.label.toList==lb.toList))=q3 at *
        have HQ3':=aA hq3
        clear hq3
        generalize x.label=xl at *
        cases q3
        ·go_wp2_with fail
         go_quiet (fail)
         go_wp2
         go_roundw
         case rel=>exact⟨j+1,by omega,by go_num,congrArg Value.bool (by
          have h:=HQ3'.out
          rw[HA.out]
          revert h
          generalize (up.take j).any (fun q=>q.label.toList==lb.toList)=A
          cases OK0<;>cases A<;>simp),FA HB3.out _⟩
         case measure=>simp[RowKit.intOf];omega
        ·go_wp2_with fail
         go_quiet (fail)
         go_wp2
         go_roundw
         case rel=>exact⟨j+1,by omega,by go_num,congrArg Value.bool (by
          have h:=HQ3'.out
          rw[HA.out]
          revert h
          generalize (up.take j).any (fun q=>q.label.toList==lb.toList)=A
          cases OK0<;>cases A<;>simp),FA HB3.out _⟩
         case measure=>simp[RowKit.intOf];omega
       ·obtain rfl:j=nn:=by omega
        have hjz:¬(j:Int)<j:=by omega
        rw[←HOK.out]
        have HAl3:=aA (HB2.out.trans ((HW7.out.trans (HB3.out.mono (by have:=HW7.out.size;omega))).mono HB2.out.size))
        have HW3:=aA (HW7.out.trans (HB3.out.mono (by have:=HW7.out.size;omega)))
        cases lo
        ·have HE:Hid (O=7):=by
          have h:RE=7:=by rw[HRE2.out,if_pos rfl]
          show _=_
          rw[←HSc.out,HSt.out,h];rfl
         go_wp2
         go_ret
         exact⟨by rw[HE.out];rfl,HAl3.out⟩
        ·have HRE3:Hid (RE=if textsOk T=false then 1 else 0):=by show _=_;rw[HRE2.out,if_neg (by decide)]
         have HLe:=aA (fun w=>GB T.head (by omega) w)
         have HeT0:Hid (leB T.head=eT T 0):=by
          show _=_
          rw[AK hh3];unfold eT;rw[List.take_zero];simp
         rw[HeT0.out] at HLe
         have heT:∀k,eT T k=0∨eT T k=1:=fun k=>by unfold eT;split<;>simp
         have HeT:=aA heT
         clear heT
         obtain⟨E0,hE0⟩:∃E0,E0=eT T 0:=⟨_,rfl⟩
         rw[←hE0] at HLe
         have HE0:=aA hE0
         clear hE0
         go_wp2_with fail
         go_at_call 38
         refine(HLe.out _).mono ?_
         rintro e w8 ⟨rfl,ew⟩
         subst w8
         go_wp2_with fail
         go_loopw [11,12] (fun ev y w4=>∃m:Nat,m≤k∧y=.int .i64 m∧ev=.int .i64 ((eT T m:Nat):Int)∧w4=w3) (fun _ y _=>(k - RowKit.intOf y).toNat)
         case atStart=>exact⟨0,by omega,rfl,by rw[HE0.out],rfl⟩
         case round=>
          obtain⟨m,hm,rfl,rfl,ew⟩:=hrel
          subst wr
          rcases HeT.out m with he|he
          ·rw[he]
           have hgood:lineB T.head=true∧(T.lines.take m).any badB=false:=by
            unfold eT at he
            by_cases h:lineB T.head=true∧(T.lines.take m).any badB=false
            ·exact h
            ·rw[if_neg h] at he;omega
           have HGd:=aA hgood
           clear he hgood
           by_cases hmk:m<k
           ·have hmz:(m:Int)<k:=by omega
            obtain⟨x,hx⟩:∃x,T.lines[m]?=some x:=⟨_,List.getElem?_eq_getElem (by rw[←HLl.out];exact hmk)⟩
            have hxs:=HNl.out x (List.mem_of_getElem? hx)
            obtain⟨gb,go,hpa,_,cu⟩:=HLn.out m x hx
            subst hpa
            have dx:=(HB3.out.cell (p:=⟨gb,go+m,none⟩) (by have h1:=dA cu;have h2:=HR7.out.size;show gb<_;omega)).trans ((HR7.out.cell (p:=⟨gb,go+m,none⟩) (dA cu)).trans cu)
            have HLx:=aA (fun w=>GB x (by omega) w)
            have HeN:Hid (leB x=eT T (m+1)):=by
             show _=_
             rw[AK hxs]
             unfold eT
             rw[pH badB T.lines m x hx,HGd.out.2,HGd.out.1]
             unfold badB
             cases lineB x<;>simp
            clear cu hx hxs
            go_wp2_with fail
            go_at_call 38
            refine(HLx.out _).mono ?_
            rintro e w9 ⟨rfl,ew⟩
            subst w9
            go_wp2
            go_roundw
            case rel=>exact⟨m+1,by omega,by go_num,by rw[←HeN.out],by first|rfl|trivial⟩
            case measure=>simp[RowKit.intOf];omega
           ·obtain rfl:m=k:=by omega
            have hmz:¬(m:Int)<m:=by omega
            have HN:Hid (gC (scanF (i+1) (rows.drop (i+1)))=O):=by
             have h2:textsOk T=true:=by
              rw[HTx.out,HGd.out.1]
              have:=HGd.out.2
              rw[kL (l:=T.lines) HLl.out] at this
              rw[this];rfl
             have h:RE=0:=by rw[HRE3.out,if_neg (by rw[h2];decide)]
             have h5:=HSt.out
             rw[if_pos h] at h5
             show _=_
             rw[←h5];exact HSc.out
            go_wp2
            go_roundw
            case rel=>exact⟨i+1,by omega,by go_num,HN.out,HW3.out⟩
            case measure=>simp[RowKit.intOf];omega
          ·rw[he]
           have HE:Hid (O=1):=by
            have h2:textsOk T=false:=by
             rw[HTx.out]
             unfold eT at he
             by_cases h:lineB T.head=true∧(T.lines.take m).any badB=false
             ·rw[if_pos h] at he;omega
             ·by_cases h3:lineB T.head=true
              ·have h4:(T.lines.take m).any badB=true:=by
                cases h5:(T.lines.take m).any badB
                ·exact absurd ⟨h3,h5⟩ h
                ·rfl
               rw[uL badB T.lines m h4,h3];rfl
              ·rw[Bool.not_eq_true] at h3
               rw[h3];rfl
            have h:RE=1:=by rw[HRE3.out,if_pos h2]
            show _=_
            rw[←HSc.out,HSt.out,h];rfl
           clear he
           by_cases hmk:m<k
           ·have hmz:(m:Int)<k:=by omega
            go_wp2
            go_ret
            exact⟨by rw[HE.out];rfl,HAl3.out⟩
           ·have hmz:¬(m:Int)<k:=by omega
            go_wp2
            go_ret
            exact⟨by rw[HE.out];rfl,HAl3.out⟩
  ·have hiz:¬(i:Int)<rn:=by omega
   have HE:Hid (O=0):=by
    show _=_
    rw[←HSc.out,qP (by rw[←HRn.out];omega)];rfl
   have HAll:=aA (HB2.out.trans (HBw.out.mono HB2.out.size))
   go_wp2
   go_ret
   exact⟨by rw[HE.out];rfl,HAll.out⟩
end Go.Proofs.YtpbolcjcmkmalaaGreatDoor

import Derived.Test.YtpbolcjcmkmalaaGreatDoorAq00
import Derived.Test.YtpbolcjcmkmalaaGreatDoorAq29
set_option maxHeartbeats 20000000
set_option maxRecDepth 20000
namespace Go.Proofs.YtpbolcjcmkmalaaGreatDoor
open Go.RowKit Go.Extern.Stop Go.Stop Go.Extern
theorem ItAt.setLab{w w':World}{B b o:Nat}{x:It}{S:Nat→Prop}{v:Nat→Value}(h:ItAt w B b o x S v)(s:ByteArray)(hf:Fr (· =b) w w')(hb:w'.heap[b]?=(w.setCell ⟨b,o+0,none⟩ (.string s)).heap[b]?):
 ItAt w' B b o (x.setLabel s) S (MC v 0 (.string s))∧Upd w w' b o S:=by
 obtain⟨h1,h2⟩:=YD (u:=.string s) h.here (c:=0) (by omega) hb
 obtain⟨K,T,hk⟩:=h.own.parts
 have hn:∀q,S q→q≠b:=fun q hq e=>h.out (e▸hq)
 refine⟨⟨h1,?_,h.out⟩,⟨hf.os,hf.tape,hf.output,hf.size,fun k hk _ hne=>hf.block k hk hne,h2⟩⟩
 refine .mk _ _ K T S (EA _ _ _) ((qA v _ (by omega)).trans hk.h1) ?_ ?_ (fun g hg=>hk.sl g (by rw[qA v _ (by omega)] at hg;exact hg)) (fun g hg=>hk.sk g (by rw[qA v _ (by omega)] at hg;exact hg)) (fun i k e=>fC (t:=x) hk hf (fun i q hi hq=>hn q (hk.hT i q hi hq).1) i k e) (fun i q hi hq=>by rw[qA v _ (by omega),qA v _ (by omega)];exact hk.hT i q hi hq) hk.hd (fun g hg=>⟨(hk.hS g hg).1,Nat.lt_of_lt_of_le (hk.hS g hg).2 hf.size⟩)
 ·rw[qA v _ (by omega)]
  exact CA hk.ln fun g hg hl=>hf.block g hl (hn g (hk.sl g hg))
 ·rw[qA v _ (by omega)]
  exact CA hk.kd fun g hg hl=>hf.block g hl (hn g (hk.sk g hg))
theorem BN{w:World}{B b o:Nat}{t:It}{S:Nat→Prop}{v:Nat→Value}(h:ItAt w B b o t S v)(hF:FewIt t)(hB:B≤w.heap.size){p:Nat→Addr}{m:Int}(hE:Env w p m)(op:OpW)(hok:OpOk op)(iv:Nat→Value):
 Calls Tryz.prog 34 #[.pointer (some ⟨b,o,none⟩),.agg (FB op iv)] w (ChO w B b o S p (labelC t op)):=by
 have ht:=hok.path
 have htx:=hok.text
 clear hok
 cases op with
 |mk kind path at' text new line item=>
  have ht:path.size≤6000:=ht
  have htx:text.size≤6000:=htx
  show Calls Tryz.prog 34 #[.pointer (some ⟨b,o,none⟩),.agg #[.int .i64 kind,.string path,.string at',.string text,.string new,.int .i64 line,iv 0,iv 1,iv 2,iv 3]] w (ChO w B b o S p (labelC t ⟨kind,path,at',text,new,line,item⟩))
  generalize iv 0=i0,iv 1=i1,iv 2=i2,iv 3=i3
  obtain⟨WB,hWB⟩:∃WB,WB=w.alloc (.cells #[.int .i64 kind,.string path,.string at',.string text,.string new,.int .i64 line,i0,i1,i2,i3] 46):=⟨_,rfl⟩
  have hb0:Below w.heap.size w WB:=by rw[hWB];exact bA _ _
  have hbx:WB.heap[w.heap.size]?=some (.cells #[.int .i64 kind,.string path,.string at',.string text,.string new,.int .i64 line,i0,i1,i2,i3] 46 (0,0)):=by rw[hWB];exact heap_alloc_new _ _
  obtain⟨y0,y1,y2,y3,y4,y5,y6,y7,y8,y9⟩:=yB hbx
  have HLb:=aA (ED path (by omega) m WB (hE.on hb0).M)
  have HX:=aA hWB
  have H0:=aA h
  have HF:=aA hF
  have HB0:=aA hb0
  have HEn:=aA (fun w' (hb:Below w.heap.size w w')=>hE.on hb)
  have HR:Hid (∀r,kF t (cA path)=r→labelC t ⟨kind,path,at',text,new,line,item⟩=match r with|none=>.bad 5|some (x,i)=>if isLab text=false∨(∃j,iA x.kids text=some j∧j≠i) then .bad 7 else .ok (sA (fun _=>x.setKid i ((x.kids[i]?.getD It.none).setLabel text)) (cA path).dropLast t)):=fun r hr=>by
   unfold labelC
   show (match kF t (cA path) with|none=>COut.bad 5|some (x,i)=>if isLab text=false∨(∃j,iA x.kids text=some j∧j≠i) then .bad 7 else .ok (sA (fun _=>x.setKid i ((x.kids[i]?.getD It.none).setLabel text)) (cA path).dropLast t))=_
   rw[hr]
  have HPl:Hid ((cA path).length≤100000):=by show _≤_;have:=jB path;omega
  have HIL:=aA (fun W (hW:Below w.heap.size w W)=>MG text (by omega) W (hE.on hW).T)
  clear hWB h hF hE y0 y2 y4 y5 y6 y7 y8 y9 hbx hb0
  generalize labelC t ⟨kind,path,at',text,new,line,item⟩=r at *
  generalize cA path=ps at *
  go_enter Tryz.func34,Tryz.ntmps34
  go_upto_region 1 with fail
  rw[←HX.out]
  go_wp2_with fail
  refine HLb.out.mono ?_
  rintro e w1 ⟨⟨pa,pc,rfl,hst,hpc⟩,hb1⟩
  have hbw1:=HB0.out.trans (hb1.mono HB0.out.size)
  have HAr:=aA (qH (H0.out.on hbw1) HF.out hst HPl.out hpc)
  have z3:=(hb1.cell (p:=⟨w.heap.size,3,none⟩) (dA y3)).trans y3
  have HB1:=aA hbw1
  clear hst hpc hb1 hbw1 y3
  go_wp2_with fail
  refine HAr.out.mono ?_
  rintro e w2 ⟨har,hb2⟩
  unfold zR at har
  have x3:=(hb2.cell (p:=⟨w.heap.size,3,none⟩) (dA z3)).trans z3
  clear z3
  cases hq:kF t ps with
  |none=>
   rw[hq] at har
   have har:e=_:=har
   subst har
   have HO:=aA (HR.out _ hq)
   have hbw2:=HB1.out.trans (hb2.mono HB1.out.size)
   have e1:w2.cell? ⟨4,0,none⟩=some (.iface 214 (.pointer (some (p 4)))):=(HEn.out _ hbw2).L.cell 4 (by omega)
   have HB2:=aA hbw2
   clear hq hb2 hbw2
   go_wp2
   go_ret
   rw[HO.out]
   exact⟨by omega,EO.err 4 (by omega),HB2.out.mono hB⟩
  |some xi=>
   obtain⟨x,i⟩:=xi
   rw[hq] at har
   obtain⟨b',o',S',v',rfl,hf1⟩:=har
   have HO:=aA (HR.out _ hq)
   have hbw2:=HB1.out.trans (hb2.mono HB1.out.size)
   have hf:=hf1.on (by have:=H0.out.lt;have:=HB1.out.size;omega) hb2
   obtain⟨p0,l,k,hp,h1,h2,h3,h4⟩:=yC hq
   have hx:=BB _ t x HF.out h1
   obtain⟨ka,kc,hv3,hc3⟩:=hf.at'.kidsV
   have hdl:=(List.getElem?_eq_some_iff.1 h3).1
   have hkl:=hx.get.2.1
   have HLd:Hid (∀W,Below w2.heap.size w2 W→Calls Tryz.prog 69 #[.slice ka x.kids.length kc,.string text] W fun e w'=>e=.returned (.int .i64 (XG (iA x.kids text)))∧Below w2.heap.size w2 w'):=fun W hW=>(sC (hf.at'.on hW).own.lies hv3 (by omega) text).mono fun e w' h=>⟨h.1,hW.trans (h.2.mono hW.size)⟩
   have HFo:=aA hf
   have HB2:=aA hbw2
   have HP:=aA (aI hp (aI h2 (aI h3 hv3)))
   clear hq hb2 hbw2 hf1 hf h1 h2 h3 h4 hp hx hv3
   --REST
   have HG0:∃g,ka=some ⟨g,0,none⟩:=by
    obtain⟨g,cap,K,T,e9,_,_⟩:=HFo.out.at'.kid HP.out.2.2.1
    have e8:=HP.out.2.2.2
    rw[e9] at e8
    injection e8 with e8 _ _
    exact⟨g,e8.symm⟩
   obtain⟨g,hka⟩:=HG0
   have HG:=aA hka
   have hc3':w2.cell? ⟨b',o'+3,none⟩=some (.slice (some ⟨g,0,none⟩) x.kids.length kc):=by rw[←hka];exact hc3
   rw[hka] at HLd
   have hiz:(i:Int)<(x.kids.length:Int):=by omega
   clear hc3 hka
   cases hl:isLab text
   ·have HO2:Hid (r=.bad 7):=by show _=_;rw[HO.out];exact if_pos (.inl hl)
    rw[hl] at HIL
    clear hl
    generalize iA x.kids text=ix at *
    generalize x.kids.length=kn at *
    go_wp2
    go_region_with (go_at_call 69;refine(HLd.out _ ?_).mono ?_;(· first|exact Below.refl _ _|exact(Below.refl _ _).drew|exact FA (Below.refl _ _) _);rintro e w3 ⟨rfl,hb3⟩;have q3:=(hb3.cell (p:=⟨w.heap.size,3,none⟩) (dA x3)).trans x3;have H3:=aA hb3;clear hb3)
    all_goals go_wp2_with fail
    all_goals refine(HIL.out _ (HB2.out.trans (H3.out.mono HB2.out.size))).mono ?_
    all_goals (rintro e w4 ⟨rfl,hb4⟩;have hb5:=(HB2.out.trans (H3.out.mono HB2.out.size)).trans (hb4.mono (by have:=HB2.out.size;have:=H3.out.size;omega));have e1:w4.cell? ⟨6,0,none⟩=some (.iface 214 (.pointer (some (p 6)))):=(HEn.out _ hb5).L.cell 6 (by omega);have H5:=aA hb5;clear hb4 hb5;go_wp2;go_ret;rw[HO2.out];exact⟨by omega,EO.err 6 (by omega),H5.out.mono hB⟩)
   ·rw[hl] at HIL
    cases hr:iA x.kids text with
    |none=>
     have HO2:Hid (r=.ok (sA (fun _=>x.setKid i ((x.kids[i]?.getD It.none).setLabel text)) ps.dropLast t)):=by
      show _=_
      rw[HO.out]
      exact if_neg (fun e=>by rcases e with e|⟨j,e,_⟩;rw[hl] at e;cases e;rw[hr] at e;cases e)
     rw[hr] at HLd
     clear hl hr
     unfold XG at HLd
     have HSet:Hid (sA (fun _=>x.setKid i ((x.kids[i]?.getD It.none).setLabel text)) ps.dropLast t=sA (fun _=>k.setLabel text) ps t):=by
      show _=_
      obtain⟨e1,e2,e3,_⟩:=HP.out
      have e4:ps.dropLast=p0:=by rw[e1,List.dropLast_concat]
      have e5:(x.kids[i]?).getD It.none=k:=by rw[e3];rfl
      have e6:=HFo.out.fnd
      rw[e4] at e6
      rw[e4,e5,e1]
      exact(wD p0 t x k l i (k.setLabel text) e6 e2 e3).symm
     rw[HSet.out] at HO2
     have HPd:Hid (ps.dropLast++[l]=ps):=by show _=_;rw[HP.out.1,List.dropLast_concat]
     generalize x.kids.length=kn at *
     go_wp2
     go_region_with (go_at_call 69;refine(HLd.out _ ?_).mono ?_;(· first|exact Below.refl _ _|exact(Below.refl _ _).drew|exact FA (Below.refl _ _) _);rintro e w3 ⟨rfl,hb3⟩;have q3:=(hb3.cell (p:=⟨w.heap.size,3,none⟩) (dA x3)).trans x3;have H3:=aA hb3;clear hb3)
     all_goals go_wp2_with fail
     all_goals refine(HIL.out _ (HB2.out.trans (H3.out.mono HB2.out.size))).mono ?_
     all_goals (rintro e w4 ⟨rfl,hb4⟩;have hb34:=H3.out.trans (hb4.mono H3.out.size);have hf4:=HFo.out.on (by have:=H0.out.lt;have:=HB2.out.size;omega) hb34;have c3:=(hf4.at'.cell (c:=3) (by omega));rw[HP.out.2.2.2,HG.out] at c3;have r3:=(hb4.cell (p:=⟨w.heap.size,3,none⟩) (dA q3)).trans q3;obtain⟨g2,cap2,T2,V2,hg2,hfk⟩:=hf4.kid HP.out.2.1 HP.out.2.2.1;have hgg:g2=g:=(by have e9:=hg2.symm.trans (HP.out.2.2.2.trans (by rw[HG.out]));injection e9 with e9;injection e9 with e9;injection e9);subst hgg;have ck:=hfk.at'.cell (c:=0) (by omega);have fk:=hfk.at'.frozen (i * 4+0);rw[Nat.add_zero] at ck fk;have HK:=aA (aI hfk hb34);clear hb4 hb34 hf4 hg2 hfk q3;generalize V2 0=old at *;go_wp2;go_region;all_goals go_wp2;all_goals go_ret;all_goals rw[HO2.out];all_goals (obtain⟨r1,r2⟩:=HK.out.1.at'.setLab text (Fr.setCell (X:=(· =g2)) (Fr.refl _ w4) (p:=⟨g2,i * 4,none⟩) (.inl rfl) (.string text)) rfl;have hd:=HK.out.1.done H0.out (HB2.out.trans (HK.out.2.mono HB2.out.size)) (p:=p) r2 r1 (fun q hq=>.inl hq);rw[HPd.out] at hd;first|exact hd|exact hd.drew))
    |some j=>
     obtain⟨kj,hkj,_⟩:=SA hr
     have hjl:=(List.getElem?_eq_some_iff.1 hkj).1
     have hj0:(0:Int)≤(j:Int):=by omega
     by_cases hji:j=i
     ·subst hji
      have HO2:Hid (r=.ok (sA (fun _=>x.setKid j ((x.kids[j]?.getD It.none).setLabel text)) ps.dropLast t)):=by
       show _=_
       rw[HO.out]
       exact if_neg (fun e=>by rcases e with e|⟨j',e,e2⟩;rw[hl] at e;cases e;rw[hr] at e;injection e with e;exact e2 e.symm)
      rw[hr] at HLd
      clear hl hr hkj
      unfold XG at HLd
      have HSet:Hid (sA (fun _=>x.setKid j ((x.kids[j]?.getD It.none).setLabel text)) ps.dropLast t=sA (fun _=>k.setLabel text) ps t):=by
       show _=_
       obtain⟨e1,e2,e3,_⟩:=HP.out
       have e4:ps.dropLast=p0:=by rw[e1,List.dropLast_concat]
       have e5:(x.kids[j]?).getD It.none=k:=by rw[e3];rfl
       have e6:=HFo.out.fnd
       rw[e4] at e6
       rw[e4,e5,e1]
       exact(wD p0 t x k l j (k.setLabel text) e6 e2 e3).symm
      rw[HSet.out] at HO2
      have HPd:Hid (ps.dropLast++[l]=ps):=by show _=_;rw[HP.out.1,List.dropLast_concat]
      generalize x.kids.length=kn at *
      go_wp2
      go_region_with (go_at_call 69;refine(HLd.out _ ?_).mono ?_;(· first|exact Below.refl _ _|exact(Below.refl _ _).drew|exact FA (Below.refl _ _) _);rintro e w3 ⟨rfl,hb3⟩;have q3:=(hb3.cell (p:=⟨w.heap.size,3,none⟩) (dA x3)).trans x3;have H3:=aA hb3;clear hb3)
      all_goals go_wp2_with fail
      all_goals refine(HIL.out _ (HB2.out.trans (H3.out.mono HB2.out.size))).mono ?_
      all_goals (rintro e w4 ⟨rfl,hb4⟩;have hb34:=H3.out.trans (hb4.mono H3.out.size);have hf4:=HFo.out.on (by have:=H0.out.lt;have:=HB2.out.size;omega) hb34;have c3:=(hf4.at'.cell (c:=3) (by omega));rw[HP.out.2.2.2,HG.out] at c3;have r3:=(hb4.cell (p:=⟨w.heap.size,3,none⟩) (dA q3)).trans q3;obtain⟨g2,cap2,T2,V2,hg2,hfk⟩:=hf4.kid HP.out.2.1 HP.out.2.2.1;have hgg:g2=g:=(by have e9:=hg2.symm.trans (HP.out.2.2.2.trans (by rw[HG.out]));injection e9 with e9;injection e9 with e9;injection e9);subst hgg;have ck:=hfk.at'.cell (c:=0) (by omega);have fk:=hfk.at'.frozen (j * 4+0);rw[Nat.add_zero] at ck fk;have HK:=aA (aI hfk hb34);clear hb4 hb34 hf4 hg2 hfk q3;generalize V2 0=old at *;go_wp2;go_region;all_goals go_wp2;all_goals go_ret;all_goals rw[HO2.out];all_goals (obtain⟨r1,r2⟩:=HK.out.1.at'.setLab text (Fr.setCell (X:=(· =g2)) (Fr.refl _ w4) (p:=⟨g2,j * 4,none⟩) (.inl rfl) (.string text)) rfl;have hd:=HK.out.1.done H0.out (HB2.out.trans (HK.out.2.mono HB2.out.size)) (p:=p) r2 r1 (fun q hq=>.inl hq);rw[HPd.out] at hd;first|exact hd|exact hd.drew))
     ·have HO2:Hid (r=.bad 7):=by show _=_;rw[HO.out];exact if_pos (.inr ⟨j,hr,hji⟩)
      have n1:((j:Int)==(i:Int))=false:=by rw[beq_eq_false_iff_ne];omega
      have n2:((j:Int) !=(i:Int))=true:=by rw[bne_iff_ne];omega
      have n3:¬((j:Int)=(i:Int)):=by omega
      rw[hr] at HLd
      clear hl hr hkj
      unfold XG at HLd
      generalize x.kids.length=kn at *
      go_wp2
      go_region_with (go_at_call 69;refine(HLd.out _ ?_).mono ?_;(· first|exact Below.refl _ _|exact(Below.refl _ _).drew|exact FA (Below.refl _ _) _);rintro e w3 ⟨rfl,hb3⟩;have q3:=(hb3.cell (p:=⟨w.heap.size,3,none⟩) (dA x3)).trans x3;have H3:=aA hb3;clear hb3)
      all_goals go_wp2_with fail
      all_goals refine(HIL.out _ (HB2.out.trans (H3.out.mono HB2.out.size))).mono ?_
      all_goals (rintro e w4 ⟨rfl,hb4⟩;have hb5:=(HB2.out.trans (H3.out.mono HB2.out.size)).trans (hb4.mono (by have:=HB2.out.size;have:=H3.out.size;omega));have e1:w4.cell? ⟨6,0,none⟩=some (.iface 214 (.pointer (some (p 6)))):=(HEn.out _ hb5).L.cell 6 (by omega);have H5:=aA hb5;clear hb4 hb5;go_wp2;go_ret;rw[HO2.out];exact⟨by omega,EO.err 6 (by omega),H5.out.mono hB⟩)
end Go.Proofs.YtpbolcjcmkmalaaGreatDoor

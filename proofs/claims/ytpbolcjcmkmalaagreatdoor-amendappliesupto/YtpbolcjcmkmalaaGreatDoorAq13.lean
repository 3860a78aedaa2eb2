import Derived.Test.YtpbolcjcmkmalaaGreatDoorAq00
import Derived.Test.YtpbolcjcmkmalaaGreatDoorAq12
set_option maxHeartbeats 20000000
set_option maxRecDepth 20000
namespace Go.Proofs.YtpbolcjcmkmalaaGreatDoor
open Go.RowKit Go.Extern.Stop Go.Stop Go.Extern
theorem XM{W:World}{k:Nat}{o:Option Obj}(h:W.heap[k]?=o):W.drew.heap[k]?=o:=h
theorem oU{W:World}{g:Nat}{x y z:Value}{T:TypeId}(h:W.heap[g]?=some (.cells #[x,y,z] T (0,0))):W.cell? ⟨g,0,none⟩=some x∧W.cell? ⟨g,1,none⟩=some y∧W.cell? ⟨g,2,none⟩=some z∧∀i,W.frozen? ⟨g,i,none⟩=false:=by
 simp[World.cell?,World.frozen?,h]
theorem lU{W:World}{b T:Nat}{x y z u v r:Value}(h:W.heap[b]?=some (.cells #[x,y,z] T (0,0))):(((W.setCell ⟨b,0,none⟩ u).setCell ⟨b,1,none⟩ v).setCell ⟨b,2,none⟩ r).heap[b]?=some (.cells #[u,v,r] T (0,0)):=by
 rw[heap_setCell_same _ _ _ _ _ _ (heap_setCell_same _ _ _ _ _ _ (heap_setCell_same _ _ _ _ _ _ h))]
 rfl
theorem fM{w:World}{sb mb b o m n kc:Nat}{ka:Option Addr}{ex:Prop}{F F':Addr→Int→Prop}(h:SC w sb mb ex F)(hn:NdW w b o m n ka kc)(hp:ex→PlnF w ⟨b,o,none⟩)(hbm:b≠mb)(f1:∀c y,F c y→(ex→c≠⟨b,o,none⟩)→F' c y)(f2:F' ⟨b,o,none⟩ 67108865)(f3:∀c y,F c y→(ex→c=⟨b,o,none⟩)→F' c 67108865):
 Calls Tryz.prog 104 #[.pointer (some ⟨sb,0,none⟩),.pointer (some ⟨b,o,none⟩)] w fun e w'=>e=.returned (.agg #[.pointer (some ⟨b,o,none⟩),.slice ka n kc,.int .i64 (1+m)])∧SC w' sb mb ex F'∧MpF w w' mb:=by
 have hsm:=h.ne
 have hm:=hn.hm
 obtain⟨WB,hWB⟩:∃WB,WB=w.alloc (.cells #[.pointer none,.slice none 0 0,.int .i64 0] 161):=⟨_,rfl⟩
 have hb0:Below w.heap.size w WB:=by rw[hWB];exact bA _ _
 have hS1:SC WB.drew sb mb ex F:=(h.below hb0).drewN 1
 have hN1:NdW WB.drew b o m n ka kc:=hn.on (hb0.block b hn.lt)
 obtain⟨w2,hrun,hm2,hg⟩:=hS1.mp.store hN1.uf (fun hx=>(hp hx).below hb0.drew) (x:=67108865) f1 f2 f3
 have hsl:=h.lt
 have hnl:=hn.lt
 have hsz:w.heap.size<WB.heap.size:=by rw[hWB];simp
 have hgb:∀k,k<WB.heap.size→k≠mb→w2.heap[k]?=WB.heap[k]?:=fun k hk hne=>hg.block k hk (fun e=>hne (by injection e))
 have hS2:SC w2 sb mb ex F':=hS1.on (hgb sb (by omega) hsm) hm2
 have hN2:NdW w2 b o m n ka kc:=hN1.on (hgb b (by omega) hbm)
 obtain⟨c0,c1,c2,c3,c4,c5⟩:=nU hS2.bk
 obtain⟨e0,e1,e2,e3,e4,e5⟩:=nU hS1.bk
 obtain⟨la',lc',d2⟩:=hN2.c2
 have d3:=hN2.c3
 have HT:=aA (fun (W:World) (hc:W.cell? ⟨sb,3,none⟩=some (.int .i64 67108864))=>CG hc)
 have HK:=aA (fun (W:World)=>MH b o W)
 have HWt:=aA (fun (W:World) (hc:W.cell? ⟨b,o+2,none⟩=some (.slice la' m lc'))=>kI hc hm)
 have HS2:=aA hS2
 have HX:=aA hWB
 have hmin:min (1+(m:Int)) 67108865=1+(m:Int):=by omega
 have HGs:=aA (aI hsz (aI hg (aI hb0 (aI hsl hnl))))
 have hse:w.heap.size≠sb:=by omega
 have hne:w.heap.size≠b:=by omega
 have hmb:w.heap.size≠mb:=fun e=>by
  obtain⟨es,cl,hb,_⟩:=h.mp
  have:=(Array.getElem?_eq_some_iff.1 hb).1
  omega
 have hz:w2.heap[w.heap.size]?=some (.cells #[.pointer none,.slice none 0 0,.int .i64 0] 161 (0,0)):=by rw[hgb _ hsz hmb,hWB];exact heap_alloc_new _ _
 clear hS1 hN1 hS2 hN2 hWB h hn hgb hg hm2 hb0 hp f1 f2 f3 hm
 go_enter Tryz.func104,Tryz.ntmps104
 go_upto_region 1 with fail
 rw[←HX.out]
 go_cut [] (fun wx=>wx=w2)
 case first=>
  go_region_held3 (fun V=>V.cell? ⟨sb,5,none⟩=some (.map (some mb))) (first|exact e5|go_keep) ((go_simp;go_at_call 132;refine(HT.out _ ?_).mono ?_;(· exact e3);rintro e w1 ⟨rfl,ew⟩;subst w1))
  all_goals go_wp2
  all_goals go_meet
  all_goals rfl
 case rest=>
  subst hcut
  clear e0 e1 e2 e3 e4 e5 hrun
  obtain⟨z0,z1,z2,zf⟩:=oU hz
  have HZ:=aA hz
  clear hz
  go_wp2_with fail
  go_region_held3 (fun V=>V.cell? ⟨sb,0,none⟩=some (.func (.func 62) #[] #[])∧V.cell? ⟨sb,2,none⟩=some (.func (.func 65) #[] #[])∧V.cell? ⟨b,o+3,none⟩=some (.slice ka n kc)) (first|exact⟨c0,c2,d3⟩|go_keep) (first|(go_simp;go_at_call 62;refine(HK.out _).mono ?_;rintro e w1 ⟨rfl,ew⟩;subst w1)|(go_simp;go_at_call 65;refine(HWt.out _ ?_).mono ?_;(· exact d2);rintro e w1 ⟨rfl,ew⟩;subst w1)|(go_simp;go_at_call 132;refine(HT.out _ ?_).mono ?_;(· exact c3);rintro e w1 ⟨rfl,ew⟩;subst w1))
  all_goals go_wp2
  all_goals refine bodyPost_ret (v:=.agg #[.pointer (some ⟨b,o,none⟩),.slice ka n kc,.int .i64 (1+m)]) (results_cell_row Tryz.results104 _ _ w.heap.size 161 #[.pointer (some ⟨b,o,none⟩),.slice ka n kc,.int .i64 (1+m)] (0,0) _ (by first|rfl|simp) (XM (lU HZ.out)) Tryz.underlying161 rfl rfl) rfl ?_
  all_goals refine⟨rfl,?_,?_⟩
  ·have h3:∀k,k≠w.heap.size→((((wc.setCell ⟨w.heap.size,0,none⟩ (.pointer (some ⟨b,o,none⟩))).setCell ⟨w.heap.size,1,none⟩ (.slice ka n kc)).setCell ⟨w.heap.size,2,none⟩ (.int .i64 (1+m))).drew).heap[k]?=wc.heap[k]?:=fun k hk=>by
    show (((wc.setCell _ _).setCell _ _).setCell _ _).heap[k]?=_
    rw[Below.heap_setCell _ _ _ _ hk,Below.heap_setCell _ _ _ _ hk,Below.heap_setCell _ _ _ _ hk]
   exact HS2.out.on (h3 sb (fun e=>hse e.symm)) (HS2.out.mp.on (h3 mb (fun e=>hmb e.symm)) (fun a ha=>((ha.set _).set _).set _) fun a ha=>((ha.set _ _ _).set _ _ _).set _ _ _)
  ·have hg:=HGs.out.2.1
   have hb:=HGs.out.2.2.1
   refine⟨hg.os.trans hb.os,hg.tape.trans hb.tape,hg.output.trans hb.output,Nat.le_trans hb.size (by have:=hg.size;simpa using this),fun k hk hne=>?_⟩
   show (((wc.setCell _ _).setCell _ _).setCell _ _).heap[k]?=_
   rw[Below.heap_setCell _ _ _ _ (by simp;omega),Below.heap_setCell _ _ _ _ (by simp;omega),Below.heap_setCell _ _ _ _ (by simp;omega),hg.block k (Nat.lt_trans hk HGs.out.1) (fun e=>hne (by injection e))]
   exact hb.block k hk
end Go.Proofs.YtpbolcjcmkmalaaGreatDoor

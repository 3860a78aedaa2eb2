import Derived.Test.YtehbinobohjadaaGreatDoorTm00
import Derived.Test.YtehbinobohjadaaGreatDoorTm13
import Derived.Test.YtehbinobohjadaaGreatDoorTm15
set_option maxHeartbeats 20000000
set_option maxRecDepth 20000
namespace Go.Proofs.YtehbinobohjadaaGreatDoor
open Go.RowKit Go.Extern.Stop Go.Stop Go.Extern
def yK(W:World)(g3:Nat)(v0 v1 v2:Value)(a0 a1 a2 a3:Value):World:=
 (((((W.setCell ⟨g3,0,none⟩ v0).setCell ⟨g3,1,none⟩ v1).setCell ⟨g3,2,none⟩ v2).setCell ⟨g3,3,none⟩ (.slice (some ⟨W.heap.size,0,none⟩) 1 1)).alloc (.cells #[a0,a1,a2,a3] 44))
structure Put1(W WF:World)(g3:Nat)(v0 v1 v2:Value)(a:Nat→Value):Prop where
 os:WF.os=W.os
 tape:WF.tape=W.tape
 output:WF.output=W.output
 size:WF.heap.size=W.heap.size+1
 old:∀q,q<W.heap.size→q≠g3→WF.heap[q]?=W.heap[q]?
 var:WF.heap[g3]?=some (.cells #[v0,v1,v2,.slice (some ⟨W.heap.size,0,none⟩) 1 1] 44 (0,0))
 ra:∀c,c<4→WF.cell? ⟨W.heap.size,c,none⟩=some (a c)
theorem DG{W:World}{g3:Nat}{x0 x1 x2 x3:Value}(h:W.heap[g3]?=some (.cells #[x0,x1,x2,x3] 44 (0,0)))(v0 v1 v2 a0 a1 a2 a3:Value):Put1 W (yK W g3 v0 v1 v2 a0 a1 a2 a3) g3 v0 v1 v2 (nv a0 a1 a2 a3):=by
 have hlt:g3<W.heap.size:=by
  rcases Nat.lt_or_ge g3 W.heap.size with h2|h2
  ·exact h2
  ·rw[Array.getElem?_eq_none h2] at h;cases h
 obtain⟨W1,hW1⟩:∃W1,W1=(((W.setCell ⟨g3,0,none⟩ v0).setCell ⟨g3,1,none⟩ v1).setCell ⟨g3,2,none⟩ v2).setCell ⟨g3,3,none⟩ (.slice (some ⟨W.heap.size,0,none⟩) 1 1):=⟨_,rfl⟩
 have hs1:W1.heap.size=W.heap.size:=by rw[hW1];exact lJ _ _ _ _
 obtain⟨WF,hWF⟩:∃WF,WF=W1.alloc (.cells #[a0,a1,a2,a3] 44):=⟨_,rfl⟩
 have hb:Below W1.heap.size W1 WF:=by rw[hWF];exact bA _ _
 have hrow:WF.heap[W.heap.size]?=some (.cells #[a0,a1,a2,a3] 44 (0,0)):=by
  have h1:=heap_alloc_new W1 (.cells #[a0,a1,a2,a3] 44)
  rw[←hWF,hs1] at h1
  exact h1
 have e:yK W g3 v0 v1 v2 a0 a1 a2 a3=WF:=by unfold yK;rw[hWF,hW1]
 rw[e]
 refine⟨hb.os.trans (by rw[hW1];rfl),hb.tape.trans (by rw[hW1];rfl),hb.output.trans (by rw[hW1];rfl),by rw[hWF];simp[hs1],fun q hq hg=>?_,?_,fun c hc=>?_⟩
 ·rw[hb.block q (by omega),hW1]
  exact pG _ _ _ _ hg
 ·rw[hb.block g3 (by omega),hW1]
  exact QE h _ _ _ _
 ·unfold World.cell?
  rw[hrow]
  rcases (show c=0∨c=1∨c=2∨c=3 by omega) with rfl|rfl|rfl|rfl<;>rfl
theorem Put1.ps{L:List Tok}{bp tb cp:Nat}{W WF:World}{g3:Nat}{v0 v1 v2:Value}{a:Nat→Value}(h:Put1 W WF g3 v0 v1 v2 a){k:Nat}{n:Int}{cd ps:Nat}(hp:PS L bp tb cp W k n cd ps)(hg:g3≠bp)(ht:g3≠tb):PS L bp tb cp WF k n cd ps:=
 ⟨(h.old bp hp.in (fun e=>hg e.symm)).trans hp.blk,fun i t e q hq=>(World.cell?_of_block (a:=⟨tb,i * 4+q,none⟩) (h.old tb hp.tin (fun e=>ht e.symm))).trans (hp.tok i t e q hq),hp.ne,hp.lt,hp.len,hp.bc⟩
theorem bW{L:List Tok}{bp tb cp:Nat}{w wr W5 WF:World}{R:PR Nd}{lp:Nat→Nd→Nat→Nat→PR Nd}{F g3 f':Nat}{x:Nd}{a:Nat→Value}{kd:ByteArray}{N:Nat}{α:Type}{V:α→Prop}{r2:PR α}(hbp:bp<w.heap.size)(htb:tb<w.heap.size)(h3:w.heap.size<g3)(h4:g3<wr.heap.size)
 (hB:BelX w.heap.size bp w wr) (h5B:BelX wr.heap.size bp wr W5)
 (hq:wr.heap[w.heap.size]?=some (.cells #[.string ⟨#[]⟩,.string ⟨#[]⟩,.int .i64 0,.slice none 0 0] 44 (0,0)))
 (hx:NL wr (fun q=>w.heap.size<q∧q≠g3) a x) (h5:PSt L bp tb cp W5 r2 V)
 (hp:Put1 W5 WF g3 (.string kd) (.string ⟨#[]⟩) (.int .i64 N) a) (hF:f'≤F) (hn:r2≠.out) (hR:(r2.bind fun _ k n=>lp f' (.mk kd ⟨#[]⟩ N [x]) k n)=R):LoopAt L bp tb cp w R lp F g3 f' WF:=by
 have hs5:=h5B.size
 have hsF:=hp.size
 have hold:∀q,q<wr.heap.size→q≠bp→q≠g3→WF.heap[q]?=wr.heap[q]?:=fun q h1 h2 h6=>by
  rw[hp.old q (by omega) h6,h5B.block q (by omega) h2]
 refine .mk f' (r2.bind fun _ k n=>.ok (.mk kd ⟨#[]⟩ N [x]) k n) kd ⟨#[]⟩ N (some ⟨W5.heap.size,0,none⟩) 1 1 (nR _) hF ?_ ?_ ?_ hp.var ((hold _ (by omega) (by omega) (by omega)).trans hq) ?_ h3 (by omega)
 ·cases r2 with
  |out=>exact trivial
  |bad c a=>
   obtain⟨hc,k,n,h⟩:=h5
   exact⟨hc,k,n,hp.ps h (by omega) (by omega)⟩
  |ok m k n=>
   refine⟨⟨hp.ps h5.1.s (by omega) (by omega),h5.1.nb,h5.1.nd⟩,?_⟩
   exact NL.one (a:=a) (hx.step fun q hq' hP=>⟨hold q hq' (by omega) hP.2,hP⟩) ⟨by omega,by omega⟩ hp.ra kd ⟨#[]⟩ N
 ·cases r2 with
  |out=>exact absurd rfl hn
  |bad c a=>intro h;cases h
  |ok m k n=>intro h;cases h
 ·rw[←hR]
  cases r2<;>rfl
 ·refine⟨hp.os.trans (h5B.os.trans hB.os),hp.tape.trans (h5B.tape.trans hB.tape),hp.output.trans (h5B.output.trans hB.output),by have:=hB.size;omega,fun q hq' hne=>?_⟩
  rw[hold q (by have:=hB.size;omega) hne (by omega)]
  exact hB.block q hq' hne
theorem VO{L:List Tok}{bp tb cp f:Nat}(hL:∀(i:Nat) (t:Tok),L[i]?=some t→t.kind=TK.n→gG t.text)(h1:∀f',f'≤f→OD L bp tb cp 133 (LB L f')):OD L bp tb cp 113 (FC L (f+1)):=by
 intro w k n h hn
 have HLn:=aA hL
 clear hL
 have hR0:FC L (f+1) k n=(LB L f k n).bind fun x k n=>cB L f x k n:=by rw[FC]
 rw[hR0] at hn ⊢
 have hbp:=h.s.in
 have htb:=h.s.tin
 obtain⟨R,hR⟩:∃R,R=(LB L f k n).bind fun x k n=>cB L f x k n:=⟨_,rfl⟩
 rw[←hR] at hn ⊢
 obtain⟨W1,hW1⟩:∃W1,W1=w.alloc (.cells #[.string ⟨#[]⟩,.string ⟨#[]⟩,.int .i64 0,.slice none 0 0] 44):=⟨_,rfl⟩
 have hst:Start w W1:=by rw[hW1];exact Start.new w
 have hlt:=hst.lt
 have HF:=aA (h1 f (nR _) W1 k n (h.below hst.bel) (PR.bind_not (hR▸hn)))
 have H1:=aA h1
 have HX:=aA hW1
 have HT:=aA hst
 have HR:=aA hR
 have HN:=aA hn
 clear h hW1 hst hR0 h1 hR hn
 go_enter Tryz.func113,Tryz.ntmps113
 go_wp2_with (rw[←HX.out];go_at_call 133;refine HF.out.mono ?_;rintro e W2 ⟨⟨s0,s1,n2,ka,kn,kc,rfl,hP2⟩,hB2⟩;have HQ:=aA (aI hP2 hB2);clear hP2 hB2)
 obtain⟨W3,hW3⟩:∃W3,W3=W2.alloc (.cells #[.string s0,.string s1,.int .i64 n2,.slice ka kn kc] 44):=⟨_,rfl⟩
 have h23:Below W2.heap.size W2 W3:=by rw[hW3];exact bA _ _
 have hl3:W2.heap.size<W3.heap.size:=by rw[hW3];simp
 have HS0:Hid (LoopAt L bp tb cp w R (cB L) f W2.heap.size f W3):=by
  refine .mk f (LB L f k n) s0 s1 n2 ka kn kc (nR _) (nR _) ((HQ.out.1.below h23).to fun x k n _ hx=>hx.step fun b hb hp=>⟨h23.block b hb,by omega,by omega⟩) (PR.bind_not (HR.out▸HN.out)) HR.out.symm (by rw[hW3];exact heap_alloc_new _ _) (((h23.block _ (Nat.lt_of_lt_of_le hlt HQ.out.2.size)).trans (HQ.out.2.block _ hlt (by omega))).trans HT.out.blk) (((Below.x HT.out.bel bp (nR _)).then HQ.out.2 HT.out.bel.size).then (Below.x h23 bp (nR _)) (Nat.le_trans HT.out.bel.size HQ.out.2.size)) (Nat.lt_of_lt_of_le hlt HQ.out.2.size) hl3
 rw[←hW3]
 clear hW3 h23 hl3 HX HT hlt
 generalize W2.heap.size=g3 at *
 clear HQ HF
 go_loopg [] f (fun g wr=>LoopAt L bp tb cp w R (cB L) f g3 g wr)
 case atStart=>exact HS0.out
 case round=>
  clear HS0 HR
  cases hrel with
  |mk f' r s0 s1 n2 ka kn kc hg hF hs hr hR hc hq hB h3 h4=>
  have hb3:g3≠bp:=by omega
  have hb4:w.heap.size≠bp:=by omega
  have hl4:w.heap.size<wr.heap.size:=by omega
  have HC:=aA hc
  have HQr:=aA hq
  have HB:=aA hB
  have HGg:=aA hg
  clear hc hq hB hg
  cases r with
  |out=>exact absurd rfl hr
  |bad c a=>
   have HTk:=aA (aF hs (sg 42))
   unfold sg at HTk
   have HS:=aA hs
   have hRb:R=.bad c a:=hR.symm
   subst hRb
   clear hs hr hR
   go_wp2_with (go_at_call 64;refine HTk.out.mono ?_;rintro e W4 ⟨rfl,hB4⟩;obtain⟨q0,q1,q2,q3,qf⟩:=gA HQr.out (hB4.block _ hl4);obtain⟨m0,m1,m2,m3,mf⟩:=gA HC.out (hB4.block _ h4);have HQ4:=aA hB4;clear hB4)
   refine bodyPost_ret (v:=.agg #[.string s0,.string s1,.int .i64 n2,.slice ka kn kc]) (by simp[results,Tryz.results113,go_sem,q0,q1,q2,q3]) rfl ?_
   exact vB hbp htb (R:=.bad c a) (P:=fun b=>w.heap.size<b) (PBad.below HS.out HQ4.out) (fun b hb=>hb) (HB.out.then (Below.x HQ4.out bp (nR _)) HB.out.size)
  |ok x k1 n1=>
   cases f' with
   |zero=>exact absurd (hR.symm.trans (by show cB L 0 x k1 n1=.out;rw[cB])) HN.out
   |succ f'=>
    have hR2:cB L (f'+1) x k1 n1=R:=hR
    rw[cB] at hR2
    have HTk:=aA (SH hs.1 (sg 42))
    have HS:=aA hs
    have HR2:=aA hR2
    have HTn:=aA (dE L (sg 42) k1 n1)
    unfold sg at HTk
    clear hs hr hR hR2
    go_wp2_with (go_at_call 64;refine HTk.out.mono ?_;rintro e W4 ⟨⟨b,rfl,hP4⟩,hB4⟩;obtain⟨q0,q1,q2,q3,qf⟩:=gA HQr.out (hB4.block _ hl4 hb4);obtain⟨m0,m1,m2c,m3,mf⟩:=gA HC.out (hB4.block _ h4 hb3);have HQ4:=aA (aI hP4 hB4);clear hP4 hB4)
    ·have hbt:b=true:=by assumption
     subst hbt
     have h44:g3<W4.heap.size:=Nat.lt_of_lt_of_le h4 HQ4.out.2.size
     have hl44:w.heap.size<W4.heap.size:=by omega
     have HC4:=aA ((HQ4.out.2.block g3 h4 hb3).trans HC.out)
     have HQr4:=aA ((HQ4.out.2.block w.heap.size hl4 hb4).trans HQr.out)
     have HB4:=aA (HB.out.then HQ4.out.2 HB.out.size)
     have HX4:=aA (HS.out.2.step (w':=W4) (P':=fun q=>w.heap.size<q∧q≠g3) fun q hq hp=>⟨HQ4.out.2.block q hq (by omega),hp⟩)
     clear q0 q1 q2 q3 qf m0 m1 m2c m3 mf
     cases hT:yB L (sg 42) k1 n1 with
     |out=>exact absurd hT HTn.out
     |bad c a=>
      have HP4:Hid (PBad L bp tb cp W4 c a):=by have h9:=HQ4.out.1;rw[show yB L ⟨#[42]⟩ k1 n1=yB L (sg 42) k1 n1 from rfl,hT] at h9;exact h9
      have hRb:R=.bad c a:=by have h9:=HR2.out;rw[hT] at h9;exact h9.symm
      subst hRb
      have HSe:=aA (EG HP4.out)
      have HW:=aA (fun (W:World) (hW:Below W4.heap.size W4 W)=>gF (r:=(.bad c a:PR Unit)) (V:=fun _=>True) (HP4.out.below hW) (by intro h;cases h))
      refine HSe.out.mono ?_
      rintro e W5 ⟨rfl,hB50⟩
      have hB5:=hB50.alloc hB50.size (.cells #[.string ⟨#[120]⟩,.string ⟨#[]⟩,.int .i64 0,.int .i64 0] 82)
      have HQ5:=aA hB5
      clear hB5 hB50
      simp only[]
      go_wp2_with (go_at_call 32;refine(HW.out _ HQ5.out).mono ?_;rintro e W6 ⟨rfl,hP6,hB6⟩;obtain⟨q0,q1,q2,q3,qf⟩:=gA HQr4.out ((hB6.block _ (Nat.lt_of_lt_of_le hl44 HQ5.out.size) hb4).trans (HQ5.out.block _ hl44));obtain⟨m0,m1,m2c,m3,mf⟩:=gA HC4.out ((hB6.block _ (Nat.lt_of_lt_of_le h44 HQ5.out.size) hb3).trans (HQ5.out.block _ h44));have HQ6:=aA (aI hP6 hB6);clear hP6 hB6)
      refine bodyPost_ret (v:=.agg #[.string s0,.string s1,.int .i64 n2,.slice ka kn kc]) (by simp[results,Tryz.results113,go_sem,q0,q1,q2,q3]) rfl ?_
      exact vB hbp htb (R:=.bad c a) (P:=fun b=>w.heap.size<b) HQ6.out.1 (fun b hb=>hb) ((HB4.out.then (Below.x HQ5.out bp (nR _)) HB4.out.size).then HQ6.out.2 (Nat.le_trans HB4.out.size HQ5.out.size))
     |ok bb k2 n2'=>
      have h9:=HQ4.out.1
      rw[show yB L ⟨#[42]⟩ k1 n1=yB L (sg 42) k1 n1 from rfl,hT] at h9
      have hbb:bb=true:=h9.2
      subst hbb
      have HP4:Hid (POk L bp tb cp W4 k2 n2'):=h9.1
      have hR3:(if (cA L k2).kind=.n then (if 1000000<CC (cA L k2).text then .bad 2 (cA L k2).pos else (pA L k2 n2').bind fun _ k1 n=>(oA L (sg 37) k1 n).bind fun _ k2' n=>cB L f' (.mk (sg 42) ⟨#[]⟩ (CC (cA L k2).text) [x]) k2' n) else RC L k2)=R:=by
       have h8:=HR2.out
       rw[hT] at h8
       exact h8
      have HSe:=aA (RD HP4.out.s HP4.out.nb)
      have HW:=aA (fun (W:World) (hW:Below W4.heap.size W4 W)=>gF (r:=(.ok () k2 n2':PR Unit)) (V:=fun _=>True) ⟨HP4.out.below hW,trivial⟩ (by intro h;cases h))
      have HFl:=aA (fun (W:World) (hW:Below W4.heap.size W4 W)=>oG (HP4.out.s.below hW) 2 (cA L k2).pos)
      have HSt:=aA (fun (W:World) (hW:Below W4.heap.size W4 W)=>SD (HP4.out.below hW))
      have HNd:=aA (fun (W:World) (hW:PSt L bp tb cp W (pA L k2 n2') (fun _=>True))=>yC hW (DA _ _ _) (sg 37))
      unfold sg at HNd
      unfold sI at HSe
      clear h9 HQ4 HS HTk HR2 hT
      by_cases hkd:(cA L k2).kind=.n
      ·rw[if_pos hkd] at hR3
       have hk:((kB (cA L k2).kind).toList==[110])=true:=by rw[hkd,Lib.toList_data];decide
       have HHu:=aA (fun W=>lK (cA L k2).text (HLn.out k2 _ (vC HP4.out.s.lt) hkd) W)
       clear hkd
       by_cases hbig:1000000<CC (cA L k2).text
       ·rw[if_pos hbig] at hR3
        have hbz:(1000000:Int)<(CC (cA L k2).text:Int):=by omega
        have HRb:=aA hR3
        clear hR3
        generalize CC (cA L k2).text=hh at *
        generalize (cA L k2).text=K1 at *
        generalize kB (cA L k2).kind=K0 at *
        generalize (cA L k2).code=K3 at *
        refine HSe.out.mono ?_
        rintro e W5 ⟨rfl,hB50⟩
        have hB5:=hB50.alloc hB50.size (.cells #[.string K0,.string K1,.int .i64 (cA L k2).pos,.int .i64 K3] 82)
        have HQ5:=aA hB5
        clear hB5 hB50
        simp only[]
        go_wp2_with (first|(go_at_call 114;refine(HHu.out _).mono ?_;rintro e w' ⟨rfl,rfl⟩)|(go_at_call 62;refine(HFl.out _ HQ5.out).mono ?_;rintro e W6 ⟨rfl,hP6,hB6⟩;obtain⟨q0,q1,q2,q3,qf⟩:=gA HQr4.out ((hB6.block _ (Nat.lt_of_lt_of_le hl44 HQ5.out.size) hb4).trans (HQ5.out.block _ hl44));obtain⟨m0,m1,m2c,m3,mf⟩:=gA HC4.out ((hB6.block _ (Nat.lt_of_lt_of_le h44 HQ5.out.size) hb3).trans (HQ5.out.block _ h44));have HQ6:=aA (aI hP6 hB6);clear hP6 hB6))
        refine bodyPost_ret (v:=.agg #[.string s0,.string s1,.int .i64 n2,.slice ka kn kc]) (by simp[results,Tryz.results113,go_sem,q0,q1,q2,q3]) rfl ?_
        refine vB hbp htb (R:=R) (P:=fun b=>w.heap.size<b) ?_ (fun b hb=>hb) ((HB4.out.then (Below.x HQ5.out bp (nR _)) HB4.out.size).then HQ6.out.2 (Nat.le_trans HB4.out.size HQ5.out.size))
        rw[←HRb.out]
        exact⟨by omega,_,_,HQ6.out.1⟩
       ·rw[if_neg hbig] at hR3
        have hbz:¬((1000000:Int)<(CC (cA L k2).text:Int)):=by omega
        have HRb:Hid ((((pA L k2 n2').bind fun _ k n=>oA L (sg 37) k n).bind fun _ k n=>cB L f' (.mk (sg 42) ⟨#[]⟩ (CC (cA L k2).text) [x]) k n)=R):=by
         show _=_
         rw[←hR3]
         cases pA L k2 n2'<;>rfl
        have HNo:Hid (((pA L k2 n2').bind fun _ k n=>oA L (sg 37) k n)≠.out):=by
         cases hst:pA L k2 n2' with
         |out=>exact absurd hst (DA _ _ _)
         |bad c a=>intro h;cases h
         |ok y k n=>
          intro h
          have h:oA L (sg 37) k n=.out:=h
          unfold oA at h
          split at h
          ·exact DA _ _ _ h
          ·cases h
        clear hR3
        generalize CC (cA L k2).text=hh at *
        generalize (cA L k2).text=K1 at *
        generalize kB (cA L k2).kind=K0 at *
        generalize (cA L k2).code=K3 at *
        refine HSe.out.mono ?_
        rintro e W5 ⟨rfl,hB50⟩
        have hB5:=hB50.alloc hB50.size (.cells #[.string K0,.string K1,.int .i64 (cA L k2).pos,.int .i64 K3] 82)
        have HQ5:=aA hB5
        clear hB5 hB50
        simp only[]
        go_wp2_with (first|(go_at_call 114;refine(HHu.out _).mono ?_;rintro e w' ⟨rfl,rfl⟩)|(go_at_call 110;refine(HSt.out _ HQ5.out).mono ?_;rintro e W6 ⟨rfl,hP6,hB6⟩;have HQ6:=aA (aI hP6 hB6);clear hP6 hB6)|(go_at_call 65;refine(HNd.out _ HQ6.out.1).mono ?_;rintro e W7 ⟨rfl,hP7,hB7⟩;have hs5:=HQ5.out.size;have hs6:=HQ6.out.2.size;have hs7:=hB7.size;have hl7:g3<W7.heap.size:=(by omega);have hc7:=(((hB7.block g3 (by omega) hb3).trans (HQ6.out.2.block g3 (by omega) hb3)).trans (HQ5.out.block g3 h44)).trans HC4.out;obtain⟨u0,u1,u2,u3,uf⟩:=tA hc7;have HQ7:=aA (aI hP7 (aI hB7 hc7));clear hP7 hB7 hc7))
        go_roundg f'
        case rel=>
         have hp1:=DG HQ7.out.2.2 (.string (sg 42)) (.string ⟨#[]⟩) (.int .i64 hh) (.string s0) (.string s1) (.int .i64 n2) (.slice ka kn kc)
         exact bW hbp htb h3 h44 HB4.out (((Below.x HQ5.out bp (nR _)).then HQ6.out.2 HQ5.out.size).then HQ7.out.2.1 (Nat.le_trans HQ5.out.size HQ6.out.2.size)) HQr4.out HX4.out HQ7.out.1 hp1 (by omega) HNo.out HRb.out
        case measure=>have:=HGg.out;omega
      ·rw[if_neg hkd] at hR3
       have hRb:R=.bad 1 (cA L k2).pos:=hR3.symm
       subst hRb
       have hk:((kB (cA L k2).kind).toList==[110])=false:=by
        cases h2:(cA L k2).kind<;>first|exact absurd h2 hkd|(rw[Lib.toList_data];decide)
       clear hkd hR3
       generalize (cA L k2).text=K1 at *
       generalize kB (cA L k2).kind=K0 at *
       generalize (cA L k2).pos=K2 at HSe
       generalize (cA L k2).code=K3 at *
       refine HSe.out.mono ?_
       rintro e W5 ⟨rfl,hB50⟩
       have hB5:=hB50.alloc hB50.size (.cells #[.string K0,.string K1,.int .i64 K2,.int .i64 K3] 82)
       have HQ5:=aA hB5
       clear hB5 hB50
       simp only[]
       go_wp2_with (go_at_call 32;refine(HW.out _ HQ5.out).mono ?_;rintro e W6 ⟨rfl,hP6,hB6⟩;obtain⟨q0,q1,q2,q3,qf⟩:=gA HQr4.out ((hB6.block _ (Nat.lt_of_lt_of_le hl44 HQ5.out.size) hb4).trans (HQ5.out.block _ hl44));obtain⟨m0,m1,m2c,m3,mf⟩:=gA HC4.out ((hB6.block _ (Nat.lt_of_lt_of_le h44 HQ5.out.size) hb3).trans (HQ5.out.block _ h44));have HQ6:=aA (aI hP6 hB6);clear hP6 hB6)
       refine bodyPost_ret (v:=.agg #[.string s0,.string s1,.int .i64 n2,.slice ka kn kc]) (by simp[results,Tryz.results113,go_sem,q0,q1,q2,q3]) rfl ?_
       refine vB hbp htb (R:=.bad 1 (cA L k2).pos) (P:=fun b=>w.heap.size<b) ?_ (fun b hb=>hb) ((HB4.out.then (Below.x HQ5.out bp (nR _)) HB4.out.size).then HQ6.out.2 (Nat.le_trans HB4.out.size HQ5.out.size))
       exact HQ6.out.1
    ·have hbf:b=false:=by simp_all
     subst hbf
     refine bodyPost_ret (v:=.agg #[.string s0,.string s1,.int .i64 n2,.slice ka kn kc]) (by simp[results,Tryz.results113,go_sem,q0,q1,q2,q3]) rfl ?_
     have h8:R=(yB L (sg 42) k1 n1).bind fun _ k n=>.ok x k n:=by
      rw[←HR2.out]
      have h9:=HQ4.out.1
      cases hT:yB L (sg 42) k1 n1 with
      |out=>rfl
      |bad c a=>rfl
      |ok y k n=>
       rw[show yB L ⟨#[42]⟩ k1 n1=yB L (sg 42) k1 n1 from rfl,hT] at h9
       have hy:y=false:=h9.2
       subst hy
       rfl
     exact vB hbp htb (P:=fun b=>w.heap.size<b∧b≠g3) (gI HS.out HQ4.out.1 h8 hbp HQ4.out.2) (fun b hb=>hb.1) (HB.out.then HQ4.out.2 HB.out.size)
theorem GS{L:List Tok}{bp tb cp:Nat}{w W:World}{r:PR Nd}{P:Nat→Prop}{a0 a1 a2 a3:Value}(hbp:bp<w.heap.size)(htb:tb<w.heap.size)
 (hq:W.heap[w.heap.size]?=some (.cells #[.string ⟨#[]⟩,.string ⟨#[]⟩,.int .i64 0,.slice none 0 0] 44 (0,0))) (h:PSt L bp tb cp W r (fun x=>NL W P (nv a0 a1 a2 a3) x)) (hP:∀b,P b→w.heap.size<b) (hB:BelX w.heap.size bp w W) (hlt:w.heap.size<W.heap.size) (kd s:ByteArray) (N:Nat):
 vO L bp tb cp w (r.bind fun x k n=>.ok (.mk kd s N [x]) k n) (.returned (.agg #[.string kd,.string s,.int .i64 N,.slice (some ⟨W.heap.size,0,none⟩) 1 1])) (yK W w.heap.size (.string kd) (.string s) (.int .i64 N) a0 a1 a2 a3):=by
 have hp:=DG hq (.string kd) (.string s) (.int .i64 N) a0 a1 a2 a3
 generalize yK W w.heap.size (.string kd) (.string s) (.int .i64 N) a0 a1 a2 a3=WF at *
 have hsz:=hp.size
 have hs0:=hB.size
 refine⟨⟨_,_,_,_,_,_,rfl,?_⟩,⟨hp.os.trans hB.os,hp.tape.trans hB.tape,hp.output.trans hB.output,by omega,fun q hq' hne=>(hp.old q (by omega) (by omega)).trans (hB.block q hq' hne)⟩⟩
 cases r with
 |out=>exact trivial
 |bad c a=>
  obtain⟨hc,k,n,h1⟩:=h
  exact⟨hc,k,n,hp.ps h1 (by omega) (by omega)⟩
 |ok x k n=>
  refine⟨⟨hp.ps h.1.s (by omega) (by omega),h.1.nb,h.1.nd⟩,?_⟩
  exact NL.one (a:=nv a0 a1 a2 a3) (h.2.step fun q hq' hP'=>⟨hp.old q hq' (by have:=hP q hP';omega),by have:=hP q hP';omega⟩) (by omega) hp.ra kd s N
theorem mM{L:List Tok}{bp tb cp f:Nat}(h1:OD L bp tb cp 132 (lB L f))(h2:OD L bp tb cp 147 (XD L f)):OD L bp tb cp 132 (lB L (f+1)):=by
 intro w k n h hn
 have hbp:=h.s.in
 have htb:=h.s.tin
 obtain⟨R,hR⟩:∃R,R=lB L (f+1) k n:=⟨_,rfl⟩
 rw[←hR] at hn ⊢
 rw[lB] at hR
 obtain⟨W1,hW1⟩:∃W1,W1=w.alloc (.cells #[.string ⟨#[]⟩,.string ⟨#[]⟩,.int .i64 0,.slice none 0 0] 44):=⟨_,rfl⟩
 have hst:Start w W1:=by rw[hW1];exact Start.new w
 have hlt:=hst.lt
 have HI:=aA (XT (h.below hst.bel).s h.nb wNot)
 have HP1:=aA (h.below hst.bel)
 have HX:=aA hW1
 have HT:=aA hst
 have HN:=aA hn
 unfold wNot at HI
 clear h hW1 hst hn
 cases hi:qK L wNot k with
 |false=>
  rw[hi,if_neg (by simp)] at hR
  have hib:qK L ⟨#[110,111,116]⟩ k=false:=hi
  rw[hib] at HI
  subst hR
  have HTe:=aA (fun W (hW:Below W1.heap.size W1 W)=>h2 W k n (HP1.out.below hW) HN.out)
  clear hi hib h1 h2
  go_enter Tryz.func132,Tryz.ntmps132
  go_wp2_with (first|(rw[←HX.out];go_at_call 111;refine HI.out.mono ?_;rintro e W2 ⟨rfl,hB2⟩;have HQ:=aA hB2;clear hB2)|(go_at_call 147;refine(HTe.out _ HQ.out).mono ?_;rintro e W3 ⟨⟨s0,s1,n2,ka,kn,kc,rfl,hP3⟩,hB3⟩;obtain⟨q0,q1,q2,q3,qf⟩:=gA HT.out.blk ((hB3.block _ (Nat.lt_of_lt_of_le hlt HQ.out.size) (by omega)).trans (HQ.out.block _ hlt));have HQ3:=aA (aI hP3 hB3);clear hP3 hB3))
  refine bodyPost_ret (v:=.agg #[.string s0,.string s1,.int .i64 n2,.slice ka kn kc]) (by simp[results,Tryz.results132,go_sem,q0,q1,q2,q3]) rfl ?_
  exact vB hbp htb (P:=fun b=>W2.heap.size≤b) HQ3.out.1 (fun b hb=>by have:=HQ.out.size;omega) (((Below.x HT.out.bel bp (nR _)).then (Below.x HQ.out bp (nR _)) HT.out.bel.size).then HQ3.out.2 (Nat.le_trans HT.out.bel.size HQ.out.size))
 |true=>
  rw[hi,if_pos rfl] at hR
  have hib:qK L ⟨#[110,111,116]⟩ k=true:=hi
  rw[hib] at HI
  have hr1:qA L k n≠.out:=by unfold qA;split<;>(intro h;cases h)
  have hr2:((qA L k n).bind fun _ k n=>pA L k n)≠.out:=by
   cases hd:qA L k n with
   |out=>exact absurd hd hr1
   |bad c a=>intro h;cases h
   |ok y k n=>exact DA _ _ _
  have hR2:R=(((qA L k n).bind fun _ k n=>pA L k n).bind fun _ k n=>lB L f k n).bind fun x k n=>.ok (.mk wNot ⟨#[]⟩ 0 [x]) k (n - 1):=by
   rw[hR]
   cases qA L k n with
   |out=>rfl
   |bad c a=>rfl
   |ok y k n=>
    show ((pA L k n).bind _)=(((pA L k n).bind _).bind _)
    cases pA L k n<;>rfl
  have hr3:(((qA L k n).bind fun _ k n=>pA L k n).bind fun _ k n=>lB L f k n)≠.out:=PR.bind_not (hR2▸HN.out)
  have hnest:∀x k' n',(((qA L k n).bind fun _ k n=>pA L k n).bind fun _ k n=>lB L f k n)=.ok x k' n'→1≤n':=by
   intro x k' n' h9
   obtain⟨_,_,_,e1,e2⟩:=PR.bind_eq h9
   obtain⟨_,_,_,e3,e4⟩:=PR.bind_eq e1
   have:=tC e3;have:=WB e4;have:=(VG L f).un _ _ _ _ _ e2
   omega
  have HD:=aA (fun W (hW:Below W1.heap.size W1 W)=>ZD (HP1.out.below hW))
  have HSt:=aA (fun (W:World) (hW:PSt L bp tb cp W (qA L k n) (fun _=>True))=>xE hW hr1)
  have HU:=aA (fun (W:World) (hW:PSt L bp tb cp W ((qA L k n).bind fun _ k n=>pA L k n) (fun _=>True))=>QC h1 (fun _ _ _ h=>kH h) hW hr3)
  have HR2:=aA hR2
  have Hr3:=aA hr3
  have HNe:=aA hnest
  clear hi hib h1 h2 hR hr1 hr2 hR2 hr3 hnest
  generalize (((qA L k n).bind fun _ k n=>pA L k n).bind fun _ k n=>lB L f k n)=r3 at *
  go_enter Tryz.func132,Tryz.ntmps132
  go_upto_region 7 with (first|(rw[←HX.out];go_at_call 111;refine HI.out.mono ?_;rintro e W2 ⟨rfl,hB2⟩;have HQ:=aA hB2;clear hB2)|(go_at_call 148;refine(HD.out _ HQ.out).mono ?_;rintro e W3 ⟨rfl,hP3,hB3⟩;have HQ3:=aA (aI hP3 hB3);clear hP3 hB3)|(go_at_call 110;refine(HSt.out _ HQ3.out.1).mono ?_;rintro e W4 ⟨rfl,hP4,hB4⟩;have HQ4:=aA (aI hP4 hB4);clear hP4 hB4)|(go_at_call 132;refine(HU.out _ HQ4.out.1).mono ?_;rintro e W5 ⟨⟨t0,t1,m2,la,ln,lc,rfl,hP5⟩,hB5⟩;have HQ5:=aA (aI hP5 hB5);clear hP5 hB5))
  obtain⟨W6,hW6⟩:∃W6,W6=W5.alloc (.cells #[.string t0,.string t1,.int .i64 m2,.slice la ln lc] 44):=⟨_,rfl⟩
  rw[←hW6]
  have h56:Below W5.heap.size W5 W6:=by rw[hW6];exact bA _ _
  have hv6:W6.heap[W5.heap.size]?=some (.cells #[.string t0,.string t1,.int .i64 m2,.slice la ln lc] 44 (0,0)):=by rw[hW6];exact heap_alloc_new _ _
  have hs2:=HQ.out.size
  have hs3:=HQ3.out.2.size
  have hs4:=HQ4.out.2.size
  have hs5:=HQ5.out.2.size
  have hs6:=h56.size
  have hl6:W5.heap.size<W6.heap.size:=by rw[hW6];simp
  have hbw:w.heap.size≠bp:=by omega
  have hb5:W5.heap.size≠bp:=by omega
  have hr6:W6.heap[w.heap.size]?=some (.cells #[.string ⟨#[]⟩,.string ⟨#[]⟩,.int .i64 0,.slice none 0 0] 44 (0,0)):=((((h56.block _ (by omega)).trans (HQ5.out.2.block _ (by omega) hbw)).trans (HQ4.out.2.block _ (by omega) hbw)).trans (HQ3.out.2.block _ (by omega) hbw)).trans ((HQ.out.block _ hlt).trans HT.out.blk)
  have hB6:BelX w.heap.size bp w W6:=(((((Below.x HT.out.bel bp (nR _)).then (Below.x HQ.out bp (nR _)) HT.out.bel.size).then HQ3.out.2 (by omega)).then HQ4.out.2 (by omega)).then HQ5.out.2 (by omega)).then (Below.x h56 bp (nR _)) (by omega)
  have hP6:PSt L bp tb cp W6 r3 (fun x=>NL W6 (fun b=>w.heap.size<b) (nv (.string t0) (.string t1) (.int .i64 m2) (.slice la ln lc)) x):=(HQ5.out.1.below h56).to fun x _ _ _ hx=>hx.step fun b hb hp=>⟨h56.block b hb,by omega⟩
  obtain⟨z,y2,yf,hs7,hB7⟩:=hP6.nest Hr3.out HNe.out
  obtain⟨n0,n1,n2,n3,nf⟩:=tA hv6
  have H6:=aA (aI hr6 (aI hB6 (aI hs7 (aI hB7 hv6))))
  clear hW6 h56 hr6 hB6 hP6 hs7 hB7 hv6
  go_upto_region 8 with fail
  obtain⟨W7,hW7⟩:∃W7,W7=W6.setCell ⟨bp,2,none⟩ (.int .i64 (wrap64 (z - 1))):=⟨_,rfl⟩
  rw[←hW7]
  have h67:∀q,q≠bp→W7.heap[q]?=W6.heap[q]?:=fun q hq=>by rw[hW7];exact Below.heap_setCell _ _ _ _ hq
  obtain⟨h8a,h8b,h8c,h8d,h8e⟩:=H6.out
  have hs7:W7.heap.size=W6.heap.size:=by rw[hW7];simp
  rw[show IntKind.i64.wrap (z - 1)=wrap64 (z - 1) from by first|exact IntWalk.i64_left _|(rw[IntKind.wrap_i64];unfold wrap64;rfl),←hW7] at h8c h8d
  obtain⟨p0,p1,p2,p3,pf⟩:=tA ((h67 _ hb5).trans h8e)
  have hr7:=(h67 _ hbw).trans h8a
  obtain⟨q0,q1,q2,q3,qf⟩:=tA hr7
  have hl7:w.heap.size<W7.heap.size:=by omega
  have hl8:W5.heap.size<W7.heap.size:=by omega
  have HF:=aA (GS (L:=L) (bp:=bp) (tb:=tb) (cp:=cp) (r:=r3.bind fun x k n=>.ok x k (n - 1)) (P:=fun b=>w.heap.size<b) hbp htb hr7 (h8c.to fun x _ _ _ hx=>hx.step fun b hb hp=>⟨h67 b (by omega),hp⟩) (fun b hb=>hb) (h8b.then h8d h8b.size) hl7 wNot ⟨#[]⟩ 0)
  have HR7:=aA hr7
  clear hs7 hW7 h67 h8a h8b h8c h8d h8e hr7 y2 yf n0 n1 n2 n3 nf H6
  go_wp2
  have hx:=tA (DG HR7.out (.string ⟨#[110,111,116]⟩) (.string ⟨#[]⟩) (.int .i64 0) (.string t0) (.string t1) (.int .i64 m2) (.slice la ln lc)).var
  unfold yK at hx
  obtain⟨x0,x1,x2,x3,_⟩:=hx
  refine bodyPost_ret (v:=.agg #[.string ⟨#[110,111,116]⟩,.string ⟨#[]⟩,.int .i64 0,.slice (some ⟨W7.heap.size,0,none⟩) 1 1]) (by simp[results,Tryz.results132,go_sem,x0,x1,x2,x3]) rfl ?_
  have h9:=HF.out
  have hRf:((r3.bind fun x k n=>PR.ok x k (n - 1)).bind fun x k n=>.ok (.mk wNot ⟨#[]⟩ 0 [x]) k n)=R:=by
   rw[HR2.out]
   cases r3<;>rfl
  rw[hRf] at h9
  exact h9
structure BelY(B x y:Nat)(a w:World):Prop where
 os:w.os=a.os
 tape:w.tape=a.tape
 output:w.output=a.output
 size:a.heap.size≤w.heap.size
 block:∀k,k<B→k≠x→k≠y→w.heap[k]?=a.heap[k]?
theorem BelX.y{B x:Nat}{a w:World}(h:BelX B x a w)(y:Nat):BelY B x y a w:=⟨h.os,h.tape,h.output,h.size,fun k h1 h2 _=>h.block k h1 h2⟩
theorem BelY.refl(B x y:Nat)(a:World):BelY B x y a a:=⟨rfl,rfl,rfl,nR _,fun _ _ _ _=>rfl⟩
theorem BelY.then{B B' x y:Nat}{a b c:World}(h:BelY B x y a b)(h':BelY B' x y b c)(hB:B≤B'):BelY B x y a c:=⟨h'.os.trans h.os,h'.tape.trans h.tape,h'.output.trans h.output,Nat.le_trans h.size h'.size,fun k hk h1 h2=>(h'.block k (by omega) h1 h2).trans (h.block k hk h1 h2)⟩
theorem BelY.set{B x y:Nat}{a w:World}(h:BelY B x y a w)(i:Nat)(u:Value):BelY B x y a (w.setCell ⟨y,i,none⟩ u):=⟨h.os,h.tape,h.output,by simpa using h.size,fun k h1 h2 h3=>(Below.heap_setCell _ _ _ _ h3).trans (h.block k h1 h2 h3)⟩
theorem BelY.x{B B' x y:Nat}{a w:World}(h:BelY B x y a w)(h1:B'≤B)(h2:B'≤y):BelX B' x a w:=⟨h.os,h.tape,h.output,h.size,fun k hk hx=>h.block k (by omega) hx (by omega)⟩
structure SB(w:World)(sp:Nat)(cs:Array Value):Prop where
 blk:w.heap[sp]?=some (.cells cs 30 (0,0))
 size:cs.size=19
theorem SB.cell{w:World}{sp:Nat}{cs:Array Value}(h:SB w sp cs){i:Nat}(hi:i<19):∃v,w.cell? ⟨sp,i,none⟩=some v:=by
 have h1:=h.blk
 have h2:=h.size
 exact⟨cs[i]'(by omega),by simp[World.cell?,h1]⟩
theorem SB.froz{w:World}{sp:Nat}{cs:Array Value}(h:SB w sp cs):∀i,w.frozen? ⟨sp,i,none⟩=false:=by
 have h1:=h.blk
 simp[World.frozen?,h1]
theorem SB.set{w:World}{sp:Nat}{cs:Array Value}(h:SB w sp cs)(i:Nat)(u:Value):SB (w.setCell ⟨sp,i,none⟩ u) sp (cs.setIfInBounds i u):=⟨LA h.blk u,by simpa using h.size⟩
theorem SB.keep{w w':World}{sp:Nat}{cs:Array Value}(h:SB w sp cs)(hb:w'.heap[sp]?=w.heap[sp]?):SB w' sp cs:=⟨hb.trans h.blk,h.size⟩
theorem SB.in{w:World}{sp:Nat}{cs:Array Value}(h:SB w sp cs):sp<w.heap.size:=by
 have h1:=h.blk
 rcases Nat.lt_or_ge sp w.heap.size with h2|h2
 ·exact h2
 ·rw[Array.getElem?_eq_none h2] at h1;cases h1
theorem QS.set{L:List Tok}{rp tb sp:Nat}{w:World}{k n B:Nat}(h:QS L rp tb w k n)(lo:Lows rp tb B)(hB:B≤sp)(i:Nat)(u:Value):QS L rp tb (w.setCell ⟨sp,i,none⟩ u) k n:=h.keep lo fun b hb=>Below.heap_setCell _ _ _ _ (show b≠sp by omega)
def DD(L:List Tok)(k n:Nat):PR Nat:=if (cA L k).kind=.n∧kD (cA L k).text=false∧BE (cA L k).text≤12∧kG (cA L k).text.data.toList 0≤100000 then .ok (kG (cA L k).text.data.toList 0) (k+1) n else AI
def XC(L:List Tok)(ls:List ByteArray)(o:Int)(k:Nat):Int×Nat:=if (cA L k).kind=.w then (match iA ls (cA L k).text with
 |none=>(o,k)
 |some i=>((i:Int),k+1)) else (o,k)
def OC(L:List Tok)(ls:List ByteArray)(k n:Nat):PR Nat:=if (cA L k).kind=.w then (match iA ls (cA L k).text with
 |none=>AI
 |some i=>.ok i (k+1) n) else AI
theorem ZV{t:TK}:((kN t:Int) !=1)=!decide (t=.w):=by cases t<;>rfl
theorem OJ{L:List Tok}{rp tb:Nat}{w:World}{k n:Nat}(h:QS L rp tb w k n)(ls:List ByteArray)(b c:Nat)(hk:∀i s,ls[i]?=some s→w.cell? ⟨b,0+i,none⟩=some (.string s))(hl:ls.length≤1000)(o:Int):
 Calls Tryz.prog 37 #[.pointer (some ⟨rp,0,none⟩),.slice (some ⟨b,0,none⟩) ls.length c,.int .i64 o] w fun e w'=>e=.returned (.int .i64 (XC L ls o k).1)∧QS L rp tb w' (XC L ls o k).2 n∧BelX w.heap.size rp w w':=by
 obtain⟨m,cc,hm,h1,hc,h4,x0,x1,xf⟩:=h.cells
 obtain⟨y0,y1,y2⟩:=h.tokens
 have hz:=ZV (t:=(cA L k).kind)
 have HI:=aA (NN ls b 0 c w hk hl (cA L k).text)
 have HP:=aA h
 unfold XC
 clear hk
 by_cases hw:(cA L k).kind=.w
 ·rw[if_pos hw]
  rw[decide_eq_true hw] at hz
  simp only[Bool.not_true] at hz
  have hk1:=h.moreK (by rw[hw];intro e;cases e)
  have HS:=aA (ZF h hk1)
  cases hp:iA ls (cA L k).text with
  |none=>
   have hv:aD ls (cA L k).text=-1:=by unfold aD;rw[hp]
   rw[hv] at HI
   clear h hw hk1 hp hv HS
   generalize kN (cA L k).kind=K0 at *
   generalize (cA L k).text=K1 at *
   generalize ls.length=ll at *
   go_enter Tryz.func37,Tryz.ntmps37
   go_wp2_with (go_at_call 79;refine HI.out.mono ?_;rintro e w' ⟨rfl,rfl⟩)
   go_ret
   exact⟨rfl,HP.out,BelX.refl _ _ _⟩
  |some i=>
   have hv:aD ls (cA L k).text=i:=by unfold aD;rw[hp]
   rw[hv] at HI
   have hi0:¬(i:Int)<0:=by omega
   clear h hw hk1 hp hv
   generalize kN (cA L k).kind=K0 at *
   generalize (cA L k).text=K1 at *
   generalize ls.length=ll at *
   go_enter Tryz.func37,Tryz.ntmps37
   go_wp2_with (first|(go_at_call 79;refine HI.out.mono ?_;rintro e w' ⟨rfl,rfl⟩)|(go_at_call 35;refine HS.out.mono ?_;rintro e w' ⟨rfl,hq,hb⟩;have HQ:=aA (aI hq hb);clear hq hb))
   go_ret
   exact⟨rfl,HQ.out.1,HQ.out.2⟩
 ·rw[if_neg hw]
  rw[decide_eq_false hw] at hz
  simp only[Bool.not_false] at hz
  clear h hw HI
  generalize kN (cA L k).kind=K0 at *
  generalize (cA L k).text=K1 at *
  generalize ls.length=ll at *
  go_enter Tryz.func37,Tryz.ntmps37
  go_wp2
  go_ret
  exact⟨rfl,HP.out,BelX.refl _ _ _⟩
theorem ZS{L:List Tok}{rp tb:Nat}{w:World}{k n:Nat}(h:QS L rp tb w k n)(ls:List ByteArray)(b c:Nat)(hk:∀i s,ls[i]?=some s→w.cell? ⟨b,0+i,none⟩=some (.string s))(hl:ls.length≤1000):
 Calls Tryz.prog 85 #[.pointer (some ⟨rp,0,none⟩),.slice (some ⟨b,0,none⟩) ls.length c] w fun e w'=>QEnd L rp tb w (OC L ls k n) (fun x v _=>v=.int .i64 x) e w':=by
 have HP:=aA (OJ h ls b c hk hl (-1))
 have HW:=aA (fun (W:World) (hq:QS L rp tb W k n)=>FD hq 189)
 obtain⟨r,hr⟩:∃r,r=XC L ls (-1) k:=⟨_,rfl⟩
 have hcase:(r=(-1,k)∧OC L ls k n=AI)∨∃i:Nat,r=((i:Int),k+1)∧OC L ls k n=.ok i (k+1) n:=by
  rw[hr]
  unfold XC OC
  by_cases hw:(cA L k).kind=.w
  ·rw[if_pos hw,if_pos hw]
   cases iA ls (cA L k).text with
   |none=>exact .inl ⟨rfl,rfl⟩
   |some i=>exact .inr ⟨i,rfl,rfl⟩
  ·rw[if_neg hw,if_neg hw]
   exact .inl ⟨rfl,rfl⟩
 rw[←hr] at HP
 clear h hk hr
 rcases hcase with ⟨e1,e2⟩|⟨i,e1,e2⟩
 ·rw[e2]
  subst e1
  clear e2
  generalize ls.length=ll at *
  go_enter Tryz.func85,Tryz.ntmps85
  go_wp2_with (first|(go_at_call 37;refine HP.out.mono ?_;rintro e w' ⟨rfl,hq,hb⟩;obtain⟨pt,gt⟩:=hq.gT;have HQ:=aA (aI hq hb);clear hq hb)|(go_at_call 44;refine(HW.out _ HQ.out.1 _).mono ?_;rintro e w'' ⟨⟨p,rfl⟩,hb⟩;have HE:=aA hb;clear hb))
  exact⟨rfl,HQ.out.2.then (Below.x HE.out _ (nR _)) HQ.out.2.size,⟨_,rfl⟩⟩
 ·rw[e2]
  subst e1
  have hi0:¬(i:Int)<0:=by omega
  clear e2
  generalize ls.length=ll at *
  go_enter Tryz.func85,Tryz.ntmps85
  go_wp2_with (go_at_call 37;refine HP.out.mono ?_;rintro e w' ⟨rfl,hq,hb⟩;have HQ:=aA (aI hq hb);clear hq hb)
  go_ret
  exact⟨HQ.out.2,HQ.out.1,_,rfl,rfl⟩
end Go.Proofs.YtehbinobohjadaaGreatDoor

import Derived.Test.YtehbinobohjadaaGreatDoorTm00
import Derived.Test.YtehbinobohjadaaGreatDoorTm16
set_option maxHeartbeats 20000000
set_option maxRecDepth 20000
namespace Go.Proofs.YtehbinobohjadaaGreatDoor
open Go.RowKit Go.Extern.Stop Go.Stop Go.Extern
theorem FSz{L:List Tok}{bp tb cp:Nat}{w W:World}{α:Type}{r:PR α}{V:α→Prop}(hbp:bp<w.heap.size)(htb:tb<w.heap.size)(h:PSt L bp tb cp W r V)(hB:BelX w.heap.size bp w W)(g:α→Nd)(kd s:ByteArray)(N:Nat)(hg:∀x,V x→g x=.mk kd s N []):
 vO L bp tb cp w (r.bind fun x k n=>.ok (g x) k n) (.returned (.agg #[.string kd,.string s,.int .i64 N,.slice none 0 0])) ((((W.setCell ⟨w.heap.size,0,none⟩ (.string kd)).setCell ⟨w.heap.size,1,none⟩ (.string s)).setCell ⟨w.heap.size,2,none⟩ (.int .i64 N)).setCell ⟨w.heap.size,3,none⟩ (.slice none 0 0)):=by
 refine⟨⟨_,_,_,_,_,_,rfl,?_⟩,SG hB _ _ _ _⟩
 cases r with
 |out=>exact trivial
 |bad c a=>exact PBad.set4 h _ (by omega) (by omega) _ _ _ _
 |ok x k n=>
  refine⟨h.1.set4 _ (by omega) (by omega) _ _ _ _,?_⟩
  rw[hg x h.2]
  exact NL.leaf _ _ _ _ _
theorem PSt.carry{L:List Tok}{bp tb cp:Nat}{W:World}{α β:Type}{r:PR α}{F:Nat→Nat→PR β}{U:β→Prop}(h:PSt L bp tb cp W (r.bind fun _ k n=>F k n) U){V:α→Prop}(hV:∀x k n,r=.ok x k n→V x):PSt L bp tb cp W (r.bind fun x k n=>(F k n).bind fun _ k n=>.ok x k n) V:=by
 cases r with
 |out=>exact trivial
 |bad c a=>exact h
 |ok x k n=>
  have h:PSt L bp tb cp W (F k n) U:=h
  show PSt L bp tb cp W ((F k n).bind fun _ k n=>.ok x k n) V
  cases hF:F k n with
  |out=>exact trivial
  |bad c a=>rw[hF] at h;exact h
  |ok y k' n'=>rw[hF] at h;exact⟨h.1,hV x k n rfl⟩
theorem PSt.map{L:List Tok}{bp tb cp:Nat}{W:World}{α β:Type}{r:PR α}{U:α→Prop}(h:PSt L bp tb cp W r U)(g:α→β){V:β→Prop}(hV:∀x,U x→V (g x)):PSt L bp tb cp W (r.bind fun x k n=>.ok (g x) k n) V:=by
 cases r with
 |out=>exact trivial
 |bad c a=>exact h
 |ok x k n=>exact⟨h.1,hV x h.2⟩
theorem PSt.val{L:List Tok}{bp tb cp:Nat}{W:World}{α:Type}{r:PR α}{U:α→Prop}(h:PSt L bp tb cp W r U):∀x k n,r=.ok x k n→U x:=by
 rintro x k n rfl
 exact h.2
theorem sD(L:List Tok)(k n:Nat):uB L k n≠.out:=by
 unfold uB
 split
 ·cases h:pA L k n with
  |out=>exact absurd h (DA _ _ _)
  |bad c a=>intro h;cases h
  |ok x k n=>intro h;cases h
 ·intro h;cases h
theorem ZC(L:List Tok)(s:ByteArray)(k n:Nat):oA L s k n≠.out:=by
 unfold oA
 split
 ·exact DA _ _ _
 ·intro h;cases h
theorem YA(L:List Tok)(k n:Nat):qA L k n≠.out:=by
 unfold qA;split<;>(intro h;cases h)
theorem PR.bind_in{α β:Type}{r:PR α}{f:α→Nat→Nat→PR β}(h:r≠.out)(hf:∀x k n,f x k n≠.out):r.bind f≠.out:=by
 cases r with
 |out=>exact absurd rfl h
 |bad c a=>intro h;cases h
 |ok x k n=>exact hf x k n
theorem PR.assoc{α β γ:Type}(r:PR α)(f:α→Nat→Nat→PR β)(g:β→Nat→Nat→PR γ):(r.bind f).bind g=r.bind fun x k n=>(f x k n).bind g:=by
 cases r<;>rfl
def zI(W:World)(g3:Nat)(v0 v1 v2:Value)(a0 a1 a2 a3 b0 b1 b2 b3:Value):World:=
 (((((W.setCell ⟨g3,0,none⟩ v0).setCell ⟨g3,1,none⟩ v1).setCell ⟨g3,2,none⟩ v2).setCell ⟨g3,3,none⟩ (.slice (some ⟨W.heap.size,0,none⟩) 2 2)).alloc (.cells #[a0,a1,a2,a3,b0,b1,b2,b3] 44))
structure Put2b(W WF:World)(g3:Nat)(v0 v1 v2:Value)(a b:Nat→Value):Prop where
 os:WF.os=W.os
 tape:WF.tape=W.tape
 output:WF.output=W.output
 size:WF.heap.size=W.heap.size+1
 old:∀q,q<W.heap.size→q≠g3→WF.heap[q]?=W.heap[q]?
 var:WF.heap[g3]?=some (.cells #[v0,v1,v2,.slice (some ⟨W.heap.size,0,none⟩) 2 2] 44 (0,0))
 ra:∀c,c<4→WF.cell? ⟨W.heap.size,c,none⟩=some (a c)
 rb:∀c,c<4→WF.cell? ⟨W.heap.size,4+c,none⟩=some (b c)
theorem MH{W:World}{g3:Nat}{x0 x1 x2 x3:Value}(h:W.heap[g3]?=some (.cells #[x0,x1,x2,x3] 44 (0,0)))(v0 v1 v2 a0 a1 a2 a3 b0 b1 b2 b3:Value):Put2b W (zI W g3 v0 v1 v2 a0 a1 a2 a3 b0 b1 b2 b3) g3 v0 v1 v2 (nv a0 a1 a2 a3) (nv b0 b1 b2 b3):=by
 have hlt:g3<W.heap.size:=by
  rcases Nat.lt_or_ge g3 W.heap.size with h2|h2
  ·exact h2
  ·rw[Array.getElem?_eq_none h2] at h;cases h
 obtain⟨W1,hW1⟩:∃W1,W1=(((W.setCell ⟨g3,0,none⟩ v0).setCell ⟨g3,1,none⟩ v1).setCell ⟨g3,2,none⟩ v2).setCell ⟨g3,3,none⟩ (.slice (some ⟨W.heap.size,0,none⟩) 2 2):=⟨_,rfl⟩
 have hs1:W1.heap.size=W.heap.size:=by rw[hW1];exact lJ _ _ _ _
 obtain⟨WF,hWF⟩:∃WF,WF=W1.alloc (.cells #[a0,a1,a2,a3,b0,b1,b2,b3] 44):=⟨_,rfl⟩
 have hb:Below W1.heap.size W1 WF:=by rw[hWF];exact bA _ _
 have hrow:WF.heap[W.heap.size]?=some (.cells #[a0,a1,a2,a3,b0,b1,b2,b3] 44 (0,0)):=by
  have h1:=heap_alloc_new W1 (.cells #[a0,a1,a2,a3,b0,b1,b2,b3] 44)
  rw[←hWF,hs1] at h1
  exact h1
 have e:zI W g3 v0 v1 v2 a0 a1 a2 a3 b0 b1 b2 b3=WF:=by unfold zI;rw[hWF,hW1]
 rw[e]
 refine⟨hb.os.trans (by rw[hW1];rfl),hb.tape.trans (by rw[hW1];rfl),hb.output.trans (by rw[hW1];rfl),by rw[hWF];simp[hs1],fun q hq hg=>?_,?_,fun c hc=>?_,fun c hc=>?_⟩
 ·rw[hb.block q (by omega),hW1]
  exact pG _ _ _ _ hg
 ·rw[hb.block g3 (by omega),hW1]
  exact QE h _ _ _ _
 ·unfold World.cell?
  rw[hrow]
  rcases (show c=0∨c=1∨c=2∨c=3 by omega) with rfl|rfl|rfl|rfl<;>rfl
 ·unfold World.cell?
  rw[hrow]
  rcases (show c=0∨c=1∨c=2∨c=3 by omega) with rfl|rfl|rfl|rfl<;>rfl
theorem Put2b.ps{L:List Tok}{bp tb cp:Nat}{W WF:World}{g3:Nat}{v0 v1 v2:Value}{a b:Nat→Value}(h:Put2b W WF g3 v0 v1 v2 a b){k:Nat}{n:Int}{cd ps:Nat}(hp:PS L bp tb cp W k n cd ps)(hg:g3≠bp)(ht:g3≠tb):PS L bp tb cp WF k n cd ps:=
 ⟨(h.old bp hp.in (fun e=>hg e.symm)).trans hp.blk,fun i t e q hq=>(World.cell?_of_block (a:=⟨tb,i * 4+q,none⟩) (h.old tb hp.tin (fun e=>ht e.symm))).trans (hp.tok i t e q hq),hp.ne,hp.lt,hp.len,hp.bc⟩
theorem fQ{L:List Tok}{bp tb cp:Nat}{w W:World}{r:PR Nd}{P:Nat→Prop}{a0 a1 a2 a3 b0 b1 b2 b3:Value}{x:Nd}(hbp:bp<w.heap.size)(htb:tb<w.heap.size)
 (hq:W.heap[w.heap.size]?=some (.cells #[.string ⟨#[]⟩,.string ⟨#[]⟩,.int .i64 0,.slice none 0 0] 44 (0,0))) (h:PSt L bp tb cp W r (fun y=>NL W P (nv b0 b1 b2 b3) y)) (hx:∀y k n,r=.ok y k n→NL W P (nv a0 a1 a2 a3) x) (hP:∀b,P b→w.heap.size<b) (hB:BelX w.heap.size bp w W) (hlt:w.heap.size<W.heap.size) (kd:ByteArray):
 vO L bp tb cp w (r.bind fun y k n=>.ok (.mk kd ⟨#[]⟩ 0 [x,y]) k n) (.returned (.agg #[.string kd,.string ⟨#[]⟩,.int .i64 0,.slice (some ⟨W.heap.size,0,none⟩) 2 2])) (zI W w.heap.size (.string kd) (.string ⟨#[]⟩) (.int .i64 0) a0 a1 a2 a3 b0 b1 b2 b3):=by
 have hp:=MH hq (.string kd) (.string ⟨#[]⟩) (.int .i64 0) a0 a1 a2 a3 b0 b1 b2 b3
 generalize zI W w.heap.size (.string kd) (.string ⟨#[]⟩) (.int .i64 0) a0 a1 a2 a3 b0 b1 b2 b3=WF at *
 have hsz:=hp.size
 have hs0:=hB.size
 refine⟨⟨_,_,_,_,_,_,rfl,?_⟩,⟨hp.os.trans hB.os,hp.tape.trans hB.tape,hp.output.trans hB.output,by omega,fun q hq' hne=>(hp.old q (by omega) (by omega)).trans (hB.block q hq' hne)⟩⟩
 cases r with
 |out=>exact trivial
 |bad c a=>
  obtain⟨hc,k,n,h1⟩:=h
  exact⟨hc,k,n,hp.ps h1 (by omega) (by omega)⟩
 |ok y k n=>
  refine⟨⟨hp.ps h.1.s (by omega) (by omega),h.1.nb,h.1.nd⟩,?_⟩
  exact NL.two (a:=nv a0 a1 a2 a3) (b:=nv b0 b1 b2 b3) ((hx y k n rfl).step fun q hq' hP'=>⟨hp.old q hq' (by have:=hP q hP';omega),by have:=hP q hP';omega⟩) (h.2.step fun q hq' hP'=>⟨hp.old q hq' (by have:=hP q hP';omega),by have:=hP q hP';omega⟩) (by omega) hp.ra hp.rb kd ⟨#[]⟩ 0
def WV(L:List Tok)(f k n:Nat):PR Nd:=
 if vA (cA L k).text wCount=true then (pA L k n).bind fun _ k1 n=>(uB L k1 n).bind fun w k2 n=>.ok (.mk wCount w 0 []) k2 n
 else if vA (cA L k).text wTotal=true then (pA L k n).bind fun _ k1 n=>(uB L k1 n).bind fun w k2 n=>(oA L wOf k2 n).bind fun _ k3 n=>(uB L k3 n).bind fun o k4 n=>.ok (.mk wTotal w 0 [.mk qB o 0 []]) k4 n
 else if vA (cA L k).text wMax=true∨vA (cA L k).text wMin=true then (qA L k n).bind fun _ k1 n=>(pA L k1 n).bind fun _ k2 n=>(oA L (sg 40) k2 n).bind fun _ k3 n=>(IB L f k3 n).bind fun a k4 n=>(oA L (sg 44) k4 n).bind fun _ k5 n=>(IB L f k5 n).bind fun b k6 n=>(oA L (sg 41) k6 (n - 1)).bind fun _ k7 n=>.ok (.mk (cA L k).text ⟨#[]⟩ 0 [a,b]) k7 n
 else if vA (cA L k).text (sg 91)=true then (qA L k n).bind fun _ k1 n=>(pA L k1 n).bind fun _ k2 n=>(IB L f k2 n).bind fun x k3 n=>(oA L (sg 93) k3 (n - 1)).bind fun _ k4 n=>.ok x k4 n
 else (uB L k n).bind fun w k n=>.ok (.mk qB w 0 []) k n
theorem CM(L:List Tok)(f k n:Nat):LB L (f+1) k n=if (cA L k).kind=.n then (if 1000000000000<CC (cA L k).text then .bad 2 (cA L k).pos else (pA L k n).bind fun _ k1 n=>.ok (.mk JB ⟨#[]⟩ (CC (cA L k).text) []) k1 n) else WV L f k n:=by
 rw[LB];rfl
theorem CD(s:ByteArray)(l:List UInt8):vA s ⟨l.toArray⟩=(s.toList==l):=by
 unfold vA
 rw[Lib.toList_data ⟨l.toArray⟩]
theorem kL{L:List Tok}{bp tb cp f:Nat}(hL:∀(i:Nat) (t:Tok),L[i]?=some t→t.kind=TK.n→gG t.text)(h1:OD L bp tb cp 67 (IB L f)):OD L bp tb cp 133 (LB L (f+1)):=by
 intro w k n h hn
 have hbp:=h.s.in
 have htb:=h.s.tin
 rw[CM] at hn ⊢
 obtain⟨W1,hW1⟩:∃W1,W1=w.alloc (.cells #[.string ⟨#[]⟩,.string ⟨#[]⟩,.int .i64 0,.slice none 0 0] 44):=⟨_,rfl⟩
 have hst:Start w W1:=by rw[hW1];exact Start.new w
 have hlt:=hst.lt
 have HS:=aA (RD (h.below hst.bel).s h.nb)
 have HP:=aA h
 have HX:=aA hW1
 have HT:=aA hst
 have HLn:=aA hL
 have H1:=aA h1
 have hx0:((kB (cA L k).kind).toList==[120])=false:=by
  cases (cA L k).kind<;>(rw[Lib.toList_data];decide)
 unfold sI at HS
 clear h hW1 hst hL h1
 by_cases hkd:(cA L k).kind=.n
 ·rw[if_pos hkd] at hn ⊢
  have hk:((kB (cA L k).kind).toList==[110])=true:=by rw[hkd,Lib.toList_data];decide
  have HHu:=aA (fun W=>lK (cA L k).text (HLn.out k _ (vC HP.out.s.lt) hkd) W)
  clear hkd hn
  by_cases hbig:1000000000000<CC (cA L k).text
  ·rw[if_pos hbig]
   have hbz:(1000000000000:Int)<(CC (cA L k).text:Int):=by omega
   generalize CC (cA L k).text=hh at *
   generalize (cA L k).text=K1 at *
   generalize kB (cA L k).kind=K0 at *
   generalize hK2:(cA L k).pos=K2 at *
   generalize (cA L k).code=K3 at *
   clear hK2
   go_enter Tryz.func133,Tryz.ntmps133
   go_upto_region 2 with (rw[←HX.out];go_at_call 30;refine HS.out.mono ?_;rintro e W2 ⟨rfl,hB2⟩;have HQ2:=aA hB2;clear hB2)
   have h23:Below W2.heap.size W2 (W2.alloc (.cells #[.string K0,.string K1,.int .i64 K2,.int .i64 K3] 82)):=bA _ _
   have hv3:(W2.alloc (.cells #[.string K0,.string K1,.int .i64 K2,.int .i64 K3] 82)).heap[W2.heap.size]?=some (.cells #[.string K0,.string K1,.int .i64 K2,.int .i64 K3] 82 (0,0)):=heap_alloc_new _ _
   have hl3:W2.heap.size<(W2.alloc (.cells #[.string K0,.string K1,.int .i64 K2,.int .i64 K3] 82)).heap.size:=by simp
   generalize W2.alloc (.cells #[.string K0,.string K1,.int .i64 K2,.int .i64 K3] 82)=W3 at *
   have hs2:=HQ2.out.size
   have hs3:=h23.size
   have hB13:Below W1.heap.size W1 W3:=⟨h23.os.trans HQ2.out.os,h23.tape.trans HQ2.out.tape,h23.output.trans HQ2.out.output,by omega,fun q hq=>(h23.block q (by omega)).trans (HQ2.out.block q hq)⟩
   have hB3:Below w.heap.size w W3:=⟨hB13.os.trans HT.out.bel.os,hB13.tape.trans HT.out.bel.tape,hB13.output.trans HT.out.bel.output,by have:=HT.out.bel.size;omega,fun q hq=>(hB13.block q (by omega)).trans (HT.out.bel.block q hq)⟩
   have hr3:=(hB13.block _ hlt).trans HT.out.blk
   obtain⟨c0,c1,c2,c3,cf⟩:=tA hv3
   have hgb:W2.heap.size≠bp:=by have:=HT.out.bel.size;omega
   have hgw:w.heap.size<W2.heap.size:=by omega
   have HB3:=aA hB3
   have HP3:=aA (HP.out.below hB3)
   have HR3:=aA hr3
   have HV3:=aA hv3
   generalize W2.heap.size=g2 at *
   clear h23 hv3 hB13 hB3 hr3 HQ2 hs2 hs3
   have HF:=aA (DS (r:=(.ok () k n:PR Unit)) (V:=fun _=>True) ⟨HP3.out,trivial⟩ (by intro h;cases h) (β:=Unit) (fun _=>True) 2 K2 (by omega))
   have HSt:=aA (fun (W:World) (hW:PSt L bp tb cp W (.bad 2 K2:PR Unit) (fun _=>True))=>xE hW (by intro h;cases h))
   go_wp2_with (first|(go_at_call 114;refine(HHu.out _).mono ?_;rintro e w' ⟨rfl,rfl⟩)|(go_at_call 62;refine HF.out.mono ?_;rintro e W4 ⟨rfl,hP4,hB4⟩;have HQ4:=aA (aI hP4 hB4);clear hP4 hB4)|(go_at_call 110;refine(HSt.out _ HQ4.out.1).mono ?_;rintro e W5 ⟨rfl,hP5,hB5⟩;obtain⟨q0,q1,q2,q3,qf⟩:=gA HR3.out ((hB5.block _ (Nat.lt_of_lt_of_le (Nat.lt_trans hgw hl3) HQ4.out.2.size) (by omega)).trans (HQ4.out.2.block _ (Nat.lt_trans hgw hl3) (by omega)));have HQ5:=aA (aI hP5 hB5);clear hP5 hB5))
   refine bodyPost_ret (v:=.agg #[.string JB,.string ⟨#[]⟩,.int .i64 hh,.slice none 0 0]) (by simp[results,Tryz.results133,go_sem,q0,q1,q2,q3,JB]) rfl ?_
   have h9:=FSz (L:=L) (tb:=tb) (cp:=cp) hbp htb HQ5.out.1 (((Below.x HB3.out bp (nR _)).then HQ4.out.2 HB3.out.size).then HQ5.out.2 (Nat.le_trans HB3.out.size HQ4.out.2.size)) (fun _=>Nd.mk JB ⟨#[]⟩ hh []) JB ⟨#[]⟩ hh (fun _ _=>rfl)
   exact h9
  ·rw[if_neg hbig]
   have hbz:¬((1000000000000:Int)<(CC (cA L k).text:Int)):=by omega
   generalize CC (cA L k).text=hh at *
   generalize (cA L k).text=K1 at *
   generalize kB (cA L k).kind=K0 at *
   generalize (cA L k).pos=K2 at *
   generalize (cA L k).code=K3 at *
   go_enter Tryz.func133,Tryz.ntmps133
   go_upto_region 2 with (rw[←HX.out];go_at_call 30;refine HS.out.mono ?_;rintro e W2 ⟨rfl,hB2⟩;have HQ2:=aA hB2;clear hB2)
   have h23:Below W2.heap.size W2 (W2.alloc (.cells #[.string K0,.string K1,.int .i64 K2,.int .i64 K3] 82)):=bA _ _
   have hv3:(W2.alloc (.cells #[.string K0,.string K1,.int .i64 K2,.int .i64 K3] 82)).heap[W2.heap.size]?=some (.cells #[.string K0,.string K1,.int .i64 K2,.int .i64 K3] 82 (0,0)):=heap_alloc_new _ _
   have hl3:W2.heap.size<(W2.alloc (.cells #[.string K0,.string K1,.int .i64 K2,.int .i64 K3] 82)).heap.size:=by simp
   generalize W2.alloc (.cells #[.string K0,.string K1,.int .i64 K2,.int .i64 K3] 82)=W3 at *
   have hs2:=HQ2.out.size
   have hs3:=h23.size
   have hB13:Below W1.heap.size W1 W3:=⟨h23.os.trans HQ2.out.os,h23.tape.trans HQ2.out.tape,h23.output.trans HQ2.out.output,by omega,fun q hq=>(h23.block q (by omega)).trans (HQ2.out.block q hq)⟩
   have hB3:Below w.heap.size w W3:=⟨hB13.os.trans HT.out.bel.os,hB13.tape.trans HT.out.bel.tape,hB13.output.trans HT.out.bel.output,by have:=HT.out.bel.size;omega,fun q hq=>(hB13.block q (by omega)).trans (HT.out.bel.block q hq)⟩
   have hr3:=(hB13.block _ hlt).trans HT.out.blk
   obtain⟨c0,c1,c2,c3,cf⟩:=tA hv3
   have hgb:W2.heap.size≠bp:=by have:=HT.out.bel.size;omega
   have hgw:w.heap.size<W2.heap.size:=by omega
   have HB3:=aA hB3
   have HP3:=aA (HP.out.below hB3)
   have HR3:=aA hr3
   have HV3:=aA hv3
   generalize W2.heap.size=g2 at *
   clear h23 hv3 hB13 hB3 hr3 HQ2 hs2 hs3
   have HSt:=aA (SD HP3.out)
   go_wp2_with (first|(go_at_call 114;refine(HHu.out _).mono ?_;rintro e w' ⟨rfl,rfl⟩)|(go_at_call 110;refine HSt.out.mono ?_;rintro e W5 ⟨rfl,hP5,hB5⟩;obtain⟨q0,q1,q2,q3,qf⟩:=gA HR3.out (hB5.block _ (Nat.lt_trans hgw hl3) (by omega));have HQ5:=aA (aI hP5 hB5);clear hP5 hB5))
   refine bodyPost_ret (v:=.agg #[.string JB,.string ⟨#[]⟩,.int .i64 hh,.slice none 0 0]) (by simp[results,Tryz.results133,go_sem,q0,q1,q2,q3,JB]) rfl ?_
   exact FSz (L:=L) (tb:=tb) (cp:=cp) hbp htb HQ5.out.1 ((Below.x HB3.out bp (nR _)).then HQ5.out.2 HB3.out.size) (fun _=>Nd.mk JB ⟨#[]⟩ hh []) JB ⟨#[]⟩ hh (fun _ _=>rfl)
 ·rw[if_neg hkd] at hn ⊢
  have hk:((kB (cA L k).kind).toList==[110])=false:=by
   cases h2:(cA L k).kind<;>first|exact absurd h2 hkd|(rw[Lib.toList_data];decide)
  have e1:vA (cA L k).text wCount=((cA L k).text.toList==[99,111,117,110,116]):=CD _ [99,111,117,110,116]
  have e2:vA (cA L k).text wTotal=((cA L k).text.toList==[116,111,116,97,108]):=CD _ [116,111,116,97,108]
  have e3:vA (cA L k).text wMax=((cA L k).text.toList==[109,97,120]):=CD _ [109,97,120]
  have e4:vA (cA L k).text wMin=((cA L k).text.toList==[109,105,110]):=CD _ [109,105,110]
  have e5:vA (cA L k).text (sg 91)=((cA L k).text.toList==[91]):=CD _ [91]
  unfold WV at hn ⊢
  rw[e1,e2,e3,e4,e5] at hn ⊢
  clear hkd e1 e2 e3 e4 e5
  by_cases t1:((cA L k).text.toList==[99,111,117,110,116])=true
  ·rw[if_pos t1]
   clear hn
   generalize (cA L k).text=K1 at *
   generalize kB (cA L k).kind=K0 at *
   generalize (cA L k).pos=K2 at *
   generalize (cA L k).code=K3 at *
   go_enter Tryz.func133,Tryz.ntmps133
   go_upto_region 2 with (rw[←HX.out];go_at_call 30;refine HS.out.mono ?_;rintro e W2 ⟨rfl,hB2⟩;have HQ2:=aA hB2;clear hB2)
   have h23:Below W2.heap.size W2 (W2.alloc (.cells #[.string K0,.string K1,.int .i64 K2,.int .i64 K3] 82)):=bA _ _
   have hv3:(W2.alloc (.cells #[.string K0,.string K1,.int .i64 K2,.int .i64 K3] 82)).heap[W2.heap.size]?=some (.cells #[.string K0,.string K1,.int .i64 K2,.int .i64 K3] 82 (0,0)):=heap_alloc_new _ _
   have hl3:W2.heap.size<(W2.alloc (.cells #[.string K0,.string K1,.int .i64 K2,.int .i64 K3] 82)).heap.size:=by simp
   generalize W2.alloc (.cells #[.string K0,.string K1,.int .i64 K2,.int .i64 K3] 82)=W3 at *
   have hs2:=HQ2.out.size
   have hs3:=h23.size
   have hB13:Below W1.heap.size W1 W3:=⟨h23.os.trans HQ2.out.os,h23.tape.trans HQ2.out.tape,h23.output.trans HQ2.out.output,by omega,fun q hq=>(h23.block q (by omega)).trans (HQ2.out.block q hq)⟩
   have hB3:Below w.heap.size w W3:=⟨hB13.os.trans HT.out.bel.os,hB13.tape.trans HT.out.bel.tape,hB13.output.trans HT.out.bel.output,by have:=HT.out.bel.size;omega,fun q hq=>(hB13.block q (by omega)).trans (HT.out.bel.block q hq)⟩
   have hr3:=(hB13.block _ hlt).trans HT.out.blk
   obtain⟨c0,c1,c2,c3,cf⟩:=tA hv3
   have hgb:W2.heap.size≠bp:=by have:=HT.out.bel.size;omega
   have hgw:w.heap.size<W2.heap.size:=by omega
   have HB3:=aA hB3
   have HP3:=aA (HP.out.below hB3)
   have HR3:=aA hr3
   have HV3:=aA hv3
   generalize W2.heap.size=g2 at *
   clear h23 hv3 hB13 hB3 hr3 HQ2 hs2 hs3
   have HSt:=aA (SD HP3.out)
   have HNm:=aA (fun (W:World) (hW:PSt L bp tb cp W (pA L k n) (fun _=>True))=>qG hW (DA _ _ _))
   go_wp2_with (first|(go_at_call 110;refine HSt.out.mono ?_;rintro e W4 ⟨rfl,hP4,hB4⟩;have HQ4:=aA (aI hP4 hB4);clear hP4 hB4)|(go_at_call 63;refine(HNm.out _ HQ4.out.1).mono ?_;rintro e W5 ⟨⟨s5,rfl,hP5⟩,hB5⟩;obtain⟨q0,q1,q2,q3,qf⟩:=gA HR3.out ((hB5.block _ (Nat.lt_of_lt_of_le (Nat.lt_trans hgw hl3) HQ4.out.2.size) (by omega)).trans (HQ4.out.2.block _ (Nat.lt_trans hgw hl3) (by omega)));have HQ5:=aA (aI hP5 hB5);clear hP5 hB5))
   refine bodyPost_ret (v:=.agg #[.string wCount,.string s5,.int .i64 0,.slice none 0 0]) (by simp[results,Tryz.results133,go_sem,q0,q1,q2,q3,wCount]) rfl ?_
   have h9:=FSz (L:=L) (tb:=tb) (cp:=cp) hbp htb HQ5.out.1 (((Below.x HB3.out bp (nR _)).then HQ4.out.2 HB3.out.size).then HQ5.out.2 (Nat.le_trans HB3.out.size HQ4.out.2.size)) (fun x=>Nd.mk wCount x 0 []) wCount s5 0 (fun x hx=>by rw[hx])
   rw[PR.assoc] at h9
   exact h9
  ·have t1f:((cA L k).text.toList==[99,111,117,110,116])=false:=Bool.eq_false_iff.2 t1
   rw[if_neg t1] at hn ⊢
   clear t1
   by_cases t2:((cA L k).text.toList==[116,111,116,97,108])=true
   ·rw[if_pos t2]
    clear hn
    generalize (cA L k).text=K1 at *
    generalize kB (cA L k).kind=K0 at *
    generalize (cA L k).pos=K2 at *
    generalize (cA L k).code=K3 at *
    go_enter Tryz.func133,Tryz.ntmps133
    go_upto_region 2 with (rw[←HX.out];go_at_call 30;refine HS.out.mono ?_;rintro e W2 ⟨rfl,hB2⟩;have HQ2:=aA hB2;clear hB2)
    have h23:Below W2.heap.size W2 (W2.alloc (.cells #[.string K0,.string K1,.int .i64 K2,.int .i64 K3] 82)):=bA _ _
    have hv3:(W2.alloc (.cells #[.string K0,.string K1,.int .i64 K2,.int .i64 K3] 82)).heap[W2.heap.size]?=some (.cells #[.string K0,.string K1,.int .i64 K2,.int .i64 K3] 82 (0,0)):=heap_alloc_new _ _
    have hl3:W2.heap.size<(W2.alloc (.cells #[.string K0,.string K1,.int .i64 K2,.int .i64 K3] 82)).heap.size:=by simp
    generalize W2.alloc (.cells #[.string K0,.string K1,.int .i64 K2,.int .i64 K3] 82)=W3 at *
    have hs2:=HQ2.out.size
    have hs3:=h23.size
    have hB13:Below W1.heap.size W1 W3:=⟨h23.os.trans HQ2.out.os,h23.tape.trans HQ2.out.tape,h23.output.trans HQ2.out.output,by omega,fun q hq=>(h23.block q (by omega)).trans (HQ2.out.block q hq)⟩
    have hB3:Below w.heap.size w W3:=⟨hB13.os.trans HT.out.bel.os,hB13.tape.trans HT.out.bel.tape,hB13.output.trans HT.out.bel.output,by have:=HT.out.bel.size;omega,fun q hq=>(hB13.block q (by omega)).trans (HT.out.bel.block q hq)⟩
    have hr3:=(hB13.block _ hlt).trans HT.out.blk
    obtain⟨c0,c1,c2,c3,cf⟩:=tA hv3
    have hgb:W2.heap.size≠bp:=by have:=HT.out.bel.size;omega
    have hgw:w.heap.size<W2.heap.size:=by omega
    have HB3:=aA hB3
    have HP3:=aA (HP.out.below hB3)
    have HR3:=aA hr3
    have HV3:=aA hv3
    generalize W2.heap.size=g2 at *
    clear h23 hv3 hB13 hB3 hr3 HQ2 hs2 hs3
    have HSt:=aA (SD HP3.out)
    have HN1:=aA (fun (W:World) (hW:PSt L bp tb cp W (pA L k n) (fun _=>True))=>qG hW (DA _ _ _))
    have HNd:=aA (fun (W:World) (U:ByteArray→Prop) (hW:PSt L bp tb cp W ((pA L k n).bind fun _ k n=>uB L k n) U)=>yC hW (PR.bind_in (DA _ _ _) fun _ _ _=>sD _ _ _) wOf)
    have HN2:=aA (fun (W:World) (hW:PSt L bp tb cp W (((pA L k n).bind fun _ k n=>uB L k n).bind fun _ k n=>oA L wOf k n) (fun _=>True))=>qG hW (PR.bind_in (PR.bind_in (DA _ _ _) fun _ _ _=>sD _ _ _) fun _ _ _=>ZC _ _ _ _))
    unfold wOf at HNd
    go_wp2_with (first|(go_at_call 110;refine HSt.out.mono ?_;rintro e W4 ⟨rfl,hP4,hB4⟩;have HQ4:=aA (aI hP4 hB4);clear hP4 hB4)|(go_at_call 63;refine(HN2.out _ HQ6.out.1).mono ?_;rintro e W7 ⟨⟨s7,rfl,hP7⟩,hB7⟩;have hs4:=HQ4.out.2.size;have hs5:=HQ5.out.2.size;have hs6:=HQ6.out.2.size;have hr7:=((((hB7.block w.heap.size (by omega) (by omega)).trans (HQ6.out.2.block _ (by omega) (by omega))).trans (HQ5.out.2.block _ (by omega) (by omega))).trans (HQ4.out.2.block _ (by omega) (by omega))).trans HR3.out;have hl7:w.heap.size<W7.heap.size:=(by have:=hB7.size;omega);obtain⟨q0,q1,q2,q3,qf⟩:=tA hr7;have HQ7:=aA (aI hP7 (aI hB7 hr7));clear hP7 hB7 hr7 hs4 hs5 hs6)|(go_at_call 63;refine(HN1.out _ HQ4.out.1).mono ?_;rintro e W5 ⟨⟨s5,rfl,hP5⟩,hB5⟩;have HQ5:=aA (aI hP5 hB5);clear hP5 hB5)|(go_at_call 65;refine(HNd.out _ _ HQ5.out.1).mono ?_;rintro e W6 ⟨rfl,hP6,hB6⟩;have HQ6:=aA (aI hP6 hB6);clear hP6 hB6))
    have hx:=tA (DG HQ7.out.2.2 (.string ⟨#[116,111,116,97,108]⟩) (.string s5) (.int .i64 0) (.string ⟨#[110,97,109,101]⟩) (.string s7) (.int .i64 0) (.slice none 0 0)).var
    unfold yK at hx
    obtain⟨x0,x1,x2,x3,_⟩:=hx
    refine bodyPost_ret (v:=.agg #[.string ⟨#[116,111,116,97,108]⟩,.string s5,.int .i64 0,.slice (some ⟨W7.heap.size,0,none⟩) 1 1]) (by simp[results,Tryz.results133,go_sem,x0,x1,x2,x3]) rfl ?_
    have h9:=GS (L:=L) (bp:=bp) (tb:=tb) (cp:=cp) (r:=(((((pA L k n).bind fun _ k n=>uB L k n).bind fun _ k n=>oA L wOf k n).bind fun _ k n=>uB L k n).bind fun o k n=>.ok (Nd.mk qB o 0 []) k n)) (P:=fun b=>w.heap.size<b) (a0:=.string qB) (a1:=.string s7) (a2:=.int .i64 0) (a3:=.slice none 0 0) hbp htb HQ7.out.2.2 (PSt.map HQ7.out.1 (fun o=>Nd.mk qB o 0 []) (fun o ho=>by rw[ho];exact NL.leaf _ _ qB s7 0)) (fun b hb=>hb) ((((Below.x HB3.out bp (nR _)).then HQ4.out.2 HB3.out.size).then HQ5.out.2 (Nat.le_trans HB3.out.size HQ4.out.2.size)).then HQ6.out.2 (Nat.le_trans HB3.out.size (Nat.le_trans HQ4.out.2.size HQ5.out.2.size))|>.then HQ7.out.2.1 (Nat.le_trans HB3.out.size (Nat.le_trans HQ4.out.2.size (Nat.le_trans HQ5.out.2.size HQ6.out.2.size)))) hl7 wTotal s5 0
    have hRf:((((((pA L k n).bind fun _ k n=>uB L k n).bind fun _ k n=>oA L wOf k n).bind fun _ k n=>uB L k n).bind fun o k n=>.ok (Nd.mk qB o 0 []) k n).bind fun x k n=>.ok (Nd.mk wTotal s5 0 [x]) k n)=(pA L k n).bind fun _ k1 n=>(uB L k1 n).bind fun w k2 n=>(oA L wOf k2 n).bind fun _ k3 n=>(uB L k3 n).bind fun o k4 n=>.ok (Nd.mk wTotal w 0 [Nd.mk qB o 0 []]) k4 n:=by
     have hv:=HQ5.out.1.val
     rw[←PR.assoc]
     cases hA:((pA L k n).bind fun _ k n=>uB L k n) with
     |out=>rfl
     |bad c a=>rfl
     |ok x k n=>
      have hx5:x=s5:=hv x k n hA
      subst hx5
      show ((((oA L wOf k n).bind fun _ k n=>uB L k n).bind _).bind _)=(oA L wOf k n).bind _
      cases oA L wOf k n with
      |out=>rfl
      |bad c a=>rfl
      |ok y k n=>
       show ((uB L k n).bind _).bind _=(uB L k n).bind _
       cases uB L k n<;>rfl
    rw[hRf] at h9
    exact h9
   ·have t2f:((cA L k).text.toList==[116,111,116,97,108])=false:=Bool.eq_false_iff.2 t2
    rw[if_neg t2] at hn ⊢
    clear t2
    by_cases t3:((cA L k).text.toList==[109,97,120])=true∨((cA L k).text.toList==[109,105,110])=true
    ·rw[if_pos t3] at hn ⊢
     obtain⟨R,hRo⟩:∃R,R=(qA L k n).bind fun _ k1 n=>(pA L k1 n).bind fun _ k2 n=>(oA L (sg 40) k2 n).bind fun _ k3 n=>(IB L f k3 n).bind fun a k4 n=>(oA L (sg 44) k4 n).bind fun _ k5 n=>(IB L f k5 n).bind fun b k6 n=>(oA L (sg 41) k6 (n - 1)).bind fun _ k7 n=>PR.ok (Nd.mk (cA L k).text ⟨#[]⟩ 0 [a,b]) k7 n:=⟨_,rfl⟩
     rw[←hRo] at hn ⊢
     have HN:=aA hn
     have HRo:=aA hRo
     clear hn hRo
     cases t3m:((cA L k).text.toList==[109,97,120])
     ·have t4m:((cA L k).text.toList==[109,105,110])=true:=by
       rcases t3 with h|h
       ·rw[t3m] at h;cases h
       ·exact h
      clear t3
      generalize (cA L k).text=K1 at *
      generalize kB (cA L k).kind=K0 at *
      generalize (cA L k).pos=K2 at *
      generalize (cA L k).code=K3 at *
      go_enter Tryz.func133,Tryz.ntmps133
      go_upto_region 2 with (rw[←HX.out];go_at_call 30;refine HS.out.mono ?_;rintro e W2 ⟨rfl,hB2⟩;have HQ2:=aA hB2;clear hB2)
      have h23:Below W2.heap.size W2 (W2.alloc (.cells #[.string K0,.string K1,.int .i64 K2,.int .i64 K3] 82)):=bA _ _
      have hv3:(W2.alloc (.cells #[.string K0,.string K1,.int .i64 K2,.int .i64 K3] 82)).heap[W2.heap.size]?=some (.cells #[.string K0,.string K1,.int .i64 K2,.int .i64 K3] 82 (0,0)):=heap_alloc_new _ _
      have hl3:W2.heap.size<(W2.alloc (.cells #[.string K0,.string K1,.int .i64 K2,.int .i64 K3] 82)).heap.size:=by simp
      generalize W2.alloc (.cells #[.string K0,.string K1,.int .i64 K2,.int .i64 K3] 82)=W3 at *
      have hs2:=HQ2.out.size
      have hs3:=h23.size
      have hB13:Below W1.heap.size W1 W3:=⟨h23.os.trans HQ2.out.os,h23.tape.trans HQ2.out.tape,h23.output.trans HQ2.out.output,by omega,fun q hq=>(h23.block q (by omega)).trans (HQ2.out.block q hq)⟩
      have hB3:Below w.heap.size w W3:=⟨hB13.os.trans HT.out.bel.os,hB13.tape.trans HT.out.bel.tape,hB13.output.trans HT.out.bel.output,by have:=HT.out.bel.size;omega,fun q hq=>(hB13.block q (by omega)).trans (HT.out.bel.block q hq)⟩
      have hr3:=(hB13.block _ hlt).trans HT.out.blk
      obtain⟨c0,c1,c2,c3,cf⟩:=tA hv3
      have hgb:W2.heap.size≠bp:=by have:=HT.out.bel.size;omega
      have hgw:w.heap.size<W2.heap.size:=by omega
      have HB3:=aA hB3
      have HP3:=aA (HP.out.below hB3)
      have HR3:=aA hr3
      have HV3:=aA hv3
      generalize W2.heap.size=g2 at *
      clear h23 hv3 hB13 hB3 hr3 HQ2 hs2 hs3
      obtain⟨rA,hrA⟩:∃rA,rA=((((qA L k n).bind fun _ k n=>pA L k n).bind fun _ k n=>oA L (sg 40) k n).bind fun _ k n=>IB L f k n):=⟨_,rfl⟩
      have hR1:R=rA.bind fun a k4 n=>(oA L (sg 44) k4 n).bind fun _ k5 n=>(IB L f k5 n).bind fun b k6 n=>(oA L (sg 41) k6 (n - 1)).bind fun _ k7 n=>.ok (.mk K1 ⟨#[]⟩ 0 [a,b]) k7 n:=by
       rw[HRo.out,hrA,PR.assoc,PR.assoc,PR.assoc]
      have hnA:rA≠.out:=PR.bind_not (hR1▸HN.out)
      obtain⟨rB,hrB⟩:∃rB,rB=((rA.bind fun _ k n=>oA L (sg 44) k n).bind fun _ k n=>IB L f k n):=⟨_,rfl⟩
      have hnB:rB≠.out:=by
       intro h9
       apply HN.out
       rw[hR1]
       cases rA with
       |out=>rfl
       |bad c a=>rw[hrB] at h9;cases h9
       |ok x k n=>
        rw[hrB] at h9
        have h9:((oA L (sg 44) k n).bind fun _ k n=>IB L f k n)=.out:=h9
        show ((oA L (sg 44) k n).bind _)=.out
        rw[←PR.assoc,h9]
        rfl
      have hnest:∀x k' n',rB=.ok x k' n'→1≤n':=by
       intro x k' n' h9
       rw[hrB] at h9
       obtain⟨_,_,_,e1,e2⟩:=PR.bind_eq h9
       obtain⟨_,_,_,e3,e4⟩:=PR.bind_eq e1
       rw[hrA] at e3
       obtain⟨_,_,_,e5,e6⟩:=PR.bind_eq e3
       obtain⟨_,_,_,e7,e8⟩:=PR.bind_eq e5
       obtain⟨_,_,_,e9,e10⟩:=PR.bind_eq e7
       have:=tC e9;have:=WB e10;have:=UC e8;have:=(VG L f).su _ _ _ _ _ e6;have:=UC e4;have:=(VG L f).su _ _ _ _ _ e2
       omega
      have HD:=aA (ZD HP3.out)
      have HSt:=aA (fun (W:World) (hW:PSt L bp tb cp W (qA L k n) (fun _=>True))=>xE hW (YA _ _ _))
      have HNa:=aA (fun (W:World) (hW:PSt L bp tb cp W ((qA L k n).bind fun _ k n=>pA L k n) (fun _=>True))=>yC hW (PR.bind_in (YA _ _ _) fun _ _ _=>DA _ _ _) (sg 40))
      have HSa:=aA (fun (W:World) (hW:PSt L bp tb cp W (((qA L k n).bind fun _ k n=>pA L k n).bind fun _ k n=>oA L (sg 40) k n) (fun _=>True))=>QC H1.out (fun _ _ _ h=>GG h) hW (hrA▸hnA))
      rw[←hrA] at HSa
      have HNb:=aA (fun (W:World) (U:Nd→Prop) (hW:PSt L bp tb cp W rA U)=>yC hW hnA (sg 44))
      have HSb:=aA (fun (W:World) (hW:PSt L bp tb cp W (rA.bind fun _ k n=>oA L (sg 44) k n) (fun _=>True))=>QC H1.out (fun _ _ _ h=>GG h) hW (hrB▸hnB))
      rw[←hrB] at HSb
      unfold sg at HNa HNb
      have HR1:=aA hR1
      have HrB:=aA hrB
      have HnB:=aA hnB
      have HNe:=aA hnest
      clear hR1 hrA hrB hnA hnB hnest HRo HN
      go_upto_region 26 with (first|(go_at_call 148;refine HD.out.mono ?_;rintro e W4 ⟨rfl,hP4,hB4⟩;have HQ4:=aA (aI hP4 hB4);clear hP4 hB4)|(go_at_call 110;refine(HSt.out _ HQ4.out.1).mono ?_;rintro e W5 ⟨rfl,hP5,hB5⟩;have HQ5:=aA (aI hP5 hB5);clear hP5 hB5)|(go_at_call 65;refine(HNa.out _ HQ5.out.1).mono ?_;rintro e W6 ⟨rfl,hP6,hB6⟩;have HQ6:=aA (aI hP6 hB6);clear hP6 hB6)|(go_at_call 67;refine(HSa.out _ HQ6.out.1).mono ?_;rintro e W7 ⟨⟨u0,u1,m2,la,ln,lc,rfl,hP7⟩,hB7⟩;have HQ7:=aA (aI hP7 hB7);clear hP7 hB7))
      obtain⟨Wa,hWa⟩:∃Wa,Wa=W7.alloc (.cells #[.string u0,.string u1,.int .i64 m2,.slice la ln lc] 44):=⟨_,rfl⟩
      rw[←hWa]
      have h7a:Below W7.heap.size W7 Wa:=by rw[hWa];exact bA _ _
      have hva:Wa.heap[W7.heap.size]?=some (.cells #[.string u0,.string u1,.int .i64 m2,.slice la ln lc] 44 (0,0)):=by rw[hWa];exact heap_alloc_new _ _
      have hla:W7.heap.size<Wa.heap.size:=by rw[hWa];simp
      have HVa:=aA (aI h7a (aI hva (HQ7.out.1.below h7a)))
      clear hWa h7a hva
      go_upto_region 28 with (first|(go_at_call 65;refine(HNb.out _ _ HVa.out.2.2).mono ?_;rintro e W8 ⟨rfl,hP8,hB8⟩;have HQ8:=aA (aI hP8 hB8);clear hP8 hB8)|(go_at_call 67;refine(HSb.out _ HQ8.out.1).mono ?_;rintro e W9 ⟨⟨w0,w1,p2,oa,on,oc,rfl,hP9⟩,hB9⟩;have HQ9:=aA (aI hP9 hB9);clear hP9 hB9))
      obtain⟨Wb,hWb⟩:∃Wb,Wb=W9.alloc (.cells #[.string w0,.string w1,.int .i64 p2,.slice oa on oc] 44):=⟨_,rfl⟩
      rw[←hWb]
      have h9b:Below W9.heap.size W9 Wb:=by rw[hWb];exact bA _ _
      have hvb:Wb.heap[W9.heap.size]?=some (.cells #[.string w0,.string w1,.int .i64 p2,.slice oa on oc] 44 (0,0)):=by rw[hWb];exact heap_alloc_new _ _
      have hlb:W9.heap.size<Wb.heap.size:=by rw[hWb];simp
      have hs3:=HB3.out.size
      have hs4:=HQ4.out.2.size
      have hs5:=HQ5.out.2.size
      have hs6:=HQ6.out.2.size
      have hs7:=HQ7.out.2.size
      have hs8:=HQ8.out.2.size
      have hs9:=HQ9.out.2.size
      have hbw:w.heap.size≠bp:=by omega
      have hb7:W7.heap.size≠bp:=by omega
      have hb9:W9.heap.size≠bp:=by omega
      have h7b:∀q,q<Wa.heap.size→q≠bp→Wb.heap[q]?=Wa.heap[q]?:=fun q hq hne=>((h9b.block q (by omega)).trans (HQ9.out.2.block q (by omega) hne)).trans (HQ8.out.2.block q hq hne)
      have h3b:∀q,q<W3.heap.size→q≠bp→Wb.heap[q]?=W3.heap[q]?:=fun q hq hne=>(((((h7b q (by omega) hne).trans (HVa.out.1.block q (by omega))).trans (HQ7.out.2.block q (by omega) hne)).trans (HQ6.out.2.block q (by omega) hne)).trans (HQ5.out.2.block q (by omega) hne)).trans (HQ4.out.2.block q hq hne)
      have hrb:=(h3b w.heap.size (by omega) hbw).trans HR3.out
      have hgb2:=(h3b g2 hl3 hgb).trans HV3.out
      have hab:=(h7b W7.heap.size hla hb7).trans HVa.out.2.1
      have hBb:BelX w.heap.size bp w Wb:=((((((((Below.x HB3.out bp (nR _)).then HQ4.out.2 HB3.out.size).then HQ5.out.2 (by omega)).then HQ6.out.2 (by omega)).then HQ7.out.2 (by omega)).then (Below.x HVa.out.1 bp (nR _)) (by omega)).then HQ8.out.2 (by omega)).then HQ9.out.2 (by omega)).then (Below.x h9b bp (nR _)) (by omega)
      have hPb:PSt L bp tb cp Wb rB (fun x=>NL Wb (fun b=>w.heap.size<b) (nv (.string w0) (.string w1) (.int .i64 p2) (.slice oa on oc)) x):=(HQ9.out.1.below h9b).to fun x _ _ _ hx=>hx.step fun b hb hp=>⟨h9b.block b hb,by omega⟩
      have hNa:∀x k n,rA=.ok x k n→NL Wb (fun b=>w.heap.size<b) (nv (.string u0) (.string u1) (.int .i64 m2) (.slice la ln lc)) x:=fun x k n e=>(HQ7.out.1.val x k n e).step fun b hb hp=>⟨(h7b b (by omega) (by omega)).trans (HVa.out.1.block b hb),by omega⟩
      obtain⟨z,y2,yf,hs10,hB10⟩:=hPb.nest HnB.out HNe.out
      have HA:=aA (aI hrb (aI hgb2 (aI hab (aI hvb (aI hBb (aI hs10 (aI hB10 hNa)))))))
      clear hWb h9b hvb h7b h3b hrb hgb2 hab hBb hPb hNa hs10 hB10
      go_upto_region 29 with fail
      obtain⟨Wc,hWc⟩:∃Wc,Wc=Wb.setCell ⟨bp,2,none⟩ (.int .i64 (wrap64 (z - 1))):=⟨_,rfl⟩
      rw[←hWc]
      have hbc:∀q,q≠bp→Wc.heap[q]?=Wb.heap[q]?:=fun q hq=>by rw[hWc];exact Below.heap_setCell _ _ _ _ hq
      obtain⟨ha,hb,hc,hd,he,hf,hg,hh'⟩:=HA.out
      have hszc:Wb.heap.size≤Wc.heap.size:=by rw[hWc];simp
      rw[show IntKind.i64.wrap (z - 1)=wrap64 (z - 1) from by first|exact IntWalk.i64_left _|(rw[IntKind.wrap_i64];unfold wrap64;rfl),←hWc] at hf hg
      have hr4:(rB.bind fun x k n=>PR.ok x k (n - 1))≠.out:=PR.bind_in HnB.out fun _ _ _ h=>by cases h
      have HNc:=aA (yC hf hr4 (sg 41))
      have H8:=aA (aI ((hbc _ hbw).trans ha) (aI ((hbc _ hgb).trans hb) (aI ((hbc _ hb7).trans hc) (aI ((hbc _ hb9).trans hd) (aI (he.then hg he.size) (aI (fun x k n e=>(hf.val x k n e).step (P':=fun b=>w.heap.size<b) (w':=Wc) fun b hb' hp=>⟨hbc b (by omega),hp⟩) (fun x k n e=>(hh' x k n e).step (P':=fun b=>w.heap.size<b) (w':=Wc) fun b hb' hp=>⟨hbc b (by omega),hp⟩)))))))
      have hlw:w.heap.size<Wc.heap.size:=by omega
      have hlg:g2<Wc.heap.size:=by omega
      have hl7:W7.heap.size<Wc.heap.size:=by omega
      have hl9:W9.heap.size<Wc.heap.size:=by omega
      unfold sg at HNc
      clear hWc hbc ha hb hc hd he hf hg hh' hr4 y2 yf HA hszc hs3 hs4 hs5 hs6 hs7 hs8 hs9 hla hlb
      go_wp2_with (go_at_call 65;refine HNc.out.mono ?_;rintro e Wd ⟨rfl,hPd,hBd⟩;obtain⟨q0,q1,q2,q3,qf⟩:=gA H8.out.1 (hBd.block _ hlw hbw);obtain⟨i0,i1,i2,i3,if'⟩:=gA H8.out.2.1 (hBd.block _ hlg hgb);obtain⟨v0,v1,v2,v3,vf⟩:=gA H8.out.2.2.1 (hBd.block _ hl7 hb7);obtain⟨o0,o1,o2,o3,of'⟩:=gA H8.out.2.2.2.1 (hBd.block _ hl9 hb9);have hrd:=(hBd.block _ hlw hbw).trans H8.out.1;have hld:w.heap.size<Wd.heap.size:=(Nat.lt_of_lt_of_le hlw hBd.size);have HQd:=aA (aI hPd (aI hBd hrd));clear hPd hBd hrd)
      have hx:=tA (MH HQd.out.2.2 (.string K1) (.string ⟨#[]⟩) (.int .i64 0) (.string u0) (.string u1) (.int .i64 m2) (.slice la ln lc) (.string w0) (.string w1) (.int .i64 p2) (.slice oa on oc)).var
      unfold zI at hx
      obtain⟨x0,x1,x2,x3,_⟩:=hx
      refine bodyPost_ret (v:=.agg #[.string K1,.string ⟨#[]⟩,.int .i64 0,.slice (some ⟨Wd.heap.size,0,none⟩) 2 2]) (by simp[results,Tryz.results133,go_sem,x0,x1,x2,x3]) rfl ?_
      have hPf:=PSt.carry (F:=fun k n=>oA L (sg 41) k n) HQd.out.1 (V:=fun y=>NL Wd (fun b=>w.heap.size<b) (nv (.string w0) (.string w1) (.int .i64 p2) (.slice oa on oc)) y) fun x k n e=>(H8.out.2.2.2.2.2.1 x k n e).step fun b hb hp=>⟨HQd.out.2.1.block b hb (by omega),hp⟩
      have hBf:=H8.out.2.2.2.2.1.then HQd.out.2.1 H8.out.2.2.2.2.1.size
      cases hA:rA with
      |out=>
       have h9:=HR1.out
       rw[hA] at h9
       have h8:=HrB.out
       rw[hA] at h8
       exact absurd h8 HnB.out
      |bad c a=>
       have h9:=fQ (L:=L) (bp:=bp) (tb:=tb) (cp:=cp) (x:=Nd.zero) (P:=fun b=>w.heap.size<b) (a0:=.string u0) (a1:=.string u1) (a2:=.int .i64 m2) (a3:=.slice la ln lc) hbp htb HQd.out.2.2 hPf (fun y k n e=>by
        have h8:=HrB.out
        rw[hA] at h8
        have h8:rB=.bad c a:=h8
        rw[h8] at e
        cases e) (fun b hb=>hb) hBf hld K1
       have h8:=HrB.out
       rw[hA] at h8
       have h8:rB=.bad c a:=h8
       rw[h8] at h9
       rw[HR1.out,hA]
       exact h9
      |ok x k' n'=>
       have h9:=fQ (L:=L) (bp:=bp) (tb:=tb) (cp:=cp) (x:=x) (P:=fun b=>w.heap.size<b) (a0:=.string u0) (a1:=.string u1) (a2:=.int .i64 m2) (a3:=.slice la ln lc) hbp htb HQd.out.2.2 hPf (fun _ _ _ _=>(H8.out.2.2.2.2.2.2 x k' n' hA).step fun b hb hp=>⟨HQd.out.2.1.block b hb (by omega),hp⟩) (fun b hb=>hb) hBf hld K1
       have hRf:(((rB.bind fun x k n=>PR.ok x k (n - 1)).bind fun y k n=>(oA L (sg 41) k n).bind fun _ k n=>.ok y k n).bind fun y k n=>.ok (Nd.mk K1 ⟨#[]⟩ 0 [x,y]) k n)=R:=by
        rw[HR1.out,HrB.out,hA]
        show (((((oA L (sg 44) k' n').bind fun _ k n=>IB L f k n).bind _).bind _).bind _)=(oA L (sg 44) k' n').bind _
        cases oA L (sg 44) k' n' with
        |out=>rfl
        |bad c a=>rfl
        |ok y k n=>
         show ((((IB L f k n).bind _).bind _).bind _)=(IB L f k n).bind _
         cases IB L f k n with
         |out=>rfl
         |bad c a=>rfl
         |ok y k n=>
          show ((oA L (sg 41) k (n - 1)).bind _).bind _=(oA L (sg 41) k (n - 1)).bind _
          cases oA L (sg 41) k (n - 1)<;>rfl
       rw[hRf] at h9
       exact h9
     ·clear t3
      generalize (cA L k).text=K1 at *
      generalize kB (cA L k).kind=K0 at *
      generalize (cA L k).pos=K2 at *
      generalize (cA L k).code=K3 at *
      go_enter Tryz.func133,Tryz.ntmps133
      go_upto_region 2 with (rw[←HX.out];go_at_call 30;refine HS.out.mono ?_;rintro e W2 ⟨rfl,hB2⟩;have HQ2:=aA hB2;clear hB2)
      have h23:Below W2.heap.size W2 (W2.alloc (.cells #[.string K0,.string K1,.int .i64 K2,.int .i64 K3] 82)):=bA _ _
      have hv3:(W2.alloc (.cells #[.string K0,.string K1,.int .i64 K2,.int .i64 K3] 82)).heap[W2.heap.size]?=some (.cells #[.string K0,.string K1,.int .i64 K2,.int .i64 K3] 82 (0,0)):=heap_alloc_new _ _
      have hl3:W2.heap.size<(W2.alloc (.cells #[.string K0,.string K1,.int .i64 K2,.int .i64 K3] 82)).heap.size:=by simp
      generalize W2.alloc (.cells #[.string K0,.string K1,.int .i64 K2,.int .i64 K3] 82)=W3 at *
      have hs2:=HQ2.out.size
      have hs3:=h23.size
      have hB13:Below W1.heap.size W1 W3:=⟨h23.os.trans HQ2.out.os,h23.tape.trans HQ2.out.tape,h23.output.trans HQ2.out.output,by omega,fun q hq=>(h23.block q (by omega)).trans (HQ2.out.block q hq)⟩
      have hB3:Below w.heap.size w W3:=⟨hB13.os.trans HT.out.bel.os,hB13.tape.trans HT.out.bel.tape,hB13.output.trans HT.out.bel.output,by have:=HT.out.bel.size;omega,fun q hq=>(hB13.block q (by omega)).trans (HT.out.bel.block q hq)⟩
      have hr3:=(hB13.block _ hlt).trans HT.out.blk
      obtain⟨c0,c1,c2,c3,cf⟩:=tA hv3
      have hgb:W2.heap.size≠bp:=by have:=HT.out.bel.size;omega
      have hgw:w.heap.size<W2.heap.size:=by omega
      have HB3:=aA hB3
      have HP3:=aA (HP.out.below hB3)
      have HR3:=aA hr3
      have HV3:=aA hv3
      generalize W2.heap.size=g2 at *
      clear h23 hv3 hB13 hB3 hr3 HQ2 hs2 hs3
      obtain⟨rA,hrA⟩:∃rA,rA=((((qA L k n).bind fun _ k n=>pA L k n).bind fun _ k n=>oA L (sg 40) k n).bind fun _ k n=>IB L f k n):=⟨_,rfl⟩
      have hR1:R=rA.bind fun a k4 n=>(oA L (sg 44) k4 n).bind fun _ k5 n=>(IB L f k5 n).bind fun b k6 n=>(oA L (sg 41) k6 (n - 1)).bind fun _ k7 n=>.ok (.mk K1 ⟨#[]⟩ 0 [a,b]) k7 n:=by
       rw[HRo.out,hrA,PR.assoc,PR.assoc,PR.assoc]
      have hnA:rA≠.out:=PR.bind_not (hR1▸HN.out)
      obtain⟨rB,hrB⟩:∃rB,rB=((rA.bind fun _ k n=>oA L (sg 44) k n).bind fun _ k n=>IB L f k n):=⟨_,rfl⟩
      have hnB:rB≠.out:=by
       intro h9
       apply HN.out
       rw[hR1]
       cases rA with
       |out=>rfl
       |bad c a=>rw[hrB] at h9;cases h9
       |ok x k n=>
        rw[hrB] at h9
        have h9:((oA L (sg 44) k n).bind fun _ k n=>IB L f k n)=.out:=h9
        show ((oA L (sg 44) k n).bind _)=.out
        rw[←PR.assoc,h9]
        rfl
      have hnest:∀x k' n',rB=.ok x k' n'→1≤n':=by
       intro x k' n' h9
       rw[hrB] at h9
       obtain⟨_,_,_,e1,e2⟩:=PR.bind_eq h9
       obtain⟨_,_,_,e3,e4⟩:=PR.bind_eq e1
       rw[hrA] at e3
       obtain⟨_,_,_,e5,e6⟩:=PR.bind_eq e3
       obtain⟨_,_,_,e7,e8⟩:=PR.bind_eq e5
       obtain⟨_,_,_,e9,e10⟩:=PR.bind_eq e7
       have:=tC e9;have:=WB e10;have:=UC e8;have:=(VG L f).su _ _ _ _ _ e6;have:=UC e4;have:=(VG L f).su _ _ _ _ _ e2
       omega
      have HD:=aA (ZD HP3.out)
      have HSt:=aA (fun (W:World) (hW:PSt L bp tb cp W (qA L k n) (fun _=>True))=>xE hW (YA _ _ _))
      have HNa:=aA (fun (W:World) (hW:PSt L bp tb cp W ((qA L k n).bind fun _ k n=>pA L k n) (fun _=>True))=>yC hW (PR.bind_in (YA _ _ _) fun _ _ _=>DA _ _ _) (sg 40))
      have HSa:=aA (fun (W:World) (hW:PSt L bp tb cp W (((qA L k n).bind fun _ k n=>pA L k n).bind fun _ k n=>oA L (sg 40) k n) (fun _=>True))=>QC H1.out (fun _ _ _ h=>GG h) hW (hrA▸hnA))
      rw[←hrA] at HSa
      have HNb:=aA (fun (W:World) (U:Nd→Prop) (hW:PSt L bp tb cp W rA U)=>yC hW hnA (sg 44))
      have HSb:=aA (fun (W:World) (hW:PSt L bp tb cp W (rA.bind fun _ k n=>oA L (sg 44) k n) (fun _=>True))=>QC H1.out (fun _ _ _ h=>GG h) hW (hrB▸hnB))
      rw[←hrB] at HSb
      unfold sg at HNa HNb
      have HR1:=aA hR1
      have HrB:=aA hrB
      have HnB:=aA hnB
      have HNe:=aA hnest
      clear hR1 hrA hrB hnA hnB hnest HRo HN
      go_upto_region 26 with (first|(go_at_call 148;refine HD.out.mono ?_;rintro e W4 ⟨rfl,hP4,hB4⟩;have HQ4:=aA (aI hP4 hB4);clear hP4 hB4)|(go_at_call 110;refine(HSt.out _ HQ4.out.1).mono ?_;rintro e W5 ⟨rfl,hP5,hB5⟩;have HQ5:=aA (aI hP5 hB5);clear hP5 hB5)|(go_at_call 65;refine(HNa.out _ HQ5.out.1).mono ?_;rintro e W6 ⟨rfl,hP6,hB6⟩;have HQ6:=aA (aI hP6 hB6);clear hP6 hB6)|(go_at_call 67;refine(HSa.out _ HQ6.out.1).mono ?_;rintro e W7 ⟨⟨u0,u1,m2,la,ln,lc,rfl,hP7⟩,hB7⟩;have HQ7:=aA (aI hP7 hB7);clear hP7 hB7))
      obtain⟨Wa,hWa⟩:∃Wa,Wa=W7.alloc (.cells #[.string u0,.string u1,.int .i64 m2,.slice la ln lc] 44):=⟨_,rfl⟩
      rw[←hWa]
      have h7a:Below W7.heap.size W7 Wa:=by rw[hWa];exact bA _ _
      have hva:Wa.heap[W7.heap.size]?=some (.cells #[.string u0,.string u1,.int .i64 m2,.slice la ln lc] 44 (0,0)):=by rw[hWa];exact heap_alloc_new _ _
      have hla:W7.heap.size<Wa.heap.size:=by rw[hWa];simp
      have HVa:=aA (aI h7a (aI hva (HQ7.out.1.below h7a)))
      clear hWa h7a hva
      go_upto_region 28 with (first|(go_at_call 65;refine(HNb.out _ _ HVa.out.2.2).mono ?_;rintro e W8 ⟨rfl,hP8,hB8⟩;have HQ8:=aA (aI hP8 hB8);clear hP8 hB8)|(go_at_call 67;refine(HSb.out _ HQ8.out.1).mono ?_;rintro e W9 ⟨⟨w0,w1,p2,oa,on,oc,rfl,hP9⟩,hB9⟩;have HQ9:=aA (aI hP9 hB9);clear hP9 hB9))
      obtain⟨Wb,hWb⟩:∃Wb,Wb=W9.alloc (.cells #[.string w0,.string w1,.int .i64 p2,.slice oa on oc] 44):=⟨_,rfl⟩
      rw[←hWb]
      have h9b:Below W9.heap.size W9 Wb:=by rw[hWb];exact bA _ _
      have hvb:Wb.heap[W9.heap.size]?=some (.cells #[.string w0,.string w1,.int .i64 p2,.slice oa on oc] 44 (0,0)):=by rw[hWb];exact heap_alloc_new _ _
      have hlb:W9.heap.size<Wb.heap.size:=by rw[hWb];simp
      have hs3:=HB3.out.size
      have hs4:=HQ4.out.2.size
      have hs5:=HQ5.out.2.size
      have hs6:=HQ6.out.2.size
      have hs7:=HQ7.out.2.size
      have hs8:=HQ8.out.2.size
      have hs9:=HQ9.out.2.size
      have hbw:w.heap.size≠bp:=by omega
      have hb7:W7.heap.size≠bp:=by omega
      have hb9:W9.heap.size≠bp:=by omega
      have h7b:∀q,q<Wa.heap.size→q≠bp→Wb.heap[q]?=Wa.heap[q]?:=fun q hq hne=>((h9b.block q (by omega)).trans (HQ9.out.2.block q (by omega) hne)).trans (HQ8.out.2.block q hq hne)
      have h3b:∀q,q<W3.heap.size→q≠bp→Wb.heap[q]?=W3.heap[q]?:=fun q hq hne=>(((((h7b q (by omega) hne).trans (HVa.out.1.block q (by omega))).trans (HQ7.out.2.block q (by omega) hne)).trans (HQ6.out.2.block q (by omega) hne)).trans (HQ5.out.2.block q (by omega) hne)).trans (HQ4.out.2.block q hq hne)
      have hrb:=(h3b w.heap.size (by omega) hbw).trans HR3.out
      have hgb2:=(h3b g2 hl3 hgb).trans HV3.out
      have hab:=(h7b W7.heap.size hla hb7).trans HVa.out.2.1
      have hBb:BelX w.heap.size bp w Wb:=((((((((Below.x HB3.out bp (nR _)).then HQ4.out.2 HB3.out.size).then HQ5.out.2 (by omega)).then HQ6.out.2 (by omega)).then HQ7.out.2 (by omega)).then (Below.x HVa.out.1 bp (nR _)) (by omega)).then HQ8.out.2 (by omega)).then HQ9.out.2 (by omega)).then (Below.x h9b bp (nR _)) (by omega)
      have hPb:PSt L bp tb cp Wb rB (fun x=>NL Wb (fun b=>w.heap.size<b) (nv (.string w0) (.string w1) (.int .i64 p2) (.slice oa on oc)) x):=(HQ9.out.1.below h9b).to fun x _ _ _ hx=>hx.step fun b hb hp=>⟨h9b.block b hb,by omega⟩
      have hNa:∀x k n,rA=.ok x k n→NL Wb (fun b=>w.heap.size<b) (nv (.string u0) (.string u1) (.int .i64 m2) (.slice la ln lc)) x:=fun x k n e=>(HQ7.out.1.val x k n e).step fun b hb hp=>⟨(h7b b (by omega) (by omega)).trans (HVa.out.1.block b hb),by omega⟩
      obtain⟨z,y2,yf,hs10,hB10⟩:=hPb.nest HnB.out HNe.out
      have HA:=aA (aI hrb (aI hgb2 (aI hab (aI hvb (aI hBb (aI hs10 (aI hB10 hNa)))))))
      clear hWb h9b hvb h7b h3b hrb hgb2 hab hBb hPb hNa hs10 hB10
      go_upto_region 29 with fail
      obtain⟨Wc,hWc⟩:∃Wc,Wc=Wb.setCell ⟨bp,2,none⟩ (.int .i64 (wrap64 (z - 1))):=⟨_,rfl⟩
      rw[←hWc]
      have hbc:∀q,q≠bp→Wc.heap[q]?=Wb.heap[q]?:=fun q hq=>by rw[hWc];exact Below.heap_setCell _ _ _ _ hq
      obtain⟨ha,hb,hc,hd,he,hf,hg,hh'⟩:=HA.out
      have hszc:Wb.heap.size≤Wc.heap.size:=by rw[hWc];simp
      rw[show IntKind.i64.wrap (z - 1)=wrap64 (z - 1) from by first|exact IntWalk.i64_left _|(rw[IntKind.wrap_i64];unfold wrap64;rfl),←hWc] at hf hg
      have hr4:(rB.bind fun x k n=>PR.ok x k (n - 1))≠.out:=PR.bind_in HnB.out fun _ _ _ h=>by cases h
      have HNc:=aA (yC hf hr4 (sg 41))
      have H8:=aA (aI ((hbc _ hbw).trans ha) (aI ((hbc _ hgb).trans hb) (aI ((hbc _ hb7).trans hc) (aI ((hbc _ hb9).trans hd) (aI (he.then hg he.size) (aI (fun x k n e=>(hf.val x k n e).step (P':=fun b=>w.heap.size<b) (w':=Wc) fun b hb' hp=>⟨hbc b (by omega),hp⟩) (fun x k n e=>(hh' x k n e).step (P':=fun b=>w.heap.size<b) (w':=Wc) fun b hb' hp=>⟨hbc b (by omega),hp⟩)))))))
      have hlw:w.heap.size<Wc.heap.size:=by omega
      have hlg:g2<Wc.heap.size:=by omega
      have hl7:W7.heap.size<Wc.heap.size:=by omega
      have hl9:W9.heap.size<Wc.heap.size:=by omega
      unfold sg at HNc
      clear hWc hbc ha hb hc hd he hf hg hh' hr4 y2 yf HA hszc hs3 hs4 hs5 hs6 hs7 hs8 hs9 hla hlb
      go_wp2_with (go_at_call 65;refine HNc.out.mono ?_;rintro e Wd ⟨rfl,hPd,hBd⟩;obtain⟨q0,q1,q2,q3,qf⟩:=gA H8.out.1 (hBd.block _ hlw hbw);obtain⟨i0,i1,i2,i3,if'⟩:=gA H8.out.2.1 (hBd.block _ hlg hgb);obtain⟨v0,v1,v2,v3,vf⟩:=gA H8.out.2.2.1 (hBd.block _ hl7 hb7);obtain⟨o0,o1,o2,o3,of'⟩:=gA H8.out.2.2.2.1 (hBd.block _ hl9 hb9);have hrd:=(hBd.block _ hlw hbw).trans H8.out.1;have hld:w.heap.size<Wd.heap.size:=(Nat.lt_of_lt_of_le hlw hBd.size);have HQd:=aA (aI hPd (aI hBd hrd));clear hPd hBd hrd)
      have hx:=tA (MH HQd.out.2.2 (.string K1) (.string ⟨#[]⟩) (.int .i64 0) (.string u0) (.string u1) (.int .i64 m2) (.slice la ln lc) (.string w0) (.string w1) (.int .i64 p2) (.slice oa on oc)).var
      unfold zI at hx
      obtain⟨x0,x1,x2,x3,_⟩:=hx
      refine bodyPost_ret (v:=.agg #[.string K1,.string ⟨#[]⟩,.int .i64 0,.slice (some ⟨Wd.heap.size,0,none⟩) 2 2]) (by simp[results,Tryz.results133,go_sem,x0,x1,x2,x3]) rfl ?_
      have hPf:=PSt.carry (F:=fun k n=>oA L (sg 41) k n) HQd.out.1 (V:=fun y=>NL Wd (fun b=>w.heap.size<b) (nv (.string w0) (.string w1) (.int .i64 p2) (.slice oa on oc)) y) fun x k n e=>(H8.out.2.2.2.2.2.1 x k n e).step fun b hb hp=>⟨HQd.out.2.1.block b hb (by omega),hp⟩
      have hBf:=H8.out.2.2.2.2.1.then HQd.out.2.1 H8.out.2.2.2.2.1.size
      cases hA:rA with
      |out=>
       have h9:=HR1.out
       rw[hA] at h9
       have h8:=HrB.out
       rw[hA] at h8
       exact absurd h8 HnB.out
      |bad c a=>
       have h9:=fQ (L:=L) (bp:=bp) (tb:=tb) (cp:=cp) (x:=Nd.zero) (P:=fun b=>w.heap.size<b) (a0:=.string u0) (a1:=.string u1) (a2:=.int .i64 m2) (a3:=.slice la ln lc) hbp htb HQd.out.2.2 hPf (fun y k n e=>by
        have h8:=HrB.out
        rw[hA] at h8
        have h8:rB=.bad c a:=h8
        rw[h8] at e
        cases e) (fun b hb=>hb) hBf hld K1
       have h8:=HrB.out
       rw[hA] at h8
       have h8:rB=.bad c a:=h8
       rw[h8] at h9
       rw[HR1.out,hA]
       exact h9
      |ok x k' n'=>
       have h9:=fQ (L:=L) (bp:=bp) (tb:=tb) (cp:=cp) (x:=x) (P:=fun b=>w.heap.size<b) (a0:=.string u0) (a1:=.string u1) (a2:=.int .i64 m2) (a3:=.slice la ln lc) hbp htb HQd.out.2.2 hPf (fun _ _ _ _=>(H8.out.2.2.2.2.2.2 x k' n' hA).step fun b hb hp=>⟨HQd.out.2.1.block b hb (by omega),hp⟩) (fun b hb=>hb) hBf hld K1
       have hRf:(((rB.bind fun x k n=>PR.ok x k (n - 1)).bind fun y k n=>(oA L (sg 41) k n).bind fun _ k n=>.ok y k n).bind fun y k n=>.ok (Nd.mk K1 ⟨#[]⟩ 0 [x,y]) k n)=R:=by
        rw[HR1.out,HrB.out,hA]
        show (((((oA L (sg 44) k' n').bind fun _ k n=>IB L f k n).bind _).bind _).bind _)=(oA L (sg 44) k' n').bind _
        cases oA L (sg 44) k' n' with
        |out=>rfl
        |bad c a=>rfl
        |ok y k n=>
         show ((((IB L f k n).bind _).bind _).bind _)=(IB L f k n).bind _
         cases IB L f k n with
         |out=>rfl
         |bad c a=>rfl
         |ok y k n=>
          show ((oA L (sg 41) k (n - 1)).bind _).bind _=(oA L (sg 41) k (n - 1)).bind _
          cases oA L (sg 41) k (n - 1)<;>rfl
       rw[hRf] at h9
       exact h9
    ·have t3f:((cA L k).text.toList==[109,97,120])=false:=Bool.eq_false_iff.2 fun h=>t3 (.inl h)
     have t4f:((cA L k).text.toList==[109,105,110])=false:=Bool.eq_false_iff.2 fun h=>t3 (.inr h)
     rw[if_neg t3] at hn ⊢
     clear t3
     by_cases t5:((cA L k).text.toList==[91])=true
     ·rw[if_pos t5] at hn ⊢
      obtain⟨R,hRo⟩:∃R,R=(qA L k n).bind fun _ k1 n=>(pA L k1 n).bind fun _ k2 n=>(IB L f k2 n).bind fun x k3 n=>(oA L (sg 93) k3 (n - 1)).bind fun _ k4 n=>.ok x k4 n:=⟨_,rfl⟩
      rw[←hRo] at hn ⊢
      have HN:=aA hn
      have HRo:=aA hRo
      clear hn hRo
      generalize (cA L k).text=K1 at *
      generalize kB (cA L k).kind=K0 at *
      generalize (cA L k).pos=K2 at *
      generalize (cA L k).code=K3 at *
      go_enter Tryz.func133,Tryz.ntmps133
      go_upto_region 2 with (rw[←HX.out];go_at_call 30;refine HS.out.mono ?_;rintro e W2 ⟨rfl,hB2⟩;have HQ2:=aA hB2;clear hB2)
      have h23:Below W2.heap.size W2 (W2.alloc (.cells #[.string K0,.string K1,.int .i64 K2,.int .i64 K3] 82)):=bA _ _
      have hv3:(W2.alloc (.cells #[.string K0,.string K1,.int .i64 K2,.int .i64 K3] 82)).heap[W2.heap.size]?=some (.cells #[.string K0,.string K1,.int .i64 K2,.int .i64 K3] 82 (0,0)):=heap_alloc_new _ _
      have hl3:W2.heap.size<(W2.alloc (.cells #[.string K0,.string K1,.int .i64 K2,.int .i64 K3] 82)).heap.size:=by simp
      generalize W2.alloc (.cells #[.string K0,.string K1,.int .i64 K2,.int .i64 K3] 82)=W3 at *
      have hs2:=HQ2.out.size
      have hs3:=h23.size
      have hB13:Below W1.heap.size W1 W3:=⟨h23.os.trans HQ2.out.os,h23.tape.trans HQ2.out.tape,h23.output.trans HQ2.out.output,by omega,fun q hq=>(h23.block q (by omega)).trans (HQ2.out.block q hq)⟩
      have hB3:Below w.heap.size w W3:=⟨hB13.os.trans HT.out.bel.os,hB13.tape.trans HT.out.bel.tape,hB13.output.trans HT.out.bel.output,by have:=HT.out.bel.size;omega,fun q hq=>(hB13.block q (by omega)).trans (HT.out.bel.block q hq)⟩
      have hr3:=(hB13.block _ hlt).trans HT.out.blk
      obtain⟨c0,c1,c2,c3,cf⟩:=tA hv3
      have hgb:W2.heap.size≠bp:=by have:=HT.out.bel.size;omega
      have hgw:w.heap.size<W2.heap.size:=by omega
      have HB3:=aA hB3
      have HP3:=aA (HP.out.below hB3)
      have HR3:=aA hr3
      have HV3:=aA hv3
      generalize W2.heap.size=g2 at *
      clear h23 hv3 hB13 hB3 hr3 HQ2 hs2 hs3
      have hr3:(((qA L k n).bind fun _ k n=>pA L k n).bind fun _ k n=>IB L f k n)≠.out:=by
       intro h9
       apply HN.out
       rw[HRo.out,←PR.assoc,←PR.assoc,h9]
       rfl
      have hnest:∀x k' n',(((qA L k n).bind fun _ k n=>pA L k n).bind fun _ k n=>IB L f k n)=.ok x k' n'→1≤n':=by
       intro x k' n' h9
       obtain⟨_,_,_,e1,e2⟩:=PR.bind_eq h9
       obtain⟨_,_,_,e3,e4⟩:=PR.bind_eq e1
       have:=tC e3;have:=WB e4;have:=(VG L f).su _ _ _ _ _ e2
       omega
      have HD:=aA (ZD HP3.out)
      have HSt:=aA (fun (W:World) (hW:PSt L bp tb cp W (qA L k n) (fun _=>True))=>xE hW (YA _ _ _))
      have HU:=aA (fun (W:World) (hW:PSt L bp tb cp W ((qA L k n).bind fun _ k n=>pA L k n) (fun _=>True))=>QC H1.out (fun _ _ _ h=>GG h) hW hr3)
      have HRf:Hid (R=(((((qA L k n).bind fun _ k n=>pA L k n).bind fun _ k n=>IB L f k n).bind fun x k n=>.ok x k (n - 1)).bind fun x k n=>(oA L (sg 93) k n).bind fun _ k n=>.ok x k n)):=by
       show _=_
       rw[HRo.out,←PR.assoc,←PR.assoc]
       exact Eq.trans rfl (PR.assoc (((qA L k n).bind fun _ k n=>pA L k n).bind fun _ k n=>IB L f k n) (fun x k n=>PR.ok x k (n - 1)) (fun x k n=>(oA L (sg 93) k n).bind fun _ k n=>PR.ok x k n)).symm
      have Hr3:=aA hr3
      have HNe:=aA hnest
      clear hr3 hnest HRo
      generalize (((qA L k n).bind fun _ k n=>pA L k n).bind fun _ k n=>IB L f k n)=r3 at *
      go_upto_region 35 with (first|(go_at_call 148;refine HD.out.mono ?_;rintro e W4 ⟨rfl,hP4,hB4⟩;have HQ4:=aA (aI hP4 hB4);clear hP4 hB4)|(go_at_call 110;refine(HSt.out _ HQ4.out.1).mono ?_;rintro e W5 ⟨rfl,hP5,hB5⟩;have HQ5:=aA (aI hP5 hB5);clear hP5 hB5)|(go_at_call 67;refine(HU.out _ HQ5.out.1).mono ?_;rintro e W6 ⟨⟨u0,u1,m2,la,ln,lc,rfl,hP6⟩,hB6⟩;have HQ6:=aA (aI hP6 hB6);clear hP6 hB6))
      obtain⟨W7,hW7⟩:∃W7,W7=W6.alloc (.cells #[.string u0,.string u1,.int .i64 m2,.slice la ln lc] 44):=⟨_,rfl⟩
      rw[←hW7]
      have h67:Below W6.heap.size W6 W7:=by rw[hW7];exact bA _ _
      have hv7:W7.heap[W6.heap.size]?=some (.cells #[.string u0,.string u1,.int .i64 m2,.slice la ln lc] 44 (0,0)):=by rw[hW7];exact heap_alloc_new _ _
      have hs3:=HB3.out.size
      have hs4:=HQ4.out.2.size
      have hs5:=HQ5.out.2.size
      have hs6:=HQ6.out.2.size
      have hs7:=h67.size
      have hl7:W6.heap.size<W7.heap.size:=by rw[hW7];simp
      have hbw:w.heap.size≠bp:=by omega
      have hb6:W6.heap.size≠bp:=by omega
      have hr7:=((((h67.block w.heap.size (by omega)).trans (HQ6.out.2.block _ (by omega) hbw)).trans (HQ5.out.2.block _ (by omega) hbw)).trans (HQ4.out.2.block _ (by omega) hbw)).trans HR3.out
      have hB7:BelX w.heap.size bp w W7:=((((Below.x HB3.out bp (nR _)).then HQ4.out.2 HB3.out.size).then HQ5.out.2 (by omega)).then HQ6.out.2 (by omega)).then (Below.x h67 bp (nR _)) (by omega)
      have hP7:PSt L bp tb cp W7 r3 (fun x=>NL W7 (fun b=>w.heap.size<b) (nv (.string u0) (.string u1) (.int .i64 m2) (.slice la ln lc)) x):=(HQ6.out.1.below h67).to fun x _ _ _ hx=>hx.step fun b hb hp=>⟨h67.block b hb,by omega⟩
      obtain⟨z,y2,yf,hs8,hB8⟩:=hP7.nest Hr3.out HNe.out
      obtain⟨n0,n1,n2,n3,nf⟩:=tA hv7
      have HA:=aA (aI hr7 (aI hB7 (aI hs8 (aI hB8 hv7))))
      clear hW7 h67 hr7 hB7 hP7 hs8 hB8 hv7
      go_upto_region 36 with fail
      obtain⟨W8,hW8⟩:∃W8,W8=W7.setCell ⟨bp,2,none⟩ (.int .i64 (wrap64 (z - 1))):=⟨_,rfl⟩
      rw[←hW8]
      have h78:∀q,q≠bp→W8.heap[q]?=W7.heap[q]?:=fun q hq=>by rw[hW8];exact Below.heap_setCell _ _ _ _ hq
      obtain⟨h8a,h8b,h8c,h8d,h8e⟩:=HA.out
      have hsz8:W7.heap.size≤W8.heap.size:=by rw[hW8];simp
      rw[show IntKind.i64.wrap (z - 1)=wrap64 (z - 1) from by first|exact IntWalk.i64_left _|(rw[IntKind.wrap_i64];unfold wrap64;rfl),←hW8] at h8c h8d
      have hr8:=(h78 _ hbw).trans h8a
      have hv8:=(h78 _ hb6).trans h8e
      have hB8:=h8b.then h8d h8b.size
      have hr4:(r3.bind fun x k n=>PR.ok x k (n - 1))≠.out:=PR.bind_in Hr3.out fun _ _ _ h=>by cases h
      have hNL8:∀x k n,(r3.bind fun x k n=>PR.ok x k (n - 1))=.ok x k n→NL W8 (fun b=>w.heap.size<b) (nv (.string u0) (.string u1) (.int .i64 m2) (.slice la ln lc)) x:=fun x k n e=>(h8c.val x k n e).step fun b hb hp=>⟨h78 b (by omega),hp⟩
      have HNd:=aA (yC h8c hr4 (sg 93))
      have hlw:w.heap.size<W8.heap.size:=by omega
      have hl6:W6.heap.size<W8.heap.size:=by omega
      have H8:=aA (aI hr8 (aI hv8 (aI hB8 hNL8)))
      unfold sg at HNd
      clear hW8 h78 h8a h8b h8c h8d h8e hr8 hv8 hB8 hr4 hNL8 y2 yf n0 n1 n2 n3 nf HA hsz8 hs3 hs4 hs5 hs6 hs7
      go_wp2_with (go_at_call 65;refine HNd.out.mono ?_;rintro e W9 ⟨rfl,hP9,hB9⟩;obtain⟨q0,q1,q2,q3,qf⟩:=gA H8.out.1 (hB9.block _ hlw hbw);obtain⟨v0,v1,v2,v3,vf⟩:=gA H8.out.2.1 (hB9.block _ hl6 hb6);have HQ9:=aA (aI hP9 hB9);clear hP9 hB9)
      refine bodyPost_ret (v:=.agg #[.string u0,.string u1,.int .i64 m2,.slice la ln lc]) (by simp[results,Tryz.results133,go_sem,q0,q1,q2,q3]) rfl ?_
      refine vB hbp htb (P:=fun b=>w.heap.size<b) ?_ (fun b hb=>hb) (H8.out.2.2.1.then HQ9.out.2 H8.out.2.2.1.size)
      rw[HRf.out]
      exact PSt.carry (F:=fun k n=>oA L (sg 93) k n) HQ9.out.1 fun x k n e=>(H8.out.2.2.2 x k n e).step fun b hb hp=>⟨HQ9.out.2.block b hb (by omega),hp⟩
     ·have t5f:((cA L k).text.toList==[91])=false:=Bool.eq_false_iff.2 t5
      rw[if_neg t5]
      clear t5 hn
      generalize (cA L k).text=K1 at *
      generalize kB (cA L k).kind=K0 at *
      generalize (cA L k).pos=K2 at *
      generalize (cA L k).code=K3 at *
      go_enter Tryz.func133,Tryz.ntmps133
      go_upto_region 2 with (rw[←HX.out];go_at_call 30;refine HS.out.mono ?_;rintro e W2 ⟨rfl,hB2⟩;have HQ2:=aA hB2;clear hB2)
      have h23:Below W2.heap.size W2 (W2.alloc (.cells #[.string K0,.string K1,.int .i64 K2,.int .i64 K3] 82)):=bA _ _
      have hv3:(W2.alloc (.cells #[.string K0,.string K1,.int .i64 K2,.int .i64 K3] 82)).heap[W2.heap.size]?=some (.cells #[.string K0,.string K1,.int .i64 K2,.int .i64 K3] 82 (0,0)):=heap_alloc_new _ _
      have hl3:W2.heap.size<(W2.alloc (.cells #[.string K0,.string K1,.int .i64 K2,.int .i64 K3] 82)).heap.size:=by simp
      generalize W2.alloc (.cells #[.string K0,.string K1,.int .i64 K2,.int .i64 K3] 82)=W3 at *
      have hs2:=HQ2.out.size
      have hs3:=h23.size
      have hB13:Below W1.heap.size W1 W3:=⟨h23.os.trans HQ2.out.os,h23.tape.trans HQ2.out.tape,h23.output.trans HQ2.out.output,by omega,fun q hq=>(h23.block q (by omega)).trans (HQ2.out.block q hq)⟩
      have hB3:Below w.heap.size w W3:=⟨hB13.os.trans HT.out.bel.os,hB13.tape.trans HT.out.bel.tape,hB13.output.trans HT.out.bel.output,by have:=HT.out.bel.size;omega,fun q hq=>(hB13.block q (by omega)).trans (HT.out.bel.block q hq)⟩
      have hr3:=(hB13.block _ hlt).trans HT.out.blk
      obtain⟨c0,c1,c2,c3,cf⟩:=tA hv3
      have hgb:W2.heap.size≠bp:=by have:=HT.out.bel.size;omega
      have hgw:w.heap.size<W2.heap.size:=by omega
      have HB3:=aA hB3
      have HP3:=aA (HP.out.below hB3)
      have HR3:=aA hr3
      have HV3:=aA hv3
      generalize W2.heap.size=g2 at *
      clear h23 hv3 hB13 hB3 hr3 HQ2 hs2 hs3
      have HNm:=aA (tK HP3.out)
      go_wp2_with (go_at_call 63;refine HNm.out.mono ?_;rintro e W5 ⟨⟨s5,rfl,hP5⟩,hB5⟩;obtain⟨q0,q1,q2,q3,qf⟩:=gA HR3.out (hB5.block _ (Nat.lt_trans hgw hl3) (by omega));have HQ5:=aA (aI hP5 hB5);clear hP5 hB5)
      refine bodyPost_ret (v:=.agg #[.string qB,.string s5,.int .i64 0,.slice none 0 0]) (by simp[results,Tryz.results133,go_sem,q0,q1,q2,q3,qB]) rfl ?_
      exact FSz (L:=L) (tb:=tb) (cp:=cp) hbp htb HQ5.out.1 ((Below.x HB3.out bp (nR _)).then HQ5.out.2 HB3.out.size) (fun x=>Nd.mk qB x 0 []) qB s5 0 (fun x hx=>by rw[hx])
end Go.Proofs.YtehbinobohjadaaGreatDoor

import Derived.Test.YtpbolcjcmkmalaaGreatDoorAq00
import Derived.Test.YtpbolcjcmkmalaaGreatDoorAq34
import Derived.Test.YtpbolcjcmkmalaaGreatDoorAq31
import Derived.Test.YtpbolcjcmkmalaaGreatDoorAq30
import Derived.Test.YtpbolcjcmkmalaaGreatDoorAq09
import Derived.Test.YtpbolcjcmkmalaaGreatDoorAq06
import Derived.BigQuiet
import Derived.Deep.QuietTactic
import Derived.Test.YtpbolcjcmkmalaaGreatDoorAq17
import Derived.Deep.DeepCutAuto
import Derived.Deep.RegionHeld3
import Derived.Test.YtpbolcjcmkmalaaGreatDoorAq36
import Derived.Test.YtpbolcjcmkmalaaGreatDoorAq38
import Derived.Test.YtpbolcjcmkmalaaGreatDoorAq25
set_option maxHeartbeats 20000000
set_option maxRecDepth 20000
namespace Go.Proofs.YtpbolcjcmkmalaaGreatDoor
open Go.RowKit Go.Extern.Stop Go.Stop Go.Extern
def COut.up(ps:List ByteArray)(t:It):COut→COut
 | .bad c=>.bad c
 | .ok y=>.ok (sA (fun _=>y) ps t)
theorem Foc.textDone{w w1 w2:World}{B b o:Nat}{t:It}{S:Nat→Prop}{v:Nat→Value}{ps:List ByteArray}{b' o':Nat}{x:It}{S':Nat→Prop}{v':Nat→Value}{p:Nat→Addr}{r:COut}{e:Ending}(h0:ItAt w B b o t S v)(hB:B≤w.heap.size)(hb:Below w.heap.size w w1)(hf:Foc w1 B b o t S ps b' o' x S' v')(h:ChO w1 B b' o' S' p r e w2):
 ChO w B b o S p (r.up ps t) e w2:=by
 cases r with
 |bad c=>exact⟨h.1,h.2.1,(hb.mono hB).trans h.2.2⟩
 |ok y=>
  obtain⟨rfl,S2,v2,q1,q2,q3⟩:=h
  exact hf.done h0 hb q3 q1 q2
theorem ChO.ret{w w':World}{B b o:Nat}{S:Nat→Prop}{p:Nat→Addr}{r:COut}{e:Ending}(h:ChO w B b o S p r e w'):∃v,e=.returned v:=by
 cases r with
 |ok y=>exact⟨_,h.1⟩
 |bad c=>
  obtain⟨h1,h2,_⟩:=h
  unfold EO at h2
  rw[if_neg h1] at h2
  obtain⟨k,_,_,h3⟩:=h2
  exact⟨_,h3⟩
section
variable {t:It} {o:OpW}
theorem sS(h:1≤o.kind∧o.kind≤5)(h2:eA t (cA o.path)=none):oneC t o=.bad 5:=by unfold oneC;rw[if_pos h,h2]
theorem JK{x:It}(h:1≤o.kind∧o.kind≤5)(h2:eA t (cA o.path)=some x):oneC t o=(textC x o).up (cA o.path) t:=by
 unfold oneC
 rw[if_pos h,h2]
 show (match textC x o with| .bad c=>COut.bad c| .ok y=>.ok (sA (fun _=>y) (cA o.path) t))=_
 cases textC x o<;>rfl
theorem AQ(h:o.kind=6):oneC t o=putC t o:=by unfold oneC;rw[if_neg (by omega),if_pos h]
theorem QL(h:o.kind=7):oneC t o=SB t o:=by unfold oneC;rw[if_neg (by omega),if_neg (by omega),if_pos h]
theorem uN(h:o.kind=8):oneC t o=labelC t o:=by unfold oneC;rw[if_neg (by omega),if_neg (by omega),if_neg (by omega),if_pos h]
theorem XO(h:o.kind=9):oneC t o=moveC t o:=by unfold oneC;rw[if_neg (by omega),if_neg (by omega),if_neg (by omega),if_neg (by omega),if_pos h]
theorem zQ(h:o.kind<1∨9<o.kind):oneC t o=.bad 9:=by unfold oneC;rw[if_neg (by omega),if_neg (by omega),if_neg (by omega),if_neg (by omega),if_neg (by omega)]
end
theorem bO{w:World}{B b o:Nat}{t:It}{S:Nat→Prop}{v:Nat→Value}(h:ItAt w B b o t S v)(hL:UC t)(hB:B≤w.heap.size)(hBb:B≤b){p:Nat→Addr}{m:Int}(hE:∀w',Below B w w'→Env w' p m)(op:OpW)(hok:OpOk op)(iv:Nat→Value){ex:Prop}(hi:SrcT w B ex iv op.item)(hz:EB op.item≤400000)(hx:ex∨EB op.item≤600)(hFi:FewIt op.item):
 Calls Tryz.prog 18 #[.pointer (some ⟨b,o,none⟩),.agg (FB op iv)] w (ChO w B b o S p (oneC t op)):=by
 obtain⟨f0,f1,⟨la,lc,f2⟩,ka2,kc2,f3⟩:=hi.lies.forms
 obtain⟨WB,hWB⟩:∃WB,WB=w.alloc (.cells (FB op iv) 46):=⟨_,rfl⟩
 have hb0:Below w.heap.size w WB:=by rw[hWB];exact bA _ _
 have hbx:WB.heap[w.heap.size]?=some (.cells (FB op iv) 46 (0,0)):=by rw[hWB];exact heap_alloc_new _ _
 have h1:=h.on hb0
 have hB1:=Nat.le_trans hB hb0.size
 have hE1:∀w',Below B WB w'→Env w' p m:=fun w' hw=>hE w' ((hb0.mono hB).trans hw)
 have E1:=hE1 WB (Below.refl _ _)
 have hi1:SrcT WB B ex iv op.item:=hi.on fun k hk=>hb0.block k (by omega)
 have KP:=jU h1 hL hB1 hBb hE1 op hok iv hi1 hz hx hFi
 have KR:=iP h1 (RB hL) hB1 E1 op hok iv
 have KL:=BN h1 (RB hL) hB1 E1 op hok iv
 have KM:=cS h1 hL hB1 E1 op hok iv
 have KB:=ED op.path (by have:=hok.path;omega) m WB E1.M
 have HT:=aA (fun (w2:World) (hb2:Below w.heap.size w w2) (x:It) (b' o':Nat) (S':Nat→Prop) (v':Nat→Value) (hf:Foc w2 B b o t S (cA op.path) b' o' x S' v')=>by
  have hr:=qB (cA op.path) 0 t x hL.1 hf.fnd
  obtain⟨g1,_,g3⟩:=texts_iff.1 ⟨hr.is.1.2.1,hr.is.1.2.2.2⟩
  exact qI hf.at' (Nat.le_trans hB hb2.size) g1 g3 (hE w2 (hb2.mono hB)) op hok iv (fun c hc=>by
   match c,hc with
   |0,_=>rw[f0];rfl
   |1,_=>rw[f1];rfl
   |2,_=>rw[f2];rfl
   |3,_=>rw[f3];rfl))
 have T1:=sS (t:=t) (o:=op)
 have T2:=fun x=>JK (t:=t) (o:=op) (x:=x)
 have T6:=AQ (t:=t) (o:=op)
 have T7:=QL (t:=t) (o:=op)
 have T8:=uN (t:=t) (o:=op)
 have T9:=XO (t:=t) (o:=op)
 have T0:=zQ (t:=t) (o:=op)
 have HAf:=aA (fun (r:COut) (e:Ending) (w':World) (hh:ChO WB B b o S p r e w')=>hh.after hb0 h.lt hB)
 have HPl:Hid ((cA op.path).length≤100000):=by show _≤_;have:=jB op.path;have:=hok.path;omega
 have HBx:=hbx
 unfold FB at KP KR KL KM hbx hWB HT
 show Calls Tryz.prog 18 #[.pointer (some ⟨b,o,none⟩),.agg #[.int .i64 op.kind,.string op.path,.string op.at',.string op.text,.string op.new,.int .i64 op.line,iv 0,iv 1,iv 2,iv 3]] w (ChO w B b o S p (oneC t op))
 rw[f0,f1,f2,f3] at KP KR KL KM hbx hWB HT
 rw[f0,f1,f2,f3]
 obtain⟨y0,y1,y2,y3,y4,y5,y6,y7,y8,y9⟩:=yB hbx
 have HX:=aA hWB
 have H0:=aA h
 have HF:=aA (RB hL)
 have HB0:=aA hb0
 have HEn:=aA hE
 have HKP:=aA KP
 have HKR:=aA KR
 have HKL:=aA KL
 have HKM:=aA KM
 have HLb:=aA KB
 have HO:=aA (aI T1 (aI T2 (aI T6 (aI T7 (aI T8 (aI T9 T0))))))
 clear hWB h hL hE hbx hb0 h1 hB1 hE1 E1 hi1 KP KR KL KM KB T1 T2 T6 T7 T8 T9 T0 HBx hi hz hx hFi f0 f1 f2 f3 hok
 have hcases:(1≤op.kind∧op.kind≤5)∨op.kind=6∨op.kind=7∨op.kind=8∨op.kind=9∨(op.kind<1∨9<op.kind):=by omega
 generalize hr:oneC t op=r at *
 generalize hpc:putC t op=rp at *
 generalize hrc:SB t op=rr at *
 generalize hlc:labelC t op=rl at *
 generalize hmc:moveC t op=rm at *
 clear hr hpc hrc hlc hmc
 rcases hcases with hk|hk|hk|hk|hk|hk
 ·have HR1:=aA (HO.out.1 hk)
  have HR2:=aA (fun x=>HO.out.2.1 x hk)
  clear HO HKP HKR HKL HKM HAf
  rcases (by omega:op.kind=1∨op.kind=2∨op.kind=3∨op.kind=4∨op.kind=5) with hk1|hk1|hk1|hk1|hk1
  all_goals
   clear hk
   rw[hk1] at HT HX y0
   rw[hk1]
   clear hk1
   have HY:=aA (aI y0 (aI y1 (aI y2 (aI y3 (aI y4 (aI y5 (aI y6 (aI y7 (aI y8 y9)))))))))
   clear y2 y3 y4 y5 y6 y7 y8 y9
   go_enter Tryz.func18,Tryz.ntmps18
   go_upto_region 1 with fail
   rw[←HX.out]
   go_wp2_with fail
   refine HLb.out.mono ?_
   rintro e w1 ⟨⟨pa,pc,rfl,hst,hpc⟩,hb1⟩
   have hbw1:=HB0.out.trans (hb1.mono HB0.out.size)
   have HFd:=aA (vH (pc:=pc) (H0.out.on hbw1) HF.out hst HPl.out)
   have HB1:=aA hbw1
   have HYb:=aA hb1
   clear hst hpc hb1 hbw1 y0 y1
   go_wp2_with fail
   refine HFd.out.mono ?_
   rintro e w2 ⟨hfi,hb2⟩
   have HB2:=aA (HB1.out.trans (hb2.mono HB1.out.size))
   have hbW:Below WB.heap.size WB w2:=HYb.out.trans (hb2.mono HYb.out.size)
   have c4:∀q c u,WB.cell? ⟨q,c,none⟩=some u→w2.cell? ⟨q,c,none⟩=some u:=fun q c u hc=>(hbW.cell (p:=⟨q,c,none⟩) (dA hc)).trans hc
   obtain⟨q0,q1,q2,q3,q4,q5,q6,q7,q8,q9⟩:=HY.out
   have z0:=c4 _ _ _ q0
   have z1:=c4 _ _ _ q1
   have z2:=c4 _ _ _ q2
   have z3:=c4 _ _ _ q3
   have z4:=c4 _ _ _ q4
   have z5:=c4 _ _ _ q5
   have z6:=c4 _ _ _ q6
   have z7:=c4 _ _ _ q7
   have z8:=c4 _ _ _ q8
   have z9:=c4 _ _ _ q9
   clear hbW c4 HFd HYb HY q0 q1 q2 q3 q4 q5 q6 q7 q8 q9
   unfold lF at hfi
   cases hq:eA t (cA op.path) with
   |none=>
    rw[hq] at hfi
    have hfi:e=_:=hfi
    subst hfi
    have HO:=aA (HR1.out hq)
    clear hq hb2 z0 z1 z2 z3 z4 z5 z6 z7 z8 z9
    have e1:w2.cell? ⟨4,0,none⟩=some (.iface 214 (.pointer (some (p 4)))):=(HEn.out _ (HB2.out.mono hB)).L.cell 4 (by omega)
    go_wp2
    go_ret
    rw[HO.out]
    exact⟨by omega,EO.err 4 (by omega),HB2.out.mono hB⟩
   |some x=>
    rw[hq] at hfi
    obtain⟨b1,o1,S1,v1,rfl,hf⟩:=hfi
    have hf:=hf.on (by have:=H0.out.lt;have:=HB1.out.size;omega) hb2
    have HF1:=aA hf
    have HQ:=aA (HR2.out x hq)
    have HTx:=aA (HT.out w2 HB2.out x b1 o1 S1 v1 hf)
    clear hq hb2 hf HR1 HR2 HT HLb
    go_wp2_with fail
    refine HTx.out.mono ?_
    rintro e w3 hch
    obtain⟨v3,rfl⟩:=hch.ret
    have HC:=aA hch
    clear hch z0 z1 z2 z3 z4 z5 z6 z7 z8 z9
    go_wp2
    go_ret
    rw[HQ.out]
    exact HF1.out.textDone H0.out hB HB2.out HC.out
 ·have HR:=aA (HO.out.2.2.1 hk)
  rw[hk] at HKP HX y0
  clear HO HKR HKL HKM HLb
  rw[hk]
  clear hk
  go_enter Tryz.func18,Tryz.ntmps18
  go_upto_region 1 with fail
  rw[←HX.out]
  go_wp2_with fail
  refine HKP.out.mono ?_
  rintro e w2 hch
  obtain⟨v2,rfl⟩:=hch.ret
  have HC:=aA hch
  clear hch
  go_wp2
  go_ret
  rw[HR.out]
  exact HAf.out _ _ _ HC.out
 ·have HR:=aA (HO.out.2.2.2.1 hk)
  rw[hk] at HKR HX y0
  clear HO HKP HKL HKM HLb
  rw[hk]
  clear hk
  go_enter Tryz.func18,Tryz.ntmps18
  go_upto_region 1 with fail
  rw[←HX.out]
  go_wp2_with fail
  refine HKR.out.mono ?_
  rintro e w2 hch
  obtain⟨v2,rfl⟩:=hch.ret
  have HC:=aA hch
  clear hch
  go_wp2
  go_ret
  rw[HR.out]
  exact HAf.out _ _ _ HC.out
 ·have HR:=aA (HO.out.2.2.2.2.1 hk)
  rw[hk] at HKL HX y0
  clear HO HKP HKR HKM HLb
  rw[hk]
  clear hk
  go_enter Tryz.func18,Tryz.ntmps18
  go_upto_region 1 with fail
  rw[←HX.out]
  go_wp2_with fail
  refine HKL.out.mono ?_
  rintro e w2 hch
  obtain⟨v2,rfl⟩:=hch.ret
  have HC:=aA hch
  clear hch
  go_wp2
  go_ret
  rw[HR.out]
  exact HAf.out _ _ _ HC.out
 ·have HR:=aA (HO.out.2.2.2.2.2.1 hk)
  rw[hk] at HKM HX y0
  clear HO HKP HKR HKL HLb
  rw[hk]
  clear hk
  go_enter Tryz.func18,Tryz.ntmps18
  go_upto_region 1 with fail
  rw[←HX.out]
  go_wp2_with fail
  refine HKM.out.mono ?_
  rintro e w2 hch
  obtain⟨v2,rfl⟩:=hch.ret
  have HC:=aA hch
  clear hch
  go_wp2
  go_ret
  rw[HR.out]
  exact HAf.out _ _ _ HC.out
 ·have HR:=aA (HO.out.2.2.2.2.2.2 hk)
  have k1:¬op.kind=1:=by omega
  have k2:¬op.kind=2:=by omega
  have k3:¬op.kind=3:=by omega
  have k4:¬op.kind=4:=by omega
  have k5:¬op.kind=5:=by omega
  have k6:¬op.kind=6:=by omega
  have k7:¬op.kind=7:=by omega
  have k8:¬op.kind=8:=by omega
  have k9:¬op.kind=9:=by omega
  have e1:WB.cell? ⟨8,0,none⟩=some (.iface 214 (.pointer (some (p 8)))):=(HEn.out _ (HB0.out.mono hB)).L.cell 8 (by omega)
  clear HO HKP HKR HKL HKM HLb hk
  generalize op.kind=kind at *
  go_enter Tryz.func18,Tryz.ntmps18
  go_upto_region 1 with fail
  rw[←HX.out]
  go_wp2
  go_ret
  rw[HR.out]
  exact⟨by omega,EO.err 8 (by omega),HB0.out.mono hB⟩
def EI(w:World)(N:Nat)(oa:Option Addr)(ops:List OpW):Prop:=∀i op,ops[i]?=some op→∃b o iv,oa=some ⟨b,o,none⟩∧b<N∧(∀c u,(FB op iv)[c]?=some u→w.cell? ⟨b,o+i * 10+c,none⟩=some u)∧SrcT w N False iv op.item∧EB op.item≤600∧FewIt op.item∧OpOk op
inductive POut where
 |no (c:Nat)
 |bad (i c:Nat)
 |ok (t:It)
noncomputable def applyC (t:It) (ops:List OpW):POut:=match vIt 0 0 [] t with
 | .bad c=>.no c
 | .ok _=>if 100<ops.length then .no 2 else match allC 0 t ops with
   | .bad i c=>.bad i c
   | .ok u=>.ok u
def zI:Value:=.agg #[.string ⟨#[]⟩,.string ⟨#[]⟩,.slice none 0 0,.slice none 0 0]
def qV(w:World)(p:Nat→Addr)(r:POut)(e:Ending)(w':World):Prop:=Below w.heap.size w w'∧match r with
 | .no c=>∃k,c=k+1∧k<11∧e=.returned (.tuple #[zI,fD (p k)])
 | .bad i c=>∃k g,c=k+1∧k<11∧e=.returned (.tuple #[zI,.iface 52 (.pointer (some ⟨g,0,none⟩))])∧w'.heap[g]?=some (.cells #[.int .i64 i,fD (p k)] 54 (0,0))∧w.heap.size≤g
 | .ok u=>∃v' S,e=.returned (.tuple #[.agg #[v' 0,v' 1,v' 2,v' 3],.nilIface])∧Own w' w.heap.size v' u S
theorem eR{t:It}{ops:List OpW}{c:Nat}(h:vIt 0 0 [] t=.bad c):applyC t ops=.no c:=by unfold applyC;rw[h]
theorem dM{t:It}{ops:List OpW}{m:Nat}(h:vIt 0 0 [] t=.ok m)(hn:100<ops.length):applyC t ops=.no 2:=by
 unfold applyC;rw[h];exact if_pos hn
theorem UN{t:It}{ops:List OpW}{m i c:Nat}(h:vIt 0 0 [] t=.ok m)(hn:¬100<ops.length)(ha:allC 0 t ops=.bad i c):applyC t ops=.bad i c:=by
 unfold applyC;rw[h];simp only[if_neg hn,ha]
theorem VN{t u:It}{ops:List OpW}{m:Nat}(h:vIt 0 0 [] t=.ok m)(hn:¬100<ops.length)(ha:allC 0 t ops=.ok u):applyC t ops=.ok u:=by
 unfold applyC;rw[h];simp only[if_neg hn,ha]
theorem fA{P:Program}{fn:Func}{p q:Tmp}{ty:TypeId}(h:fn.results=#[.cell p ty,.tmp q])(tmps:Array Value)(w:World)(g:Nat)(t:TypeId)(cs:Array Value)(fr:Nat×Nat)(d:TypeDesc)(u:Value)
 (hp:tmps.getD p undef=.pointer (some ⟨g,0,none⟩)) (hq:tmps.getD q undef=u) (hg:w.heap[g]?=some (.cells cs t fr))
 (hu:P.underlying ty=some d) (hd:(match d with| .struct _| .array _ _=>true|_=>false)=true) (hi:(P.info? ty).map (·.size)=some cs.size):
 (results fn tmps).run P w=.ok (.tuple #[.agg cs,u]) w:=by
 have hp':tmps[p]?.getD undef=.pointer (some ⟨g,0,none⟩):=by simpa using hp
 have hq':tmps[q]?.getD undef=u:=by simpa using hq
 simp[results,h,hp',hq',asAddr,run_loadVar_row w g t ty cs fr d hg hu hd hi]
theorem eM{w:World}{N:Nat}{ex:Prop}{t:It}{v:Nat→Value}(hv:SrcT w N ex v t)(hN:N≤w.heap.size)(hz:EB t≤400000)(hx:ex∨EB t≤600)(hF:FewIt t){ops:List OpW}{oa:Option Addr}{oc:Nat}(ho:EI w N oa ops)(hn:ops.length≤1000){p:Nat→Addr}{m:Int}(hE:Env w p m):
 Calls Tryz.prog 9 #[.agg #[v 0,v 1,v 2,v 3],.slice oa ops.length oc] w (qV w p (applyC t ops)):=by
 have R1:=fun c=>eR (t:=t) (ops:=ops) (c:=c)
 have R2:=fun m=>dM (t:=t) (ops:=ops) (m:=m)
 have R3:=fun m i c=>UN (t:=t) (ops:=ops) (m:=m) (i:=i) (c:=c)
 have R4:=fun u m=>VN (t:=t) (u:=u) (ops:=ops) (m:=m)
 generalize applyC t ops=r at *
 obtain⟨f0,f1,la,lc,f2,_⟩:=hv.texts
 obtain⟨ka,kc,K,hfk⟩:=hv.fk
 have f3:=hfk.is
 have hv4:#[v 0,v 1,v 2,v 3]=#[.string t.label,.string t.head,.slice la t.lines.length lc,.slice ka t.kids.length kc]:=by rw[f0,f1,f2,f3]
 obtain⟨W2,hW2⟩:∃W2,W2=(w.alloc (.cells #[.string t.label,.string t.head,.slice la t.lines.length lc,.slice ka t.kids.length kc] rA)).alloc (.cells #[.string ⟨#[]⟩,.string ⟨#[]⟩,.slice none 0 0,.slice none 0 0] rA):=⟨_,rfl⟩
 have hs2:W2.heap.size=w.heap.size+2:=by rw[hW2];simp
 have hb2:Below w.heap.size w W2:=by rw[hW2];exact(bA _ _).alloc (by simp) _
 have hg0:W2.heap[w.heap.size]?=some (.cells #[.string t.label,.string t.head,.slice la t.lines.length lc,.slice ka t.kids.length kc] rA (0,0)):=by
  rw[hW2,Below.heap_alloc _ _ _ (by simp)]
  exact heap_alloc_new _ _
 have hg1:W2.heap[w.heap.size+1]?=some (.cells #[.string ⟨#[]⟩,.string ⟨#[]⟩,.slice none 0 0,.slice none 0 0] rA (0,0)):=by
  rw[hW2]
  have:=heap_alloc_new (w.alloc (.cells #[.string t.label,.string t.head,.slice la t.lines.length lc,.slice ka t.kids.length kc] rA)) (.cells #[.string ⟨#[]⟩,.string ⟨#[]⟩,.slice none 0 0,.slice none 0 0] rA)
  rw[show (w.alloc (.cells #[.string t.label,.string t.head,.slice la t.lines.length lc,.slice ka t.kids.length kc] rA)).heap.size=w.heap.size+1 by simp] at this
  exact this
 have hV:=iJ t hF p m W2 (hE.on hb2) _ v ((hv.on fun k hk=>hb2.block k (by omega)).lies)
 have hCp:∀W,Below W2.heap.size W2 W→Calls Tryz.prog 17 #[.agg #[.string t.label,.string t.head,.slice la t.lines.length lc,.slice ka t.kids.length kc]] W fun e w'=>∃v' S,e=.returned (.agg #[v' 0,v' 1,v' 2,v' 3])∧Own w' W.heap.size v' t S∧Below W.heap.size W w':=fun W hW=>by
  rw[←hv4]
  exact fO (hv.on fun q hq=>(hW.block q (by omega)).trans (hb2.block q (by omega))) (by have:=hW.size;omega) hz hx
 rw[f0,f1,f2,f3] at hV
 rw[hv4]
 obtain⟨x0,x1,x2,x3,xf⟩:=gA hg0
 have HX:=aA hW2
 have HB:=aA (aI hb2 (aI hg1 hs2))
 have HV:=aA hV
 have HCp:=aA hCp
 have HEn:=aA (fun w' (hb:Below w.heap.size w w')=>hE.on hb)
 have HOp:=aA ho
 have HG0:=aA hg0
 have hr1:w.heap.size<W2.heap.size:=by omega
 have HR:=aA (aI R1 (aI R2 (aI R3 R4)))
 have HN:=aA hN
 obtain⟨n,hnn⟩:∃n,n=ops.length:=⟨_,rfl⟩
 have HNn:=aA hnn
 rw[←hnn] at hn ⊢
 clear hW2 hb2 hg0 hg1 hs2 hV hCp hfk f0 f1 f2 f3 hv4 hx hz hN hv R1 R2 R3 R4 hE ho hF hnn
 go_enter Tryz.func9,Tryz.ntmps9
 go_upto_region 1 with fail
 rw[←HX.out]
 go_wp2_with fail
 refine HV.out.mono ?_
 rintro e w3 ⟨hvt,hb3⟩
 have HB3:=aA hb3
 clear hb3
 cases hvi:vIt 0 0 [] t with
 |bad c=>
  rw[hvi] at hvt
  obtain⟨k,hcc,hkk,rfl⟩:=hvt
  have HO:=aA (HR.out.1 c hvi)
  have HCC:=aA (aI hcc hkk)
  have q1:=(HB3.out.block (w.heap.size+1) (by have:=HB.out.2.2;omega)).trans HB.out.2.1
  obtain⟨z0,z1,z2,z3,zf⟩:=gA q1
  clear hvi hcc hkk x0 x1 x2 x3 xf
  unfold fD
  go_wp2
  refine bodyPost_ret (v:=.tuple #[zI,fD (p k)]) (fA Tryz.results9 _ _ (w.heap.size+1) rA #[.string ⟨#[]⟩,.string ⟨#[]⟩,.slice none 0 0,.slice none 0 0] (0,0) _ _ rfl rfl (NA q1) Tryz.underlying25 rfl rfl) rfl ?_
  rw[HO.out]
  have hb3:=HB.out.1.trans (HB3.out.mono HB.out.1.size)
  exact⟨⟨hb3.os,hb3.tape,hb3.output,by simpa using hb3.size,fun q hq=>(PA (by omega)).trans (hb3.block q hq)⟩,k,HCC.out.1,HCC.out.2,rfl⟩
 |ok mm=>
  rw[hvi] at hvt
  have hvt:e=_:=hvt
  subst hvt
  by_cases hbig:100<n
  ·have hbz:(100:Int)<(n:Int):=by omega
   have HO:=aA (HR.out.2.1 mm hvi (by have:=HNn.out;omega))
   have q1:=(HB3.out.block (w.heap.size+1) (by have:=HB.out.2.2;omega)).trans HB.out.2.1
   obtain⟨z0,z1,z2,z3,zf⟩:=gA q1
   have hb3:=HB.out.1.trans (HB3.out.mono HB.out.1.size)
   have e1:w3.cell? ⟨0,0,none⟩=some (.iface 214 (.pointer (some (p 1)))):=(HEn.out _ hb3).L.cell 1 (by omega)
   have HBb:=aA hb3
   have hne:¬0=w.heap.size+1:=by have:0<w.heap.size:=dA ((HEn.out _ (Below.refl _ _)).L.cell 1 (by omega));omega
   clear hvi hb3 x0 x1 x2 x3 xf
   go_wp2_with fail
   go_region
   all_goals go_wp2
   all_goals refine bodyPost_ret (v:=.tuple #[zI,fD (p 1)]) (fA Tryz.results9 _ _ (w.heap.size+1) rA #[.string ⟨#[]⟩,.string ⟨#[]⟩,.slice none 0 0,.slice none 0 0] (0,0) _ _ (by rfl) (by rfl) (NA (W:=w3.drew) q1) Tryz.underlying25 rfl rfl) rfl ?_
   all_goals rw[HO.out]
   all_goals refine⟨⟨HBb.out.os,HBb.out.tape,HBb.out.output,by simpa using HBb.out.size,fun q hq=>(PA (W:=w3.drew) (by omega)).trans (HBb.out.block q hq)⟩,1,rfl,by omega,rfl⟩
  ·have hbz:¬(100:Int)<(n:Int):=by omega
   have hnb:¬100<ops.length:=by have:=HNn.out;omega
   have HR3:=aA (fun i c=>HR.out.2.2.1 mm i c hvi hnb)
   have HR4:=aA (fun u=>HR.out.2.2.2 u mm hvi hnb)
   have HLaw:Hid (UC t):=law_iff.2 ⟨mm,hvi⟩
   have z0:=(HB3.out.cell (p:=⟨w.heap.size,0,none⟩) (dA x0)).trans x0
   have z1:=(HB3.out.cell (p:=⟨w.heap.size,1,none⟩) (dA x1)).trans x1
   have z2:=(HB3.out.cell (p:=⟨w.heap.size,2,none⟩) (dA x2)).trans x2
   have z3:=(HB3.out.cell (p:=⟨w.heap.size,3,none⟩) (dA x3)).trans x3
   have HC3:=aA (HCp.out w3 HB3.out)
   clear hvi hnb x0 x1 x2 x3 xf HCp HV HR
   go_wp2_with fail
   refine HC3.out.mono ?_
   rintro e w4 ⟨v',S,rfl,hown,hb4⟩
   obtain⟨g0,g1,⟨la',lc',g2⟩,ka',kc',g3⟩:=hown.lies.forms
   have HG:=aA (aI g0 (aI g1 (aI g2 g3)))
   have HOwn:=aA hown
   have HB4:=aA (HB3.out.trans (hb4.mono HB3.out.size))
   rw[g0,g1,g2,g3]
   clear z0 z1 z2 z3 hown hb4 g0 g1 g2 g3 HC3
   obtain⟨W5,hW5⟩:∃W5,W5=w4.alloc (.cells #[.string t.label,.string t.head,.slice la' t.lines.length lc',.slice ka' t.kids.length kc'] rA):=⟨_,rfl⟩
   have HW5:=aA hW5
   clear hW5
   go_upto_region 7 with fail
   rw[←HW5.out]
   have hb5:Below w4.heap.size w4 W5:=by rw[HW5.out];exact bA _ _
   have hat:ItAt W5 W2.heap.size w4.heap.size 0 t S v':=by
    refine⟨⟨_,rA,by rw[HW5.out];exact heap_alloc_new _ _,fun c hc=>?_⟩,((HOwn.out.base (by have:=HB3.out.size;omega)).step (fun g hg=>hb5.block g (HOwn.out.in g hg).2) hb5.size),fun e=>by have:=HOwn.out.in _ e;omega⟩
    match c,hc with
    |0,_=>rw[HG.out.1];rfl
    |1,_=>rw[HG.out.2.1];rfl
    |2,_=>rw[HG.out.2.2.1];rfl
    |3,_=>rw[HG.out.2.2.2];rfl
   have hbL:W2.heap.size≤w4.heap.size:=HB4.out.size
   have HAt:=aA hat
   have HB5:=aA (HB4.out.trans (hb5.mono hbL))
   clear hat hb5 HG HOwn HW5 HB4 HG0 HX
   generalize w4.heap.size=bL at *
   go_wp2_with fail
   go_loopw [26] (fun t' wr=>∃(j:Nat) (u:It) (S':Nat→Prop) (vv:Nat→Value),j≤n∧t'=.int .i64 j∧Below W2.heap.size W2 wr∧ItAt wr W2.heap.size bL 0 u S' vv∧UC u∧allC 0 t ops=allC j u (ops.drop j)) (fun t' _=>(n - RowKit.intOf t').toNat)
   case atStart=>exact⟨0,t,S,v',by omega,rfl,HB5.out,HAt.out,HLaw.out,rfl⟩
   case round=>
    obtain⟨j,u,S',vv,hj,rfl,hb,hat,hlw,hall⟩:=hrel
    have HB6:=aA hb
    have HAt6:=aA hat
    have HL6:=aA hlw
    have HAll:=aA hall
    clear hb hat hlw hall
    by_cases hjn:j<n
    ·have hjz:(j:Int)<n:=by omega
     obtain⟨op,hop⟩:∃op,ops[j]?=some op:=⟨_,List.getElem?_eq_getElem (by have:=HNn.out;omega)⟩
     obtain⟨ob,oo,iv,rfl,hbN,hcs,hsr,hw6,hfi,hok⟩:=HOp.out j op hop
     obtain⟨f0,f1,⟨ila,ilc,f2⟩,ika,ikc,f3⟩:=hsr.lies.forms
     have hbw6:Below w.heap.size w wr:=HB.out.1.trans (HB6.out.mono HB.out.1.size)
     have hcw:∀c u,(FB op iv)[c]?=some u→wr.cell? ⟨ob,oo+j * 10+c,none⟩=some u:=fun c u hu=>(World.cell?_of_block (a:=⟨ob,oo+j * 10+c,none⟩) (hbw6.block ob (by have:=HN.out;omega))).trans (hcs c u hu)
     unfold FB at hcw
     rw[f0,f1,f2,f3] at hcw
     have y0:=hcw 0 _ rfl
     have y1:=hcw 1 _ rfl
     have y2:=hcw 2 _ rfl
     have y3:=hcw 3 _ rfl
     have y4:=hcw 4 _ rfl
     have y5:=hcw 5 _ rfl
     have y6:=hcw 6 _ rfl
     have y7:=hcw 7 _ rfl
     have y8:=hcw 8 _ rfl
     have y9:=hcw 9 _ rfl
     rw[Nat.add_zero] at y0
     have hB2:W2.heap.size≤wr.heap.size:=HB6.out.size
     obtain⟨Wq,hWq⟩:∃Wq,Wq=wr.alloc (.cells (FB op iv) 46):=⟨_,rfl⟩
     have hbq:Below wr.heap.size wr Wq:=by rw[hWq];exact bA _ _
     have hq1:Wq.heap[wr.heap.size]?=some (.cells (FB op iv) 46 (0,0)):=by rw[hWq];exact heap_alloc_new _ _
     have hbwq:Below W2.heap.size W2 Wq:=HB6.out.trans (hbq.mono hB2)
     have hsq:SrcT Wq W2.heap.size False iv op.item:=(hsr.on fun k hk=>((hbw6.trans (hbq.mono hbw6.size)).block k (by have:=HN.out;omega))).mono (by have:=HB.out.2.2;have:=HN.out;omega)
     have hch:=bO (HAt6.out.on hbq) HL6.out (Nat.le_trans hB2 hbq.size) hbL (p:=p) (m:=m) (fun w' hw'=>HEn.out w' (HB.out.1.trans ((hbwq.trans hw').mono HB.out.1.size))) op hok iv hsq (by omega) (.inr hw6) hfi
     unfold FB at hch hWq hq1
     rw[f0,f1,f2,f3] at hch hWq hq1
     have HWq:=aA hWq
     have HQ:=aA (aI hbq (aI hbwq hq1))
     have HCh:=aA hch
     have HOpj:=aA hop
     clear hop hbN hcs hsr hw6 hfi hok f0 f1 f2 f3 hbw6 hcw hWq hbq hq1 hbwq hsq hch
     generalize hkd:op.kind=kd at *
     generalize hpt:op.path=opt at *
     generalize hat9:op.at'=oat at *
     generalize htx:op.text=otx at *
     generalize hnw:op.new=onw at *
     generalize hli:op.line=oli at *
     generalize hil:op.item.label=oil at *
     generalize hih:op.item.head=oih at *
     generalize hiln:op.item.lines.length=oiln at *
     generalize hikn:op.item.kids.length=oikn at *
     clear hkd hpt hat9 htx hnw hli hil hih hiln hikn
     go_upto_region 10 with fail
     rw[←HWq.out]
     obtain⟨x0,x1,x2,x3,x4,x5,x6,x7,x8,x9⟩:=yB HQ.out.2.2
     clear y0 y1 y2 y3 y4 y5 y6 y7 y8 y9
     go_wp2_with fail
     refine HCh.out.mono ?_
     rintro e w7 hch
     clear x0 x1 x2 x3 x4 x5 x6 x7 x8 x9
     have hdrop:ops.drop j=op::ops.drop (j+1):=by
      obtain⟨h1,h2⟩:=List.getElem?_eq_some_iff.1 HOpj.out
      rw[←h2]
      exact List.drop_eq_getElem_cons h1
     cases hone:oneC u op with
     |bad c=>
      rw[hone] at hch
      obtain⟨hc0,heo,hb7⟩:=hch
      unfold EO at heo
      rw[if_neg hc0] at heo
      obtain⟨k,hck,hk11,rfl⟩:=heo
      have HO:=aA (HR3.out j c (by rw[HAll.out,hdrop,allC,hone]))
      have HCK:=aA (aI hck hk11)
      have hbq7:Below W2.heap.size W2 w7:=HQ.out.2.1.trans hb7
      have q1:=(hbq7.block (w.heap.size+1) (by have:=HB.out.2.2;omega)).trans HB.out.2.1
      obtain⟨z0,z1,z2,z3,zf⟩:=gA q1
      have HB7:=aA hbq7
      have hlt7:w.heap.size+1<w7.heap.size:=(Array.getElem?_eq_some_iff.1 q1).1
      have hne7:¬w.heap.size+1=w7.heap.size:=by omega
      have HQ1:=aA q1
      clear hone hck hk11 hc0 hb7 hbq7 hdrop q1 HR4 HCh HWq HAll
      unfold fD
      go_wp2
      have h4s:∀q,q≠w.heap.size+1→((((w7.setCell ⟨w.heap.size+1,0,none⟩ (.string ⟨#[]⟩)).setCell ⟨w.heap.size+1,1,none⟩ (.string ⟨#[]⟩)).setCell ⟨w.heap.size+1,2,none⟩ (.slice none 0 0)).setCell ⟨w.heap.size+1,3,none⟩ (.slice none 0 0)).heap[q]?=w7.heap[q]?:=fun q hq=>PA hq
      have hsz:((((w7.setCell ⟨w.heap.size+1,0,none⟩ (.string ⟨#[]⟩)).setCell ⟨w.heap.size+1,1,none⟩ (.string ⟨#[]⟩)).setCell ⟨w.heap.size+1,2,none⟩ (.slice none 0 0)).setCell ⟨w.heap.size+1,3,none⟩ (.slice none 0 0)).heap.size=w7.heap.size:=by simp
      have h4c:=NA (W:=w7) (u0:=.string ⟨#[]⟩) (u1:=.string ⟨#[]⟩) (u2:=.slice none 0 0) (u3:=.slice none 0 0) HQ1.out
      refine bodyPost_ret (v:=.tuple #[zI,.iface 52 (.pointer (some ⟨w7.heap.size,0,none⟩))]) (fA Tryz.results9 _ _ (w.heap.size+1) rA #[.string ⟨#[]⟩,.string ⟨#[]⟩,.slice none 0 0,.slice none 0 0] (0,0) _ _ rfl rfl ((Below.heap_alloc _ _ _ (by rw[hsz];omega)).trans h4c) Tryz.underlying25 rfl rfl) rfl ?_
      rw[HO.out]
      have hb8:=HB.out.1.trans (HB7.out.mono HB.out.1.size)
      refine⟨⟨hb8.os,hb8.tape,hb8.output,by have:=hb8.size;simp;omega,fun q hq=>?_⟩,k,w7.heap.size,HCK.out.1,HCK.out.2,rfl,?_,by omega⟩
      ·rw[Below.heap_alloc _ _ _ (by rw[hsz];omega),h4s q (by omega)]
       exact hb8.block q hq
      ·have:=heap_alloc_new ((((w7.setCell ⟨w.heap.size+1,0,none⟩ (.string ⟨#[]⟩)).setCell ⟨w.heap.size+1,1,none⟩ (.string ⟨#[]⟩)).setCell ⟨w.heap.size+1,2,none⟩ (.slice none 0 0)).setCell ⟨w.heap.size+1,3,none⟩ (.slice none 0 0)) (.cells #[.int .i64 j,fD (p k)] 54)
       rw[hsz] at this
       exact this
     |ok u2=>
      rw[hone] at hch
      obtain⟨rfl,S7,v7,hat7,hS7,hu7⟩:=hch
      have HA7:=aA (aI hat7 (gH HL6.out hone))
      have HAll7:Hid (allC 0 t ops=allC (j+1) u2 (ops.drop (j+1))):=by
       show _=_
       rw[HAll.out,hdrop,allC,hone]
      have hb7:Below W2.heap.size W2 w7:=HQ.out.2.1.trans (hu7.below hbL (fun q hq=>(HAt6.out.own.in q hq).1) (Nat.le_trans hB2 HQ.out.1.size))
      have HB7:=aA hb7
      clear hone hdrop hat7 hS7 hu7 hb7 HCh HWq HAll
      go_wp2
      go_roundw
      case rel=>exact⟨j+1,u2,S7,v7,by omega,by go_num,HB7.out,HA7.out.1,HA7.out.2,HAll7.out⟩
      case measure=>simp[RowKit.intOf];omega
    ·obtain rfl:j=n:=by omega
     have hall2:allC 0 t ops=.ok u:=by
      rw[HAll.out,HNn.out,List.drop_length,allC]
     have HO:=aA (HR4.out u hall2)
     obtain⟨g0,g1,⟨ua,uc,g2⟩,uka,ukc,g3⟩:=HAt6.out.own.lies.forms
     have y0:=HAt6.out.cell (c:=0) (by omega)
     have y1:=HAt6.out.cell (c:=1) (by omega)
     have y2:=HAt6.out.cell (c:=2) (by omega)
     have y3:=HAt6.out.cell (c:=3) (by omega)
     rw[g0] at y0
     rw[g1] at y1
     rw[g2] at y2
     rw[g3] at y3
     have q1:=(HB6.out.block (w.heap.size+1) (by have:=HB.out.2.2;omega)).trans HB.out.2.1
     obtain⟨z0,z1,z2,z3,zf⟩:=gA q1
     have HQ1:=aA q1
     have HG:=aA (aI g0 (aI g1 (aI g2 g3)))
     have hs2:=HB.out.2.2
     clear hall2 g0 g1 g2 g3 q1 HR3 HAll
     go_wp2
     refine bodyPost_ret (v:=.tuple #[.agg #[.string u.label,.string u.head,.slice ua u.lines.length uc,.slice uka u.kids.length ukc],.nilIface]) (fA Tryz.results9 _ _ (w.heap.size+1) rA #[.string u.label,.string u.head,.slice ua u.lines.length uc,.slice uka u.kids.length ukc] (0,0) _ _ rfl rfl (NA HQ1.out) Tryz.underlying25 rfl rfl) rfl ?_
     rw[HO.out]
     have hb8:=HB.out.1.trans (HB6.out.mono HB.out.1.size)
     refine⟨⟨hb8.os,hb8.tape,hb8.output,by simpa using hb8.size,fun q hq=>(PA (by omega)).trans (hb8.block q hq)⟩,vv,S',by rw[HG.out.1,HG.out.2.1,HG.out.2.2.1,HG.out.2.2.2],?_⟩
     exact((HAt6.out.own.base (by omega)).step (fun q hq=>PA (by have:=(HAt6.out.own.in q hq).1;omega)) (by simp))
theorem YF:∀(N:Nat) (t:It),jA t≤N→∀d,YA d t≤400→EB t≤YA d t
 |0,t,h,d,_=>by have:=uA t;omega
 |N+1,t,h,d,hs=>by
  rw[TC] at hs ⊢
  split at hs
  ·omega
  ·rename_i hd
   rw[if_neg hd]
   have hk:∀(l:List It) (n:Nat),(∀k∈l,jA k<jA t)→QA d n l≤400→n+JB l≤QA d n l:=by
    intro l
    induction l with
    |nil=>intro n _ _;rw[QA,JB];omega
    |cons k r ih=>
     intro n hkk hn
     rw[QA] at hn ⊢
     split at hn
     ·rename_i h1
      rw[if_pos h1]
      have h3:=hkk k (by simp)
      have h5:=ih _ (fun x hx=>hkk x (List.mem_cons_of_mem _ hx)) hn
      have h4:=YF N k (by omega) (d+1) (by omega)
      rw[JB]
      omega
     ·omega
   have:=hk t.kids _ (fun k hk=>rB hk) hs
   rw[ZB]
   omega
inductive RawT(w:World)(N:Nat):(Nat→Value)→It→Prop
 |mk (v:Nat→Value) (t:It) (la ka:Option Addr) (lc kc:Nat) (V:Nat→Nat→Value)
  (h0:v 0=.string t.label) (h1:v 1=.string t.head) (h2:v 2=.slice la t.lines.length lc) (h3:v 3=.slice ka t.kids.length kc)
  (hl:∀i s,t.lines[i]?=some s→∃b o,la=some ⟨b,o,none⟩∧b<N∧w.cell? ⟨b,o+i,none⟩=some (.string s))
  (hk:∀i,i<t.kids.length→∃b o,ka=some ⟨b,o,none⟩∧b<N∧UnF w ⟨b,o+i * 4,none⟩∧∀c,c<4→w.cell? ⟨b,o+i * 4+c,none⟩=some (V i c))
  (hr:∀i k,t.kids[i]?=some k→RawT w N (V i) k) (cl:la=none→lc=0) (ck:ka=none→kc=0) (hlc:t.lines.length≤lc) (hkc:t.kids.length≤kc):RawT w N v t
theorem RawT.on{w w':World}{N:Nat}{v:Nat→Value}{t:It}(h:RawT w N v t)(hb:∀k,k<N→w'.heap[k]?=w.heap[k]?):RawT w' N v t:=by
 induction h with
 |mk v t la ka lc kc V h0 h1 h2 h3 hl hk hr cl ck hlc hkc ih=>
  refine .mk v t la ka lc kc V h0 h1 h2 h3 (fun i s hs=>?_) (fun i hi=>?_) ih cl ck hlc hkc
  ·obtain⟨b,o,e,hN,hc⟩:=hl i s hs
   exact⟨b,o,e,hN,(World.cell?_of_block (a:=⟨b,o+i,none⟩) (hb b hN)).trans hc⟩
  ·obtain⟨b,o,e,hN,hu,hc⟩:=hk i hi
   exact⟨b,o,e,hN,hu.on (hb b hN),fun c hc'=>(World.cell?_of_block (a:=⟨b,o+i * 4+c,none⟩) (hb b hN)).trans (hc c hc')⟩
theorem RawT.mono{w:World}{N N':Nat}{v:Nat→Value}{t:It}(h:RawT w N v t)(hN:N≤N'):RawT w N' v t:=by
 induction h with
 |mk v t la ka lc kc V h0 h1 h2 h3 hl hk hr cl ck hlc hkc ih=>
  refine .mk v t la ka lc kc V h0 h1 h2 h3 (fun i s hs=>?_) (fun i hi=>?_) ih cl ck hlc hkc
  ·obtain⟨b,o,e,hb,hc⟩:=hl i s hs
   exact⟨b,o,e,Nat.lt_of_lt_of_le hb hN,hc⟩
  ·obtain⟨b,o,e,hb,hu,hc⟩:=hk i hi
   exact⟨b,o,e,Nat.lt_of_lt_of_le hb hN,hu,hc⟩
theorem RawT.lies{w:World}{N:Nat}{v:Nat→Value}{t:It}(h:RawT w N v t):Lies w (· <N) v t:=by
 induction h with
 |mk v t la ka lc kc V h0 h1 h2 h3 hl hk hr cl ck hlc hkc ih=>
  exact .mk v t la ka lc kc V h0 h1 h2 h3 hl (fun i hi=>by obtain⟨b,o,e,hN,_,hc⟩:=hk i hi;exact⟨b,o,e,hN,hc⟩) ih hlc hkc
theorem RawT.src{w:World}{N:Nat}{v:Nat→Value}{t:It}(h:RawT w N v t):FewIt t→SrcT w N False v t:=by
 induction h with
 |mk v t la ka lc kc V h0 h1 h2 h3 hl hk hr cl ck hlc hkc ih=>
  intro hF
  obtain⟨b1,b2,_,_,_,b6⟩:=hF.get
  exact .mk v t la ka lc kc V h0 h1 h2 h3 hl (fun i hi=>by obtain⟨b,o,e,hN,hu,hc⟩:=hk i hi;exact⟨b,o,e,hN,hu,fun h=>h.elim,hc⟩) (fun i k e=>ih i k e (b6 k (List.mem_of_getElem? e))) cl ck (by omega) (by omega) hlc hkc
def OpsRaw(w:World)(N:Nat)(oa:Option Addr)(ops:List OpW):Prop:=∀i op,ops[i]?=some op→∃b o iv,oa=some ⟨b,o,none⟩∧b<N∧(∀c u,(FB op iv)[c]?=some u→w.cell? ⟨b,o+i * 10+c,none⟩=some u)∧RawT w N iv op.item∧jA op.item≤1048576∧op.path.size≤1048576∧op.text.size≤1048576∧op.new.size≤1048576∧op.at'.size≤1048576∧-9223372036854775808≤op.line∧op.line≤9223372036854775807
theorem OpsRaw.on{w w':World}{N:Nat}{oa:Option Addr}{ops:List OpW}(h:OpsRaw w N oa ops)(hb:∀k,k<N→w'.heap[k]?=w.heap[k]?):OpsRaw w' N oa ops:=fun i op hi=>by
 obtain⟨b,o,iv,e,hN,hc,hs,h1⟩:=h i op hi
 exact⟨b,o,iv,e,hN,fun c u hu=>(World.cell?_of_block (a:=⟨b,o+i * 10+c,none⟩) (hb b hN)).trans (hc c u hu),hs.on hb,h1⟩
def eF:List OpW→Nat
 | []=>0
 |o::r=>o.path.size+o.text.size+o.new.size+o.at'.size+eF r
theorem iL:∀(a b:List OpW),eF (a++b)=eF a+eF b
 | [],b=>by rw[List.nil_append,eF];omega
 |o::r,b=>by rw[List.cons_append,eF,eF,iL r b];omega
theorem jL:∀(l:List OpW) (o:OpW),o∈l→o.path.size+o.text.size+o.new.size+o.at'.size≤eF l
 |a::r,o,h=>by
  rw[eF]
  rcases List.mem_cons.1 h with rfl|h
  ·omega
  ·have:=jL r o h;omega
structure FewO(ops:List OpW):Prop where
 len:ops.length≤102
 sum:eF ops≤6000
 it:∀o∈ops,YA 0 o.item≤400
theorem FewO.ops{w:World}{N:Nat}{oa:Option Addr}{ops:List OpW}(h:FewO ops)(ho:OpsRaw w N oa ops):EI w N oa ops:=fun i op hi=>by
 obtain⟨b,o,iv,e,hN,hc,hs,h1,h2,h3,h4,h5,h6⟩:=ho i op hi
 have hm:=List.mem_of_getElem? hi
 have hsm:=h.it op hm
 have hsu:=jL ops op hm
 have:=h.sum
 have hw:=YF _ op.item (nR _) 0 hsm
 have hfi:=tH _ op.item (nR _) 0 hsm
 exact⟨b,o,iv,e,hN,hc,hs.src hfi,by omega,hfi,⟨by omega,by omega,by omega,by omega,h6⟩⟩
def rV(w:World)(ops:List OpW)(e:Ending)(w':World):Prop:=(∃r:Bool,e=.returned (.bool r)∧(r=true→FewO ops))∧Below w.heap.size w w'
theorem oO{w:World}{oa:Option Addr}{oc:Nat}{ops:List OpW}(ho:OpsRaw w w.heap.size oa ops)(hn:ops.length≤1048576):
 Calls Tryz.prog 8 #[.slice oa ops.length oc] w (rV w ops):=by
 have HO:=aA ho
 obtain⟨n,hnn⟩:∃n,n=ops.length:=⟨_,rfl⟩
 have HN:=aA hnn
 rw[←hnn] at hn ⊢
 clear ho hnn
 go_enter Tryz.func8,Tryz.ntmps8
 go_wp2_with fail
 go_loopw [3,4] (fun t3 t4 wr=>∃(j m:Nat),j≤n∧t4=.int .i64 j∧t3=.int .i64 m∧m=eF (ops.take j)∧m≤j * 4194304∧(∀o∈ops.take j,YA 0 o.item≤400)∧Below w.heap.size w wr) (fun _ t4 _=>(n - RowKit.intOf t4).toNat)
 case atStart=>exact⟨0,0,by omega,rfl,rfl,rfl,by omega,by simp,Below.refl _ _⟩
 case round=>
  obtain⟨j,m,hj,rfl,rfl,hm,hmb,hal,hb⟩:=hrel
  have HB:=aA hb
  have HM:=aA (aI hm hal)
  clear hm hal hb
  by_cases hjn:j<n
  ·have hjz:(j:Int)<n:=by omega
   obtain⟨op,hop⟩:∃op,ops[j]?=some op:=⟨_,List.getElem?_eq_getElem (by have:=HN.out;omega)⟩
   obtain⟨ob,oo,iv,rfl,hbN,hcs,hsr,h1,h2,h3,h4,h5,h6⟩:=HO.out j op hop
   obtain⟨f0,f1,⟨ila,ilc,f2⟩,ika,ikc,f3⟩:=hsr.lies.forms
   have hcw:∀c u,(FB op iv)[c]?=some u→wr.cell? ⟨ob,oo+j * 10+c,none⟩=some u:=fun c u hu=>(World.cell?_of_block (a:=⟨ob,oo+j * 10+c,none⟩) (HB.out.block ob hbN)).trans (hcs c u hu)
   have hfw:=nM op.item (by omega) iv wr _ ((hsr.on fun k hk=>HB.out.block k hk).lies)
   unfold FB at hcw
   rw[f0,f1,f2,f3] at hcw hfw
   have y1:=hcw 1 _ rfl
   have y2:=hcw 2 _ rfl
   have y3:=hcw 3 _ rfl
   have y4:=hcw 4 _ rfl
   have y6:=hcw 6 _ rfl
   have y7:=hcw 7 _ rfl
   have y8:=hcw 8 _ rfl
   have y9:=hcw 9 _ rfl
   have HFw:=aA hfw
   have HY:=aA (aI y1 (aI y2 (aI y3 y4)))
   have HOpj:=aA hop
   have hpz:eF (ops.take (j+1))=eF (ops.take j)+(op.path.size+op.text.size+op.new.size+op.at'.size):=by
    obtain⟨hl,e⟩:=List.getElem?_eq_some_iff.1 hop
    rw[List.take_succ_eq_append_getElem hl,e,iL,eF,eF];omega
   have HPz:=aA hpz
   have HTk:Hid (ops.take (j+1)=ops.take j++[op]):=by
    obtain⟨hl,e⟩:=List.getElem?_eq_some_iff.1 hop
    show _=_
    rw[List.take_succ_eq_append_getElem hl,e]
   clear hfw hcs hsr hcw f0 f1 f2 f3 hop h1 h6 y1 y2 y3 y4 hpz
   obtain⟨sn,hsn⟩:∃sn,sn=YA 0 op.item:=⟨_,rfl⟩
   have HSn:=aA hsn
   rw[←hsn] at HFw
   clear hsn
   generalize op.path=opt at *
   generalize op.at'=oat at *
   generalize op.text=otx at *
   generalize op.new=onw at *
   generalize op.item.label=oil at *
   generalize op.item.head=oih at *
   generalize op.item.lines.length=oiln at *
   generalize op.item.kids.length=oikn at *
   go_wp2_with fail
   go_at_call 7
   refine HFw.out.mono ?_
   rintro e w2 ⟨rfl,hb2⟩
   have c4:∀q c u,wr.cell? ⟨q,c,none⟩=some u→w2.cell? ⟨q,c,none⟩=some u:=fun q c u hc=>(hb2.cell (p:=⟨q,c,none⟩) (dA hc)).trans hc
   have z1:=c4 _ _ _ HY.out.1
   have z2:=c4 _ _ _ HY.out.2.1
   have z3:=c4 _ _ _ HY.out.2.2.1
   have z4:=c4 _ _ _ HY.out.2.2.2
   have HB2:=aA (HB.out.trans (hb2.mono HB.out.size))
   clear c4 y6 y7 y8 y9 hb2 HFw
   have p1:IntKind.i64.wrap ((m:Int)+(opt.size:Int))=(m:Int)+(opt.size:Int):=by rw[IntKind.wrap_i64];omega
   have p2:IntKind.i64.wrap ((m:Int)+(opt.size:Int)+(otx.size:Int))=(m:Int)+(opt.size:Int)+(otx.size:Int):=by rw[IntKind.wrap_i64];omega
   have p3:IntKind.i64.wrap ((m:Int)+(opt.size:Int)+(otx.size:Int)+(onw.size:Int))=(m:Int)+(opt.size:Int)+(otx.size:Int)+(onw.size:Int):=by rw[IntKind.wrap_i64];omega
   have p4:IntKind.i64.wrap ((m:Int)+(opt.size:Int)+(otx.size:Int)+(onw.size:Int)+(oat.size:Int))=(m:Int)+(opt.size:Int)+(otx.size:Int)+(onw.size:Int)+(oat.size:Int):=by rw[IntKind.wrap_i64];omega
   go_upto_region 6 with fail
   go_quiet (fail)
   clear z1 z2 z3 z4 p1 p2 p3 p4 HY
   by_cases hsm:sn≤400
   ·rw[decide_eq_true hsm]
    go_wp2
    go_roundw
    case rel=>
     refine⟨j+1,m+(opt.size+otx.size+onw.size+oat.size),by omega,by go_num,?_,?_,by omega,?_,FA HB2.out _⟩
     ·first|rfl|(congr 1;omega)
     ·rw[HPz.out,←HM.out.1]
     ·rw[HTk.out]
      intro o ho
      rcases List.mem_append.1 ho with h9|h9
      ·exact HM.out.2 o h9
      ·rw[List.mem_singleton] at h9
       rw[h9,←HSn.out];exact hsm
    case measure=>simp[RowKit.intOf];omega
   ·rw[decide_eq_false hsm]
    go_wp2
    go_ret
    exact⟨⟨false,rfl,fun h=>by cases h⟩,FA HB2.out _⟩
  ·obtain rfl:j=n:=by omega
   have htk:ops.take j=ops:=by rw[HN.out];exact List.take_length
   by_cases h102:j≤102
   ·have h1z:(j:Int)≤102:=by omega
    by_cases h6:m≤6000
    ·have h6z:(m:Int)≤6000:=by omega
     go_wp2
     go_ret
     refine⟨⟨true,rfl,fun _=>⟨by have:=HN.out;omega,?_,?_⟩⟩,HB.out⟩
     ·have:=HM.out.1;rw[htk] at this;omega
     ·have:=HM.out.2;rw[htk] at this;exact this
    ·have h6z:¬(m:Int)≤6000:=by omega
     go_wp2
     go_ret
     exact⟨⟨false,rfl,fun h=>by cases h⟩,HB.out⟩
   ·have h1z:¬(j:Int)≤102:=by omega
    go_wp2
    go_ret
    exact⟨⟨false,rfl,fun h=>by cases h⟩,HB.out⟩
def lvIt:It:=.mk ⟨#[]⟩ ⟨#[97]⟩ [] []
def lvOp:OpW:=⟨1,⟨#[]⟩,⟨#[]⟩,⟨#[98]⟩,⟨#[]⟩,0,.mk ⟨#[]⟩ ⟨#[]⟩ [] []⟩
def gT(s:ByteArray):Nat→Value
 |0=>.string ⟨#[]⟩
 |1=>.string s
 |_=>.slice none 0 0
theorem MO(w:World)(N:Nat)(s:ByteArray):SrcT w N False (gT s) (.mk ⟨#[]⟩ s [] []):=
 .mk _ _ none none 0 0 (fun _ _=>.nilIface) rfl rfl rfl rfl (fun i s h=>by cases h) (fun i h=>absurd h (Nat.not_lt_zero _)) (fun i k h=>by cases h) (fun _=>rfl) (fun _=>rfl) (by simp[It.lines]) (by simp[It.kids]) (by simp[It.lines]) (by simp[It.kids])
theorem NL(s:ByteArray)(h:s.size≤1):FewIt (.mk ⟨#[]⟩ s [] []):=.mk _ (by simp[It.lines]) (by simp[It.kids]) (fun s h=>by cases h) (by simp[It.head];omega) (by show (0:Nat)≤_;omega) (fun k h=>by cases h)
theorem sM(n:UInt8)(h:n=97∨n=98):lineB ⟨#[n]⟩=true:=by
 unfold lineB
 rw[Bool.and_eq_true,Bool.and_eq_true]
 refine⟨⟨decide_eq_true (by show (1:Nat)≤300;omega),?_⟩,?_⟩
 ·unfold plainB
  refine(@decide_eq_true_iff _ (Classical.propDecidable _)).2 fun i hi _ _=>?_
  have hi':i<1:=hi
  obtain rfl:i=0:=by omega
  show pI n.toNat=true
  rcases h with rfl|rfl<;>decide
 ·refine(wE _).2 ⟨fun b hb=>?_,fun b hb=>?_⟩
  ·have hb:some n=some b:=hb
   injection hb with hb
   subst hb
   rcases h with rfl|rfl<;>decide
  ·have hb:some n=some b:=hb
   injection hb with hb
   subst hb
   rcases h with rfl|rfl<;>decide
theorem rQ(n:UInt8)(h:n=97∨n=98):RD ⟨#[n]⟩:=⟨by show (1:Nat)≤300;omega,sM n h⟩
theorem bS:UC lvIt:=by
 refine⟨.mk 0 lvIt ?_ List.Pairwise.nil (fun k hk=>by cases hk),by show WA lvIt≤300;unfold lvIt;rw[WA];decide⟩
 obtain⟨h1,h2⟩:=texts_iff.2 (show lvIt.lines.length≤40∧RD lvIt.head∧∀s,s∈lvIt.lines→RD s from⟨by show (0:Nat)≤40;omega,rQ 97 (.inl rfl),fun s hs=>by cases hs⟩)
 exact⟨by omega,h1,by rw[if_pos rfl];rfl,h2⟩
theorem aS:allC 0 lvIt [lvOp]=.ok (.mk ⟨#[]⟩ ⟨#[98]⟩ [] []):=by
 have h1:oneC lvIt lvOp=.ok (.mk ⟨#[]⟩ ⟨#[98]⟩ [] []):=by
  have hp:cA lvOp.path=[]:=by unfold cA lvOp;rfl
  rw[JK (x:=lvIt) ⟨by decide,by decide⟩ (by rw[hp,eA])]
  have hc:chkB lvOp.text=0:=by
   have hl:=sM 98 (.inr rfl)
   unfold chkB
   rw[if_neg (by show ¬(300:Nat)<1;omega)]
   exact if_pos hl
  rw[FM (by decide) (by decide) (by decide) (by decide),if_pos hc,hp]
  show COut.ok (sA _ [] lvIt)=_
  rw[sA]
  rfl
 rw[allC,h1]
 show allC 1 _ []=_
 rw[allC]
theorem LO:applyC lvIt [lvOp]=.ok (.mk ⟨#[]⟩ ⟨#[98]⟩ [] []):=by
 obtain⟨m,hm⟩:=law_iff.1 bS
 exact VN hm (by decide) aS
theorem WP{w:World}{p:Nat→Addr}{m:Int}(hE:Env w p m):Calls Tryz.prog 6 #[] w fun e w'=>e=.returned (.bool true)∧Below w.heap.size w w':=by
 obtain⟨W1,hW1⟩:∃W1,W1=w.alloc (.cells (FB lvOp (gT ⟨#[]⟩)) 46):=⟨_,rfl⟩
 have hb1:Below w.heap.size w W1:=by rw[hW1];exact bA _ _
 have hg1:W1.heap[w.heap.size]?=some (.cells (FB lvOp (gT ⟨#[]⟩)) 46 (0,0)):=by rw[hW1];exact heap_alloc_new _ _
 have hlt:w.heap.size<W1.heap.size:=(Array.getElem?_eq_some_iff.1 hg1).1
 have hops:EI W1 W1.heap.size (some ⟨w.heap.size,0,none⟩) [lvOp]:=fun i op hi=>by
  cases i with
  |succ i=>simp at hi
  |zero=>
   have hi:some lvOp=some op:=hi
   injection hi with hi
   subst hi
   refine⟨w.heap.size,0,gT ⟨#[]⟩,rfl,hlt,fun c u hu=>?_,MO _ _ _,by show EB (.mk _ _ [] [])≤600;rw[EB,JB];decide,NL _ (by decide),⟨by decide,by decide,by decide,by decide,by decide,by decide⟩⟩
   unfold World.cell?
   rw[hg1]
   show (FB lvOp (gT ⟨#[]⟩))[0+0 * 10+c]?=_
   rw[show 0+0 * 10+c=c by omega]
   exact hu
 have hap:=eM (MO W1 W1.heap.size ⟨#[97]⟩) (nR _) (by show EB (.mk _ _ [] [])≤_;rw[EB,JB];decide) (.inr (by show EB (.mk _ _ [] [])≤_;rw[EB,JB];decide)) (NL _ (by decide)) hops (by decide) (hE.on hb1) (oc:=1)
 have hlv:applyC (.mk ⟨#[]⟩ ⟨#[97]⟩ [] []) [lvOp]=_:=LO
 rw[hlv] at hap
 have HAp:=aA hap
 have HB1:=aA hb1
 have hW1':W1=w.alloc (.cells #[.int .i64 1,.string ⟨#[]⟩,.string ⟨#[]⟩,.string ⟨#[98]⟩,.string ⟨#[]⟩,.int .i64 0,.string ⟨#[]⟩,.string ⟨#[]⟩,.slice none 0 0,.slice none 0 0] 46):=hW1
 have HW1:=aA hW1'
 clear hE hb1 hg1 hlt hops hap hlv hW1 hW1'
 go_enter Tryz.func6,Tryz.ntmps6
 go_wp2_with fail
 rw[←HW1.out]
 refine HAp.out.mono ?_
 rintro e w2 ⟨hb2,v',S,rfl,hown⟩
 obtain⟨g0,g1,⟨ga,gc,g2⟩,gk,gkc,g3⟩:=hown.lies.forms
 have HB2:=aA (HB1.out.trans (hb2.mono HB1.out.size))
 rw[g0,g1,g2,g3]
 have ht:((It.mk ⟨#[]⟩ ⟨#[98]⟩ [] []).head.toList==[98])=true:=by kernel_rfl
 generalize (It.mk ⟨#[]⟩ ⟨#[98]⟩ [] [])=t2 at *
 generalize t2.lines.length=n1 at *
 generalize t2.kids.length=n2 at *
 clear hown hb2 HAp HW1 g0 g1 g2 g3
 go_wp2
 go_ret
 exact⟨rfl,HB2.out.alloc HB2.out.size _⟩
theorem POut.inv{t u:It}{ops:List OpW}(h:applyC t ops=.ok u):UC t∧ops.length≤100∧allC 0 t ops=.ok u:=by
 unfold applyC at h
 cases hv:vIt 0 0 [] t with
 |bad c=>rw[hv] at h;cases h
 |ok m=>
  rw[hv] at h
  have h:(if 100<ops.length then POut.no 2 else match allC 0 t ops with| .bad i c=>.bad i c| .ok u=>.ok u)=.ok u:=h
  split at h
  ·cases h
  ·rename_i hn
   refine⟨law_iff.2 ⟨m,hv⟩,by omega,?_⟩
   cases ha:allC 0 t ops with
   |bad i c=>rw[ha] at h;cases h
   |ok u'=>rw[ha] at h;injection h with h;rw[h]
theorem IG{t:It}(h:FewIt t):SmallIt t:=by
 induction h with
 |mk t h1 h2 h3 h4 h5 h6 ih=>exact .mk t (by omega) (by omega) ih
theorem kN{t:It}(h:UC t):SmallIt t:=IG (RB h)
theorem aO:∀l:List ByteArray,pC l≤400 * (l.length+yA l)
 | []=>Nat.zero_le _
 |s::r=>by
  have:=aO r
  rw[pC,yA,List.length_cons]
  omega
theorem bF:∀(N:Nat) (t:It),jA t≤N→∀d,YA d t≤400→jA t≤400 * YA d t
 |0,t,h,d,_=>by have:=uA t;omega
 |N+1,t,h,d,hs=>by
  rw[TC] at hs ⊢
  split at hs
  ·omega
  ·rename_i hd
   rw[if_neg hd]
   have hk:∀(l:List It) (n:Nat),(∀k∈l,jA k<jA t)→QA d n l≤400→400 * n+lA l≤400 * QA d n l:=by
    intro l
    induction l with
    |nil=>intro n _ _;rw[QA,lA];omega
    |cons k r ih=>
     intro n hkk hn
     rw[QA] at hn ⊢
     split at hn
     ·rename_i h1
      rw[if_pos h1]
      have h3:=hkk k (by simp)
      have h5:=ih _ (fun x hx=>hkk x (List.mem_cons_of_mem _ hx)) hn
      have h6:=(xG (k::r) d n (by rw[QA,if_pos h1];exact hn)).2.2 k (by simp)
      have h4:=bF N k (by omega) (d+1) h6
      rw[lA]
      omega
     ·omega
   have:=hk t.kids _ (fun k hk=>rB hk) hs
   have hb:=aO t.lines
   rw[uA]
   omega
theorem WJ:∀l:List ByteArray,(∀s,s∈l→s.size≤300)→pC l≤301 * l.length
 | [],_=>Nat.zero_le _
 |s::r,h=>by
  have h1:=WJ r fun x hx=>h x (List.mem_cons_of_mem _ hx)
  have h2:=h s (by simp)
  rw[pC,List.length_cons]
  omega
theorem YR{s:ByteArray}(h:isLab s=true):s.size≤6:=by
 obtain⟨k,l,hL⟩:∃k l,Lab s k l:=by unfold isLab at h;exact @of_decide_eq_true _ (Classical.propDecidable _) h
 have h5:=hL.k4
 have h6:=hL.kc
 omega
theorem mP{d:Nat}{t:It}(h:Rgt d t):jA t≤12400 * (1+WA t):=by
 induction h with
 |mk d t h hd hk ih=>
  obtain⟨h1,h2,h3⟩:=texts_iff.1 ⟨h.2.1,h.2.2.2⟩
  have hl:t.label.size≤6:=by
   have:=h.2.2.1
   split at this
   ·have:=of_decide_eq_true this;omega
   ·exact YR this
  have hb:=WJ t.lines fun s hs=>(h3 s hs).1
  have hh:=h2.1
  rw[uA,RA]
  have hkk:∀l:List It,(∀k,k∈l→jA k≤12400 * (1+WA k))→lA l≤12400 * TA l:=by
   intro l
   induction l with
   |nil=>intro _;rw[lA,TA];omega
   |cons a r ih2=>
    intro hl
    have:=hl a (by simp)
    have:=ih2 (fun k hk=>hl k (List.mem_cons_of_mem _ hk))
    rw[lA,TA]
    omega
  have:=hkk t.kids ih
  omega
theorem sB{t:It}(h:UC t):jA t≤3732400:=by
 have:=mP h.1
 have:=h.2
 omega
theorem SG:∀(l:List It) (i:Nat) (y z:It),l[i]?=some y→lA (l.set i z)+jA y=lA l+jA z
 | [],i,y,z,h=>by simp at h
 |t::r,0,y,z,h=>by
  simp only[List.getElem?_cons_zero,Option.some.injEq] at h
  subst h
  rw[List.set_cons_zero,lA,lA]
  omega
 |t::r,i+1,y,z,h=>by
  rw[List.getElem?_cons_succ] at h
  rw[List.set_cons_succ,lA,lA]
  have:=SG r i y z h
  omega
theorem RF:∀(p:List ByteArray) (t x y:It),eA t p=some x→jA (sA (fun _=>y) p t)+jA x=jA t+jA y
 | [],t,x,y,e=>by rw[eA] at e;injection e with e;rw[sA,e];omega
 |q::r,t,x,y,e=>by
  obtain⟨i,z,hi,hz,e⟩:=IA e
  rw[cB hi hz,uA,uA t]
  have h1:=RF r z x y e
  have h2:=SG t.kids i z (sA (fun _=>y) r z) hz
  show t.label.size+t.head.size+pC t.lines+lA (t.kids.set i (sA (fun _=>y) r z))+1+_=_
  omega
theorem LE:∀(l:List It) (i:Nat) (y:It),l[i]?=some y→lA (l.eraseIdx i)+jA y=lA l
 | [],i,y,h=>by simp at h
 |t::r,0,y,h=>by
  simp only[List.getElem?_cons_zero,Option.some.injEq] at h
  subst h
  rw[List.eraseIdx_cons_zero,lA]
  omega
 |t::r,i+1,y,h=>by
  rw[List.getElem?_cons_succ] at h
  rw[List.eraseIdx_cons_succ,lA,lA]
  have:=LE r i y h
  omega
theorem cD:∀(l:List It) (i:Nat) (y:It),i≤l.length→lA (l.insertIdx i y)=lA l+jA y
 |l,0,y,_=>by rw[List.insertIdx_zero,lA];omega
 | [],i+1,y,h=>by simp at h
 |t::r,i+1,y,h=>by
  rw[List.insertIdx_succ_cons,lA,lA,cD r i y (by simpa using h)]
  omega
theorem nG{x:It}{l:List It}:jA (x.setKids l)+lA x.kids=jA x+lA l:=by
 rw[uA,uA x]
 show x.label.size+x.head.size+pC x.lines+lA l+1+_=_
 omega
theorem DR{l:List It}{a:ByteArray}{i:Nat}(h:pA l a=some i):i≤l.length:=by
 unfold pA at h
 split at h
 ·injection h with h;omega
 ·cases hk:iA l a with
  |none=>rw[hk] at h;cases h
  |some j=>
   rw[hk] at h
   injection h with h
   have h:j+1=i:=h
   obtain⟨z,hz,_⟩:=SA hk
   have:=(List.getElem?_eq_some_iff.1 hz).1
   omega
theorem eP{t x k:It}{path a:ByteArray}{i:Nat}(h:UC t)(hx:eA t (cA path)=some x)(hi:pA x.kids a=some i)(hk:FewIt k)(hs:jA k≤400000):FewIt (JA path (x.setKids (CB a k x.kids)) t)∧jA (JA path (x.setKids (CB a k x.kids)) t)≤4194304:=by
 have hd:=h.1.ds
 rw[bH (hd.find hx).is.1 hi,pE hd hx]
 have hkn:=KA h hx
 refine⟨lH _ t x _ (RB h) hx (tJ (BB _ t x (RB h) hx) hk (by omega) i),?_⟩
 have h1:=RF _ t x (x.setKids (x.kids.insertIdx i k)) hx
 have h2:=nG (x:=x) (l:=x.kids.insertIdx i k)
 have h3:=cD x.kids i k (DR hi)
 have h4:=sB h
 omega
theorem OL{t k y:It}{o:OpW}(h:UC t)(hk:eA t (cA o.path)=some k)(hs:o.path.size≠0)(hy:eA t (cA o.new)=some y)(c1:¬OJ o.new o.path)(c2:¬(o.at'.size≠0∧(iA y.kids o.at'=none∨(vB o.path=o.new∧o.at'=nC o.path)))):
 UC (refGone t o)∧eA (refGone t o) (cA o.new)=some (refTo t o)∧(refTo t o).kids.length≤300∧jA (refGone t o)≤4194304∧FewIt (refMoved t o k)∧jA (refMoved t o k)≤4194304:=by
 obtain⟨p0,l,x,i,hp,h1,h2,h3,h4,har⟩:=VC hk (fB hs).1
 obtain⟨q1,q2,q3⟩:=RC h hp h1
 have hd:=h.1.ds
 have hll:isLab l=true:=by rw[←h4];exact(jC p0 t x h.1.rg h1).is.2.2.1 k (List.mem_of_getElem? h3)
 have n1:¬(p0++[l])<+:cA o.new:=fun e=>c1 ((BF hs).2 (by rw[hp];exact e))
 have n2:pA y.kids o.at'≠none:=fun e=>c2 ⟨(beh_none_iff.1 e).1,.inl (beh_none_iff.1 e).2⟩
 have n3:¬(p0=cA o.new∧o.at'=l):=fun e=>c2 ⟨by rw[e.2];exact YE hll,.inr ⟨by rw[q2,e.1,oC],by rw[q3];exact e.2⟩⟩
 obtain⟨z,j,z1,z2,z3⟩:=pG hd h1 h3 h4 n1 hy n2 n3
 have hg:refGone t o=dB t x i p0:=by unfold refGone dB;rw[hp];exact LD l i p0 t x hd h1 h2
 have hz:refTo t o=z:=by unfold refTo;rw[hg,z1];rfl
 have hll':=RH (i:=i) h h1 h3
 have hu:refMoved t o k=sA (fun _=>z.setKids (z.kids.insertIdx j k)) (cA o.new) (dB t x i p0):=by
  unfold refMoved
  rw[hz,hg,bH (hll'.1.ds.find z1).is.1 z2,pE hll'.1.ds z1]
 have hkn:=KA hll' z1
 have s1:=RF p0 t x (x.setKids (x.kids.eraseIdx i)) h1
 have s2:=nG (x:=x) (l:=x.kids.eraseIdx i)
 have s3:=LE x.kids i k h3
 have s4:=sB h
 have s5:jA (dB t x i p0)+jA x=jA t+jA (x.setKids (x.kids.eraseIdx i)):=s1
 have s6:=RF (cA o.new) (dB t x i p0) z (z.setKids (z.kids.insertIdx j k)) z1
 have s7:=nG (x:=z) (l:=z.kids.insertIdx j k)
 have s8:=cD z.kids j k z3
 have hfk:FewIt k:=BB _ t k (RB h) hk
 rw[hu,hz,hg]
 refine⟨hll',z1,hkn,by omega,lH _ _ z _ (RB hll') z1 (tJ (BB _ _ z (RB hll') z1) hfk (by omega) j),by omega⟩
def OneR(w:World)(P:Nat→Prop)(r:COut)(e:Ending)(w':World):Prop:=Below w.heap.size w w'∧∃(s h:ByteArray) (la ka:Option Addr) (ln lc kn kc:Nat) (code:Int),e=.returned (.tuple #[.agg #[.string s,.string h,.slice la ln lc,.slice ka kn kc],.int .i64 code])∧match r with
 | .bad c=>code=c∧0<c
 | .ok u=>code=0∧∃v':Nat→Value,#[v' 0,v' 1,v' 2,v' 3]=#[.string s,.string h,.slice la ln lc,.slice ka kn kc]∧Lies w' (fun k=>P k∨w.heap.size≤k) v' u
def Rcm(w w':World):Prop:=Below w.heap.size w w'
theorem Rcm.refl(w:World):Rcm w w:=Below.refl _ _
theorem Rcm.trans{a b c:World}(h:Rcm a b)(k:Rcm b c):Rcm a c:=Below.trans h (Below.mono k h.size)
theorem Rcm.drew{a b:World}(h:Rcm a b):Rcm a b.drew:=Below.drew h
theorem Rcm.alloc{a b:World}(h:Rcm a b)(o:Obj):Rcm a (b.alloc o):=Below.alloc h h.size o
theorem Rcm.set{a b:World}(h:Rcm a b){g i:Nat}(hg:a.heap.size≤g)(u:Value):Rcm a (b.setCell ⟨g,i,none⟩ u):=Below.setCell h hg u
theorem GC(w:World)(a b c:Obj):∃W,W=((w.alloc a).alloc b).alloc c∧Below w.heap.size w W∧W.heap.size=w.heap.size+3∧W.heap[w.heap.size]?=some a∧W.heap[w.heap.size+1]?=some b∧W.heap[w.heap.size+2]?=some c:=by
 have h2:=OC w a b
 have hs:((w.alloc a).alloc b).heap.size=w.heap.size+2:=by simp
 refine⟨_,rfl,((bA _ _).alloc (by simp) _).alloc (by rw[hs];omega) _,by simp,?_,?_,?_⟩
 ·rw[Below.heap_alloc _ _ _ (by rw[hs];omega)];exact h2.1
 ·rw[Below.heap_alloc _ _ _ (by rw[hs];omega)];exact h2.2
 ·have:=heap_alloc_new ((w.alloc a).alloc b) c
  rwa [hs] at this
theorem TN(w:World)(a b c d:Obj):∃W,W=(((w.alloc a).alloc b).alloc c).alloc d∧Below w.heap.size w W∧W.heap.size=w.heap.size+4∧W.heap[w.heap.size]?=some a∧W.heap[w.heap.size+1]?=some b∧W.heap[w.heap.size+2]?=some c∧W.heap[w.heap.size+3]?=some d:=by
 obtain⟨W,e,hb,hs,h1,h2,h3⟩:=GC w a b c
 rw[←e]
 refine⟨_,rfl,hb.alloc (by omega) _,by simp[hs],?_,?_,?_,?_⟩
 ·rw[Below.heap_alloc _ _ _ (by omega)];exact h1
 ·rw[Below.heap_alloc _ _ _ (by omega)];exact h2
 ·rw[Below.heap_alloc _ _ _ (by omega)];exact h3
 ·have:=heap_alloc_new W d
  rwa [hs] at this
theorem OneR.ok{w w7:World}{P:Nat→Prop}{g:Nat}{s h:ByteArray}{la ka:Option Addr}{ln lc kn kc:Nat}{v':Nat→Value}{u:It}(hb:Below w.heap.size w w7)(hg:w.heap.size≤g)(hf:#[v' 0,v' 1,v' 2,v' 3]=#[Value.string s,.string h,.slice la ln lc,.slice ka kn kc])(hl:Lies w7 (fun k=>(P k∧k<w.heap.size)∨g<k) v' u):
 OneR w P (.ok u) (.returned (.tuple #[.agg #[.string s,.string h,.slice la ln lc,.slice ka kn kc],.int .i64 0])) ((((w7.setCell ⟨g,0,none⟩ (.string s)).setCell ⟨g,1,none⟩ (.string h)).setCell ⟨g,2,none⟩ (.slice la ln lc)).setCell ⟨g,3,none⟩ (.slice ka kn kc)):=by
 refine⟨(((hb.setCell (p:=⟨g,0,none⟩) hg _).setCell (p:=⟨g,1,none⟩) hg _).setCell (p:=⟨g,2,none⟩) hg _).setCell (p:=⟨g,3,none⟩) hg _,s,h,la,ka,ln,lc,kn,kc,0,rfl,rfl,v',hf,hl.step fun b hb hp=>⟨PA (fun e=>?_),?_⟩⟩
 ·subst e
  rcases hp with hp|hp
  ·have:=hp.2;omega
  ·omega
 ·rcases hp with hp|hp
  ·exact .inl hp.1
  ·exact .inr (by omega)
theorem OneR.bad{w w7:World}{P:Nat→Prop}{g c:Nat}{s h:ByteArray}{la ka:Option Addr}{ln lc kn kc:Nat}(hb:Below w.heap.size w w7)(hg:w.heap.size≤g)(hc:0<c):
 OneR w P (.bad c) (.returned (.tuple #[.agg #[.string s,.string h,.slice la ln lc,.slice ka kn kc],.int .i64 c])) ((((w7.setCell ⟨g,0,none⟩ (.string s)).setCell ⟨g,1,none⟩ (.string h)).setCell ⟨g,2,none⟩ (.slice la ln lc)).setCell ⟨g,3,none⟩ (.slice ka kn kc)):=
 ⟨(((hb.setCell (p:=⟨g,0,none⟩) hg _).setCell (p:=⟨g,1,none⟩) hg _).setCell (p:=⟨g,2,none⟩) hg _).setCell (p:=⟨g,3,none⟩) hg _,s,h,la,ka,ln,lc,kn,kc,c,rfl,rfl,hc⟩
mutual
theorem oH:∀(t:It) (d n:Nat) (ah:List It) (c:Nat),vIt d n ah t=.bad c→0<c
 | .mk a b l k,d,n,ah,c,h=>by
   rw[MJ] at h
   split at h
   ·injection h with h;omega
   ·split at h
    ·injection h with h;omega
    ·split at h
     ·injection h with h;omega
     ·exact IM k d n [] c h
theorem IM:∀(l:List It) (d n:Nat) (ah:List It) (c:Nat),vKs d n ah l=.bad c→0<c
 | [],d,n,ah,c,h=>by rw[vKs] at h;cases h
 |t::r,d,n,ah,c,h=>by
  rw[vKs] at h
  cases e:vIt (d+1) (n+1) ah t with
  |bad c'=>
   rw[e] at h
   injection h with h
   subst h
   exact oH t _ _ _ _ e
  |ok m=>
   rw[e] at h
   exact IM r _ _ _ _ h
end
theorem MD{P P1:Nat→Prop}{B1 g:Nat}{w6:World}{sv:Value}{L:List It}{K:Nat→Nat→Value}{x:It}{u:Nat→Value}(hr:KRow P B1 w6 sv L K)(hx:Lies w6 P1 u x)(h1:∀k,P1 k→P k)(hP:∀k,P k→k≠g)(hg:g<B1):Lies (w6.setCell ⟨g,3,none⟩ sv) (fun k=>P k∨B1≤k) (wA (u 0) (u 1) (u 2) sv) (x.setKids L):=by
 have h5:=hr.item hx (fun k _ hp=>.inl (h1 k hp)) (u:=wA (u 0) (u 1) (u 2) sv) rfl rfl rfl rfl
 refine h5.step fun b hb hp=>⟨Below.heap_setCell _ _ _ _ (fun e=>?_),hp⟩
 have e:b=g:=e
 rcases hp with hp|hp
 ·exact hP b hp e
 ·omega
theorem OneR.fin1{w w7:World}{P:Nat→Prop}{g:Nat}{s h:ByteArray}{la ka:Option Addr}{ln lc kn kc:Nat}{v':Nat→Value}{u:It}{r:COut}(hr:r=match vIt 0 0 [] u with| .bad c=>.bad c| .ok _=>.ok u)(hb:Below w.heap.size w w7)(hg:w.heap.size≤g)(hf:#[v' 0,v' 1,v' 2,v' 3]=#[Value.string s,.string h,.slice la ln lc,.slice ka kn kc])(hl:Lies w7 (fun k=>(P k∧k<w.heap.size)∨g<k) v' u):
 OneR w P r (.returned (.tuple #[.agg #[.string s,.string h,.slice la ln lc,.slice ka kn kc],.int .i64 (gC (vIt 0 0 [] u))])) ((((w7.setCell ⟨g,0,none⟩ (.string s)).setCell ⟨g,1,none⟩ (.string h)).setCell ⟨g,2,none⟩ (.slice la ln lc)).setCell ⟨g,3,none⟩ (.slice ka kn kc)):=by
 subst hr
 cases e:vIt 0 0 [] u with
 |bad c=>exact OneR.bad hb hg (oH _ _ _ _ _ e)
 |ok m=>exact OneR.ok hb hg hf hl
theorem OneR.fin2{w w7:World}{P:Nat→Prop}{s h:ByteArray}{la ka:Option Addr}{ln lc kn kc:Nat}{v':Nat→Value}{u:It}{r:COut}(hr:r=match vIt 0 0 [] u with| .bad c=>.bad c| .ok _=>.ok u)(hb:Below w.heap.size w w7)(hf:#[v' 0,v' 1,v' 2,v' 3]=#[Value.string s,.string h,.slice la ln lc,.slice ka kn kc])(hl:Lies w7 (fun k=>P k∨w.heap.size≤k) v' u):
 OneR w P r (.returned (.tuple #[.agg #[.string s,.string h,.slice la ln lc,.slice ka kn kc],.int .i64 (gC (vIt 0 0 [] u))])) w7:=by
 subst hr
 cases e:vIt 0 0 [] u with
 |bad c=>exact⟨hb,s,h,la,ka,ln,lc,kn,kc,c,rfl,rfl,oH _ _ _ _ _ e⟩
 |ok m=>exact⟨hb,s,h,la,ka,ln,lc,kn,kc,0,rfl,rfl,v',hf,hl⟩
theorem FQ{t x:It}{o:OpW}(h:UC t)(hfx:eA t (cA o.path)=some x)(hpath:o.path.size≤100000)(hit:FewIt o.item)(hsz:jA o.item≤400000){w:World}{P:Nat→Prop}{v u iv:Nat→Value}(hv:Lies w P v t)(hu:Lies w P u x)(hi:Lies w P iv o.item):
 Calls Tryz.prog 43 #[.agg #[v 0,v 1,v 2,v 3],.agg (FB o iv),.agg #[u 0,u 1,u 2,u 3]] w (OneR w P (refPut t o x)):=by
 obtain⟨f0,f1,⟨la,lc,f2⟩,ka,kc,f3⟩:=hv.forms
 obtain⟨g0,g1,⟨ma,mc,g2⟩,na,nc,g3⟩:=hu.forms
 obtain⟨i0,i1,⟨ja,jc,i2⟩,qa,qc,i3⟩:=hi.forms
 have hkn:x.kids.length≤300:=KA h hfx
 have HQ2:=aA (fun i (hb:pA x.kids o.at'=some i)=>eP h hfx hb hit hsz)
 have HB0:=aA (beh_none_iff (l:=x.kids) (s:=o.at'))
 have HRf:Hid (refPut t o x=if o.at'.size≠0∧iA x.kids o.at'=none then .bad 5 else if (iA x.kids o.item.label).isSome then .bad 7 else match vIt 0 0 [] (JA o.path (x.setKids (CB o.at' o.item x.kids)) t) with| .bad c=>.bad c| .ok _=>.ok (JA o.path (x.setKids (CB o.at' o.item x.kids)) t)):=rfl
 have HSz:=aA (sB h)
 have HLv:=aA (hv.inn.vals f0 f1 f2 f3)
 have HLu:=aA (hu.inn.vals g0 g1 g2 g3)
 have HLi:=aA (hi.inn.vals i0 i1 i2 i3)
 unfold FB
 rw[f0,f1,f2,f3,g0,g1,g2,g3,i0,i1,i2,i3]
 obtain⟨W4,hW4,hb4,hs4,hx0,hx1,hx2,hx3⟩:=TN w (.cells #[.string t.label,.string t.head,.slice la t.lines.length lc,.slice ka t.kids.length kc] rA) (.cells #[.int .i64 o.kind,.string o.path,.string o.at',.string o.text,.string o.new,.int .i64 o.line,.string o.item.label,.string o.item.head,.slice ja o.item.lines.length jc,.slice qa o.item.kids.length qc] 46) (.cells #[.string x.label,.string x.head,.slice ma x.lines.length mc,.slice na x.kids.length nc] rA) (.cells #[.string ⟨#[]⟩,.string ⟨#[]⟩,.slice none 0 0,.slice none 0 0] rA)
 have HW4:=aA hW4
 have HS4:=aA hs4
 have HBx:Hid (∀W,Below W4.heap.size W4 W→(W.heap[w.heap.size]?=some (.cells #[.string t.label,.string t.head,.slice la t.lines.length lc,.slice ka t.kids.length kc] rA (0,0))∧W.heap[w.heap.size+1]?=some (.cells #[.int .i64 o.kind,.string o.path,.string o.at',.string o.text,.string o.new,.int .i64 o.line,.string o.item.label,.string o.item.head,.slice ja o.item.lines.length jc,.slice qa o.item.kids.length qc] 46 (0,0))∧W.heap[w.heap.size+2]?=some (.cells #[.string x.label,.string x.head,.slice ma x.lines.length mc,.slice na x.kids.length nc] rA (0,0))∧W.heap[w.heap.size+3]?=some (.cells #[.string ⟨#[]⟩,.string ⟨#[]⟩,.slice none 0 0,.slice none 0 0] rA (0,0)))):=fun W hW=>
  ⟨(hW.block _ (by omega)).trans hx0,(hW.block _ (by omega)).trans hx1,(hW.block _ (by omega)).trans hx2,(hW.block _ (by omega)).trans hx3⟩
 have HB4:=aA hb4
 have HK1:Hid (∀s W,Below w.heap.size w W→Calls Tryz.prog 47 #[.agg #[.string x.label,.string x.head,.slice ma x.lines.length mc,.slice na x.kids.length nc],.string s] W fun e w'=>e=.returned (.int .i64 (mC (iA x.kids s)))∧Below W.heap.size W w'):=fun s W hW=>
  DE (v:=wA _ _ _ _) (HLu.out.bel hW) (by omega) s
 obtain⟨q1,hq1⟩:∃q,q=iA x.kids o.at':=⟨_,rfl⟩
 obtain⟨q2,hq2⟩:∃q,q=iA x.kids o.item.label:=⟨_,rfl⟩
 have HQ1:=aA (aI hq1 hq2)
 have HP:Hid (o.path.size≤100000∧x.kids.length≤300):=⟨hpath,hkn⟩
 have HLab:=aA (hit.get.2.2.2.2.1)
 have hE:=LB o.at'
 have HKA:=aA (HLu.out.kidsAt (ka:=na) (n:=x.kids.length) (kc:=nc) rfl)
 have HBh:Hid (∀W,Below w.heap.size w W→Calls Tryz.prog 88 #[.slice na x.kids.length nc,.string o.at',.agg #[.string o.item.label,.string o.item.head,.slice ja o.item.lines.length jc,.slice qa o.item.kids.length qc]] W (QN (fun k=>P k∧k<w.heap.size) W (CB o.at' o.item x.kids))):=fun W hW=>by
  obtain⟨_,V,hkk,hkr⟩:=(HLu.out.bel hW).kidsAt (ka:=na) (n:=x.kids.length) (kc:=nc) rfl
  exact PG (fun k=>P k∧k<w.heap.size) o.at' x.kids o.item na nc V (wA _ _ _ _) W (by omega) (fun i hi=>by obtain⟨b,o',e,_,hc⟩:=hkk i hi;exact⟨b,o',e,hc⟩) hkr (HLi.out.bel hW)
 obtain⟨U,hU⟩:∃U,U=JA o.path (x.setKids (CB o.at' o.item x.kids)) t:=⟨_,rfl⟩
 obtain⟨r,hr⟩:∃r,r=refPut t o x:=⟨_,rfl⟩
 rw[←hr]
 rw[HRf.out,←hq1,←hq2,←hU] at hr
 have HRr:=aA hr
 have HU:=aA hU
 clear hW4 hb4 hs4 hx0 hx1 hx2 hx3 f0 f1 f2 f3 g0 g1 g2 g3 i0 i1 i2 i3 hv hu hi h hfx hpath hit hsz hkn HRf hq1 hq2 hU hr
 have hcell0:=HBx.out W4 (Below.refl _ _)
 obtain⟨y0,y1,y2,y3,y4,y5,y6,y7,y8,y9⟩:=yB hcell0.2.1
 obtain⟨x0,x1,x2,x3,_⟩:=gA hcell0.2.2.1
 obtain⟨l0,l1,l2,l3,_⟩:=gA hcell0.1
 obtain⟨z0,z1,z2,z3,zf⟩:=gA hcell0.2.2.2
 have HZ:=aA hcell0.2.2.2
 clear hcell0
 by_cases hat:o.at'.size=0
 ·rw[decide_eq_true hat] at hE
  have HRq:Hid (r=if q2.isSome then .bad 7 else match vIt 0 0 [] U with| .bad c=>.bad c| .ok _=>.ok U):=HRr.out.trans (if_neg (fun e=>e.1 hat))
  have HB5:Hid (Below W4.heap.size W4 W4):=Below.refl _ _
  have HNb:Hid (pA x.kids o.at'≠none):=fun e=>(HB0.out.1 e).1 hat
  clear hat
  clear y0 y1 y2 y3 y4 y5 y6 y7 y8 y9 x0 x1 x2 x3 l0 l1 l2 l3 z0 z1 z2 z3 zf
  go_enter Tryz.func43,Tryz.ntmps43
  go_upto_region 1 with fail
  rw[←HW4.out]
  obtain⟨hx0,hx1,hx2,hx3⟩:=HBx.out W4 HB5.out
  obtain⟨y0,y1,y2,y3,y4,y5,y6,y7,y8,y9⟩:=yB hx1
  obtain⟨x0,x1,x2,x3,_⟩:=gA hx2
  obtain⟨l0,l1,l2,l3,_⟩:=gA hx0
  obtain⟨z0,z1,z2,z3,zf⟩:=gA hx3
  clear hx0 hx1 hx2 hx3
  go_wp2_with fail
  refine(HK1.out o.item.label W4 (HB4.out.trans (HB5.out.mono HB4.out.size))).mono ?_
  rintro e w6 ⟨rfl,hb6⟩
  have HB6:=aA (HB5.out.trans (hb6.mono HB5.out.size))
  rw[←HQ1.out.2]
  clear hb6 y0 y1 y2 y3 y4 y5 y6 y7 y8 y9 x0 x1 x2 x3 l0 l1 l2 l3 z0 z1 z2 z3 zf
  obtain⟨hx0,hx1,hx2,hx3⟩:=HBx.out w6 HB6.out
  obtain⟨y0,y1,y2,y3,y4,y5,y6,y7,y8,y9⟩:=yB hx1
  obtain⟨x0,x1,x2,x3,xf⟩:=gA hx2
  obtain⟨l0,l1,l2,l3,_⟩:=gA hx0
  obtain⟨z0,z1,z2,z3,zf⟩:=gA hx3
  have HZ6:=aA hx3
  clear hx0 hx1 hx2 hx3
  cases q2 with
  |some j=>
   have hj:mC (some j)=(j:Int):=rfl
   rw[hj]
   have HR7:Hid (r=.bad 7):=HRq.out.trans (if_pos rfl)
   have hj0:(0:Int)≤(j:Int):=by omega
   go_wp2
   refine bodyPost_ret (v:=.tuple #[.agg #[.string t.label,.string t.head,.slice la t.lines.length lc,.slice ka t.kids.length kc],.int .i64 7]) (fA Tryz.results43 _ _ (w.heap.size+3) rA #[.string t.label,.string t.head,.slice la t.lines.length lc,.slice ka t.kids.length kc] (0,0) _ _ rfl rfl (NA HZ6.out) Tryz.underlying25 rfl rfl) rfl ?_
   rw[HR7.out]
   exact OneR.bad (HB4.out.trans (HB6.out.mono HB4.out.size)) (by omega) (by omega)
  |none=>
   have hj:mC none=-1:=rfl
   rw[hj]
   have HR8:Hid (r=match vIt 0 0 [] U with| .bad c=>.bad c| .ok _=>.ok U):=HRq.out.trans (if_neg (by decide))
   go_wp2_with fail
   refine(HBh.out w6 (HB4.out.trans (HB6.out.mono HB4.out.size))).mono ?_
   rintro e w7 ⟨sv,K,rfl,hrow,hb7⟩
   have HB7:=aA (HB6.out.trans (hb7.mono HB6.out.size))
   obtain⟨sa,sc,rfl⟩:=tA hrow.row
   have hB1:w.heap.size+4<w6.heap.size+1:=by have:=HB6.out.size;have:=HS4.out;omega
   have hw7:Below w.heap.size w w7:=HB4.out.trans (HB7.out.mono HB4.out.size)
   have hlx:=MD (g:=w.heap.size+2) hrow (HLu.out.bel hw7) (fun k h=>h) (fun k h=>by have:=h.2;omega) (by omega)
   obtain⟨W8,hW8⟩:∃W8,W8=w7.setCell ⟨w.heap.size+2,3,none⟩ (.slice sa (CB o.at' o.item x.kids).length sc):=⟨_,rfl⟩
   rw[←hW8] at hlx
   obtain⟨hx0,hx1,hx2,hx3⟩:=HBx.out w7 HB7.out
   have hy2:W8.heap[w.heap.size+2]?=some (.cells #[.string x.label,.string x.head,.slice ma x.lines.length mc,.slice sa (CB o.at' o.item x.kids).length sc] rA (0,0)):=by rw[hW8,heap_setCell_same _ _ _ _ _ _ hx2];rfl
   have hy0:W8.heap[w.heap.size]?=some (.cells #[.string t.label,.string t.head,.slice la t.lines.length lc,.slice ka t.kids.length kc] rA (0,0)):=by rw[hW8,Below.heap_setCell _ _ _ _ (by show w.heap.size≠w.heap.size+2;omega)];exact hx0
   have hy1:W8.heap[w.heap.size+1]?=some (.cells #[.int .i64 o.kind,.string o.path,.string o.at',.string o.text,.string o.new,.int .i64 o.line,.string o.item.label,.string o.item.head,.slice ja o.item.lines.length jc,.slice qa o.item.kids.length qc] 46 (0,0)):=by rw[hW8,Below.heap_setCell _ _ _ _ (by show w.heap.size+1≠w.heap.size+2;omega)];exact hx1
   have hy3:W8.heap[w.heap.size+3]?=some (.cells #[.string ⟨#[]⟩,.string ⟨#[]⟩,.slice none 0 0,.slice none 0 0] rA (0,0)):=by rw[hW8,Below.heap_setCell _ _ _ _ (by show w.heap.size+3≠w.heap.size+2;omega)];exact hx3
   have hw8:Below w.heap.size w W8:=by rw[hW8];exact hw7.setCell (by show w.heap.size≤w.heap.size+2;omega) _
   have hs8:W8.heap.size=w7.heap.size:=by rw[hW8];simp
   have hwt:=EC (fun k=>(P k∧k<w.heap.size)∨w6.heap.size+1≤k) o.path HP.out.1 t (x.setKids (CB o.at' o.item x.kids)) (wA (.string t.label) (.string t.head) (.slice la t.lines.length lc) (.slice ka t.kids.length kc)) _ W8 (HLv.out.step fun b hb hp=>⟨hw8.block b hb,.inl hp⟩) hlx (by have:=HSz.out;omega)
   rw[←HU.out] at hwt
   have HWt:=aA hwt
   have HY8:=aA (aI hy0 (aI hy1 (aI hy2 hy3)))
   have HW8:=aA hW8
   have HD8:=aA (aI hw8 (aI hs8 hB1))
   have h67:=hb7.size
   have HF8:=aA h67
   clear y0 y1 y2 y3 y4 y5 y6 y7 y8 y9 x0 x1 x2 x3 xf l0 l1 l2 l3 z0 z1 z2 z3 zf hb7 hrow hw7 hlx hwt hy0 hy1 hy2 hy3 hw8 hs8 hB1 hW8 h67
   obtain⟨x0,x1,x2,x3,xf⟩:=gA hx2
   clear hx0 hx1 hx2 hx3
   generalize (CB o.at' o.item x.kids).length=kln at *
   go_upto_region 6 with fail
   rw[←HW8.out]
   clear x0 x1 x2 x3 xf
   obtain⟨x0,x1,x2,x3,_⟩:=gA HY8.out.2.2.1
   obtain⟨l0,l1,l2,l3,_⟩:=gA HY8.out.1
   obtain⟨y0,y1,y2,y3,y4,y5,y6,y7,y8,y9⟩:=yB HY8.out.2.1
   go_wp2_with fail
   refine HWt.out.mono ?_
   rintro e w9 ⟨⟨v9,rfl,hl9⟩,hb9⟩
   obtain⟨k0,k1,⟨oa,oc,k2⟩,pa,pc,k3⟩:=hl9.forms
   have hl9v:=hl9.vals k0 k1 k2 k3
   rw[k0,k1,k2,k3]
   have hfit:FewIt U∧jA U≤4194304:=by
    cases hb:pA x.kids o.at' with
    |none=>exact absurd hb HNb.out
    |some i=>rw[HU.out];exact HQ2.out i hb
   have HVl:Hid (∀W,(∀k,k<w9.heap.size→k≠w.heap.size+3→W.heap[k]?=w9.heap[k]?)→Calls Tryz.prog 19 #[.agg #[.string U.label,.string U.head,.slice oa U.lines.length oc,.slice pa U.kids.length pc]] W fun e w'=>e=.returned (.int .i64 (gC (vIt 0 0 [] U)))∧Below W.heap.size W w'):=fun W hW=>
    NC U hfit.1 hfit.2 W (fun _=>True) (wA _ _ _ _) (hl9v.step fun b hb hp=>⟨hW b hb (fun e=>by
     have h1:=HD8.out.2.1
     have h2:=HD8.out.2.2
     have h3:=HF8.out
     rcases hp with (hp|hp)|hp
     ·have:=hp.2;omega
     ·omega
     ·omega),trivial⟩)
   have h39:=(hb9.block (w.heap.size+3) (by have h1:=HD8.out.2.1;have h2:=HD8.out.2.2;have h3:=HF8.out;omega)).trans HY8.out.2.2.2
   have HD9:=aA (aI (HD8.out.1.trans (hb9.mono HD8.out.1.size)) h39)
   have HL9:=aA hl9v
   obtain⟨W10,hW10⟩:∃W10,W10=w9.alloc (.cells #[.string U.label,.string U.head,.slice oa U.lines.length oc,.slice pa U.kids.length pc] rA):=⟨_,rfl⟩
   have HW10:=aA hW10
   have hb10:Below w9.heap.size w9 W10:=by rw[hW10];exact bA _ _
   have ho10:W10.heap[w9.heap.size]?=some (.cells #[.string U.label,.string U.head,.slice oa U.lines.length oc,.slice pa U.kids.length pc] rA (0,0)):=by rw[hW10];exact heap_alloc_new _ _
   have HO10:=aA (aI hb10 ho10)
   have hlt9:w.heap.size+3<w9.heap.size:=(Array.getElem?_eq_some_iff.1 h39).1
   have HLt:=aA hlt9
   clear x0 x1 x2 x3 l0 l1 l2 l3 y0 y1 y2 y3 y4 y5 y6 y7 y8 y9 hl9 hb9 k0 k1 k2 k3 hl9v hfit h39 hW10 hb10 ho10
   go_upto_region 7 with fail
   rw[←HW10.out]
   obtain⟨o0,o1,o2,o3,_⟩:=gA HO10.out.2
   have hz10:=(HO10.out.1.block (w.heap.size+3) HLt.out).trans HD9.out.2
   obtain⟨z0,z1,z2,z3,zf⟩:=gA hz10
   have HZ10:=aA hz10
   have hne9:¬w9.heap.size=w.heap.size+3:=by have:=HLt.out;omega
   have hne9':¬w.heap.size+3=w9.heap.size:=by have:=HLt.out;omega
   have hlt10:w9.heap.size<W10.heap.size:=(Array.getElem?_eq_some_iff.1 HO10.out.2).1
   clear hz10
   go_region_held3 (fun V=>V.cell? ⟨w9.heap.size,0,none⟩=some (.string U.label)∧V.cell? ⟨w9.heap.size,1,none⟩=some (.string U.head)∧V.cell? ⟨w9.heap.size,2,none⟩=some (.slice oa U.lines.length oc)∧V.cell? ⟨w9.heap.size,3,none⟩=some (.slice pa U.kids.length pc)) (first|exact⟨o0,o1,o2,o3⟩|exact⟨q0,q1,q2,q3⟩|go_keep) (first|(go_simp;go_at_call 19;refine(HVl.out _ (by first|exact(fun k hk _=>HO10.out.1.block k hk)|exact(fun k hk hne=>(PA hne).trans (HO10.out.1.block k hk)))).mono ?_;rintro e w11 ⟨rfl,hb11⟩;obtain⟨q0,q1,q2,q3,_⟩:=gA (show w11.heap[w9.heap.size]?=some (.cells #[.string U.label,.string U.head,.slice oa U.lines.length oc,.slice pa U.kids.length pc] rA (0,0)) from(by first|exact(hb11.block w9.heap.size hlt10).trans HO10.out.2|exact(hb11.block w9.heap.size (by simp;exact hlt10)).trans ((PA hne9).trans HO10.out.2)));(first|(have hz11:=(hb11.block (w.heap.size+3) (Nat.lt_trans HLt.out hlt10)).trans HZ10.out;obtain⟨r0,r1,r2,r3,rf⟩:=gA hz11;have HZ11:=aA hz11;clear hz11)|(have hz11:=(hb11.block (w.heap.size+3) (by simp;exact Nat.lt_trans HLt.out hlt10)).trans (NA HZ10.out);have HZ11:=aA hz11;clear hz11));have H11:=aA hb11;clear hb11))
   all_goals go_wp2
   all_goals
    first
     |(refine bodyPost_ret (v:=.tuple #[.agg #[.string U.label,.string U.head,.slice oa U.lines.length oc,.slice pa U.kids.length pc],.int .i64 (gC (vIt 0 0 [] U))]) (fA Tryz.results43 _ _ (w.heap.size+3) rA #[.string U.label,.string U.head,.slice oa U.lines.length oc,.slice pa U.kids.length pc] (0,0) _ _ rfl rfl (NA HZ11.out) Tryz.underlying25 rfl rfl) rfl ?_
       refine OneR.fin1 HR8.out (v':=wA (.string U.label) (.string U.head) (.slice oa U.lines.length oc) (.slice pa U.kids.length pc)) (HD9.out.1.trans (((HO10.out.1.mono HD9.out.1.size).drew).trans (H11.out.mono (Nat.le_trans HD9.out.1.size HO10.out.1.size)))) (by omega) rfl (HL9.out.step fun b hb hp=>⟨(H11.out.block b (Nat.lt_of_lt_of_le hb HO10.out.1.size)).trans (HO10.out.1.block b hb),?_⟩)
       have h1:=HD8.out.2.1
       have h2:=HD8.out.2.2
       have h3:=HF8.out
       rcases hp with (hp|hp)|hp
       ·exact .inl hp
       ·exact .inr (by omega)
       ·exact .inr (by omega))
     |(refine bodyPost_ret (v:=.tuple #[.agg #[.string U.label,.string U.head,.slice oa U.lines.length oc,.slice pa U.kids.length pc],.int .i64 (gC (vIt 0 0 [] U))]) (fA Tryz.results43 _ _ (w.heap.size+3) rA #[.string U.label,.string U.head,.slice oa U.lines.length oc,.slice pa U.kids.length pc] (0,0) _ _ rfl rfl HZ11.out Tryz.underlying25 rfl rfl) rfl ?_
       have hbs:=((((((HO10.out.1.mono HD9.out.1.size).drew).setCell (p:=⟨w.heap.size+3,0,none⟩) (Nat.le_add_right _ _) (.string U.label)).setCell (p:=⟨w.heap.size+3,1,none⟩) (Nat.le_add_right _ _) (.string U.head)).setCell (p:=⟨w.heap.size+3,2,none⟩) (Nat.le_add_right _ _) (.slice oa U.lines.length oc)).setCell (p:=⟨w.heap.size+3,3,none⟩) (Nat.le_add_right _ _) (.slice pa U.kids.length pc))
       refine OneR.fin2 HR8.out (v':=wA (.string U.label) (.string U.head) (.slice oa U.lines.length oc) (.slice pa U.kids.length pc)) (HD9.out.1.trans (hbs.trans (H11.out.mono (Nat.le_trans HD9.out.1.size hbs.size)))) rfl (HL9.out.step fun b hb hp=>⟨(H11.out.block b (Nat.lt_of_lt_of_le hb (by simpa using HO10.out.1.size))).trans ((PA (fun e=>?_)).trans (HO10.out.1.block b hb)),?_⟩)
       all_goals
        have h1:=HD8.out.2.1
        have h2:=HD8.out.2.2
        have h3:=HF8.out
        rcases hp with (hp|hp)|hp
        all_goals first|exact .inl hp.1|exact .inr (by omega)|(exfalso;have:=hp.2;omega)|(exfalso;omega))
 ·rw[decide_eq_false hat] at hE
  go_enter Tryz.func43,Tryz.ntmps43
  go_upto_region 1 with fail
  rw[←HW4.out]
  go_wp2_with fail
  refine(HK1.out o.at' W4 HB4.out).mono ?_
  rintro e w5 ⟨rfl,hb5⟩
  have HB5:=aA hb5
  rw[←HQ1.out.1]
  clear hb5 y0 y1 y2 y3 y4 y5 y6 y7 y8 y9 x0 x1 x2 x3 l0 l1 l2 l3 z0 z1 z2 z3 zf
  cases q1 with
  |none=>
   obtain⟨hx0,hx1,hx2,hx3⟩:=HBx.out w5 HB5.out
   obtain⟨l0,l1,l2,l3,_⟩:=gA hx0
   obtain⟨z0,z1,z2,z3,zf⟩:=gA hx3
   have HZ5:=aA hx3
   have hj:mC none=-1:=rfl
   rw[hj]
   have HRq:Hid (r=.bad 5):=HRr.out.trans (if_pos ⟨hat,rfl⟩)
   clear hat hx0 hx1 hx2 hx3
   go_wp2
   refine bodyPost_ret (v:=.tuple #[.agg #[.string t.label,.string t.head,.slice la t.lines.length lc,.slice ka t.kids.length kc],.int .i64 5]) (fA Tryz.results43 _ _ (w.heap.size+3) rA #[.string t.label,.string t.head,.slice la t.lines.length lc,.slice ka t.kids.length kc] (0,0) _ _ rfl rfl (NA HZ5.out) Tryz.underlying25 rfl rfl) rfl ?_
   rw[HRq.out]
   exact OneR.bad (HB4.out.trans (HB5.out.mono HB4.out.size)) (by omega) (by omega)
  |some j=>
   have hj:mC (some j)=(j:Int):=rfl
   rw[hj]
   have HRq:Hid (r=if q2.isSome then .bad 7 else match vIt 0 0 [] U with| .bad c=>.bad c| .ok _=>.ok U):=HRr.out.trans (if_neg (fun e=>by cases e.2))
   have HNb:Hid (pA x.kids o.at'≠none):=fun e=>by
    have:=(HB0.out.1 e).2
    rw[←HQ1.out.1] at this
    cases this
   have hj0:¬(j:Int)<0:=by omega
   clear hj hat
   obtain⟨hx0,hx1,hx2,hx3⟩:=HBx.out w5 HB5.out
   obtain⟨y0,y1,y2,y3,y4,y5,y6,y7,y8,y9⟩:=yB hx1
   obtain⟨x0,x1,x2,x3,_⟩:=gA hx2
   obtain⟨l0,l1,l2,l3,_⟩:=gA hx0
   obtain⟨z0,z1,z2,z3,zf⟩:=gA hx3
   clear hx0 hx1 hx2 hx3
   go_wp2_with fail
   refine(HK1.out o.item.label w5 (HB4.out.trans (HB5.out.mono HB4.out.size))).mono ?_
   rintro e w6 ⟨rfl,hb6⟩
   have HB6:=aA (HB5.out.trans (hb6.mono HB5.out.size))
   rw[←HQ1.out.2]
   clear hb6 y0 y1 y2 y3 y4 y5 y6 y7 y8 y9 x0 x1 x2 x3 l0 l1 l2 l3 z0 z1 z2 z3 zf
   obtain⟨hx0,hx1,hx2,hx3⟩:=HBx.out w6 HB6.out
   obtain⟨y0,y1,y2,y3,y4,y5,y6,y7,y8,y9⟩:=yB hx1
   obtain⟨x0,x1,x2,x3,xf⟩:=gA hx2
   obtain⟨l0,l1,l2,l3,_⟩:=gA hx0
   obtain⟨z0,z1,z2,z3,zf⟩:=gA hx3
   have HZ6:=aA hx3
   clear hx0 hx1 hx2 hx3
   cases q2 with
   |some j=>
    have hj:mC (some j)=(j:Int):=rfl
    rw[hj]
    have HR7:Hid (r=.bad 7):=HRq.out.trans (if_pos rfl)
    have hj0:(0:Int)≤(j:Int):=by omega
    go_wp2
    refine bodyPost_ret (v:=.tuple #[.agg #[.string t.label,.string t.head,.slice la t.lines.length lc,.slice ka t.kids.length kc],.int .i64 7]) (fA Tryz.results43 _ _ (w.heap.size+3) rA #[.string t.label,.string t.head,.slice la t.lines.length lc,.slice ka t.kids.length kc] (0,0) _ _ rfl rfl (NA HZ6.out) Tryz.underlying25 rfl rfl) rfl ?_
    rw[HR7.out]
    exact OneR.bad (HB4.out.trans (HB6.out.mono HB4.out.size)) (by omega) (by omega)
   |none=>
    have hj:mC none=-1:=rfl
    rw[hj]
    have HR8:Hid (r=match vIt 0 0 [] U with| .bad c=>.bad c| .ok _=>.ok U):=HRq.out.trans (if_neg (by decide))
    go_wp2_with fail
    refine(HBh.out w6 (HB4.out.trans (HB6.out.mono HB4.out.size))).mono ?_
    rintro e w7 ⟨sv,K,rfl,hrow,hb7⟩
    have HB7:=aA (HB6.out.trans (hb7.mono HB6.out.size))
    obtain⟨sa,sc,rfl⟩:=tA hrow.row
    have hB1:w.heap.size+4<w6.heap.size+1:=by have:=HB6.out.size;have:=HS4.out;omega
    have hw7:Below w.heap.size w w7:=HB4.out.trans (HB7.out.mono HB4.out.size)
    have hlx:=MD (g:=w.heap.size+2) hrow (HLu.out.bel hw7) (fun k h=>h) (fun k h=>by have:=h.2;omega) (by omega)
    obtain⟨W8,hW8⟩:∃W8,W8=w7.setCell ⟨w.heap.size+2,3,none⟩ (.slice sa (CB o.at' o.item x.kids).length sc):=⟨_,rfl⟩
    rw[←hW8] at hlx
    obtain⟨hx0,hx1,hx2,hx3⟩:=HBx.out w7 HB7.out
    have hy2:W8.heap[w.heap.size+2]?=some (.cells #[.string x.label,.string x.head,.slice ma x.lines.length mc,.slice sa (CB o.at' o.item x.kids).length sc] rA (0,0)):=by rw[hW8,heap_setCell_same _ _ _ _ _ _ hx2];rfl
    have hy0:W8.heap[w.heap.size]?=some (.cells #[.string t.label,.string t.head,.slice la t.lines.length lc,.slice ka t.kids.length kc] rA (0,0)):=by rw[hW8,Below.heap_setCell _ _ _ _ (by show w.heap.size≠w.heap.size+2;omega)];exact hx0
    have hy1:W8.heap[w.heap.size+1]?=some (.cells #[.int .i64 o.kind,.string o.path,.string o.at',.string o.text,.string o.new,.int .i64 o.line,.string o.item.label,.string o.item.head,.slice ja o.item.lines.length jc,.slice qa o.item.kids.length qc] 46 (0,0)):=by rw[hW8,Below.heap_setCell _ _ _ _ (by show w.heap.size+1≠w.heap.size+2;omega)];exact hx1
    have hy3:W8.heap[w.heap.size+3]?=some (.cells #[.string ⟨#[]⟩,.string ⟨#[]⟩,.slice none 0 0,.slice none 0 0] rA (0,0)):=by rw[hW8,Below.heap_setCell _ _ _ _ (by show w.heap.size+3≠w.heap.size+2;omega)];exact hx3
    have hw8:Below w.heap.size w W8:=by rw[hW8];exact hw7.setCell (by show w.heap.size≤w.heap.size+2;omega) _
    have hs8:W8.heap.size=w7.heap.size:=by rw[hW8];simp
    have hwt:=EC (fun k=>(P k∧k<w.heap.size)∨w6.heap.size+1≤k) o.path HP.out.1 t (x.setKids (CB o.at' o.item x.kids)) (wA (.string t.label) (.string t.head) (.slice la t.lines.length lc) (.slice ka t.kids.length kc)) _ W8 (HLv.out.step fun b hb hp=>⟨hw8.block b hb,.inl hp⟩) hlx (by have:=HSz.out;omega)
    rw[←HU.out] at hwt
    have HWt:=aA hwt
    have HY8:=aA (aI hy0 (aI hy1 (aI hy2 hy3)))
    have HW8:=aA hW8
    have HD8:=aA (aI hw8 (aI hs8 hB1))
    have h67:=hb7.size
    have HF8:=aA h67
    clear y0 y1 y2 y3 y4 y5 y6 y7 y8 y9 x0 x1 x2 x3 xf l0 l1 l2 l3 z0 z1 z2 z3 zf hb7 hrow hw7 hlx hwt hy0 hy1 hy2 hy3 hw8 hs8 hB1 hW8 h67
    obtain⟨x0,x1,x2,x3,xf⟩:=gA hx2
    clear hx0 hx1 hx2 hx3
    generalize (CB o.at' o.item x.kids).length=kln at *
    go_upto_region 6 with fail
    rw[←HW8.out]
    clear x0 x1 x2 x3 xf
    obtain⟨x0,x1,x2,x3,_⟩:=gA HY8.out.2.2.1
    obtain⟨l0,l1,l2,l3,_⟩:=gA HY8.out.1
    obtain⟨y0,y1,y2,y3,y4,y5,y6,y7,y8,y9⟩:=yB HY8.out.2.1
    go_wp2_with fail
    refine HWt.out.mono ?_
    rintro e w9 ⟨⟨v9,rfl,hl9⟩,hb9⟩
    obtain⟨k0,k1,⟨oa,oc,k2⟩,pa,pc,k3⟩:=hl9.forms
    have hl9v:=hl9.vals k0 k1 k2 k3
    rw[k0,k1,k2,k3]
    have hfit:FewIt U∧jA U≤4194304:=by
     cases hb:pA x.kids o.at' with
     |none=>exact absurd hb HNb.out
     |some i=>rw[HU.out];exact HQ2.out i hb
    have HVl:Hid (∀W,(∀k,k<w9.heap.size→k≠w.heap.size+3→W.heap[k]?=w9.heap[k]?)→Calls Tryz.prog 19 #[.agg #[.string U.label,.string U.head,.slice oa U.lines.length oc,.slice pa U.kids.length pc]] W fun e w'=>e=.returned (.int .i64 (gC (vIt 0 0 [] U)))∧Below W.heap.size W w'):=fun W hW=>
     NC U hfit.1 hfit.2 W (fun _=>True) (wA _ _ _ _) (hl9v.step fun b hb hp=>⟨hW b hb (fun e=>by
      have h1:=HD8.out.2.1
      have h2:=HD8.out.2.2
      have h3:=HF8.out
      rcases hp with (hp|hp)|hp
      ·have:=hp.2;omega
      ·omega
      ·omega),trivial⟩)
    have h39:=(hb9.block (w.heap.size+3) (by have h1:=HD8.out.2.1;have h2:=HD8.out.2.2;have h3:=HF8.out;omega)).trans HY8.out.2.2.2
    have HD9:=aA (aI (HD8.out.1.trans (hb9.mono HD8.out.1.size)) h39)
    have HL9:=aA hl9v
    obtain⟨W10,hW10⟩:∃W10,W10=w9.alloc (.cells #[.string U.label,.string U.head,.slice oa U.lines.length oc,.slice pa U.kids.length pc] rA):=⟨_,rfl⟩
    have HW10:=aA hW10
    have hb10:Below w9.heap.size w9 W10:=by rw[hW10];exact bA _ _
    have ho10:W10.heap[w9.heap.size]?=some (.cells #[.string U.label,.string U.head,.slice oa U.lines.length oc,.slice pa U.kids.length pc] rA (0,0)):=by rw[hW10];exact heap_alloc_new _ _
    have HO10:=aA (aI hb10 ho10)
    have hlt9:w.heap.size+3<w9.heap.size:=(Array.getElem?_eq_some_iff.1 h39).1
    have HLt:=aA hlt9
    clear x0 x1 x2 x3 l0 l1 l2 l3 y0 y1 y2 y3 y4 y5 y6 y7 y8 y9 hl9 hb9 k0 k1 k2 k3 hl9v hfit h39 hW10 hb10 ho10
    go_upto_region 7 with fail
    rw[←HW10.out]
    obtain⟨o0,o1,o2,o3,_⟩:=gA HO10.out.2
    have hz10:=(HO10.out.1.block (w.heap.size+3) HLt.out).trans HD9.out.2
    obtain⟨z0,z1,z2,z3,zf⟩:=gA hz10
    have HZ10:=aA hz10
    have hne9:¬w9.heap.size=w.heap.size+3:=by have:=HLt.out;omega
    have hne9':¬w.heap.size+3=w9.heap.size:=by have:=HLt.out;omega
    have hlt10:w9.heap.size<W10.heap.size:=(Array.getElem?_eq_some_iff.1 HO10.out.2).1
    clear hz10
    go_region_held3 (fun V=>V.cell? ⟨w9.heap.size,0,none⟩=some (.string U.label)∧V.cell? ⟨w9.heap.size,1,none⟩=some (.string U.head)∧V.cell? ⟨w9.heap.size,2,none⟩=some (.slice oa U.lines.length oc)∧V.cell? ⟨w9.heap.size,3,none⟩=some (.slice pa U.kids.length pc)) (first|exact⟨o0,o1,o2,o3⟩|exact⟨q0,q1,q2,q3⟩|go_keep) (first|(go_simp;go_at_call 19;refine(HVl.out _ (by first|exact(fun k hk _=>HO10.out.1.block k hk)|exact(fun k hk hne=>(PA hne).trans (HO10.out.1.block k hk)))).mono ?_;rintro e w11 ⟨rfl,hb11⟩;obtain⟨q0,q1,q2,q3,_⟩:=gA (show w11.heap[w9.heap.size]?=some (.cells #[.string U.label,.string U.head,.slice oa U.lines.length oc,.slice pa U.kids.length pc] rA (0,0)) from(by first|exact(hb11.block w9.heap.size hlt10).trans HO10.out.2|exact(hb11.block w9.heap.size (by simp;exact hlt10)).trans ((PA hne9).trans HO10.out.2)));(first|(have hz11:=(hb11.block (w.heap.size+3) (Nat.lt_trans HLt.out hlt10)).trans HZ10.out;obtain⟨r0,r1,r2,r3,rf⟩:=gA hz11;have HZ11:=aA hz11;clear hz11)|(have hz11:=(hb11.block (w.heap.size+3) (by simp;exact Nat.lt_trans HLt.out hlt10)).trans (NA HZ10.out);have HZ11:=aA hz11;clear hz11));have H11:=aA hb11;clear hb11))
    all_goals go_wp2
    all_goals
     first
      |(refine bodyPost_ret (v:=.tuple #[.agg #[.string U.label,.string U.head,.slice oa U.lines.length oc,.slice pa U.kids.length pc],.int .i64 (gC (vIt 0 0 [] U))]) (fA Tryz.results43 _ _ (w.heap.size+3) rA #[.string U.label,.string U.head,.slice oa U.lines.length oc,.slice pa U.kids.length pc] (0,0) _ _ rfl rfl (NA HZ11.out) Tryz.underlying25 rfl rfl) rfl ?_
        refine OneR.fin1 HR8.out (v':=wA (.string U.label) (.string U.head) (.slice oa U.lines.length oc) (.slice pa U.kids.length pc)) (HD9.out.1.trans (((HO10.out.1.mono HD9.out.1.size).drew).trans (H11.out.mono (Nat.le_trans HD9.out.1.size HO10.out.1.size)))) (by omega) rfl (HL9.out.step fun b hb hp=>⟨(H11.out.block b (Nat.lt_of_lt_of_le hb HO10.out.1.size)).trans (HO10.out.1.block b hb),?_⟩)
        have h1:=HD8.out.2.1
        have h2:=HD8.out.2.2
        have h3:=HF8.out
        rcases hp with (hp|hp)|hp
        ·exact .inl hp
        ·exact .inr (by omega)
        ·exact .inr (by omega))
      |(refine bodyPost_ret (v:=.tuple #[.agg #[.string U.label,.string U.head,.slice oa U.lines.length oc,.slice pa U.kids.length pc],.int .i64 (gC (vIt 0 0 [] U))]) (fA Tryz.results43 _ _ (w.heap.size+3) rA #[.string U.label,.string U.head,.slice oa U.lines.length oc,.slice pa U.kids.length pc] (0,0) _ _ rfl rfl HZ11.out Tryz.underlying25 rfl rfl) rfl ?_
        have hbs:=((((((HO10.out.1.mono HD9.out.1.size).drew).setCell (p:=⟨w.heap.size+3,0,none⟩) (Nat.le_add_right _ _) (.string U.label)).setCell (p:=⟨w.heap.size+3,1,none⟩) (Nat.le_add_right _ _) (.string U.head)).setCell (p:=⟨w.heap.size+3,2,none⟩) (Nat.le_add_right _ _) (.slice oa U.lines.length oc)).setCell (p:=⟨w.heap.size+3,3,none⟩) (Nat.le_add_right _ _) (.slice pa U.kids.length pc))
        refine OneR.fin2 HR8.out (v':=wA (.string U.label) (.string U.head) (.slice oa U.lines.length oc) (.slice pa U.kids.length pc)) (HD9.out.1.trans (hbs.trans (H11.out.mono (Nat.le_trans HD9.out.1.size hbs.size)))) rfl (HL9.out.step fun b hb hp=>⟨(H11.out.block b (Nat.lt_of_lt_of_le hb (by simpa using HO10.out.1.size))).trans ((PA (fun e=>?_)).trans (HO10.out.1.block b hb)),?_⟩)
        all_goals
         have h1:=HD8.out.2.1
         have h2:=HD8.out.2.2
         have h3:=HF8.out
         rcases hp with (hp|hp)|hp
         all_goals first|exact .inl hp.1|exact .inr (by omega)|(exfalso;have:=hp.2;omega)|(exfalso;omega))
end Go.Proofs.YtpbolcjcmkmalaaGreatDoor

import Derived.Test.YtehbinobohjadaaGreatDoorTm00
import Derived.Test.YtehbinobohjadaaGreatDoorTm25
import Derived.Test.YtehbinobohjadaaGreatDoorTm20
import Derived.Test.YtehbinobohjadaaGreatDoorTm16
import Derived.Test.YtehbinobohjadaaGreatDoorTm19
import Derived.Test.YtehbinobohjadaaGreatDoorTm11
import Derived.Deep.LoopGhost
set_option maxHeartbeats 20000000
set_option maxRecDepth 20000
namespace Go.Proofs.YtehbinobohjadaaGreatDoor
open Go.RowKit Go.Extern.Stop Go.Stop Go.Extern
def BP(L:List Tok)(rp tb:Nat)(fn:FuncId)(P:Nat→Nat→PR Nd):Prop:=∀(w:World) (k n:Nat),QS L rp tb w k n→k+1<L.length→P k n≠.out→Calls Tryz.prog fn #[.pointer (some ⟨rp,0,none⟩)] w fun e w'=>QEnd L rp tb w (P k n) (fun x v w'=>pH w.heap.size x v w') e w'
structure AllQ(L:List Tok)(rp tb f:Nat):Prop where
 ei:QRule L rp tb 40 (FA L f)
 bo:QRule L rp tb 81 (iC L f)
 un:QRule L rp tb 119 (QA L f)
 te:QRule L rp tb 140 (BC L f)
 ot:BP L rp tb 152 (iB L f)
 co:QRule L rp tb 154 (DC L f)
 su:QRule L rp tb 84 (GC L f)
 pa:QRule L rp tb 120 (fC L f)
 fa:QRule L rp tb 142 (mB L f)
 gr:BP L rp tb 157 (KB L f)
theorem rS{L:List Tok}{rp tb:Nat}:∀f f',f'≤f→AllQ L rp tb f'
 |f,0,_=>by
  refine⟨?_,?_,?_,?_,?_,?_,?_,?_,?_,?_⟩
  ·intro w k n h hn;exact absurd (by rw[FA]) hn
  ·intro w k n h hn;exact absurd (by rw[iC]) hn
  ·intro w k n h hn;exact absurd (by rw[QA]) hn
  ·intro w k n h hn;exact absurd (by rw[BC]) hn
  ·intro w k n h _ hn;exact absurd (by rw[iB]) hn
  ·intro w k n h hn;exact absurd (by rw[DC]) hn
  ·intro w k n h hn;exact absurd (by rw[GC]) hn
  ·intro w k n h hn;exact absurd (by rw[fC]) hn
  ·intro w k n h hn;exact absurd (by rw[mB]) hn
  ·intro w k n h _ hn;exact absurd (by rw[KB]) hn
 |0,f'+1,h=>by omega
 |f+1,f'+1,h=>by
  have ih:=rS (L:=L) (rp:=rp) (tb:=tb) f
  have h':f'≤f:=by omega
  exact⟨zK fun q hq=>(ih q (by omega)).bo,PM fun q hq=>(ih q (by omega)).un,BK (ih f' h').un (ih f' h').te,RM (ih f' h').ei (ih f' h').ot (ih f' h').co,FL (ih f' h').ei,AO (ih f' h').su,cP fun q hq=>(ih q (by omega)).pa,QM fun q hq=>(ih q (by omega)).fa,AK (ih f' h').su (ih f' h').gr,EM (ih f' h').su⟩
theorem pQ{L:List Tok}{rp tb:Nat}{w:World}{k n:Nat}(h:QS L rp tb w k n):
 Calls Tryz.prog 87 #[.pointer (some ⟨rp,0,none⟩)] w fun e w'=>QEnd L rp tb w (DD L k n) (fun x v _=>v=.int .i64 x) e w':=by
 obtain⟨m,c,hm,h1,hc,h4,x0,x1,xf⟩:=h.cells
 obtain⟨y0,y1,y2⟩:=h.tokens
 obtain⟨W1,hW1⟩:∃W1,W1=w.alloc (.cells #[.int .i64 (kN (cA L k).kind),.string (cA L k).text,.int .i64 (cA L k).pos] 91):=⟨_,rfl⟩
 have b1:Below w.heap.size w W1:=by rw[hW1];exact bA _ _
 have n1:W1.heap[w.heap.size]?=some (.cells #[.int .i64 (kN (cA L k).kind),.string (cA L k).text,.int .i64 (cA L k).pos] 91 (0,0)):=by rw[hW1];exact heap_alloc_new _ _
 have s1:w.heap.size<W1.heap.size:=by rw[hW1];simp
 have HX:=aA hW1
 have HW:=aA (fun (W:World) (hq:QS L rp tb W k n)=>FD hq 189)
 have HB:=aA (aI b1 (aI n1 (aI s1 (aI (h.below b1) h.lows))))
 obtain⟨v0,v1,v2,vf⟩:=eE n1
 obtain⟨pt,gt⟩:=(h.below b1).gT
 have hz:=YT (t:=(cA L k).kind)
 unfold DD
 by_cases hk:(cA L k).kind=.n
 ·have hnf:=h.ok.num k _ (vC h.lt) hk
  obtain⟨ds,cs,hcut⟩:=hnf.cut
  have hk1:=h.moreK (by rw[hk];intro e;cases e)
  have HS:=aA (fun (W:World) (hq:QS L rp tb W k n)=>ZF hq hk1)
  have HPo:=aA (FM (cA L k) hcut)
  have HL:=aA (fun (W:World) (m:Int) (hm:W.cell? ⟨12,0,none⟩=some (.int .i64 m))=>pL (cA L k) hnf.1 hcut m W hm)
  have hwn:=hcut.w
  rw[decide_eq_true hk] at hz
  simp only[Bool.not_true] at hz
  unfold GF at HL HPo
  cases hp:kD (cA L k).text with
  |true=>
   rw[if_neg (fun h=>by cases h.2.1)]
   rw[hp] at HPo
   clear h hk hW1 b1 n1 hk1 hcut hnf hwn hp
   generalize kN (cA L k).kind=K0 at *
   generalize (cA L k).text=K1 at *
   generalize (cA L k).pos=K2 at *
   go_enter Tryz.func87,Tryz.ntmps87
   go_upto_region 2 with fail
   rw[←HX.out]
   go_wp2_with (first|(go_at_call 121;refine(HPo.out _).mono ?_;rintro e w' ⟨rfl,hb⟩;have hq2:=HB.out.2.2.2.1.below hb;obtain⟨pb,gb⟩:=hq2.gT;have HQ:=aA (aI hq2 hb);clear hb hq2)|(go_at_call 44;refine(HW.out _ HQ.out.1 _).mono ?_;rintro e w'' ⟨⟨p,rfl⟩,hb⟩;have HE:=aA hb;clear hb))
   exact⟨rfl,Below.x ((HB.out.1.trans (HQ.out.2.mono (Nat.le_of_lt s1))).trans (HE.out.mono (by have:=HQ.out.2.size;omega))) _ (nR _),⟨_,rfl⟩⟩
  |false=>
   rw[hp] at HPo
   have hds:=(hcut.p hp).1
   by_cases hl:12<ds.length
   ·rw[if_neg (by rw[hwn];omega)]
    rw[decide_eq_true hl] at HL
    clear h hk hW1 b1 n1 hk1 hcut hnf hwn hp hds
    generalize kN (cA L k).kind=K0 at *
    generalize (cA L k).text=K1 at *
    generalize (cA L k).pos=K2 at *
    go_enter Tryz.func87,Tryz.ntmps87
    go_upto_region 2 with fail
    rw[←HX.out]
    go_wp2_with (first|(go_at_call 121;refine(HPo.out _).mono ?_;rintro e w' ⟨rfl,hb⟩;have hq2:=HB.out.2.2.2.1.below hb;obtain⟨m2,gm2⟩:=hq2.gM;obtain⟨z0,z1,z2,zf⟩:=eE ((hb.block _ s1).trans HB.out.2.1);have HQ:=aA (aI hq2 hb);clear hb hq2)|(go_at_call 122;refine(HL.out _ _ gm2).mono ?_;rintro e w3 ⟨rfl,hb⟩;have hq3:=HQ.out.1.below hb;obtain⟨pb,gb⟩:=hq3.gB;have HQ3:=aA (aI hq3 hb);clear hb hq3)|(go_at_call 44;refine(HW.out _ HQ3.out.1 _).mono ?_;rintro e w'' ⟨⟨p,rfl⟩,hb⟩;have HE:=aA hb;clear hb))
    have i2:=HQ.out.2.size
    have i3:=HQ3.out.2.size
    exact⟨rfl,Below.x (((HB.out.1.trans (HQ.out.2.mono (Nat.le_of_lt s1))).trans (HQ3.out.2.mono (by omega))).trans (HE.out.mono (by omega))) _ (nR _),⟨_,rfl⟩⟩
   ·rw[decide_eq_false hl] at HL
    have hsz:(cA L k).text.size≤12:=by
     have h9:(cA L k).text.data.toList.length=ds.length:=by rw[hds]
     rw[Array.length_toList] at h9
     show (cA L k).text.data.size≤12
     omega
    have HWo:=aA (PK (cA L k).text hsz (by rw[hds];exact hcut.d))
    have hwl:BE (cA L k).text≤12:=by rw[hwn];omega
    by_cases hv:kG (cA L k).text.data.toList 0≤100000
    ·rw[if_pos ⟨hk,rfl,hwl,hv⟩]
     have hvz:¬(100000:Int)<kG (cA L k).text.data.toList 0:=by omega
     clear h hk hW1 b1 n1 hk1 hcut hnf hwn hwl hv hds hp hsz
     generalize kG (cA L k).text.data.toList 0=O at *
     generalize kN (cA L k).kind=K0 at *
     generalize (cA L k).text=K1 at *
     generalize (cA L k).pos=K2 at *
     go_enter Tryz.func87,Tryz.ntmps87
     go_upto_region 2 with fail
     rw[←HX.out]
     go_upto_region 6 with (first|(go_at_call 121;refine(HPo.out _).mono ?_;rintro e w' ⟨rfl,hb⟩;have hq2:=HB.out.2.2.2.1.below hb;obtain⟨m2,gm2⟩:=hq2.gM;obtain⟨z0,z1,z2,zf⟩:=eE ((hb.block _ s1).trans HB.out.2.1);have HQ:=aA (aI hq2 hb);clear hb hq2)|(go_at_call 122;refine(HL.out _ _ gm2).mono ?_;rintro e w3 ⟨rfl,hb⟩;have hq3:=HQ.out.1.below hb;have i2:=HQ.out.2.size;obtain⟨z0,z1,z2,zf⟩:=eE ((hb.block w.heap.size (by omega)).trans ((HQ.out.2.block _ s1).trans HB.out.2.1));have HQ3:=aA (aI hq3 hb);clear hb hq3)|(go_at_call 123;refine(HWo.out _).mono ?_;rintro e w4 ⟨rfl,hb⟩;have HQ4:=aA (aI (HQ3.out.1.below hb) hb);clear hb))
     have i3:=HQ3.out.2.size
     have i4:=HQ4.out.2.size
     go_wp2_with (first|(go_at_call 35;refine(HS.out _ HQ4.out.1).mono ?_;rintro e w5 ⟨rfl,hq5,hb⟩;have HE:=aA (aI hq5 hb);clear hb hq5)|(go_at_call 123;refine(HWo.out _).mono ?_;rintro e w6 ⟨rfl,hb⟩;have HQ6:=aA hb;clear hb))
     go_ret
     exact⟨((Below.x (((HB.out.1.trans (HQ.out.2.mono (Nat.le_of_lt s1))).trans (HQ3.out.2.mono (by omega))).trans (HQ4.out.2.mono (by omega))) _ (nR _)).then HE.out.2 (by omega)).then (Below.x HQ6.out _ (nR _)) (by have:=HE.out.2.size;omega),HE.out.1.below HQ6.out,_,rfl,rfl⟩
    ·rw[if_neg (fun h=>hv h.2.2.2)]
     have hvz:(100000:Int)<kG (cA L k).text.data.toList 0:=by omega
     clear h hk hW1 b1 n1 hk1 hcut hnf hwn hwl hv hds hp hsz
     generalize kG (cA L k).text.data.toList 0=O at *
     generalize kN (cA L k).kind=K0 at *
     generalize (cA L k).text=K1 at *
     generalize (cA L k).pos=K2 at *
     go_enter Tryz.func87,Tryz.ntmps87
     go_upto_region 2 with fail
     rw[←HX.out]
     go_wp2_with (first|(go_at_call 121;refine(HPo.out _).mono ?_;rintro e w' ⟨rfl,hb⟩;have hq2:=HB.out.2.2.2.1.below hb;obtain⟨m2,gm2⟩:=hq2.gM;obtain⟨z0,z1,z2,zf⟩:=eE ((hb.block _ s1).trans HB.out.2.1);have HQ:=aA (aI hq2 hb);clear hb hq2)|(go_at_call 122;refine(HL.out _ _ gm2).mono ?_;rintro e w3 ⟨rfl,hb⟩;have hq3:=HQ.out.1.below hb;have i2:=HQ.out.2.size;obtain⟨z0,z1,z2,zf⟩:=eE ((hb.block w.heap.size (by omega)).trans ((HQ.out.2.block _ s1).trans HB.out.2.1));have HQ3:=aA (aI hq3 hb);clear hb hq3)|(go_at_call 123;refine(HWo.out _).mono ?_;rintro e w4 ⟨rfl,hb⟩;have hq4:=HQ3.out.1.below hb;obtain⟨pb,gb⟩:=hq4.gB;have HQ4:=aA (aI hq4 hb);clear hb hq4)|(go_at_call 44;refine(HW.out _ HQ4.out.1 _).mono ?_;rintro e w'' ⟨⟨p,rfl⟩,hb⟩;have HE:=aA hb;clear hb))
     have i2:=HQ.out.2.size
     have i3:=HQ3.out.2.size
     have i4:=HQ4.out.2.size
     exact⟨rfl,Below.x ((((HB.out.1.trans (HQ.out.2.mono (Nat.le_of_lt s1))).trans (HQ3.out.2.mono (by omega))).trans (HQ4.out.2.mono (by omega))).trans (HE.out.mono (by omega))) _ (nR _),⟨_,rfl⟩⟩
 ·rw[if_neg (fun h=>hk h.1)]
  rw[decide_eq_false hk] at hz
  simp only[Bool.not_false] at hz
  clear h hk hW1 b1 n1
  generalize kN (cA L k).kind=K0 at *
  generalize (cA L k).text=K1 at *
  generalize (cA L k).pos=K2 at *
  go_enter Tryz.func87,Tryz.ntmps87
  go_upto_region 2 with fail
  rw[←HX.out]
  go_wp2_with (go_at_call 44;refine(HW.out _ HB.out.2.2.2.1 _).mono ?_;rintro e w'' ⟨⟨p,rfl⟩,hb⟩;have HE:=aA hb;clear hb)
  exact⟨rfl,Below.x (HB.out.1.trans (HE.out.mono (Nat.le_of_lt s1))) _ (nR _),⟨_,rfl⟩⟩
def GH(L:List Tok)(k n:Nat):PR (Bool×ByteArray):=(oB L (if YB L wNot k=true then k+1 else k) n).bind fun x k' n=>.ok (!YB L wNot k,x) k' n
def iF(L:List Tok)(f k n:Nat):PR Nd:=if YB L wIf k=true then FA L f (k+1) n else .ok Nd.zero k n
def WK(L:List Tok)(rp tb sp:Nat)(w:World){α:Type}(r:PR α)(V:α→World→Prop)(e:Ending)(w':World):Prop:=
 BelY w.heap.size rp sp w w'∧match r with
  | .out=>True
  | .bad _ _=>vW e
  | .ok x k n=>QS L rp tb w' k n∧e=.returned (.tuple #[])∧V x w'
theorem vL{L:List Tok}{k n:Nat}:GH L k n≠.out:=by
 unfold GH
 generalize (if YB L wNot k=true then k+1 else k)=k'
 cases h:oB L k' n with
 |out=>exact absurd h aC
 |bad c a=>intro h;cases h
 |ok x k n=>intro h;cases h
theorem EJ{L:List Tok}{rp tb sp B:Nat}{w:World}{k n:Nat}{cs:Array Value}(h:QS L rp tb w k n)(hs:SB w sp cs)(lo:Lows rp tb B)(hB:B≤sp):
 Calls Tryz.prog 82 #[.pointer (some ⟨rp,0,none⟩),.pointer (some ⟨sp,0,none⟩)] w fun e w'=>WK L rp tb sp w (GH L k n) (fun x w'=>SB w' sp ((cs.setIfInBounds 3 (.bool x.1)).setIfInBounds 4 (.string x.2))) e w':=by
 have HT:=aA (qI h ⟨#[110,111,116]⟩ (by decide))
 have HN:=rG (L:=L) (rp:=rp) (tb:=tb)
 have hne:sp≠rp:=by have:=lo.r;omega
 obtain⟨R,hR⟩:∃R,R=GH L k n:=⟨_,rfl⟩
 rw[←hR]
 have HR:Hid (R=(oB L (if YB L ⟨#[110,111,116]⟩ k=true then k+1 else k) n).bind fun x k' n=>.ok (!YB L ⟨#[110,111,116]⟩ k,x) k' n):=hR
 have HS:=aA hs
 have HL:=aA lo
 have hin:=hs.in
 generalize (if YB L ⟨#[110,111,116]⟩ k=true then k+1 else k)=k1 at *
 generalize YB L ⟨#[110,111,116]⟩ k=b at *
 clear h hs lo hR
 go_enter Tryz.func82,Tryz.ntmps82
 go_upto_region 1 with (go_at_call 80;refine HT.out.mono ?_;rintro e W2 ⟨rfl,hq,hb⟩;have hs2:=HS.out.keep (hb.block sp hin hne);obtain⟨c3,x3⟩:=hs2.cell (i:=3) (by omega);have xf:=hs2.froz;have HQ2:=aA (aI hq (aI hb hs2));clear hq hb hs2)
 obtain⟨V2,hV2⟩:∃V2,V2=W2.setCell ⟨sp,3,none⟩ (.bool (!b)):=⟨_,rfl⟩
 rw[←hV2]
 have hs2:SB V2 sp (cs.setIfInBounds 3 (.bool (!b))):=by rw[hV2];exact HQ2.out.2.2.set 3 _
 have hq2:QS L rp tb V2 k1 n:=by rw[hV2];exact HQ2.out.1.set HL.out hB 3 _
 have hb2:BelY w.heap.size rp sp w V2:=by rw[hV2];exact(HQ2.out.2.1.y sp).set 3 _
 have hz2:V2.heap.size=W2.heap.size:=by rw[hV2];simp
 have hw2:w.heap.size≤W2.heap.size:=HQ2.out.2.1.size
 have HV2:=aA (aI hq2 (aI hb2 hs2))
 clear hV2 hs2 hq2 hb2 HQ2 x3 xf
 go_wp2_with (go_at_call 36;refine(HN.out _ _ _ HV2.out.1).mono ?_;rintro e W3 hE;rcases hr:oB L k1 n with _|⟨c,a⟩|⟨x2,k2,n2⟩;(·exact absurd hr aC);(·rw[hr] at hE;obtain⟨hb,⟨p,rfl⟩⟩:=hE;obtain rfl:R=.bad c a:=(by rw[HR.out,hr,PR.bind_bad]);exact(show _∧_ from⟨rfl,HV2.out.2.1.then (hb.y sp) (by omega),⟨_,rfl⟩⟩));rw[hr] at hE;obtain⟨hb,hq,v,rfl,rfl⟩:=hE;rw[hr,PR.bind_ok] at HR;have hs3:=HV2.out.2.2.keep (hb.block sp (by omega) hne);obtain⟨c4,x4⟩:=hs3.cell (i:=4) (by omega);have xf:=hs3.froz;have HQ3:=aA (aI hq (aI (HV2.out.2.1.then (hb.y sp) (by omega)) hs3));clear hb hq hr hs3)
 go_end0
 obtain rfl:=HR.out
 exact⟨HQ3.out.2.1.set 4 _,HQ3.out.1.set HL.out hB 4 _,rfl,HQ3.out.2.2.set 4 _⟩
theorem nD{cs:Array Value}{i:Nat}{v:Value}(h:cs[i]?=some v):cs.setIfInBounds i v=cs:=by
 apply Array.ext_getElem?
 intro j
 rw[Array.getElem?_setIfInBounds]
 split
 ·rename_i e
  subst e
  split
  ·exact h.symm
  ·rename_i h1
   rw[Array.getElem?_eq_none (by omega)] at h;cases h
 ·rfl
structure Empty4(cs:Array Value)(o:Nat):Prop where
 a:cs[o]?=some (.string ⟨#[]⟩)
 b:cs[o+1]?=some (.string ⟨#[]⟩)
 c:cs[o+2]?=some (.int .i64 0)
 d:cs[o+3]?=some (.slice none 0 0)
def uA(cs:Array Value)(o:Nat)(a b c d:Value):Array Value:=(((cs.setIfInBounds o a).setIfInBounds (o+1) b).setIfInBounds (o+2) c).setIfInBounds (o+3) d
theorem Empty4.put{cs:Array Value}{o:Nat}(h:Empty4 cs o):uA cs o (.string ⟨#[]⟩) (.string ⟨#[]⟩) (.int .i64 0) (.slice none 0 0)=cs:=by
 unfold uA
 rw[nD h.a,nD h.b,nD h.c,nD h.d]
structure SetNode(W WF:World)(sp o:Nat)(cs:Array Value)(a b c d:Value):Prop where
 sb:SB WF sp (uA cs o a b c d)
 old:∀q,q≠sp→WF.heap[q]?=W.heap[q]?
 size:WF.heap.size=W.heap.size
theorem CK{W:World}{sp:Nat}{cs:Array Value}(h:SB W sp cs)(o:Nat)(a b c d:Value):SetNode W ((((W.setCell ⟨sp,o,none⟩ a).setCell ⟨sp,o+1,none⟩ b).setCell ⟨sp,o+2,none⟩ c).setCell ⟨sp,o+3,none⟩ d) sp o cs a b c d:=
 ⟨(((h.set o a).set (o+1) b).set (o+2) c).set (o+3) d,fun q hq=>by rw[Below.heap_setCell _ _ _ _ hq,Below.heap_setCell _ _ _ _ hq,Below.heap_setCell _ _ _ _ hq,Below.heap_setCell _ _ _ _ hq],by simp⟩
theorem SetNode.belY{W WF a0:World}{B rp sp o:Nat}{cs:Array Value}{a b c d:Value}(h:SetNode W WF sp o cs a b c d)(hb:BelY B rp sp a0 W)(ho:WF.os=W.os)(ht:WF.tape=W.tape)(hp:WF.output=W.output):BelY B rp sp a0 WF:=⟨ho.trans hb.os,ht.trans hb.tape,hp.trans hb.output,by rw[h.size];exact hb.size,fun k h1 h2 h3=>(h.old k h3).trans (hb.block k h1 h2 h3)⟩
def xU(w':World)(sp o:Nat)(cs:Array Value)(P:Nat→Prop)(x:Nd):Prop:=∃(s0 s1:ByteArray) (n2:Int) (ka:Option Addr) (kn kc:Nat),SB w' sp (uA cs o (.string s0) (.string s1) (.int .i64 n2) (.slice ka kn kc))∧NL w' P (nv (.string s0) (.string s1) (.int .i64 n2) (.slice ka kn kc)) x
theorem uI{L:List Tok}{rp tb sp B f:Nat}{w:World}{k n:Nat}{cs:Array Value}(h:QS L rp tb w k n)(hs:SB w sp cs)(lo:Lows rp tb B)(hB:B≤sp)(hz:Empty4 cs 5)(hn:iF L f k n≠.out):
 Calls Tryz.prog 83 #[.pointer (some ⟨rp,0,none⟩),.pointer (some ⟨sp,0,none⟩)] w fun e w'=>WK L rp tb sp w (iF L f k n) (fun x w'=>xU w' sp 5 cs (fun b=>w.heap.size≤b) x) e w':=by
 have hne:sp≠rp:=by have:=lo.r;omega
 have HL:=aA lo
 have HS:=aA hs
 have hin:=hs.in
 have HZ:=aA hz
 obtain⟨R,hR⟩:∃R,R=iF L f k n:=⟨_,rfl⟩
 rw[←hR] at hn ⊢
 unfold iF wIf at hR
 cases hi:YB L ⟨#[105,102]⟩ k with
 |false=>
  rw[hi,if_neg (by simp)] at hR
  have HT:=aA (FE h ⟨#[105,102]⟩ hi)
  have HQ:=aA h
  clear h hs lo hi hz
  subst hR
  go_enter Tryz.func83,Tryz.ntmps83
  go_wp2_with (go_at_call 80;refine HT.out.mono ?_;rintro e W2 ⟨rfl,rfl⟩)
  go_end0
  exact⟨BelY.refl _ _ _ _,HQ.out,rfl,⟨#[]⟩,⟨#[]⟩,0,none,0,0,by rw[HZ.out.put];exact HS.out,NL.leaf _ _ ⟨#[]⟩ ⟨#[]⟩ 0⟩
 |true=>
  rw[hi,if_pos rfl] at hR
  have HT:=aA (UD h ⟨#[105,102]⟩ (by decide) hi)
  have HR:=aA hR
  have HNo:=aA hn
  have HA:=aA ((rS (L:=L) (rp:=rp) (tb:=tb) f f (nR _)).ei)
  clear h hs lo hi hz hR hn
  go_enter Tryz.func83,Tryz.ntmps83
  go_wp2_with (first|(go_at_call 80;refine HT.out.mono ?_;rintro e W2 ⟨rfl,hq,hb⟩;have hz2:=hb.size;have HQ2:=aA (aI hq (aI hb (HS.out.keep (hb.block sp hin hne))));clear hq hb)|(go_at_call 40;refine(HA.out _ _ _ HQ2.out.1 (HR.out▸HNo.out)).mono ?_;rintro e W3 hE;rcases hr:FA L f (k+1) n with _|⟨c,a⟩|⟨x2,k2,n2⟩;(·exact absurd hr (HR.out▸HNo.out));(·rw[hr] at hE;obtain⟨hb,⟨p,rfl⟩⟩:=hE;obtain rfl:R=.bad c a:=(by rw[HR.out,hr]);exact(show _∧_ from⟨rfl,(HQ2.out.2.1.y sp).then (hb.y sp) (by omega),⟨_,rfl⟩⟩));rw[hr] at hE HR;obtain⟨hb,hq,v,rfl,s0,s1,i2,ka,kn,kc,rfl,hN⟩:=hE;have hs3:=HQ2.out.2.2.keep (hb.block sp (by omega) hne);obtain⟨c5,x5⟩:=hs3.cell (i:=5) (by omega);obtain⟨c6,x6⟩:=hs3.cell (i:=6) (by omega);obtain⟨c7,x7⟩:=hs3.cell (i:=7) (by omega);obtain⟨c8,x8⟩:=hs3.cell (i:=8) (by omega);have xf:=hs3.froz;have HQ3:=aA (aI hq (aI ((HQ2.out.2.1.y sp).then (hb.y sp) (by omega)) (aI hs3 hN)));clear hb hq hr hs3 hN))
  go_end0
  obtain rfl:=HR.out
  have hsn:=CK HQ3.out.2.2.1 5 (.string s0) (.string s1) (.int .i64 i2) (.slice ka kn kc)
  exact⟨hsn.belY HQ3.out.2.1 rfl rfl rfl,HQ3.out.1.keep HL.out (fun b hb=>hsn.old b (by omega)),rfl,s0,s1,i2,ka,kn,kc,hsn.sb,HQ3.out.2.2.2.step fun b hb hp=>⟨hsn.old b (by omega),by omega⟩⟩
def fE(L:List Tok)(f k n:Nat):PR (Nd×Nd×Nat):=(GC L f k n).bind fun x k n=>(iF L f k n).bind fun c k n=>if YB L (sg 59) k=true then (bB L AE (k+1) n).bind fun _ k n=>(OC L waysW k n).bind fun w k n=>.ok (x,c,w) k n else .ok (x,c,4) k n
def pJ(L:List Tok)(k n:Nat):PR ByteArray:=if YB L dF k=true then oB L (k+1) n else .ok ⟨#[]⟩ k n
def jJ(L:List Tok)(k n:Nat):PR Nat:=if YB L (sg 44) k=true then OC L rollsQ (k+1) n else .ok 0 k n
def wI(L:List Tok)(k n:Nat):PR ((Bool×ByteArray)×Nat×Nat×Nat×ByteArray):=(GH L k n).bind fun l k n=>(bB L ED k n).bind fun _ k n=>(DD L k n).bind fun t k n=>(OC L unitsW k n).bind fun u k n=>(jJ L k n).bind fun r k n=>(pJ L k n).bind fun e k n=>.ok (l,t,u,r,e) k n
theorem WE{cs:Array Value}{o j:Nat}{a b c d:Value}(h:j<o∨o+4≤j):(uA cs o a b c d)[j]?=cs[j]?:=by
 unfold uA
 rw[Array.getElem?_setIfInBounds_ne (by omega),Array.getElem?_setIfInBounds_ne (by omega),Array.getElem?_setIfInBounds_ne (by omega),Array.getElem?_setIfInBounds_ne (by omega)]
theorem UF{L:List Tok}{ls:List ByteArray}{k n:Nat}:OC L ls k n≠.out:=by
 unfold OC
 split
 ·split<;>(intro h;cases h)
 ·intro h;cases h
theorem uL{L:List Tok}{k n:Nat}:DD L k n≠.out:=by unfold DD;split<;>(intro h;cases h)
theorem jI{L:List Tok}{rp tb:Nat}{w V:World}{k n:Nat}{ls:List ByteArray}(h:QS L rp tb w k n)(hr:NewRow ls w (.returned (.slice (some ⟨w.heap.size,0,none⟩) ls.length ls.length)) V)(hl:ls.length≤1000):
 Calls Tryz.prog 85 #[.pointer (some ⟨rp,0,none⟩),.slice (some ⟨w.heap.size,0,none⟩) ls.length ls.length] V fun e w'=>QEnd L rp tb w (OC L ls k n) (fun x v _=>v=.int .i64 x) e w':=
 (ZS (h.below hr.b) ls w.heap.size ls.length (fun i s hs=>by rw[Nat.zero_add];exact hr.c i s hs) hl).mono fun e w' hE=>⟨(Below.x hr.b rp (nR _)).then hE.1 hr.b.size,hE.2⟩
theorem IP{L:List Tok}{rp tb sp B f:Nat}{w:World}{k n:Nat}{cs:Array Value}(h:QS L rp tb w k n)(hs:SB w sp cs)(lo:Lows rp tb B)(hB:B≤sp)(hz:Empty4 cs 5)(hw:cs[13]?=some (.int .i64 4))(hn:fE L f k n≠.out):
 Calls Tryz.prog 42 #[.pointer (some ⟨rp,0,none⟩),.pointer (some ⟨sp,0,none⟩)] w fun e w'=>WK L rp tb sp w (fE L f k n) (fun x w'=>∃(s0 s1:ByteArray) (n2:Int) (ka:Option Addr) (kn kc:Nat) (t0 t1:ByteArray) (m2:Int) (la:Option Addr) (ln lc:Nat),SB w' sp ((uA (uA cs 9 (.string s0) (.string s1) (.int .i64 n2) (.slice ka kn kc)) 5 (.string t0) (.string t1) (.int .i64 m2) (.slice la ln lc)).setIfInBounds 13 (.int .i64 x.2.2))∧NL w' (fun b=>w.heap.size≤b) (nv (.string s0) (.string s1) (.int .i64 n2) (.slice ka kn kc)) x.1∧NL w' (fun b=>w.heap.size≤b) (nv (.string t0) (.string t1) (.int .i64 m2) (.slice la ln lc)) x.2.1) e w':=by
 have hne:sp≠rp:=by have:=lo.r;omega
 have HL:=aA lo
 have HS:=aA hs
 have hin:=hs.in
 have hrin:=h.in
 have HZ:=aA (aI hz hw)
 obtain⟨R,hR⟩:∃R,R=fE L f k n:=⟨_,rfl⟩
 rw[←hR] at hn ⊢
 unfold fE sg AE at hR
 have HR:=aA hR
 have HNo:=aA hn
 have HA:=aA ((rS (L:=L) (rp:=rp) (tb:=tb) f f (nR _)).su _ _ _ h (PR.bind_not (hR▸hn)))
 have HD:=sG (L:=L) (rp:=rp) (tb:=tb) ⟨#[114,111,117,110,100]⟩ (by decide)
 clear h hs lo hz hw hR hn
 go_enter Tryz.func42,Tryz.ntmps42
 go_upto_region 1 with (go_at_call 84;refine HA.out.mono ?_;rintro e W2 hE;rcases hr:GC L f k n with _|⟨c,a⟩|⟨x1,k1,n1⟩;(·exact absurd hr (PR.bind_not (HR.out▸HNo.out)));(·rw[hr] at hE;obtain⟨hb,⟨p,rfl⟩⟩:=hE;obtain rfl:R=.bad c a:=(by rw[HR.out,hr,PR.bind_bad]);exact(show _∧_ from⟨rfl,hb.y sp,⟨_,rfl⟩⟩));rw[hr] at hE;obtain⟨hb,hq,v,rfl,s0,s1,i2,ka,kn,kc,rfl,hN⟩:=hE;rw[hr,PR.bind_ok] at HR;have hs2:=HS.out.keep (hb.block sp hin hne);obtain⟨c5,x9⟩:=hs2.cell (i:=9) (by omega);obtain⟨c6,x10⟩:=hs2.cell (i:=10) (by omega);obtain⟨c7,x11⟩:=hs2.cell (i:=11) (by omega);obtain⟨c8,x12⟩:=hs2.cell (i:=12) (by omega);have xf:=hs2.froz;have HQ2:=aA (aI hq (aI (hb.y sp) (aI hs2 hN)));have hz2:=hb.size;clear hb hq hr hs2 hN)
 obtain⟨V2,hV2⟩:∃V2,V2=(((W2.setCell ⟨sp,9,none⟩ (.string s0)).setCell ⟨sp,10,none⟩ (.string s1)).setCell ⟨sp,11,none⟩ (.int .i64 i2)).setCell ⟨sp,12,none⟩ (.slice ka kn kc):=⟨_,rfl⟩
 rw[←hV2]
 have hsn:SetNode W2 V2 sp 9 cs (.string s0) (.string s1) (.int .i64 i2) (.slice ka kn kc):=by rw[hV2];exact CK HQ2.out.2.2.1 9 _ _ _ _
 have hby:BelY w.heap.size rp sp w V2:=hsn.belY HQ2.out.2.1 (by rw[hV2];rfl) (by rw[hV2];rfl) (by rw[hV2];rfl)
 have hzV:=hsn.size
 have hE5:Empty4 (uA cs 9 (.string s0) (.string s1) (.int .i64 i2) (.slice ka kn kc)) 5:=⟨(WE (by omega)).trans HZ.out.1.a,(WE (by omega)).trans HZ.out.1.b,(WE (by omega)).trans HZ.out.1.c,(WE (by omega)).trans HZ.out.1.d⟩
 have HV2:=aA (aI (HQ2.out.1.keep HL.out fun b hb=>hsn.old b (by omega)) (aI hby (aI hsn.sb (aI (HQ2.out.2.2.2.step (w':=V2) (P':=fun b=>w.heap.size≤b) fun b hb hp=>⟨hsn.old b (by omega),hp⟩) hE5))))
 have HCo:=aA (uI (f:=f) HV2.out.1 HV2.out.2.2.1 HL.out hB hE5 (PR.bind_not (HR.out▸HNo.out)))
 clear hV2 hsn hby hE5 HQ2 x9 x10 x11 x12 xf HA
 go_upto_region 2 with (go_at_call 83;refine HCo.out.mono ?_;rintro e W3 hE;rcases hr:iF L f k1 n1 with _|⟨c,a⟩|⟨x2,k2,n2⟩;(·exact absurd hr (PR.bind_not (HR.out▸HNo.out)));(·rw[hr] at hE;obtain⟨hb,⟨p,rfl⟩⟩:=hE;obtain rfl:R=.bad c a:=(by rw[HR.out,hr,PR.bind_bad]);exact(show _∧_ from⟨rfl,HV2.out.2.1.then hb (by omega),⟨_,rfl⟩⟩));rw[hr] at hE;obtain⟨hb,hq,rfl,t0,t1,j2,la,ln,lc,hs3,hM⟩:=hE;rw[hr,PR.bind_ok] at HR;have hz3:=hb.size;have HQ3:=aA (aI hq (aI (HV2.out.2.1.then hb (by omega)) (aI hs3 (aI (HV2.out.2.2.2.1.step (w':=W3) (P':=fun b=>w.heap.size≤b) fun b hb' hp=>⟨hb.block b hb' (by omega) (by omega),hp⟩) (hM.step (w':=W3) (P':=fun b=>w.heap.size≤b) fun b hb' hp=>⟨rfl,by omega⟩)))));clear hb hq hr hs3 hM)
 clear HCo
 cases hi:YB L ⟨#[59]⟩ k2 with
 |false=>
  rw[hi,if_neg (by simp)] at HR
  have HT:=aA (FE HQ3.out.1 ⟨#[59]⟩ hi)
  clear hi
  go_wp2_with (go_at_call 80;refine HT.out.mono ?_;rintro e W4 ⟨rfl,rfl⟩)
  go_end0
  obtain rfl:=HR.out
  refine⟨HQ3.out.2.1,HQ3.out.1,rfl,s0,s1,i2,ka,kn,kc,t0,t1,j2,la,ln,lc,?_,HQ3.out.2.2.2.1,HQ3.out.2.2.2.2⟩
  have h13:(uA (uA cs 9 (.string s0) (.string s1) (.int .i64 i2) (.slice ka kn kc)) 5 (.string t0) (.string t1) (.int .i64 j2) (.slice la ln lc))[13]?=some (.int .i64 4):=(WE (by omega)).trans ((WE (by omega)).trans HZ.out.2)
  refine(show SB _ sp (Array.setIfInBounds _ 13 (Value.int IntKind.i64 4)) from ?_)
  rw[nD h13]
  exact HQ3.out.2.2.1
 |true=>
  rw[hi,if_pos rfl] at HR
  have HT:=aA (UD HQ3.out.1 ⟨#[59]⟩ (by decide) hi)
  clear hi
  have hz9:=HQ3.out.2.1.size
  go_wp2_with (first|(go_at_call 80;refine HT.out.mono ?_;rintro e W4 ⟨rfl,hq,hb⟩;have hz4:=hb.size;have HQ4:=aA (aI hq hb);clear hq hb)|(go_at_call 39;refine(HD.out _ _ _ HQ4.out.1).mono ?_;rintro e W5 hE;rcases hr:bB L ⟨#[114,111,117,110,100]⟩ (k2+1) n2 with _|⟨c,a⟩|⟨x3,k3,n3⟩;(·exact absurd hr bC);(·rw[hr] at hE;obtain⟨hb,⟨p,rfl⟩⟩:=hE;obtain rfl:R=.bad c a:=(by rw[HR.out,hr,PR.bind_bad]);exact(show _∧_ from⟨rfl,(HQ3.out.2.1.then (HQ4.out.2.y sp) (by omega)).then (hb.y sp) (by omega),⟨_,rfl⟩⟩));rw[hr] at hE;obtain⟨hb,hq,v,rfl,rfl⟩:=hE;rw[hr,PR.bind_ok] at HR;have hz5:=hb.size;have HQ5:=aA (aI hq (HQ4.out.2.then hb (by omega)));clear hb hq hr)|(go_at_call 86;refine(NK _).mono ?_;rintro e W6 hrow;have he:=hrow.e;subst he;have HO:=aA (jI HQ5.out.1 hrow (by decide));clear hrow)|(go_at_call 85;refine HO.out.mono ?_;rintro e W7 hE;rcases hr:OC L waysW k3 n3 with _|⟨c,a⟩|⟨x4,k4,n4⟩;(·exact absurd hr UF);(·rw[hr] at hE;obtain⟨hb,⟨p,rfl⟩⟩:=hE;obtain rfl:R=.bad c a:=(by rw[HR.out,hr,PR.bind_bad]);exact(show _∧_ from⟨rfl,(HQ3.out.2.1.then (HQ5.out.2.y sp) (by omega)).then (hb.y sp) (by omega),⟨_,rfl⟩⟩));rw[hr] at hE;obtain⟨hb,hq,v,rfl,rfl⟩:=hE;rw[hr,PR.bind_ok] at HR;have hz7:=hb.size;have hbt:=HQ5.out.2.then hb (by omega);have hs7:=HQ3.out.2.2.1.keep (hbt.block sp (by omega) hne);obtain⟨c13,x13⟩:=hs7.cell (i:=13) (by omega);have xf:=hs7.froz;have HQ7:=aA (aI hq (aI hbt hs7));clear hb hq hr hs7 hbt))
  go_end0
  obtain rfl:=HR.out
  refine⟨(HQ3.out.2.1.then (HQ7.out.2.1.y sp) (by omega)).set 13 _,HQ7.out.1.set HL.out hB 13 _,rfl,s0,s1,i2,ka,kn,kc,t0,t1,j2,la,ln,lc,HQ7.out.2.2.set 13 _,HQ3.out.2.2.2.1.step fun b hb hp=>⟨(Below.heap_setCell _ _ _ _ (show b≠sp by omega)).trans (HQ7.out.2.1.block b hb (by omega)),hp⟩,HQ3.out.2.2.2.2.step fun b hb hp=>⟨(Below.heap_setCell _ _ _ _ (show b≠sp by omega)).trans (HQ7.out.2.1.block b hb (by omega)),hp⟩⟩
def Way(L:List Tok)(rp tb sp:Nat)(w W:World)(k n:Nat)(cs:Array Value):Prop:=QS L rp tb W k n∧BelY w.heap.size rp sp w W∧SB W sp cs
theorem Way.set{L:List Tok}{rp tb sp B:Nat}{w W:World}{k n:Nat}{cs:Array Value}(h:Way L rp tb sp w W k n cs)(lo:Lows rp tb B)(hB:B≤sp)(i:Nat)(u:Value):Way L rp tb sp w (W.setCell ⟨sp,i,none⟩ u) k n (cs.setIfInBounds i u):=⟨h.1.set lo hB i u,h.2.1.set i u,h.2.2.set i u⟩
theorem Way.step{L:List Tok}{rp tb sp:Nat}{w W W':World}{k n k' n':Nat}{cs:Array Value}(h:Way L rp tb sp w W k n cs)(hb:BelX W.heap.size rp W W')(hq:QS L rp tb W' k' n')(hne:sp≠rp):Way L rp tb sp w W' k' n' cs:=⟨hq,h.2.1.then (hb.y sp) h.2.1.size,h.2.2.keep (hb.block sp h.2.2.in hne)⟩
theorem LU{L:List Tok}{rp tb sp B:Nat}{w:World}{k n:Nat}{cs:Array Value}(h:QS L rp tb w k n)(hs:SB w sp cs)(lo:Lows rp tb B)(hB:B≤sp)(hr0:cs[17]?=some (.int .i64 0))(he0:cs[18]?=some (.string ⟨#[]⟩)):
 Calls Tryz.prog 43 #[.pointer (some ⟨rp,0,none⟩),.pointer (some ⟨sp,0,none⟩)] w fun e w'=>WK L rp tb sp w (wI L k n) (fun x w'=>SB w' sp ((((((cs.setIfInBounds 3 (.bool x.1.1)).setIfInBounds 4 (.string x.1.2)).setIfInBounds 15 (.int .i64 x.2.1)).setIfInBounds 16 (.int .i64 x.2.2.1)).setIfInBounds 17 (.int .i64 x.2.2.2.1)).setIfInBounds 18 (.string x.2.2.2.2))) e w':=by
 have hne:sp≠rp:=by have:=lo.r;omega
 have HL:=aA lo
 obtain⟨R,hR⟩:∃R,R=wI L k n:=⟨_,rfl⟩
 rw[←hR]
 have HR:Hid (R=(GH L k n).bind fun l k n=>(bB L ⟨#[119,105,116,104,105,110]⟩ k n).bind fun _ k n=>(DD L k n).bind fun t k n=>(OC L unitsW k n).bind fun u k n=>(jJ L k n).bind fun r k n=>(pJ L k n).bind fun e k n=>.ok (l,t,u,r,e) k n):=hR
 have HLi:=aA (EJ h hs lo hB)
 have HD:=sG (L:=L) (rp:=rp) (tb:=tb) ⟨#[119,105,116,104,105,110]⟩ (by decide)
 have HLe:=aA (fun (W:World) (k n:Nat) (hq:QS L rp tb W k n)=>pQ hq)
 have HN:=rG (L:=L) (rp:=rp) (tb:=tb)
 have HZ:=aA (aI hr0 he0)
 clear h hs lo hR hr0 he0
 go_enter Tryz.func43,Tryz.ntmps43
 go_upto_region 3 with (first|(go_at_call 82;refine(HLi.out).mono ?_;rintro e W2 hE;rcases hr:GH L k n with _|⟨c,a⟩|⟨x1,k1,n1⟩;(·exact absurd hr vL);(·rw[hr] at hE;obtain⟨hb,⟨p,rfl⟩⟩:=hE;obtain rfl:R=.bad c a:=(by rw[HR.out,hr,PR.bind_bad]);exact(show _∧_ from⟨rfl,hb,⟨_,rfl⟩⟩));rw[hr] at hE;obtain⟨hb,hq,rfl,hs2⟩:=hE;rw[hr,PR.bind_ok] at HR;have HW2:=aA (show Way L rp tb sp w W2 k1 n1 _ from⟨hq,hb,hs2⟩);clear hs2;clear hb hq hr)|(go_at_call 39;refine(HD.out _ _ _ HW2.out.1).mono ?_;rintro e W3 hE;rcases hr:bB L ⟨#[119,105,116,104,105,110]⟩ k1 n1 with _|⟨c,a⟩|⟨x2,k2,n2⟩;(·exact absurd hr bC);(·rw[hr] at hE;obtain⟨hb,⟨p,rfl⟩⟩:=hE;obtain rfl:R=.bad c a:=(by rw[HR.out,hr,PR.bind_bad]);exact(show _∧_ from⟨rfl,HW2.out.2.1.then (hb.y sp) HW2.out.2.1.size,⟨_,rfl⟩⟩));rw[hr] at hE;obtain⟨hb,hq,v,rfl,rfl⟩:=hE;rw[hr,PR.bind_ok] at HR;have HW3:=aA (HW2.out.step hb hq hne);clear hb hq hr)|(go_at_call 87;refine(HLe.out _ _ _ HW3.out.1).mono ?_;rintro e W4 hE;rcases hr:DD L k2 n2 with _|⟨c,a⟩|⟨x3,k3,n3⟩;(·exact absurd hr uL);(·rw[hr] at hE;obtain⟨hb,⟨p,rfl⟩⟩:=hE;obtain rfl:R=.bad c a:=(by rw[HR.out,hr,PR.bind_bad]);exact(show _∧_ from⟨rfl,HW3.out.2.1.then (hb.y sp) HW3.out.2.1.size,⟨_,rfl⟩⟩));rw[hr] at hE;obtain⟨hb,hq,v,rfl,rfl⟩:=hE;rw[hr,PR.bind_ok] at HR;have hw4:=HW3.out.step hb hq hne;obtain⟨c15,x15⟩:=hw4.2.2.cell (i:=15) (by omega);have xf:=hw4.2.2.froz;have HW4:=aA hw4;clear hw4;clear hb hq hr))
 obtain⟨V4,hV4⟩:∃V4,V4=W4.setCell ⟨sp,15,none⟩ (.int .i64 x3):=⟨_,rfl⟩
 rw[←hV4]
 have HV4:=aA (show Way L rp tb sp w V4 k3 n3 _ by rw[hV4];exact HW4.out.set HL.out hB 15 (.int .i64 x3))
 clear hV4 HW4 x15 xf
 go_upto_region 4 with (first|(go_at_call 88;refine(PI _).mono ?_;rintro e W5 hrow;have he:=hrow.e;subst he;have HO:=aA (jI HV4.out.1 hrow (by decide));clear hrow)|(go_at_call 85;refine(HO.out).mono ?_;rintro e W6 hE;rcases hr:OC L unitsW k3 n3 with _|⟨c,a⟩|⟨x4,k4,n4⟩;(·exact absurd hr UF);(·rw[hr] at hE;obtain⟨hb,⟨p,rfl⟩⟩:=hE;obtain rfl:R=.bad c a:=(by rw[HR.out,hr,PR.bind_bad]);exact(show _∧_ from⟨rfl,HV4.out.2.1.then (hb.y sp) HV4.out.2.1.size,⟨_,rfl⟩⟩));rw[hr] at hE;obtain⟨hb,hq,v,rfl,rfl⟩:=hE;rw[hr,PR.bind_ok] at HR;have hw6:=HV4.out.step hb hq hne;obtain⟨c16,x16⟩:=hw6.2.2.cell (i:=16) (by omega);have xf:=hw6.2.2.froz;have HW6:=aA hw6;clear hw6;clear hb hq hr))
 obtain⟨V6,hV6⟩:∃V6,V6=W6.setCell ⟨sp,16,none⟩ (.int .i64 x4):=⟨_,rfl⟩
 rw[←hV6]
 have HV6:=aA (show Way L rp tb sp w V6 k4 n4 _ by rw[hV6];exact HW6.out.set HL.out hB 16 (.int .i64 x4))
 clear hV6 HW6 x16 xf
 obtain⟨D,hD⟩:∃D,D=((((cs.setIfInBounds 3 (.bool x1.1)).setIfInBounds 4 (.string x1.2)).setIfInBounds 15 (.int .i64 x3)).setIfInBounds 16 (.int .i64 x4)):=⟨_,rfl⟩
 have hD17:D[17]?=some (.int .i64 0):=by rw[hD];simp[HZ.out.1]
 have hD18:D[18]?=some (.string ⟨#[]⟩):=by rw[hD];simp[HZ.out.2]
 rw[←hD] at HV6
 have HDD:=aA (aI hD (aI hD17 hD18))
 clear hD hD17 hD18
 have HRr:=HR.out
 unfold jJ sg at HRr
 cases hi1:YB L ⟨#[44]⟩ k4 with
 |false=>
  rw[hi1,if_neg (by simp),PR.bind_ok] at HRr
  have HT1:=aA (FE HV6.out.1 ⟨#[44]⟩ hi1)
  have HR:=aA HRr
  clear hi1 HRr
  go_upto_region 6 with (go_at_call 80;refine HT1.out.mono ?_;rintro e W7 ⟨rfl,rfl⟩)
  have hv:=HV6.out
  rw[show D=D.setIfInBounds 17 (.int .i64 (0:Nat)) from(nD HDD.out.2.1).symm] at hv
  have HV7:=aA hv
  clear hv
  have HR':=HR.out
  unfold pJ dF at HR'
  have hV18:(D.setIfInBounds 17 (.int .i64 (0:Nat)))[18]?=some (.string ⟨#[]⟩):=by rw[Array.getElem?_setIfInBounds_ne (by omega)];exact HDD.out.2.2
  have HV18:=aA hV18
  clear hV18
  cases hi2:YB L ⟨#[101,108,115,101]⟩ k4 with
  |false=>
   rw[hi2,if_neg (by simp),PR.bind_ok] at HR'
   have HT2:=aA (FE HV7.out.1 ⟨#[101,108,115,101]⟩ hi2)
   have HR2:=aA HR'
   clear hi2 HR'
   go_wp2_with (go_at_call 80;refine HT2.out.mono ?_;rintro e W8 ⟨rfl,rfl⟩)
   go_end0
   obtain rfl:=HR2.out
   refine⟨HV7.out.2.1,HV7.out.1,rfl,?_⟩
   have h9:=HV7.out.2.2
   rw[←nD HV18.out,HDD.out.1] at h9
   exact h9
  |true=>
   rw[hi2,if_pos rfl] at HR'
   have HT2:=aA (UD HV7.out.1 ⟨#[101,108,115,101]⟩ (by decide) hi2)
   have HR:=aA HR'
   clear hi2 HR'
   go_wp2_with (first|(go_at_call 80;refine HT2.out.mono ?_;rintro e W8 ⟨rfl,hq,hb⟩;have HW8:=aA (HV7.out.step hb hq hne);clear hq hb)|(go_at_call 36;refine(HN.out _ _ _ HW8.out.1).mono ?_;rintro e W9 hE;rcases hr:oB L (k4+1) n4 with _|⟨c,a⟩|⟨x6,k6,n6⟩;(·exact absurd hr aC);(·rw[hr] at hE;obtain⟨hb,⟨p,rfl⟩⟩:=hE;obtain rfl:R=.bad c a:=(by rw[HR.out,hr,PR.bind_bad]);exact(show _∧_ from⟨rfl,HW8.out.2.1.then (hb.y sp) HW8.out.2.1.size,⟨_,rfl⟩⟩));rw[hr] at hE;obtain⟨hb,hq,v,rfl,rfl⟩:=hE;rw[hr,PR.bind_ok] at HR;have hw9:=HW8.out.step hb hq hne;obtain⟨c18,x18⟩:=hw9.2.2.cell (i:=18) (by omega);have xf:=hw9.2.2.froz;have HW9:=aA hw9;clear hw9;clear hb hq hr))
   go_end0
   obtain rfl:=HR.out
   have h9:=HW9.out.set HL.out hB 18 (.string x6)
   refine⟨h9.2.1,h9.1,rfl,?_⟩
   have h8:=h9.2.2
   rw[HDD.out.1] at h8
   exact h8
 |true=>
  rw[hi1,if_pos rfl] at HRr
  have HT1:=aA (UD HV6.out.1 ⟨#[44]⟩ (by decide) hi1)
  have HR:=aA HRr
  clear hi1 HRr
  go_upto_region 6 with (first|(go_at_call 80;refine HT1.out.mono ?_;rintro e W7 ⟨rfl,hq,hb⟩;have HW7:=aA (HV6.out.step hb hq hne);clear hq hb)|(go_at_call 89;refine(MI _).mono ?_;rintro e Wr hrow;have he:=hrow.e;subst he;have HOr:=aA (jI HW7.out.1 hrow (by decide));clear hrow)|(go_at_call 85;refine(HOr.out).mono ?_;rintro e W8 hE;rcases hr:OC L rollsQ (k4+1) n4 with _|⟨c,a⟩|⟨x5,k5,n5⟩;(·exact absurd hr UF);(·rw[hr] at hE;obtain⟨hb,⟨p,rfl⟩⟩:=hE;obtain rfl:R=.bad c a:=(by rw[HR.out,hr,PR.bind_bad]);exact(show _∧_ from⟨rfl,HW7.out.2.1.then (hb.y sp) HW7.out.2.1.size,⟨_,rfl⟩⟩));rw[hr] at hE;obtain⟨hb,hq,v,rfl,rfl⟩:=hE;rw[hr,PR.bind_ok] at HR;have hw8:=HW7.out.step hb hq hne;obtain⟨c17,x17⟩:=hw8.2.2.cell (i:=17) (by omega);have xf:=hw8.2.2.froz;have HW8':=aA hw8;clear hw8;clear hb hq hr))
  obtain⟨V7,hV7⟩:∃V7,V7=W8.setCell ⟨sp,17,none⟩ (.int .i64 x5):=⟨_,rfl⟩
  rw[←hV7]
  have HV7:=aA (show Way L rp tb sp w V7 k5 n5 _ by rw[hV7];exact HW8'.out.set HL.out hB 17 (.int .i64 x5))
  clear hV7 HW8' x17 xf
  have HR':=HR.out
  unfold pJ dF at HR'
  have hV18:(D.setIfInBounds 17 (.int .i64 x5))[18]?=some (.string ⟨#[]⟩):=by rw[Array.getElem?_setIfInBounds_ne (by omega)];exact HDD.out.2.2
  have HV18:=aA hV18
  clear hV18
  cases hi2:YB L ⟨#[101,108,115,101]⟩ k5 with
  |false=>
   rw[hi2,if_neg (by simp),PR.bind_ok] at HR'
   have HT2:=aA (FE HV7.out.1 ⟨#[101,108,115,101]⟩ hi2)
   have HR2:=aA HR'
   clear hi2 HR'
   go_wp2_with (go_at_call 80;refine HT2.out.mono ?_;rintro e W8 ⟨rfl,rfl⟩)
   go_end0
   obtain rfl:=HR2.out
   refine⟨HV7.out.2.1,HV7.out.1,rfl,?_⟩
   have h9:=HV7.out.2.2
   rw[←nD HV18.out,HDD.out.1] at h9
   exact h9
  |true=>
   rw[hi2,if_pos rfl] at HR'
   have HT2:=aA (UD HV7.out.1 ⟨#[101,108,115,101]⟩ (by decide) hi2)
   have HR:=aA HR'
   clear hi2 HR'
   go_wp2_with (first|(go_at_call 80;refine HT2.out.mono ?_;rintro e W8 ⟨rfl,hq,hb⟩;have HW8:=aA (HV7.out.step hb hq hne);clear hq hb)|(go_at_call 36;refine(HN.out _ _ _ HW8.out.1).mono ?_;rintro e W9 hE;rcases hr:oB L (k5+1) n5 with _|⟨c,a⟩|⟨x6,k6,n6⟩;(·exact absurd hr aC);(·rw[hr] at hE;obtain⟨hb,⟨p,rfl⟩⟩:=hE;obtain rfl:R=.bad c a:=(by rw[HR.out,hr,PR.bind_bad]);exact(show _∧_ from⟨rfl,HW8.out.2.1.then (hb.y sp) HW8.out.2.1.size,⟨_,rfl⟩⟩));rw[hr] at hE;obtain⟨hb,hq,v,rfl,rfl⟩:=hE;rw[hr,PR.bind_ok] at HR;have hw9:=HW8.out.step hb hq hne;obtain⟨c18,x18⟩:=hw9.2.2.cell (i:=18) (by omega);have xf:=hw9.2.2.froz;have HW9:=aA hw9;clear hw9;clear hb hq hr))
   go_end0
   obtain rfl:=HR.out
   have h9:=HW9.out.set HL.out hB 18 (.string x6)
   refine⟨h9.2.1,h9.1,rfl,?_⟩
   have h8:=h9.2.2
   rw[HDD.out.1] at h8
   exact h8
def YD(L:List Tok):Nat→List ByteArray→Nat→Nat→PR (List ByteArray)
 |0,_,_,_=>.out
 |f+1,l,k,n=>if YB L ⟨#[44]⟩ k=true then (oB L (k+1) n).bind fun x k n=>YD L f (l++[x]) k n else .ok l k n
def CF(L:List Tok):Nat→List ByteArray→Nat→Nat→PR (List ByteArray)
 |0,_,_,_=>.out
 |f+1,l,k,n=>if YB L ⟨#[59]⟩ k=true then (bB L ⟨#[111,118,101,114]⟩ (k+1) n).bind fun _ k n=>(oB L k n).bind fun x k n=>(YD L f (l++[x]) k n).bind fun l k n=>CF L f l k n else .ok l k n
def UG(L:List Tok)(f k n:Nat):PR ((Bool×ByteArray)×Nd×List ByteArray):=(GH L k n).bind fun l k n=>(iF L f k n).bind fun c k n=>(CF L f [] k n).bind fun o k n=>.ok (l,c,o) k n
theorem Tryz.infoStrQ:∃i z,Tryz.prog.info? 9=some i∧i.zero=some z∧i.size=1∧i.bytes=16∧z.cells.size=1:=by
 have h:(Tryz.prog.info? 9).map (fun i=>(i.zero.map (fun z=>z.cells.size),i.size,i.bytes))=some (some 1,1,16):=by kernel_rfl
 obtain⟨i,hi,e⟩:=Option.map_eq_some_iff.1 h
 injection e with e1 e2
 injection e2 with e2 e3
 obtain⟨z,hz,e4⟩:=Option.map_eq_some_iff.1 e1
 exact⟨i,z,hi,hz,e2,e3,e4⟩
theorem LH(w:World)(s:ByteArray)(t:TypeId):∀(j:Nat) (u:Value),[Value.string s][j]?=some u→(w.alloc (.cells #[Value.string s] t)).cell? ((⟨w.heap.size,0,none⟩:Addr).add j)=some u:=by
 intro j u hj
 match j,hj with
 |0,hj=>simp at hj;subst hj;simp[Addr.add]
theorem SS{L:List Tok}{s:ByteArray}{k n k' n':Nat}{x:Unit}(h:bB L s k n=.ok x k' n'):k'=k+1:=by
 unfold bB at h
 split at h
 ·injection h with _ h _;exact h.symm
 ·cases h
theorem TN{L:List Tok}{k n k' n':Nat}{x:ByteArray}(h:oB L k n=.ok x k' n'):k'=k+1:=by
 unfold oB at h
 split at h
 ·injection h with _ h _;exact h.symm
 ·cases h
theorem PR.bind_assoc{α β γ:Type}(r:PR α)(f:α→Nat→Nat→PR β)(g:β→Nat→Nat→PR γ):(r.bind f).bind g=r.bind fun x k n=>(f x k n).bind g:=by cases r<;>rfl
theorem SB.at14{w:World}{sp:Nat}{cs:Array Value}{v:Value}(h:SB w sp (cs.setIfInBounds 14 v)):w.cell? ⟨sp,14,none⟩=some v:=by
 have h1:=h.blk
 have h2:=h.size
 have h3:14<cs.size:=by simp at h2;omega
 simp[World.cell?,h1,h3]
structure OvAt(L:List Tok)(rp tb sp c1:Nat)(W2 wr:World)(k n:Nat)(cs:Array Value)(v:Value)(l:List ByteArray):Prop where
 q:QS L rp tb wr k n
 b:BelY c1 rp sp W2 wr
 s:SB wr sp (cs.setIfInBounds 14 v)
 o:wr.ownsRow c1 9 1 v l.length (l.map Value.string)
 len:l.length≤k
 sl:∃va vc,v=.slice va l.length vc
 le:c1≤wr.heap.size
theorem OvAt.step{L:List Tok}{rp tb sp c1:Nat}{W2 wr W':World}{k n k' n':Nat}{cs:Array Value}{v:Value}{l:List ByteArray}(h:OvAt L rp tb sp c1 W2 wr k n cs v l)(hb:BelX wr.heap.size rp wr W')(hq:QS L rp tb W' k' n')(hk:k≤k')(hne:sp≠rp)(hrp:rp<c1):OvAt L rp tb sp c1 W2 W' k' n' cs v l:=
 ⟨hq,h.b.then (hb.y sp) h.le,h.s.keep (hb.block sp h.s.in hne),mC h.o fun g hg hl=>hb.block g hl (by have:=(h.o.lt g hg).1;omega),by have:=h.len;omega,h.sl,by have:=hb.size;have:=h.le;omega⟩
theorem OvAt.push{L:List Tok}{rp tb sp c1 B:Nat}{W2 wr W4:World}{k n:Nat}{cs:Array Value}{v v':Value}{l:List ByteArray}{x:ByteArray}(h:OvAt L rp tb sp c1 W2 wr k n cs v l)(lo:Lows rp tb B)(hB:B≤sp)(hsp:sp<c1)(hk:l.length+1≤k)
 (ho:W4.ownsRow c1 9 1 v' (l.length+1) (l.map Value.string++[Value.string x])) (hg:(wr.alloc (.cells #[Value.string x] 9)).grownBy W4 v.ownBlock):OvAt L rp tb sp c1 W2 (W4.setCell ⟨sp,14,none⟩ v') k n cs v' (l++[x]):=by
 have hs4:wr.heap.size<W4.heap.size:=by have:=hg.size;simp at this;omega
 have hb4:∀b,b<c1→W4.heap[b]?=wr.heap[b]?:=fun b hb=>(hg.block b (by simp;have:=h.le;omega) (by intro e;have:=(h.o.lt b e.symm).1;omega)).trans ((bA _ _).block b (by have:=h.le;omega))
 have hset:∀b,b≠sp→(W4.setCell ⟨sp,14,none⟩ v').heap[b]?=W4.heap[b]?:=fun b hb=>Below.heap_setCell _ _ _ _ hb
 have hle:=h.le
 refine⟨h.q.keep lo fun b hb=>(hset b (by omega)).trans (hb4 b (by omega)),⟨hg.os.trans h.b.os,hg.tape.trans h.b.tape,hg.output.trans h.b.output,by have:=h.b.size;simp;omega,fun b h1 h2 h3=>(hset b h3).trans ((hb4 b h1).trans (h.b.block b h1 h2 h3))⟩,?_,?_,by rw[List.length_append,List.length_singleton];exact hk,?_,by simp;omega⟩
 ·have h1:=(h.s.keep (hb4 sp hsp)).set 14 v'
  have e:(cs.setIfInBounds 14 v).setIfInBounds 14 v'=cs.setIfInBounds 14 v':=by
   apply Array.ext_getElem?
   intro j
   simp only[Array.getElem?_setIfInBounds,Array.size_setIfInBounds]
   split<;>rfl
  rw[e] at h1
  exact h1
 ·rw[List.length_append,List.length_singleton,List.map_append]
  exact mC ho fun g hg' _=>hset g (by have:=(ho.lt g hg').1;omega)
 ·rw[List.length_append,List.length_singleton]
  exact pE ho
inductive CommaAt(L:List Tok)(rp tb sp c1:Nat)(W2:World)(cs:Array Value)(N:List ByteArray→Nat→Nat→PR ((Bool×ByteArray)×Nd×List ByteArray))(R:PR ((Bool×ByteArray)×Nd×List ByteArray))(g:Nat)(wr:World):Prop
 |mk (f:Nat) (l:List ByteArray) (k n:Nat) (v:Value) (hg:f≤g) (h:OvAt L rp tb sp c1 W2 wr k n cs v l) (hR:((YD L f l k n).bind fun l k n=>N l k n)=R):CommaAt L rp tb sp c1 W2 cs N R g wr
inductive OverAt(L:List Tok)(rp tb sp c1:Nat)(W2:World)(cs:Array Value)(N:List ByteArray→Nat→Nat→PR ((Bool×ByteArray)×Nd×List ByteArray))(R:PR ((Bool×ByteArray)×Nd×List ByteArray))(g:Nat)(wr:World):Prop
 |mk (f:Nat) (l:List ByteArray) (k n:Nat) (v:Value) (hg:f≤g) (h:OvAt L rp tb sp c1 W2 wr k n cs v l) (hR:((CF L f l k n).bind fun l k n=>N l k n)=R):OverAt L rp tb sp c1 W2 cs N R g wr
theorem rV{L:List Tok}{rp tb sp B f:Nat}{w:World}{k n:Nat}{cs:Array Value}(h:QS L rp tb w k n)(hs:SB w sp cs)(lo:Lows rp tb B)(hB:B≤sp)(hz:Empty4 cs 5)(h14:cs[14]?=some (.slice none 0 0))(hn:UG L f k n≠.out):
 Calls Tryz.prog 41 #[.pointer (some ⟨rp,0,none⟩),.pointer (some ⟨sp,0,none⟩)] w fun e w'=>WK L rp tb sp w (UG L f k n) (fun x w'=>∃(t0 t1:ByteArray) (m2:Int) (la:Option Addr) (ln lc:Nat) (v:Value) (c1:Nat),SB w' sp ((uA ((cs.setIfInBounds 3 (.bool x.1.1)).setIfInBounds 4 (.string x.1.2)) 5 (.string t0) (.string t1) (.int .i64 m2) (.slice la ln lc)).setIfInBounds 14 v)∧NL w' (fun b=>w.heap.size≤b) (nv (.string t0) (.string t1) (.int .i64 m2) (.slice la ln lc)) x.2.1∧w.heap.size≤c1∧w'.ownsRow c1 9 1 v x.2.2.length (x.2.2.map Value.string)) e w':=by
 have hne:sp≠rp:=by have:=lo.r;omega
 have HL:=aA lo
 have hin:=hs.in
 have hrin:=h.in
 obtain⟨R,hR⟩:∃R,R=UG L f k n:=⟨_,rfl⟩
 rw[←hR] at hn ⊢
 unfold UG at hR
 have HR:=aA hR
 have HNo:=aA hn
 have HLi:=aA (EJ h hs lo hB)
 have HN:=rG (L:=L) (rp:=rp) (tb:=tb)
 have HD:=sG (L:=L) (rp:=rp) (tb:=tb) ⟨#[111,118,101,114]⟩ (by decide)
 have HZ:=aA (aI hz h14)
 obtain⟨i0,iz,hi0⟩:=Tryz.infoStrQ
 have HI:=aA hi0
 clear h hs lo hR hn hz h14 hi0
 go_enter Tryz.func41,Tryz.ntmps41
 go_upto_region 1 with (go_at_call 82;refine HLi.out.mono ?_;rintro e W1 hE;rcases hr:GH L k n with _|⟨c,a⟩|⟨x1,k1,n1⟩;(·exact absurd hr vL);(·rw[hr] at hE;obtain⟨hb,⟨p,rfl⟩⟩:=hE;obtain rfl:R=.bad c a:=(by rw[HR.out,hr,PR.bind_bad]);exact(show _∧_ from⟨rfl,hb,⟨_,rfl⟩⟩));rw[hr] at hE;obtain⟨hb,hq,rfl,hs1⟩:=hE;rw[hr,PR.bind_ok] at HR;have HW1:=aA (show Way L rp tb sp w W1 k1 n1 _ from⟨hq,hb,hs1⟩);clear hb hq hr hs1)
 obtain⟨D,hD⟩:∃D,D=(cs.setIfInBounds 3 (.bool x1.1)).setIfInBounds 4 (.string x1.2):=⟨_,rfl⟩
 rw[←hD] at HW1
 have hz5:Empty4 D 5:=by rw[hD];exact⟨by simp[HZ.out.1.a],by simp[HZ.out.1.b],by simp[HZ.out.1.c],by simp[HZ.out.1.d]⟩
 have hD14:D[14]?=some (.slice none 0 0):=by rw[hD];simp[HZ.out.2]
 have HCo:=aA (uI (f:=f) HW1.out.1 HW1.out.2.2 HL.out hB hz5 (PR.bind_not (HR.out▸HNo.out)))
 have HDD:=aA (aI hD hD14)
 clear hz5 hD hD14 HLi
 have hsz1:=HW1.out.2.1.size
 go_wp2_with (go_at_call 83;refine HCo.out.mono ?_;rintro e W2 hE;rcases hr:iF L f k1 n1 with _|⟨c,a⟩|⟨x2,k2,n2⟩;(·exact absurd hr (PR.bind_not (HR.out▸HNo.out)));(·rw[hr] at hE;obtain⟨hb,⟨p,rfl⟩⟩:=hE;obtain rfl:R=.bad c a:=(by rw[HR.out,hr,PR.bind_bad]);exact(show _∧_ from⟨rfl,HW1.out.2.1.then hb (by omega),⟨_,rfl⟩⟩));rw[hr] at hE;obtain⟨hb,hq,rfl,t0,t1,j2,la,ln,lc,hs2,hM⟩:=hE;rw[hr,PR.bind_ok] at HR;have hsz2:=hb.size;have HW2:=aA (aI (show Way L rp tb sp w W2 k2 n2 _ from⟨hq,HW1.out.2.1.then hb (by omega),hs2⟩) (hM.step (w':=W2) (P':=fun b=>w.heap.size≤b∧b<W2.heap.size) fun b hb' hp=>⟨rfl,by omega,hb'⟩));clear hb hq hr hs2 hM)
 clear HCo HW1
 obtain⟨E,hE⟩:∃E,E=uA D 5 (.string t0) (.string t1) (.int .i64 j2) (.slice la ln lc):=⟨_,rfl⟩
 rw[←hE] at HW2
 have hE14:E[14]?=some (.slice none 0 0):=by rw[hE,WE (by omega)];exact HDD.out.2
 have HEE:=aA hE
 have hsp2:sp<W2.heap.size:=HW2.out.1.2.2.in
 have hrp2:rp<W2.heap.size:=HW2.out.1.1.in
 have HS0:Hid (OverAt L rp tb sp W2.heap.size W2 E (fun o k n=>.ok (x1,x2,o) k n) R f W2):=.mk f [] k2 n2 (.slice none 0 0) (nR _) ⟨HW2.out.1.1,BelY.refl _ _ _ _,by rw[nD hE14];exact HW2.out.1.2.2,⟨rfl,.inl ⟨rfl,rfl⟩⟩,Nat.zero_le _,⟨none,0,rfl⟩,nR _⟩ HR.out.symm
 clear hE hE14
 obtain⟨c1,hc1⟩:∃c1,c1=W2.heap.size:=⟨_,rfl⟩
 rw[←hc1] at HS0 hsp2 hrp2
 have HC1:=aA hc1
 clear hc1
 go_loopg [] f (fun g wr=>OverAt L rp tb sp c1 W2 E (fun o k n=>.ok (x1,x2,o) k n) R g wr)
 case atStart=>exact HS0.out
 case round=>
  clear HS0
  cases hrel with
  |mk f' l k3 n3 v hg h hR=>
  have hk400:k3<400:=by have:=h.q.lt;have:=h.q.ok.len;omega
  have hlk:=h.len
  cases f' with
  |zero=>exact absurd (hR.symm.trans (by rw[CF];rfl)) HNo.out
  |succ f'=>
   rw[CF] at hR
   have HG:=aA hg
   have HO:=aA h
   cases hi:YB L ⟨#[59]⟩ k3 with
   |false=>
    rw[hi,if_neg (by simp)] at hR
    have HT:=aA (FE h.q ⟨#[59]⟩ hi)
    have HR2:=aA hR
    clear hi h hg hR
    go_wp2_with (go_at_call 80;refine HT.out.mono ?_;rintro e W4 ⟨rfl,rfl⟩)
    go_end0
    obtain rfl:R=.ok (x1,x2,l) k3 n3:=HR2.out.symm
    have hc:=HC1.out
    refine⟨HW2.out.1.2.1.then HO.out.b (by omega),HO.out.q,rfl,t0,t1,j2,la,ln,lc,v,c1,?_,HW2.out.2.step fun b hb hp=>⟨HO.out.b.block b (by omega) (by omega) (by omega),hp.1⟩,by omega,HO.out.o⟩
    have h9:=HO.out.s
    rw[HEE.out,HDD.out.1] at h9
    exact h9
   |true=>
    rw[hi,if_pos rfl] at hR
    have HT:=aA (UD h.q ⟨#[59]⟩ (by decide) hi)
    have HR2:=aA hR
    clear hi h hg hR
    obtain⟨va,vc,rfl⟩:=HO.out.sl
    go_upto_region 4 with (first|(go_at_call 80;refine HT.out.mono ?_;rintro e W4 ⟨rfl,hq,hb⟩;have HO4:=aA (HO.out.step hb hq (by omega) hne hrp2);clear hq hb)|(go_at_call 39;refine(HD.out _ _ _ HO4.out.q).mono ?_;rintro e W5 hE;rcases hr:bB L ⟨#[111,118,101,114]⟩ (k3+1) n3 with _|⟨c,a⟩|⟨x5,k5,n5⟩;(·exact absurd hr bC);(·rw[hr] at hE;obtain⟨hb,⟨p,rfl⟩⟩:=hE;obtain rfl:R=.bad c a:=(by rw[←HR2.out,hr,PR.bind_bad,PR.bind_bad]);exact(show _∧_ from⟨rfl,(HW2.out.1.2.1.then HO4.out.b (by have:=HC1.out;omega)).then (hb.y sp) (by have:=HO4.out.le;have:=HC1.out;omega),⟨_,rfl⟩⟩));rw[hr] at hE;obtain⟨hb,hq,v,rfl,rfl⟩:=hE;rw[hr,PR.bind_ok] at HR2;have hk5:=SS hr;have HO5:=aA (HO4.out.step hb hq (by omega) hne hrp2);clear hb hq hr))
    clear HO HO4 HT
    have HNm:=aA (fun (V:World) (hb:Below W5.heap.size W5 V)=>(LM (HO5.out.q.below hb)).mono (fun e w' h=>QEnd.base (L:=L) hb h))
    have y14:=HO5.out.s.at14
    have yf:=HO5.out.s.froz
    go_region_law
     (first
       |(go_simp;go_at_call 36;refine(HNm.out _ ?_).mono ?_;(·first|exact Below.refl _ _|exact(Below.refl _ _).drew|exact ME (Below.refl _ _) _);rintro e W6 hE;rcases hr:oB L k5 n5 with _|⟨c,a⟩|⟨x6,k6,n6⟩;(·exact absurd hr aC);(·rw[hr] at hE;obtain⟨hb,⟨p,rfl⟩⟩:=hE;obtain rfl:R=.bad c a:=(by rw[←HR2.out,hr,PR.bind_bad,PR.bind_bad]);exact(show _∧_ from⟨rfl,(HW2.out.1.2.1.then HO5.out.b (by have:=HC1.out;omega)).then (hb.y sp) (by have:=HO5.out.le;have:=HC1.out;omega),⟨_,rfl⟩⟩));rw[hr] at hE;obtain⟨hb,hq,v,rfl,rfl⟩:=hE;rw[hr,PR.bind_ok] at HR2;have hkk:=TN hr;have HW6:=aA (HO5.out.step hb hq (by omega) hne hrp2);have x14:=HW6.out.s.at14;have xf:=HW6.out.s.froz;have x14a:=(((Below.refl W6.heap.size W6).alloc (nR _) (.cells #[Value.string x6] 9)).cell (p:=⟨sp,14,none⟩) (show sp<W6.heap.size from HW6.out.s.in)).trans x14;have hle7:=HW6.out.le;have hll:=HW6.out.len;have hkl:k6<400:=(by have:=hq.lt;have:=hq.ok.len;omega);clear hb hq hr)
       |(refine eD rfl (.tmp 18) (.tmp 21) 26 rfl c1 9 i0 iz 1 16 Tryz.underlying26 HI.out.1 HI.out.2.1 HI.out.2.2.1 HI.out.2.2.2.1 HI.out.2.2.2.2 (by decide) (.slice va l.length vc) l.length (l.map Value.string) (by first|(simp[Act.eval];done)|simp[Act.eval,Act.put]) (mC HW6.out.o fun g _ hl=>(bA _ _).block g hl) ⟨W6.heap.size,0,none⟩ 1 1 [.string x6] (by first|(simp[Act.eval];done)|simp[Act.eval,Act.put]) rfl (LH _ _ _) (by intro u hu;simp only[List.mem_cons,List.not_mem_nil,or_false] at hu;rcases hu with rfl;rfl) (by decide) (by unfold maxLen;omega) (by omega) (by simp;omega) ?_
         intro v' W7 ho hg hw
         obtain⟨va',vc',hv'⟩:=pE ho
         subst hv'
         have hbs:W7.heap[sp]?=W6.heap[sp]?:=(hg.block sp (by simp;omega) (by intro e;have:=(HW6.out.o.lt sp e.symm).1;omega)).trans ((bA _ _).block sp (by omega))
         have w14:=(HW6.out.s.keep hbs).at14
         have wf:=(HW6.out.s.keep hbs).froz
         have HW7:=aA (HW6.out.push HL.out hB hsp2 (by omega) ho hg)
         clear ho hg hw hbs))
    all_goals (
     obtain⟨V7,hV7⟩:∃V7,V7=W7.setCell ⟨sp,14,none⟩ (.slice va' (l.length+1) vc'):=⟨_,rfl⟩
     rw[←hV7] at HW7
     first|rw[←hV7]|skip
     have HS7:Hid (CommaAt L rp tb sp c1 W2 E (fun l k n=>(CF L f' l k n).bind fun o k n=>.ok (x1,x2,o) k n) R f' V7):=.mk f' (l++[x6]) k6 n6 _ (nR _) HW7.out (by rw[←HR2.out];exact(PR.bind_assoc _ _ _).symm)
     clear hV7 y14 yf x14 xf x14a w14 wf HW7 HW6 HO5 HNm HR2
     go_wp2_with fail
     go_loopg [] f' (fun g wr=>CommaAt L rp tb sp c1 W2 E (fun l k n=>(CF L f' l k n).bind fun o k n=>.ok (x1,x2,o) k n) R g wr)
     case atStart=>exact HS7.out
     case round=>
      clear HS7
      cases hrel with
      |mk f2 l k3 n3 v hg h hR=>
      have hk400':k3<400:=by have:=h.q.lt;have:=h.q.ok.len;omega
      have hlk':=h.len
      cases f2 with
      |zero=>exact absurd (hR.symm.trans (by rw[YD];rfl)) HNo.out
      |succ f2=>
       rw[YD] at hR
       have HG2:=aA hg
       have HO:=aA h
       cases hi:YB L ⟨#[44]⟩ k3 with
       |false=>
        rw[hi,if_neg (by simp),PR.bind_ok] at hR
        have HT:=aA (FE h.q ⟨#[44]⟩ hi)
        have HR2:=aA hR
        clear hi h hg hR
        go_wp2_with (go_at_call 80;refine HT.out.mono ?_;rintro e W4 ⟨rfl,rfl⟩)
        go_roundg f'
        case rel=>exact .mk f' l k3 n3 v (nR _) HO.out HR2.out
        case measure=>have:=HG.out;omega
       |true=>
        rw[hi,if_pos rfl] at hR
        have HT:=aA (UD h.q ⟨#[44]⟩ (by decide) hi)
        have HR2:=aA hR
        clear hi h hg hR
        obtain⟨va,vc,rfl⟩:=HO.out.sl
        go_upto_region 6 with (go_at_call 80;refine HT.out.mono ?_;rintro e W4 ⟨rfl,hq,hb⟩;have HO4:=aA (HO.out.step hb hq (by omega) hne hrp2);clear hq hb)
        clear HO HT
        have HNm:=aA (fun (V:World) (hb:Below W4.heap.size W4 V)=>(LM (HO4.out.q.below hb)).mono (fun e w' h=>QEnd.base (L:=L) hb h))
        have y14:=HO4.out.s.at14
        have yf:=HO4.out.s.froz
        go_region_law
         (first
           |(go_simp;go_at_call 36;refine(HNm.out _ ?_).mono ?_;(·first|exact Below.refl _ _|exact(Below.refl _ _).drew|exact ME (Below.refl _ _) _);rintro e W6 hE;rcases hr:oB L (k3+1) n3 with _|⟨c,a⟩|⟨x6,k6,n6⟩;(·exact absurd hr aC);(·rw[hr] at hE;obtain⟨hb,⟨p,rfl⟩⟩:=hE;obtain rfl:R=.bad c a:=(by rw[←HR2.out,hr,PR.bind_bad,PR.bind_bad]);exact(show _∧_ from⟨rfl,(HW2.out.1.2.1.then HO4.out.b (by have:=HC1.out;omega)).then (hb.y sp) (by have:=HO4.out.le;have:=HC1.out;omega),⟨_,rfl⟩⟩));rw[hr] at hE;obtain⟨hb,hq,v,rfl,rfl⟩:=hE;rw[hr,PR.bind_ok] at HR2;have hkk:=TN hr;have HW6:=aA (HO4.out.step hb hq (by omega) hne hrp2);have x14:=HW6.out.s.at14;have xf:=HW6.out.s.froz;have x14a:=(((Below.refl W6.heap.size W6).alloc (nR _) (.cells #[Value.string x6] 9)).cell (p:=⟨sp,14,none⟩) (show sp<W6.heap.size from HW6.out.s.in)).trans x14;have hle7:=HW6.out.le;have hll:=HW6.out.len;have hkl:k6<400:=(by have:=hq.lt;have:=hq.ok.len;omega);clear hb hq hr)
           |(refine eD rfl (.tmp 31) (.tmp 34) 26 rfl c1 9 i0 iz 1 16 Tryz.underlying26 HI.out.1 HI.out.2.1 HI.out.2.2.1 HI.out.2.2.2.1 HI.out.2.2.2.2 (by decide) (.slice va l.length vc) l.length (l.map Value.string) (by first|(simp[Act.eval];done)|simp[Act.eval,Act.put]) (mC HW6.out.o fun g _ hl=>(bA _ _).block g hl) ⟨W6.heap.size,0,none⟩ 1 1 [.string x6] (by first|(simp[Act.eval];done)|simp[Act.eval,Act.put]) rfl (LH _ _ _) (by intro u hu;simp only[List.mem_cons,List.not_mem_nil,or_false] at hu;rcases hu with rfl;rfl) (by decide) (by unfold maxLen;omega) (by omega) (by simp;omega) ?_
             intro v' W7 ho hg hw
             obtain⟨va',vc',hv'⟩:=pE ho
             subst hv'
             have hbs:W7.heap[sp]?=W6.heap[sp]?:=(hg.block sp (by simp;omega) (by intro e;have:=(HW6.out.o.lt sp e.symm).1;omega)).trans ((bA _ _).block sp (by omega))
             have w14:=(HW6.out.s.keep hbs).at14
             have wf:=(HW6.out.s.keep hbs).froz
             have HW7:=aA (HW6.out.push HL.out hB hsp2 (by omega) ho hg)
             clear ho hg hw hbs))
        all_goals (
         go_wp2
         go_roundg f2
         case rel=>exact .mk f2 (l++[x6]) k6 n6 _ (nR _) HW7.out HR2.out
         case measure=>have:=HG2.out;omega))
end Go.Proofs.YtehbinobohjadaaGreatDoor

import Derived.Test.YtehbinobohjadaaGreatDoorTm00
import Derived.Test.YtehbinobohjadaaGreatDoorTm26
import Derived.Deep.WholeRow
import Derived.Test.YtehbinobohjadaaGreatDoorTm25
import Derived.Defers
import Derived.Recover
import Derived.Stop.Asserts
import Derived.Laws.Tables
import Derived.Test.YtehbinobohjadaaGreatDoorTm23
set_option maxHeartbeats 20000000
set_option maxRecDepth 20000
namespace Go.Proofs.YtehbinobohjadaaGreatDoor
open Go.RowKit Go.Extern.Stop Go.Stop Go.Extern
def DE(L:List Tok)(f:Nat)(s:SentW)(k n:Nat):PR SentW:=
 if vA s.kind wDefine=true then (FA L f k n).bind fun x k n=>.ok {s with cond:=x} k n
 else if vA s.kind wRule=true then (UG L f k n).bind fun x k n=>.ok {s with positive:=x.1.1,head:=x.1.2,cond:=x.2.1,over:=x.2.2} k n
 else if vA s.kind wAmount=true then (fE L f k n).bind fun x k n=>.ok {s with sum:=x.1,cond:=x.2.1,way:=x.2.2} k n
 else if vA s.kind wDuty=true then (wI L k n).bind fun x k n=>.ok {s with positive:=x.1.1,head:=x.1.2,tn:=x.2.1,tu:=x.2.2.1,tr:=x.2.2.2.1,els:=x.2.2.2.2} k n
 else .ok s k n
def LC(L:List Tok)(kind:ByteArray)(k:Nat):Int×Nat:=if vA kind wRule=true then XC L strengthsQ 1 k else (0,k)
def mD(L:List Tok)(f:Nat)(k n:Nat):PR SentW:=
 (oB L (k+1) n).bind fun name k1 n1=>(bB L ⟨#[58]⟩ (LC L (cA L k).text k1).2 n1).bind fun _ k2 n2=>(DE L f {kind:=(cA L k).text,name:=name,strength:=(LC L (cA L k).text k1).1.toNat} k2 n2).bind fun s k3 n3=>if (cA L k3).kind=.e then .ok s k3 n3 else AI
structure SentC(B:Nat)(s:SentW)(cs:Array Value)(w:World):Prop where
 size:cs.size=19
 c0:cs[0]?=some (.string s.kind)
 c1:cs[1]?=some (.string s.name)
 c2:cs[2]?=some (.int .i64 s.strength)
 c3:cs[3]?=some (.bool s.positive)
 c4:cs[4]?=some (.string s.head)
 nc:∃v,(∀i,i<4→cs[5+i]?=some (v i))∧NL w (fun b=>B≤b) v s.cond
 ns:∃v,(∀i,i<4→cs[9+i]?=some (v i))∧NL w (fun b=>B≤b) v s.sum
 c13:cs[13]?=some (.int .i64 s.way)
 ov:∃v B2,cs[14]?=some v∧B≤B2∧w.ownsRow B2 9 1 v s.over.length (s.over.map Value.string)
 c15:cs[15]?=some (.int .i64 s.tn)
 c16:cs[16]?=some (.int .i64 s.tu)
 c17:cs[17]?=some (.int .i64 s.tr)
 c18:cs[18]?=some (.string s.els)
def QV(B:Nat)(s:SentW)(v:Value)(w:World):Prop:=∃cs,v=.agg cs∧SentC B s cs w
def jC(a b:ByteArray):Array Value:=#[.string a,.string b,.int .i64 0,.bool false,.string ⟨#[]⟩,.string ⟨#[]⟩,.string ⟨#[]⟩,.int .i64 0,.slice none 0 0,.string ⟨#[]⟩,.string ⟨#[]⟩,.int .i64 0,.slice none 0 0,.int .i64 4,.slice none 0 0,.int .i64 0,.int .i64 0,.int .i64 0,.string ⟨#[]⟩]
theorem CJ(a b:ByteArray):Tryz.prog.built 30 [(0,.string a),(1,.string b),(7,.int .i64 4)]=some (jC a b):=by kernel_rfl
theorem XG{ops:Array Oper}{rest:List Oper}{o:Oper}{a:Act}{w:World}{Q:Exit→Act→World→Prop}(hg:o.guard=none)(parts:Array (Nat×Operand))(ho:o.op=.build 30 parts)(x y:ByteArray)
 (hp:(parts.map fun (i,x)=>(i,a.eval x)).toList=[(0,.string x),(1,.string y),(7,.int .i64 4)]) (h:wpList Tryz.prog ops Q rest (a.put o.dst (.agg (jC x y))) w):wpList Tryz.prog ops Q (o::rest) a w:=
 wpList_build hg 30 parts ho (by rw[hp,CJ];rfl) (by rw[hp,CJ];exact h)
theorem vH(a b:ByteArray):(jC a b).size=19:=rfl
theorem EN(a b:ByteArray):(jC a b).all (·.oneCell')=true:=by unfold jC;simp[Value.oneCell']
theorem infoSent:(Tryz.prog.info? 30).map (·.size)=some 19:=by kernel_rfl
theorem LD{w:World}{g:Nat}{cs cs':Array Value}{t:TypeId}{fr:Nat×Nat}(h:w.heap[g]?=some (.cells cs t fr)):(w.setRow g cs').heap[g]?=some (.cells cs' t fr):=by
 unfold World.setRow
 simp[Array.getElem?_modify,h]
theorem AA{w:World}{g:Nat}{cs':Array Value}{q:Nat}(h:q≠g):(w.setRow g cs').heap[q]?=w.heap[q]?:=by
 unfold World.setRow
 rw[Array.getElem?_modify,if_neg (fun e=>h e.symm)]
theorem AC(w:World)(g:Nat)(cs:Array Value):(w.setRow g cs).heap.size=w.heap.size:=by unfold World.setRow;simp
theorem SentC.to{B B':Nat}{s:SentW}{cs:Array Value}{W WF:World}(h:SentC B s cs W)(hB:B'≤B)(hb:∀b,B≤b→b<W.heap.size→WF.heap[b]?=W.heap[b]?):SentC B' s cs WF:=by
 obtain⟨v,h1,h2⟩:=h.nc
 obtain⟨u,h3,h4⟩:=h.ns
 obtain⟨o,B2,h5,h6,h7⟩:=h.ov
 exact⟨h.size,h.c0,h.c1,h.c2,h.c3,h.c4,⟨v,h1,h2.step fun b hl hp=>⟨hb b hp hl,by omega⟩⟩,⟨u,h3,h4.step fun b hl hp=>⟨hb b hp hl,by omega⟩⟩,h.c13,⟨o,B2,h5,by omega,mC h7 fun g hg hl=>hb g (by have:=(h7.lt g hg).1;omega) hl⟩,h.c15,h.c16,h.c17,h.c18⟩
theorem NL.one'{w:World}{P:Nat→Prop}{v:Nat→Value}{t:Nd}(h:NL w P v t):∀i,i<4→(v i).oneCell'=true:=by
 cases h with
 |mk _ _ ka kc V h0 h1 h2 h3 hk hr hc=>
  intro i hi
  rcases (show i=0∨i=1∨i=2∨i=3 by omega) with rfl|rfl|rfl|rfl
  ·rw[h0];rfl
  ·rw[h1];rfl
  ·rw[h2];rfl
  ·rw[h3];rfl
theorem SentC.one{B:Nat}{s:SentW}{cs:Array Value}{W:World}(h:SentC B s cs W):cs.all (·.oneCell')=true:=by
 have hs:=h.size
 obtain⟨v,h1,h2⟩:=h.nc
 obtain⟨u,h3,h4⟩:=h.ns
 obtain⟨o,B2,h5,h6,h7⟩:=h.ov
 have key:∀(i:Nat) (x:Value),cs[i]?=some x→x.oneCell'=true:=by
  intro i x hx
  have hi:i<19:=by
   rcases Nat.lt_or_ge i 19 with h9|h9
   ·exact h9
   ·rw[Array.getElem?_eq_none (by omega)] at hx;cases hx
  have use:∀y,cs[i]?=some y→y.oneCell'=true→x.oneCell'=true:=fun y e1 e2=>by rw[e1] at hx;injection hx with e;rw[←e];exact e2
  rcases (show i=0∨i=1∨i=2∨i=3∨i=4∨(∃j,j<4∧i=5+j)∨(∃j,j<4∧i=9+j)∨i=13∨i=14∨i=15∨i=16∨i=17∨i=18 by
   rcases Nat.lt_or_ge i 5 with a|a
   ·omega
   ·rcases Nat.lt_or_ge i 9 with b|b
    ·exact .inr (.inr (.inr (.inr (.inr (.inl ⟨i - 5,by omega,by omega⟩)))))
    ·rcases Nat.lt_or_ge i 13 with c|c
     ·exact .inr (.inr (.inr (.inr (.inr (.inr (.inl ⟨i - 9,by omega,by omega⟩))))))
     ·omega) with rfl|rfl|rfl|rfl|rfl|⟨j,hj,rfl⟩|⟨j,hj,rfl⟩|rfl|rfl|rfl|rfl|rfl|rfl
  ·exact use _ h.c0 rfl
  ·exact use _ h.c1 rfl
  ·exact use _ h.c2 rfl
  ·exact use _ h.c3 rfl
  ·exact use _ h.c4 rfl
  ·exact use _ (h1 j hj) (h2.one' j hj)
  ·exact use _ (h3 j hj) (h4.one' j hj)
  ·exact use _ h.c13 rfl
  ·refine use _ h5 ?_
   rcases h7.2 with ⟨e,_⟩|⟨g,cap,cur,e,_⟩
   ·rw[e];rfl
   ·rw[e];rfl
  ·exact use _ h.c15 rfl
  ·exact use _ h.c16 rfl
  ·exact use _ h.c17 rfl
  ·exact use _ h.c18 rfl
 rw[Array.all_eq_true]
 intro i hi
 exact key i _ (Array.getElem?_eq_getElem hi)
theorem bN(L:List Tok)(kind:ByteArray)(k:Nat):(((LC L kind k).1.toNat:Nat):Int)=(LC L kind k).1:=by
 have:0≤(LC L kind k).1:=by
  unfold LC XC
  split
  ·split
   ·split
    ·show (0:Int)≤1;omega
    ·exact Int.natCast_nonneg _
   ·show (0:Int)≤1;omega
  ·show (0:Int)≤0;omega
 omega
theorem mQ{t:TK}:((kN t:Int) !=4)=!decide (t=.e):=by cases t<;>rfl
set_option maxRecDepth 100000 in
theorem XM{L:List Tok}{rp tb f:Nat}{w:World}{k n:Nat}(h:QS L rp tb w k n)(hk:k+1<L.length)(hn:mD L f k n≠.out):
 Calls Tryz.prog 18 #[.pointer (some ⟨rp,0,none⟩)] w fun e w'=>QEnd L rp tb w (mD L f k n) (fun s v w'=>QV w.heap.size s v w') e w':=by
 have lo:=h.lows
 obtain⟨R,hR⟩:∃R,R=mD L f k n:=⟨_,rfl⟩
 rw[←hR] at hn ⊢
 unfold mD at hR
 obtain⟨Z,hZ⟩:∃Z:Array Value,Z=#[.string ⟨#[]⟩,.string ⟨#[]⟩,.int .i64 0,.bool false,.string ⟨#[]⟩,.string ⟨#[]⟩,.string ⟨#[]⟩,.int .i64 0,.slice none 0 0,.string ⟨#[]⟩,.string ⟨#[]⟩,.int .i64 0,.slice none 0 0,.int .i64 0,.slice none 0 0,.int .i64 0,.int .i64 0,.int .i64 0,.string ⟨#[]⟩]:=⟨_,rfl⟩
 have hZs:Z.size=19:=by rw[hZ];rfl
 obtain⟨W1,hW1⟩:∃W1,W1=w.alloc (.cells Z 30):=⟨_,rfl⟩
 have hb1:Below w.heap.size w W1:=by rw[hW1];exact bA _ _
 have hn1:W1.heap[w.heap.size]?=some (.cells Z 30 (0,0)):=by rw[hW1];exact heap_alloc_new _ _
 have hs1:w.heap.size<W1.heap.size:=by rw[hW1];simp
 have hrp:=lo.r
 have HX:=aA hW1
 have HZ:=aA hZ
 have HNo:=aA hn
 have HL:=aA lo
 have HR:=aA hR
 have HQ1:=aA (aI (h.below hb1) (aI (Below.x hb1 rp (nR _)) (aI hn1 True.intro)))
 have HSk:=aA (ZF (h.below hb1) hk)
 have HN:=rG (L:=L) (rp:=rp) (tb:=tb)
 have HD:=sG (L:=L) (rp:=rp) (tb:=tb) ⟨#[58]⟩ (by decide)
 clear h hW1 hb1 hn1 hn lo hR hZ
 obtain⟨K0,hK0⟩:∃K0,K0=(cA L k).text:=⟨_,rfl⟩
 rw[←hK0] at HR HSk
 clear hK0
 go_enter Tryz.func18,Tryz.ntmps18
 cases hkr:(K0.toList==[114,117,108,101])
 rotate_left
 ·have hstr:∀k',LC L K0 k'=XC L strengthsQ 1 k':=fun k'=>by unfold LC;rw[if_pos];unfold vA;rw[Lib.toList_data wRule];show (K0.toList==[114,117,108,101])=true;exact hkr
  have hkd0:(K0.toList==[100,101,102,105,110,101])=false:=by
   have e:K0.toList=[114,117,108,101]:=by simpa using hkr
   rw[e];decide
  have hbd:∀nm st k n,DE L f {kind:=K0,name:=nm,strength:=st} k n=(UG L f k n).bind fun x k n=>.ok {kind:=K0,name:=nm,strength:=st,positive:=x.1.1,head:=x.1.2,cond:=x.2.1,over:=x.2.2} k n:=fun nm st k n=>by
   unfold DE
   rw[if_neg (by unfold vA;rw[Lib.toList_data wDefine];show ¬(K0.toList==[100,101,102,105,110,101])=true;rw[hkd0];simp),if_pos (by unfold vA;rw[Lib.toList_data wRule];show (K0.toList==[114,117,108,101])=true;exact hkr)]
  have HBd:=aA hbd
  have HStr:=aA hstr
  clear hbd hstr
  go_wp2_with (first|(rw[←HZ.out,←HX.out];go_at_call 35;refine HSk.out.mono ?_;rintro e W2 ⟨rfl,hq,hb⟩;have hs2:=hb.size;have HW2:=aA (aI hq (aI (HQ1.out.2.1.then hb HQ1.out.2.1.size) (aI ((hb.block _ hs1 (by omega)).trans HQ1.out.2.2.1) True.intro)));clear hq hb)|(go_at_call 36;refine(HN.out _ _ _ HW2.out.1).mono ?_;rintro e W3 hE;rcases hr:oB L (k+1) n with _|⟨c,a⟩|⟨x2,k2,n2⟩;(·exact absurd hr aC);(·rw[hr] at hE;obtain⟨hb,⟨p,rfl⟩⟩:=hE;obtain rfl:R=.bad c a:=(by rw[HR.out,hr,PR.bind_bad]);exact(show _∧_ from⟨rfl,HW2.out.2.1.then hb HW2.out.2.1.size,⟨_,rfl⟩⟩));rw[hr] at hE;obtain⟨hb,hq,v,rfl,rfl⟩:=hE;rw[hr,PR.bind_ok] at HR;have hs3:=hb.size;have HW3:=aA (aI hq (aI (HW2.out.2.1.then hb HW2.out.2.1.size) (aI ((hb.block _ (by omega) (by omega)).trans HW2.out.2.2.1) True.intro)));have EW3:=aA hr;clear hb hq hr)|(refine XG rfl _ rfl K0 x2 (by first|rfl|simp[Act.eval]) ?_)|(refine wpList_store_row rfl 30 (.tmp 3) (.tmp 8) rfl W3.heap.size (jC K0 x2) (by first|(simp[Act.eval];done)|simp[Act.eval,Act.put]) (by first|(simp[Act.eval];done)|simp[Act.eval,Act.put]) 30 _ (heap_alloc_last _ _) (infoSent.trans (by rw[vH])) (by rw[vH];rfl) (EN _ _) ?_;rw[World.setRow_alloc_new];obtain⟨V3,hV3⟩:∃V3,V3=W3.alloc (.cells (jC K0 x2) 30):=⟨_,rfl⟩;rw[←hV3];have hb3:Below W3.heap.size W3 V3:=(by rw[hV3];exact bA _ _);have hn3:SB V3 W3.heap.size (jC K0 x2):=⟨(by rw[hV3];exact heap_alloc_new _ _),rfl⟩;have hl3:W3.heap.size<V3.heap.size:=(by rw[hV3];simp);have z0:V3.cell? ⟨W3.heap.size,0,none⟩=some (.string K0):=(by rw[cell_of_row _ _ 0 _ _ _ hn3.blk];rfl);have zf:=hn3.froz;have HV3:=aA (aI (HW3.out.1.below hb3) (aI (HW3.out.2.1.then (Below.x hb3 rp (nR _)) HW3.out.2.1.size) (aI ((hb3.block _ (by omega)).trans HW3.out.2.2.1) hn3)));clear hV3 hb3 hn3)|(go_at_call 38;refine(pF _).mono ?_;rintro e W4 hrow;have he:=hrow.e;subst he;have HPh:=aA (OJ (HV3.out.1.below hrow.b) strengthsQ V3.heap.size strengthsQ.length (fun i s hs=>by rw[Nat.zero_add];exact hrow.c i s hs) (by decide) 1);have HB4:=aA hrow.b;clear hrow)|(go_at_call 37;refine HPh.out.mono ?_;rintro e W5 ⟨rfl,hq,hb⟩;have hbt:=(Below.x HB4.out rp (nR _)).then hb HB4.out.size;have hs5:=hbt.size;have hsb:=HV3.out.2.2.2.keep (hbt.block W3.heap.size hl3 (by omega));obtain⟨c2,xx2⟩:=hsb.cell (i:=2) (by omega);have xxf:=hsb.froz;have HW5:=aA (aI hq (aI (HV3.out.2.1.then hbt HV3.out.2.1.size) (aI ((hbt.block _ (by omega) (by omega)).trans HV3.out.2.2.1) hsb)));clear hq hb hbt hsb))
  have hnat:=bN L K0 k2
  rw[HStr.out] at hnat HR
  generalize hS:XC L strengthsQ 1 k2=S at *
  obtain⟨sv,ks⟩:=S
  generalize hg3:W3.heap.size=g3 at *
  obtain⟨VS,hVS⟩:∃VS,VS=W5.setCell ⟨g3,2,none⟩ (.int .i64 sv):=⟨_,rfl⟩
  rw[←hVS]
  have HV3':Hid (QS L rp tb VS ks n2∧BelX w.heap.size rp w VS∧VS.heap[w.heap.size]?=some (.cells Z 30 (0,0))∧SB VS g3 ((jC K0 x2).setIfInBounds 2 (.int .i64 sv))):=by
   rw[hVS]
   have ho:∀b,b≠g3→(W5.setCell ⟨g3,2,none⟩ (.int .i64 sv)).heap[b]?=W5.heap[b]?:=fun b hb=>Below.heap_setCell _ _ _ _ hb
   exact⟨HW5.out.1.keep HL.out fun b hb=>ho b (by omega),⟨HW5.out.2.1.os,HW5.out.2.1.tape,HW5.out.2.1.output,by simpa using HW5.out.2.1.size,fun b hb hne=>(ho b (by omega)).trans (HW5.out.2.1.block b hb hne)⟩,(ho _ (by omega)).trans HW5.out.2.2.1,HW5.out.2.2.2.set 2 _⟩
  have hsVS:VS.heap.size=W5.heap.size:=by rw[hVS];simp
  have HSv:=aA (aI hnat hS)
  clear hVS HW5 HV3 HW3 HW2 HQ1 HSk HPh HB4 z0 zf xx2 xxf hnat hS
  replace HR:Hid (R=(bB L ⟨#[58]⟩ ks n2).bind fun x k2 n2=>(DE L f {kind:=K0,name:=x2,strength:=sv.toNat} k2 n2).bind fun s k3 n3=>if (cA L k3).kind=TK.e then PR.ok s k3 n3 else AI):=HR
  have hsv:((sv.toNat:Nat):Int)=sv:=HSv.out.1
  go_upto_region 14 with (first|(go_at_call 39;refine(HD.out _ _ _ HV3'.out.1).mono ?_;rintro e W6 hE;rcases hr:bB L ⟨#[58]⟩ ks n2 with _|⟨c,a⟩|⟨x5,k5,n5⟩;(·exact absurd hr bC);(·rw[hr] at hE;obtain⟨hb,⟨p,rfl⟩⟩:=hE;obtain rfl:R=.bad c a:=(by rw[HR.out,hr,PR.bind_bad]);exact(show _∧_ from⟨rfl,HV3'.out.2.1.then hb HV3'.out.2.1.size,⟨_,rfl⟩⟩));rw[hr] at hE;obtain⟨hb,hq,v,rfl,rfl⟩:=hE;rw[hr,PR.bind_ok] at HR;have hs6:=hb.size;have HW6:=aA (aI hq (aI (HV3'.out.2.1.then hb HV3'.out.2.1.size) (aI ((hb.block _ (by omega) (by omega)).trans HV3'.out.2.2.1) (HV3'.out.2.2.2.keep (hb.block _ (by omega) (by omega))))));have z0:W6.cell? ⟨g3,0,none⟩=some (.string K0):=(by rw[cell_of_row _ _ 0 _ _ _ HW6.out.2.2.2.blk];rfl);have zf:=HW6.out.2.2.2.froz;clear hb hq hr)|(go_at_call 41;have hno:UG L f k5 n5≠.out:=(by intro h9;apply HNo.out;rw[HR.out,HBd.out,h9];rfl);refine(rV HW6.out.1 HW6.out.2.2.2 HL.out (by omega) ⟨by simp[jC],by simp[jC],by simp[jC],by simp[jC]⟩ (by simp[jC]) hno).mono ?_;rintro e VF hE;rcases hr:UG L f k5 n5 with _|⟨c,a⟩|⟨x6,kF,nF⟩;(·exact absurd hr hno);(·rw[hr] at hE;obtain⟨hb,⟨p,rfl⟩⟩:=hE;obtain rfl:R=.bad c a:=(by rw[HR.out,HBd.out,hr];rfl);exact(show _∧_ from⟨rfl,HW6.out.2.1.then (hb.x (B':=w.heap.size) (by omega) (by omega)) (nR _),⟨_,rfl⟩⟩));rw[hr] at hE;obtain⟨hb,hq,rfl,u0,u1,u2,ua,un,uc,ovv,cc1,hsb,hM,hcc,hov⟩:=hE;rw[HBd.out,hr,PR.bind_ok,PR.bind_ok] at HR;have HW7:=aA (aI hq (aI hb (aI hsb (aI hM (aI hcc hov)))));clear hb hq hr hM hsb hcc hov))
  obtain⟨cF,hcF⟩:∃cF,cF=(uA ((((jC K0 x2).setIfInBounds 2 (.int .i64 sv)).setIfInBounds 3 (.bool x6.1.1)).setIfInBounds 4 (.string x6.1.2)) 5 (.string u0) (.string u1) (.int .i64 u2) (.slice ua un uc)).setIfInBounds 14 ovv:=⟨_,rfl⟩
  have HF:Hid (QS L rp tb VF kF nF∧BelX w.heap.size rp w VF∧VF.heap[w.heap.size]?=some (.cells Z 30 (0,0))∧SB VF g3 cF∧SentC (w.heap.size+1) {kind:=K0,name:=x2,strength:=sv.toNat,positive:=x6.1.1,head:=x6.1.2,cond:=x6.2.1,over:=x6.2.2} cF VF):=by
   refine⟨HW7.out.1,HW6.out.2.1.then (HW7.out.2.1.x (B':=w.heap.size) (by omega) (by omega)) (nR _),(HW7.out.2.1.block _ (by omega) (by omega) (by omega)).trans HW6.out.2.2.1,by rw[hcF];exact HW7.out.2.2.1,?_⟩
   rw[hcF]
   exact⟨HW7.out.2.2.1.size,by simp[uA,jC],by simp[uA,jC],by simp[uA,jC,hsv],by simp[uA,jC],by simp[uA,jC],⟨nv (.string u0) (.string u1) (.int .i64 u2) (.slice ua un uc),fun i hi=>by rcases (show i=0∨i=1∨i=2∨i=3 by omega) with rfl|rfl|rfl|rfl<;>simp[uA,jC,nv],HW7.out.2.2.2.1.step fun b hb hp=>⟨rfl,by omega⟩⟩,⟨nv (.string ⟨#[]⟩) (.string ⟨#[]⟩) (.int .i64 0) (.slice none 0 0),fun i hi=>by rcases (show i=0∨i=1∨i=2∨i=3 by omega) with rfl|rfl|rfl|rfl<;>simp[uA,jC,nv],NL.leaf _ _ ⟨#[]⟩ ⟨#[]⟩ 0⟩,by simp[uA,jC],⟨ovv,cc1,by simp[uA,jC],by have:=HW7.out.2.2.2.2.1;omega,HW7.out.2.2.2.2.2⟩,by simp[uA,jC],by simp[uA,jC],by simp[uA,jC],by simp[uA,jC]⟩
  clear hcF HW7 HW6 HV3' z0 zf
  obtain⟨m,c,hm,hm1,hc,h4,y8,y9,yf⟩:=HF.out.1.cells
  obtain⟨t0,t1,t2⟩:=HF.out.1.tokens
  have hze:=mQ (t:=(cA L kF).kind)
  by_cases hend:(cA L kF).kind=.e
  ·rw[if_pos hend] at HR
   rw[decide_eq_true hend] at hze
   simp only[Bool.not_true] at hze
   clear hend
   generalize kN (cA L kF).kind=KK at *
   go_wp2_with (first|(refine wpList_load_row rfl 30 (.tmp 3) rfl g3 (by first|(simp[Act.eval];done)|simp[Act.eval,Act.put]) 30 cF (0,0) _ HF.out.2.2.2.1.blk Tryz.underlying30 rfl (infoSent.trans (by rw[HF.out.2.2.2.1.size])) ?_)|(refine wpList_store_row rfl 30 (.tmp 2) (.tmp 48) rfl w.heap.size cF (by first|(simp[Act.eval];done)|simp[Act.eval,Act.put]) (by first|(simp[Act.eval];done)|simp[Act.eval,Act.put]) 30 Z HF.out.2.2.1 (infoSent.trans (by rw[HF.out.2.2.2.1.size])) (by rw[hZs,HF.out.2.2.2.1.size]) HF.out.2.2.2.2.one ?_))
   refine bodyPost_ret (v:=.agg cF) (results_cell_row Tryz.results18 _ _ w.heap.size 30 cF (0,0) _ (by first|rfl|simp) (LD HF.out.2.2.1) Tryz.underlying30 rfl (infoSent.trans (by rw[HF.out.2.2.2.1.size]))) rfl ?_
   obtain rfl:=HR.out
   refine⟨HF.out.2.1.then ⟨rfl,rfl,rfl,by rw[AC];exact nR _,fun b hb _=>AA (by omega)⟩ (nR _),HF.out.1.keep HL.out (fun b hb=>AA (by omega)),_,rfl,cF,rfl,HF.out.2.2.2.2.to (by omega) (fun b hb _=>AA (by omega))⟩
  ·rw[if_neg hend] at HR
   rw[decide_eq_false hend] at hze
   simp only[Bool.not_false] at hze
   obtain⟨pt,gt⟩:=HF.out.1.gT
   clear hend
   generalize kN (cA L kF).kind=KK at *
   go_wp2_with (go_at_call 44;refine(FD HF.out.1 _ _).mono ?_;rintro e w4 ⟨⟨p,rfl⟩,hb⟩;have HB:=aA hb;clear hb)
   obtain rfl:R=.bad 0 0:=HR.out
   exact⟨rfl,HF.out.2.1.then (Below.x HB.out _ (nR _)) HF.out.2.1.size,⟨_,rfl⟩⟩
 go_wp2_with (first|(rw[←HZ.out,←HX.out];go_at_call 35;refine HSk.out.mono ?_;rintro e W2 ⟨rfl,hq,hb⟩;have hs2:=hb.size;have HW2:=aA (aI hq (aI (HQ1.out.2.1.then hb HQ1.out.2.1.size) (aI ((hb.block _ hs1 (by omega)).trans HQ1.out.2.2.1) True.intro)));clear hq hb)|(go_at_call 36;refine(HN.out _ _ _ HW2.out.1).mono ?_;rintro e W3 hE;rcases hr:oB L (k+1) n with _|⟨c,a⟩|⟨x2,k2,n2⟩;(·exact absurd hr aC);(·rw[hr] at hE;obtain⟨hb,⟨p,rfl⟩⟩:=hE;obtain rfl:R=.bad c a:=(by rw[HR.out,hr,PR.bind_bad]);exact(show _∧_ from⟨rfl,HW2.out.2.1.then hb HW2.out.2.1.size,⟨_,rfl⟩⟩));rw[hr] at hE;obtain⟨hb,hq,v,rfl,rfl⟩:=hE;rw[hr,PR.bind_ok] at HR;have hs3:=hb.size;have HW3:=aA (aI hq (aI (HW2.out.2.1.then hb HW2.out.2.1.size) (aI ((hb.block _ (by omega) (by omega)).trans HW2.out.2.2.1) True.intro)));have EW3:=aA hr;clear hb hq hr)|(refine XG rfl _ rfl K0 x2 (by first|rfl|simp[Act.eval]) ?_)|(refine wpList_store_row rfl 30 (.tmp 3) (.tmp 8) rfl W3.heap.size (jC K0 x2) (by first|(simp[Act.eval];done)|simp[Act.eval,Act.put]) (by first|(simp[Act.eval];done)|simp[Act.eval,Act.put]) 30 _ (heap_alloc_last _ _) (infoSent.trans (by rw[vH])) (by rw[vH];rfl) (EN _ _) ?_;rw[World.setRow_alloc_new];obtain⟨V3,hV3⟩:∃V3,V3=W3.alloc (.cells (jC K0 x2) 30):=⟨_,rfl⟩;rw[←hV3];have hb3:Below W3.heap.size W3 V3:=(by rw[hV3];exact bA _ _);have hn3:SB V3 W3.heap.size (jC K0 x2):=⟨(by rw[hV3];exact heap_alloc_new _ _),rfl⟩;have hl3:W3.heap.size<V3.heap.size:=(by rw[hV3];simp);have z0:V3.cell? ⟨W3.heap.size,0,none⟩=some (.string K0):=(by rw[cell_of_row _ _ 0 _ _ _ hn3.blk];rfl);have zf:=hn3.froz;have HV3:=aA (aI (HW3.out.1.below hb3) (aI (HW3.out.2.1.then (Below.x hb3 rp (nR _)) HW3.out.2.1.size) (aI ((hb3.block _ (by omega)).trans HW3.out.2.2.1) hn3)));clear hV3 hb3 hn3))
 generalize W3.heap.size=g3 at *
 clear HW3 HW2 HQ1 HSk
 have hst:LC L K0 k2=(0,k2):=by unfold LC;rw[if_neg];unfold vA;rw[Lib.toList_data wRule];show ¬(K0.toList==[114,117,108,101])=true;rw[hkr];simp
 rw[hst] at HR
 clear hst
 cases hkd:(K0.toList==[100,101,102,105,110,101])
 rotate_left
 ·have hbd:∀k n,DE L f {kind:=K0,name:=x2,strength:=(0:Int).toNat} k n=(FA L f k n).bind fun x k n=>.ok {kind:=K0,name:=x2,strength:=0,cond:=x} k n:=fun k n=>by
   unfold DE;rw[if_pos];rfl;unfold vA;rw[Lib.toList_data wDefine];show (K0.toList==[100,101,102,105,110,101])=true;exact hkd
  have HBd:=aA hbd
  have HA:=aA ((rS (L:=L) (rp:=rp) (tb:=tb) f f (nR _)).ei)
  clear hbd
  go_upto_region 14 with (first|(go_at_call 39;refine(HD.out _ _ _ HV3.out.1).mono ?_;rintro e W5 hE;rcases hr:bB L ⟨#[58]⟩ k2 n2 with _|⟨c,a⟩|⟨x5,k5,n5⟩;(·exact absurd hr bC);(·rw[hr] at hE;obtain⟨hb,⟨p,rfl⟩⟩:=hE;obtain rfl:R=.bad c a:=(by rw[HR.out,hr,PR.bind_bad]);exact(show _∧_ from⟨rfl,HV3.out.2.1.then hb HV3.out.2.1.size,⟨_,rfl⟩⟩));rw[hr] at hE;obtain⟨hb,hq,v,rfl,rfl⟩:=hE;rw[hr,PR.bind_ok] at HR;have hs5:=hb.size;have HW5:=aA (aI hq (aI (HV3.out.2.1.then hb HV3.out.2.1.size) (aI ((hb.block _ (by omega) (by omega)).trans HV3.out.2.2.1) (HV3.out.2.2.2.keep (hb.block _ (by omega) (by omega))))));have z0:W5.cell? ⟨g3,0,none⟩=some (.string K0):=(by rw[cell_of_row _ _ 0 _ _ _ HW5.out.2.2.2.blk];rfl);have zf:=HW5.out.2.2.2.froz;clear hb hq hr)|(go_at_call 40;have hno:FA L f k5 n5≠.out:=(by intro h9;apply HNo.out;rw[HR.out,HBd.out,h9];rfl);refine(HA.out _ _ _ HW5.out.1 hno).mono ?_;rintro e W6 hE;rcases hr:FA L f k5 n5 with _|⟨c,a⟩|⟨x6,kF,nF⟩;(·exact absurd hr hno);(·rw[hr] at hE;obtain⟨hb,⟨p,rfl⟩⟩:=hE;obtain rfl:R=.bad c a:=(by rw[HR.out,HBd.out,hr];rfl);exact(show _∧_ from⟨rfl,HW5.out.2.1.then hb HW5.out.2.1.size,⟨_,rfl⟩⟩));rw[hr] at hE;obtain⟨hb,hq,v,rfl,s0,s1,i2,ka,kn,kc,rfl,hN⟩:=hE;rw[HBd.out,hr,PR.bind_ok,PR.bind_ok] at HR;have hs6:=hb.size;have hsb:=HW5.out.2.2.2.keep (hb.block g3 (by omega) (by omega));obtain⟨c5,x5'⟩:=hsb.cell (i:=5) (by omega);obtain⟨c6,x6'⟩:=hsb.cell (i:=6) (by omega);obtain⟨c7,x7'⟩:=hsb.cell (i:=7) (by omega);obtain⟨c8,x8'⟩:=hsb.cell (i:=8) (by omega);have xf':=hsb.froz;have HW6:=aA (aI hq (aI (HW5.out.2.1.then hb HW5.out.2.1.size) (aI ((hb.block _ (by omega) (by omega)).trans HW5.out.2.2.1) (aI hsb hN))));clear hb hq hr hN hsb))
  obtain⟨cF,hcF⟩:∃cF,cF=uA (jC K0 x2) 5 (.string s0) (.string s1) (.int .i64 i2) (.slice ka kn kc):=⟨_,rfl⟩
  obtain⟨VF,hVF⟩:∃VF,VF=(((W6.setCell ⟨g3,5,none⟩ (.string s0)).setCell ⟨g3,6,none⟩ (.string s1)).setCell ⟨g3,7,none⟩ (.int .i64 i2)).setCell ⟨g3,8,none⟩ (.slice ka kn kc):=⟨_,rfl⟩
  rw[←hVF]
  have hsn:SetNode W6 VF g3 5 (jC K0 x2) (.string s0) (.string s1) (.int .i64 i2) (.slice ka kn kc):=by rw[hVF];exact CK HW6.out.2.2.2.1 5 _ _ _ _
  have HF:Hid (QS L rp tb VF kF nF∧BelX w.heap.size rp w VF∧VF.heap[w.heap.size]?=some (.cells Z 30 (0,0))∧SB VF g3 cF∧SentC (w.heap.size+1) {kind:=K0,name:=x2,strength:=0,cond:=x6} cF VF):=by
   refine⟨HW6.out.1.keep HL.out fun b hb=>hsn.old b (by omega),⟨by rw[hVF];exact HW6.out.2.1.os,by rw[hVF];exact HW6.out.2.1.tape,by rw[hVF];exact HW6.out.2.1.output,by rw[hsn.size];exact HW6.out.2.1.size,fun b hb hne=>(hsn.old b (by omega)).trans (HW6.out.2.1.block b hb hne)⟩,(hsn.old _ (by omega)).trans HW6.out.2.2.1,by rw[hcF];exact hsn.sb,?_⟩
   rw[hcF]
   exact⟨hsn.sb.size,by simp[uA,jC],by simp[uA,jC],by simp[uA,jC],by simp[uA,jC],by simp[uA,jC],⟨nv (.string s0) (.string s1) (.int .i64 i2) (.slice ka kn kc),fun i hi=>by rcases (show i=0∨i=1∨i=2∨i=3 by omega) with rfl|rfl|rfl|rfl<;>simp[uA,jC,nv],HW6.out.2.2.2.2.step fun b hb hp=>⟨hsn.old b (by omega),by omega⟩⟩,⟨nv (.string ⟨#[]⟩) (.string ⟨#[]⟩) (.int .i64 0) (.slice none 0 0),fun i hi=>by rcases (show i=0∨i=1∨i=2∨i=3 by omega) with rfl|rfl|rfl|rfl<;>simp[uA,jC,nv],NL.leaf _ _ ⟨#[]⟩ ⟨#[]⟩ 0⟩,by simp[uA,jC],⟨.slice none 0 0,w.heap.size+1,by simp[uA,jC],nR _,⟨rfl,.inl ⟨rfl,rfl⟩⟩⟩,by simp[uA,jC],by simp[uA,jC],by simp[uA,jC],by simp[uA,jC]⟩
  clear hVF hcF hsn HW6 HW5 x5' x6' x7' x8' xf'
  obtain⟨m,c,hm,hm1,hc,h4,y8,y9,yf⟩:=HF.out.1.cells
  obtain⟨t0,t1,t2⟩:=HF.out.1.tokens
  have hze:=mQ (t:=(cA L kF).kind)
  by_cases hend:(cA L kF).kind=.e
  ·rw[if_pos hend] at HR
   rw[decide_eq_true hend] at hze
   simp only[Bool.not_true] at hze
   clear hend
   generalize kN (cA L kF).kind=KK at *
   go_wp2_with (first|(refine wpList_load_row rfl 30 (.tmp 3) rfl g3 (by first|(simp[Act.eval];done)|simp[Act.eval,Act.put]) 30 cF (0,0) _ HF.out.2.2.2.1.blk Tryz.underlying30 rfl (infoSent.trans (by rw[HF.out.2.2.2.1.size])) ?_)|(refine wpList_store_row rfl 30 (.tmp 2) (.tmp 48) rfl w.heap.size cF (by first|(simp[Act.eval];done)|simp[Act.eval,Act.put]) (by first|(simp[Act.eval];done)|simp[Act.eval,Act.put]) 30 Z HF.out.2.2.1 (infoSent.trans (by rw[HF.out.2.2.2.1.size])) (by rw[hZs,HF.out.2.2.2.1.size]) HF.out.2.2.2.2.one ?_))
   refine bodyPost_ret (v:=.agg cF) (results_cell_row Tryz.results18 _ _ w.heap.size 30 cF (0,0) _ (by first|rfl|simp) (LD HF.out.2.2.1) Tryz.underlying30 rfl (infoSent.trans (by rw[HF.out.2.2.2.1.size]))) rfl ?_
   obtain rfl:=HR.out
   refine⟨HF.out.2.1.then ⟨rfl,rfl,rfl,by rw[AC];exact nR _,fun b hb _=>AA (by omega)⟩ (nR _),HF.out.1.keep HL.out (fun b hb=>AA (by omega)),_,rfl,cF,rfl,HF.out.2.2.2.2.to (by omega) (fun b hb _=>AA (by omega))⟩
  ·rw[if_neg hend] at HR
   rw[decide_eq_false hend] at hze
   simp only[Bool.not_false] at hze
   obtain⟨pt,gt⟩:=HF.out.1.gT
   clear hend
   generalize kN (cA L kF).kind=KK at *
   go_wp2_with (go_at_call 44;refine(FD HF.out.1 _ _).mono ?_;rintro e w4 ⟨⟨p,rfl⟩,hb⟩;have HB:=aA hb;clear hb)
   obtain rfl:R=.bad 0 0:=HR.out
   exact⟨rfl,HF.out.2.1.then (Below.x HB.out _ (nR _)) HF.out.2.1.size,⟨_,rfl⟩⟩
 cases hka:(K0.toList==[97,109,111,117,110,116])
 rotate_left
 ·have hbd:∀k n,DE L f {kind:=K0,name:=x2,strength:=(0:Int).toNat} k n=(fE L f k n).bind fun x k n=>.ok {kind:=K0,name:=x2,strength:=0,sum:=x.1,cond:=x.2.1,way:=x.2.2} k n:=fun k n=>by
   unfold DE
   rw[if_neg (by unfold vA;rw[Lib.toList_data wDefine];show ¬(K0.toList==[100,101,102,105,110,101])=true;rw[hkd];simp),if_neg (by unfold vA;rw[Lib.toList_data wRule];show ¬(K0.toList==[114,117,108,101])=true;rw[hkr];simp),if_pos (by unfold vA;rw[Lib.toList_data wAmount];show (K0.toList==[97,109,111,117,110,116])=true;exact hka)]
   rfl
  have HBd:=aA hbd
  clear hbd
  go_upto_region 14 with (first|(go_at_call 39;refine(HD.out _ _ _ HV3.out.1).mono ?_;rintro e W5 hE;rcases hr:bB L ⟨#[58]⟩ k2 n2 with _|⟨c,a⟩|⟨x5,k5,n5⟩;(·exact absurd hr bC);(·rw[hr] at hE;obtain⟨hb,⟨p,rfl⟩⟩:=hE;obtain rfl:R=.bad c a:=(by rw[HR.out,hr,PR.bind_bad]);exact(show _∧_ from⟨rfl,HV3.out.2.1.then hb HV3.out.2.1.size,⟨_,rfl⟩⟩));rw[hr] at hE;obtain⟨hb,hq,v,rfl,rfl⟩:=hE;rw[hr,PR.bind_ok] at HR;have hs5:=hb.size;have HW5:=aA (aI hq (aI (HV3.out.2.1.then hb HV3.out.2.1.size) (aI ((hb.block _ (by omega) (by omega)).trans HV3.out.2.2.1) (HV3.out.2.2.2.keep (hb.block _ (by omega) (by omega))))));have z0:W5.cell? ⟨g3,0,none⟩=some (.string K0):=(by rw[cell_of_row _ _ 0 _ _ _ HW5.out.2.2.2.blk];rfl);have zf:=HW5.out.2.2.2.froz;clear hb hq hr)|(go_at_call 42;have hno:fE L f k5 n5≠.out:=(by intro h9;apply HNo.out;rw[HR.out,HBd.out,h9];rfl);refine(IP HW5.out.1 HW5.out.2.2.2 HL.out (by omega) ⟨by simp[jC],by simp[jC],by simp[jC],by simp[jC]⟩ (by simp[jC]) hno).mono ?_;rintro e VF hE;rcases hr:fE L f k5 n5 with _|⟨c,a⟩|⟨x6,kF,nF⟩;(·exact absurd hr hno);(·rw[hr] at hE;obtain⟨hb,⟨p,rfl⟩⟩:=hE;obtain rfl:R=.bad c a:=(by rw[HR.out,HBd.out,hr];rfl);exact(show _∧_ from⟨rfl,HW5.out.2.1.then (hb.x (B':=w.heap.size) (by omega) (by omega)) (nR _),⟨_,rfl⟩⟩));rw[hr] at hE;obtain⟨hb,hq,rfl,s0,s1,s2,sa,sn,sc,u0,u1,u2,ua,un,uc,hsb,hN,hM⟩:=hE;rw[HBd.out,hr,PR.bind_ok,PR.bind_ok] at HR;have HW6:=aA (aI hq (aI hb (aI hsb (aI hN hM))));clear hb hq hr hN hM hsb))
  obtain⟨cF,hcF⟩:∃cF,cF=(uA (uA (jC K0 x2) 9 (.string s0) (.string s1) (.int .i64 s2) (.slice sa sn sc)) 5 (.string u0) (.string u1) (.int .i64 u2) (.slice ua un uc)).setIfInBounds 13 (.int .i64 x6.2.2):=⟨_,rfl⟩
  have HF:Hid (QS L rp tb VF kF nF∧BelX w.heap.size rp w VF∧VF.heap[w.heap.size]?=some (.cells Z 30 (0,0))∧SB VF g3 cF∧SentC (w.heap.size+1) {kind:=K0,name:=x2,strength:=0,sum:=x6.1,cond:=x6.2.1,way:=x6.2.2} cF VF):=by
   refine⟨HW6.out.1,HW5.out.2.1.then (HW6.out.2.1.x (B':=w.heap.size) (by omega) (by omega)) (nR _),(HW6.out.2.1.block _ (by omega) (by omega) (by omega)).trans HW5.out.2.2.1,by rw[hcF];exact HW6.out.2.2.1,?_⟩
   rw[hcF]
   exact⟨HW6.out.2.2.1.size,by simp[uA,jC],by simp[uA,jC],by simp[uA,jC],by simp[uA,jC],by simp[uA,jC],⟨nv (.string u0) (.string u1) (.int .i64 u2) (.slice ua un uc),fun i hi=>by rcases (show i=0∨i=1∨i=2∨i=3 by omega) with rfl|rfl|rfl|rfl<;>simp[uA,jC,nv],HW6.out.2.2.2.2.step fun b hb hp=>⟨rfl,by omega⟩⟩,⟨nv (.string s0) (.string s1) (.int .i64 s2) (.slice sa sn sc),fun i hi=>by rcases (show i=0∨i=1∨i=2∨i=3 by omega) with rfl|rfl|rfl|rfl<;>simp[uA,jC,nv],HW6.out.2.2.2.1.step fun b hb hp=>⟨rfl,by omega⟩⟩,by simp[uA,jC],⟨.slice none 0 0,w.heap.size+1,by simp[uA,jC],nR _,⟨rfl,.inl ⟨rfl,rfl⟩⟩⟩,by simp[uA,jC],by simp[uA,jC],by simp[uA,jC],by simp[uA,jC]⟩
  clear hcF HW6 HW5 z0 zf
  obtain⟨m,c,hm,hm1,hc,h4,y8,y9,yf⟩:=HF.out.1.cells
  obtain⟨t0,t1,t2⟩:=HF.out.1.tokens
  have hze:=mQ (t:=(cA L kF).kind)
  by_cases hend:(cA L kF).kind=.e
  ·rw[if_pos hend] at HR
   rw[decide_eq_true hend] at hze
   simp only[Bool.not_true] at hze
   clear hend
   generalize kN (cA L kF).kind=KK at *
   go_wp2_with (first|(refine wpList_load_row rfl 30 (.tmp 3) rfl g3 (by first|(simp[Act.eval];done)|simp[Act.eval,Act.put]) 30 cF (0,0) _ HF.out.2.2.2.1.blk Tryz.underlying30 rfl (infoSent.trans (by rw[HF.out.2.2.2.1.size])) ?_)|(refine wpList_store_row rfl 30 (.tmp 2) (.tmp 48) rfl w.heap.size cF (by first|(simp[Act.eval];done)|simp[Act.eval,Act.put]) (by first|(simp[Act.eval];done)|simp[Act.eval,Act.put]) 30 Z HF.out.2.2.1 (infoSent.trans (by rw[HF.out.2.2.2.1.size])) (by rw[hZs,HF.out.2.2.2.1.size]) HF.out.2.2.2.2.one ?_))
   refine bodyPost_ret (v:=.agg cF) (results_cell_row Tryz.results18 _ _ w.heap.size 30 cF (0,0) _ (by first|rfl|simp) (LD HF.out.2.2.1) Tryz.underlying30 rfl (infoSent.trans (by rw[HF.out.2.2.2.1.size]))) rfl ?_
   obtain rfl:=HR.out
   refine⟨HF.out.2.1.then ⟨rfl,rfl,rfl,by rw[AC];exact nR _,fun b hb _=>AA (by omega)⟩ (nR _),HF.out.1.keep HL.out (fun b hb=>AA (by omega)),_,rfl,cF,rfl,HF.out.2.2.2.2.to (by omega) (fun b hb _=>AA (by omega))⟩
  ·rw[if_neg hend] at HR
   rw[decide_eq_false hend] at hze
   simp only[Bool.not_false] at hze
   obtain⟨pt,gt⟩:=HF.out.1.gT
   clear hend
   generalize kN (cA L kF).kind=KK at *
   go_wp2_with (go_at_call 44;refine(FD HF.out.1 _ _).mono ?_;rintro e w4 ⟨⟨p,rfl⟩,hb⟩;have HB:=aA hb;clear hb)
   obtain rfl:R=.bad 0 0:=HR.out
   exact⟨rfl,HF.out.2.1.then (Below.x HB.out _ (nR _)) HF.out.2.1.size,⟨_,rfl⟩⟩
 cases hkt:(K0.toList==[100,117,116,121])
 rotate_left
 ·have hbd:∀k n,DE L f {kind:=K0,name:=x2,strength:=(0:Int).toNat} k n=(wI L k n).bind fun x k n=>.ok {kind:=K0,name:=x2,strength:=0,positive:=x.1.1,head:=x.1.2,tn:=x.2.1,tu:=x.2.2.1,tr:=x.2.2.2.1,els:=x.2.2.2.2} k n:=fun k n=>by
   unfold DE
   rw[if_neg (by unfold vA;rw[Lib.toList_data wDefine];show ¬(K0.toList==[100,101,102,105,110,101])=true;rw[hkd];simp),if_neg (by unfold vA;rw[Lib.toList_data wRule];show ¬(K0.toList==[114,117,108,101])=true;rw[hkr];simp),if_neg (by unfold vA;rw[Lib.toList_data wAmount];show ¬(K0.toList==[97,109,111,117,110,116])=true;rw[hka];simp),if_pos (by unfold vA;rw[Lib.toList_data wDuty];show (K0.toList==[100,117,116,121])=true;exact hkt)]
   rfl
  have HBd:=aA hbd
  clear hbd
  go_upto_region 14 with (first|(go_at_call 39;refine(HD.out _ _ _ HV3.out.1).mono ?_;rintro e W5 hE;rcases hr:bB L ⟨#[58]⟩ k2 n2 with _|⟨c,a⟩|⟨x5,k5,n5⟩;(·exact absurd hr bC);(·rw[hr] at hE;obtain⟨hb,⟨p,rfl⟩⟩:=hE;obtain rfl:R=.bad c a:=(by rw[HR.out,hr,PR.bind_bad]);exact(show _∧_ from⟨rfl,HV3.out.2.1.then hb HV3.out.2.1.size,⟨_,rfl⟩⟩));rw[hr] at hE;obtain⟨hb,hq,v,rfl,rfl⟩:=hE;rw[hr,PR.bind_ok] at HR;have hs5:=hb.size;have HW5:=aA (aI hq (aI (HV3.out.2.1.then hb HV3.out.2.1.size) (aI ((hb.block _ (by omega) (by omega)).trans HV3.out.2.2.1) (HV3.out.2.2.2.keep (hb.block _ (by omega) (by omega))))));have z0:W5.cell? ⟨g3,0,none⟩=some (.string K0):=(by rw[cell_of_row _ _ 0 _ _ _ HW5.out.2.2.2.blk];rfl);have zf:=HW5.out.2.2.2.froz;clear hb hq hr)|(go_at_call 43;have hno:wI L k5 n5≠.out:=(by intro h9;apply HNo.out;rw[HR.out,HBd.out,h9];rfl);refine(LU HW5.out.1 HW5.out.2.2.2 HL.out (by omega) (by simp[jC]) (by simp[jC])).mono ?_;rintro e VF hE;rcases hr:wI L k5 n5 with _|⟨c,a⟩|⟨x6,kF,nF⟩;(·exact absurd hr hno);(·rw[hr] at hE;obtain⟨hb,⟨p,rfl⟩⟩:=hE;obtain rfl:R=.bad c a:=(by rw[HR.out,HBd.out,hr];rfl);exact(show _∧_ from⟨rfl,HW5.out.2.1.then (hb.x (B':=w.heap.size) (by omega) (by omega)) (nR _),⟨_,rfl⟩⟩));rw[hr] at hE;obtain⟨hb,hq,rfl,hsb⟩:=hE;rw[HBd.out,hr,PR.bind_ok,PR.bind_ok] at HR;have HW6:=aA (aI hq (aI hb hsb));clear hb hq hr hsb))
  obtain⟨cF,hcF⟩:∃cF,cF=((((((jC K0 x2).setIfInBounds 3 (.bool x6.1.1)).setIfInBounds 4 (.string x6.1.2)).setIfInBounds 15 (.int .i64 x6.2.1)).setIfInBounds 16 (.int .i64 x6.2.2.1)).setIfInBounds 17 (.int .i64 x6.2.2.2.1)).setIfInBounds 18 (.string x6.2.2.2.2):=⟨_,rfl⟩
  have HF:Hid (QS L rp tb VF kF nF∧BelX w.heap.size rp w VF∧VF.heap[w.heap.size]?=some (.cells Z 30 (0,0))∧SB VF g3 cF∧SentC (w.heap.size+1) {kind:=K0,name:=x2,strength:=0,positive:=x6.1.1,head:=x6.1.2,tn:=x6.2.1,tu:=x6.2.2.1,tr:=x6.2.2.2.1,els:=x6.2.2.2.2} cF VF):=by
   refine⟨HW6.out.1,HW5.out.2.1.then (HW6.out.2.1.x (B':=w.heap.size) (by omega) (by omega)) (nR _),(HW6.out.2.1.block _ (by omega) (by omega) (by omega)).trans HW5.out.2.2.1,by rw[hcF];exact HW6.out.2.2,?_⟩
   rw[hcF]
   exact⟨HW6.out.2.2.size,by simp[jC],by simp[jC],by simp[jC],by simp[jC],by simp[jC],⟨nv (.string ⟨#[]⟩) (.string ⟨#[]⟩) (.int .i64 0) (.slice none 0 0),fun i hi=>by rcases (show i=0∨i=1∨i=2∨i=3 by omega) with rfl|rfl|rfl|rfl<;>simp[jC,nv],NL.leaf _ _ ⟨#[]⟩ ⟨#[]⟩ 0⟩,⟨nv (.string ⟨#[]⟩) (.string ⟨#[]⟩) (.int .i64 0) (.slice none 0 0),fun i hi=>by rcases (show i=0∨i=1∨i=2∨i=3 by omega) with rfl|rfl|rfl|rfl<;>simp[jC,nv],NL.leaf _ _ ⟨#[]⟩ ⟨#[]⟩ 0⟩,by simp[jC],⟨.slice none 0 0,w.heap.size+1,by simp[jC],nR _,⟨rfl,.inl ⟨rfl,rfl⟩⟩⟩,by simp[jC],by simp[jC],by simp[jC],by simp[jC]⟩
  clear hcF HW6 HW5 z0 zf
  obtain⟨m,c,hm,hm1,hc,h4,y8,y9,yf⟩:=HF.out.1.cells
  obtain⟨t0,t1,t2⟩:=HF.out.1.tokens
  have hze:=mQ (t:=(cA L kF).kind)
  by_cases hend:(cA L kF).kind=.e
  ·rw[if_pos hend] at HR
   rw[decide_eq_true hend] at hze
   simp only[Bool.not_true] at hze
   clear hend
   generalize kN (cA L kF).kind=KK at *
   go_wp2_with (first|(refine wpList_load_row rfl 30 (.tmp 3) rfl g3 (by first|(simp[Act.eval];done)|simp[Act.eval,Act.put]) 30 cF (0,0) _ HF.out.2.2.2.1.blk Tryz.underlying30 rfl (infoSent.trans (by rw[HF.out.2.2.2.1.size])) ?_)|(refine wpList_store_row rfl 30 (.tmp 2) (.tmp 48) rfl w.heap.size cF (by first|(simp[Act.eval];done)|simp[Act.eval,Act.put]) (by first|(simp[Act.eval];done)|simp[Act.eval,Act.put]) 30 Z HF.out.2.2.1 (infoSent.trans (by rw[HF.out.2.2.2.1.size])) (by rw[hZs,HF.out.2.2.2.1.size]) HF.out.2.2.2.2.one ?_))
   refine bodyPost_ret (v:=.agg cF) (results_cell_row Tryz.results18 _ _ w.heap.size 30 cF (0,0) _ (by first|rfl|simp) (LD HF.out.2.2.1) Tryz.underlying30 rfl (infoSent.trans (by rw[HF.out.2.2.2.1.size]))) rfl ?_
   obtain rfl:=HR.out
   refine⟨HF.out.2.1.then ⟨rfl,rfl,rfl,by rw[AC];exact nR _,fun b hb _=>AA (by omega)⟩ (nR _),HF.out.1.keep HL.out (fun b hb=>AA (by omega)),_,rfl,cF,rfl,HF.out.2.2.2.2.to (by omega) (fun b hb _=>AA (by omega))⟩
  ·rw[if_neg hend] at HR
   rw[decide_eq_false hend] at hze
   simp only[Bool.not_false] at hze
   obtain⟨pt,gt⟩:=HF.out.1.gT
   clear hend
   generalize kN (cA L kF).kind=KK at *
   go_wp2_with (go_at_call 44;refine(FD HF.out.1 _ _).mono ?_;rintro e w4 ⟨⟨p,rfl⟩,hb⟩;have HB:=aA hb;clear hb)
   obtain rfl:R=.bad 0 0:=HR.out
   exact⟨rfl,HF.out.2.1.then (Below.x HB.out _ (nR _)) HF.out.2.1.size,⟨_,rfl⟩⟩
 have hbd:∀k n,DE L f {kind:=K0,name:=x2,strength:=(0:Int).toNat} k n=.ok {kind:=K0,name:=x2,strength:=0} k n:=fun k n=>by
  unfold DE
  rw[if_neg (by unfold vA;rw[Lib.toList_data wDefine];show ¬(K0.toList==[100,101,102,105,110,101])=true;rw[hkd];simp),if_neg (by unfold vA;rw[Lib.toList_data wRule];show ¬(K0.toList==[114,117,108,101])=true;rw[hkr];simp),if_neg (by unfold vA;rw[Lib.toList_data wAmount];show ¬(K0.toList==[97,109,111,117,110,116])=true;rw[hka];simp),if_neg (by unfold vA;rw[Lib.toList_data wDuty];show ¬(K0.toList==[100,117,116,121])=true;rw[hkt];simp)]
  rfl
 have HBd:=aA hbd
 clear hbd
 go_upto_region 14 with (go_at_call 39;refine(HD.out _ _ _ HV3.out.1).mono ?_;rintro e W5 hE;rcases hr:bB L ⟨#[58]⟩ k2 n2 with _|⟨c,a⟩|⟨x5,k5,n5⟩;(·exact absurd hr bC);(·rw[hr] at hE;obtain⟨hb,⟨p,rfl⟩⟩:=hE;obtain rfl:R=.bad c a:=(by rw[HR.out,hr,PR.bind_bad]);exact(show _∧_ from⟨rfl,HV3.out.2.1.then hb HV3.out.2.1.size,⟨_,rfl⟩⟩));rw[hr] at hE;obtain⟨hb,hq,v,rfl,rfl⟩:=hE;rw[hr,PR.bind_ok] at HR;have hs5:=hb.size;have HW5:=aA (aI hq (aI (HV3.out.2.1.then hb HV3.out.2.1.size) (aI ((hb.block _ (by omega) (by omega)).trans HV3.out.2.2.1) (HV3.out.2.2.2.keep (hb.block _ (by omega) (by omega))))));have z0:W5.cell? ⟨g3,0,none⟩=some (.string K0):=(by rw[cell_of_row _ _ 0 _ _ _ HW5.out.2.2.2.blk];rfl);have zf:=HW5.out.2.2.2.froz;clear hb hq hr)
 rw[HBd.out,PR.bind_ok] at HR
 obtain⟨cF,hcF⟩:∃cF,cF=jC K0 x2:=⟨_,rfl⟩
 have HF:Hid (QS L rp tb W5 k5 n5∧BelX w.heap.size rp w W5∧W5.heap[w.heap.size]?=some (.cells Z 30 (0,0))∧SB W5 g3 cF∧SentC (w.heap.size+1) {kind:=K0,name:=x2,strength:=0} cF W5):=by
  refine⟨HW5.out.1,HW5.out.2.1,HW5.out.2.2.1,by rw[hcF];exact HW5.out.2.2.2,?_⟩
  rw[hcF]
  exact⟨rfl,by simp[jC],by simp[jC],by simp[jC],by simp[jC],by simp[jC],⟨nv (.string ⟨#[]⟩) (.string ⟨#[]⟩) (.int .i64 0) (.slice none 0 0),fun i hi=>by rcases (show i=0∨i=1∨i=2∨i=3 by omega) with rfl|rfl|rfl|rfl<;>simp[jC,nv],NL.leaf _ _ ⟨#[]⟩ ⟨#[]⟩ 0⟩,⟨nv (.string ⟨#[]⟩) (.string ⟨#[]⟩) (.int .i64 0) (.slice none 0 0),fun i hi=>by rcases (show i=0∨i=1∨i=2∨i=3 by omega) with rfl|rfl|rfl|rfl<;>simp[jC,nv],NL.leaf _ _ ⟨#[]⟩ ⟨#[]⟩ 0⟩,by simp[jC],⟨.slice none 0 0,w.heap.size+1,by simp[jC],nR _,⟨rfl,.inl ⟨rfl,rfl⟩⟩⟩,by simp[jC],by simp[jC],by simp[jC],by simp[jC]⟩
 clear hcF HW5 z0 zf
 obtain⟨m,c,hm,hm1,hc,h4,y8,y9,yf⟩:=HF.out.1.cells
 obtain⟨t0,t1,t2⟩:=HF.out.1.tokens
 have hze:=mQ (t:=(cA L k5).kind)
 by_cases hend:(cA L k5).kind=.e
 ·rw[if_pos hend] at HR
  rw[decide_eq_true hend] at hze
  simp only[Bool.not_true] at hze
  clear hend
  generalize kN (cA L k5).kind=KK at *
  go_wp2_with (first|(refine wpList_load_row rfl 30 (.tmp 3) rfl g3 (by first|(simp[Act.eval];done)|simp[Act.eval,Act.put]) 30 cF (0,0) _ HF.out.2.2.2.1.blk Tryz.underlying30 rfl (infoSent.trans (by rw[HF.out.2.2.2.1.size])) ?_)|(refine wpList_store_row rfl 30 (.tmp 2) (.tmp 48) rfl w.heap.size cF (by first|(simp[Act.eval];done)|simp[Act.eval,Act.put]) (by first|(simp[Act.eval];done)|simp[Act.eval,Act.put]) 30 Z HF.out.2.2.1 (infoSent.trans (by rw[HF.out.2.2.2.1.size])) (by rw[hZs,HF.out.2.2.2.1.size]) HF.out.2.2.2.2.one ?_))
  refine bodyPost_ret (v:=.agg cF) (results_cell_row Tryz.results18 _ _ w.heap.size 30 cF (0,0) _ (by first|rfl|simp) (LD HF.out.2.2.1) Tryz.underlying30 rfl (infoSent.trans (by rw[HF.out.2.2.2.1.size]))) rfl ?_
  obtain rfl:=HR.out
  refine⟨HF.out.2.1.then ⟨rfl,rfl,rfl,by rw[AC];exact nR _,fun b hb _=>AA (by omega)⟩ (nR _),HF.out.1.keep HL.out (fun b hb=>AA (by omega)),_,rfl,cF,rfl,HF.out.2.2.2.2.to (by omega) (fun b hb _=>AA (by omega))⟩
 ·rw[if_neg hend] at HR
  rw[decide_eq_false hend] at hze
  simp only[Bool.not_false] at hze
  obtain⟨pt,gt⟩:=HF.out.1.gT
  clear hend
  generalize kN (cA L k5).kind=KK at *
  go_wp2_with (go_at_call 44;refine(FD HF.out.1 _ _).mono ?_;rintro e w4 ⟨⟨p,rfl⟩,hb⟩;have HB:=aA hb;clear hb)
  obtain rfl:R=.bad 0 0:=HR.out
  exact⟨rfl,HF.out.2.1.then (Below.x HB.out _ (nR _)) HF.out.2.1.size,⟨_,rfl⟩⟩
def SP(s:ByteArray):ByteArray:=⟨(Lib.cut s.data.toList [32]).1.toArray⟩
def IC(s:ByteArray):Bool:=(Lib.cut s.data.toList [32]).2.2&&(iA kindsW (SP s)).isSome
theorem NF(s:ByteArray)(hs:s.size≤100000)(m:Int)(w:World)(hm:w.cell? ⟨12,0,none⟩=some (.int .i64 m)):
 Calls Tryz.prog 14 #[.string s] w fun e w'=>e=.returned (.bool (IC s))∧∃n,w'=w.drewN n:=by
 have HC:Hid (Calls Tryz.prog 33 #[.string s,.string ⟨#[32]⟩] w fun e w'=>e=.returned (.tuple #[.string (SP s),.string ⟨(Lib.cut s.data.toList [32]).2.1.toArray⟩,.bool (Lib.cut s.data.toList [32]).2.2])∧∃n,w'=w.drewN n):=Go.Proofs.Tryz.strings_Cut s ⟨#[32]⟩ m w (by omega) hm
 obtain⟨O,hO⟩:∃O,O=IC s:=⟨_,rfl⟩
 rw[←hO]
 unfold IC at hO
 have HO:=aA hO
 clear hO hm hs
 generalize SP s=x at *
 generalize (⟨(Lib.cut s.data.toList [32]).2.1.toArray⟩:ByteArray)=y at *
 cases hb:(Lib.cut s.data.toList [32]).2.2
 ·rw[hb] at HC HO
  clear hb
  go_enter Tryz.func14,Tryz.ntmps14
  go_wp2_with (go_at_call 33;refine HC.out.mono ?_;rintro e w' ⟨rfl,n,h9⟩;have HW:=aA h9;clear h9)
  go_ret
  exact⟨CB (by rw[HO.out];rfl),_,HW.out⟩
 ·rw[hb] at HC HO
  clear hb
  cases h0:(x.toList==[100,101,102,105,110,101])
  ·cases h1:(x.toList==[114,117,108,101])
   ·cases h2:(x.toList==[97,109,111,117,110,116])
    ·cases h3:(x.toList==[100,117,116,121])
     ·have HR:Hid ((iA kindsW x).isSome=false):=eH (by
       intro z hz
       simp only[kindsW,List.mem_cons,List.not_mem_nil,or_false] at hz
       rcases hz with rfl|rfl|rfl|rfl
       ·exact h0
       ·exact h1
       ·exact h2
       ·exact h3)
      go_enter Tryz.func14,Tryz.ntmps14
      go_wp2_with (go_at_call 33;refine HC.out.mono ?_;rintro e w' ⟨rfl,n,h9⟩;have HW:=aA h9;clear h9)
      go_ret
      exact⟨CB (by rw[HO.out,HR.out];rfl),_,HW.out⟩
     ·have HR:Hid ((iA kindsW x).isSome=true):=gC _ h3 wDuty (by simp[kindsW]) rfl
      go_enter Tryz.func14,Tryz.ntmps14
      go_wp2_with (go_at_call 33;refine HC.out.mono ?_;rintro e w' ⟨rfl,n,h9⟩;have HW:=aA h9;clear h9)
      go_ret
      exact⟨CB (by rw[HO.out,HR.out];rfl),_,HW.out⟩
    ·have HR:Hid ((iA kindsW x).isSome=true):=gC _ h2 wAmount (by simp[kindsW]) rfl
     go_enter Tryz.func14,Tryz.ntmps14
     go_wp2_with (go_at_call 33;refine HC.out.mono ?_;rintro e w' ⟨rfl,n,h9⟩;have HW:=aA h9;clear h9)
     go_ret
     exact⟨CB (by rw[HO.out,HR.out];rfl),_,HW.out⟩
   ·have HR:Hid ((iA kindsW x).isSome=true):=gC _ h1 wRule (by simp[kindsW]) rfl
    go_enter Tryz.func14,Tryz.ntmps14
    go_wp2_with (go_at_call 33;refine HC.out.mono ?_;rintro e w' ⟨rfl,n,h9⟩;have HW:=aA h9;clear h9)
    go_ret
    exact⟨CB (by rw[HO.out,HR.out];rfl),_,HW.out⟩
  ·have HR:Hid ((iA kindsW x).isSome=true):=gC _ h0 wDefine (by simp[kindsW]) rfl
   go_enter Tryz.func14,Tryz.ntmps14
   go_wp2_with (go_at_call 33;refine HC.out.mono ?_;rintro e w' ⟨rfl,n,h9⟩;have HW:=aA h9;clear h9)
   go_ret
   exact⟨CB (by rw[HO.out,HR.out];rfl),_,HW.out⟩
theorem Tryz.asThrown(v:Value)(xT:TypeId)(w:World):(Instr.typeAssert (.iface 88 v) xT 88 true).run Tryz.prog w=.ok (.tuple #[v,.bool true]) w:=by
 simp[Instr.typeAssert,run_underlying Tryz.underlying88]
theorem aL(t:TypeId)(p:Value)(w:World):
 Calls Tryz.prog 16 #[.iface 88 (.agg #[.iface t p])] w fun e w'=>e=.returned (.iface t p)∧Below w.heap.size w w':=by
 have hta:=Tryz.asThrown
 go_enter Tryz.func16,Tryz.ntmps16
 go_wp2
 go_ret
 exact⟨rfl,bA _ _⟩
def zS:Array Value:=#[.string ⟨#[]⟩,.string ⟨#[]⟩,.int .i64 0,.bool false,.string ⟨#[]⟩,.string ⟨#[]⟩,.string ⟨#[]⟩,.int .i64 0,.slice none 0 0,.string ⟨#[]⟩,.string ⟨#[]⟩,.int .i64 0,.slice none 0 0,.int .i64 0,.slice none 0 0,.int .i64 0,.int .i64 0,.int .i64 0,.string ⟨#[]⟩]
theorem GD:zS.size=19:=rfl
theorem yG:zS.all (·.oneCell')=true:=by unfold zS;simp[Value.oneCell']
theorem cK:Tryz.prog.built 30 []=some zS:=by kernel_rfl
theorem YG{ops:Array Oper}{rest:List Oper}{o:Oper}{a:Act}{w:World}{Q:Exit→Act→World→Prop}(hg:o.guard=none)(ho:o.op=.build 30 #[])
 (h:wpList Tryz.prog ops Q rest (a.put o.dst (.agg zS)) w):wpList Tryz.prog ops Q (o::rest) a w:=
 have hp:((#[]:Array (Nat×Operand)).map fun (i,x)=>(i,a.eval x)).toList=[]:=by simp
 wpList_build hg 30 #[] ho (by rw[hp,cK];rfl) (by rw[hp,cK];exact h)
structure RBx(w:World)(bs bi be:Nat)(cs:Array Value)(b:Bool)(ev:Value):Prop where
 s:w.heap[bs]?=some (.cells cs 30 (0,0))
 i:w.heap[bi]?=some (.cells #[.bool b] 4 (0,0))
 e:w.heap[be]?=some (.cells #[ev] 32 (0,0))
 z:cs.size=19
structure Fr3(bs bi be:Nat)(w w':World):Prop where
 os:w'.os=w.os
 tape:w'.tape=w.tape
 output:w'.output=w.output
 size:w.heap.size≤w'.heap.size
 block:∀k,k<w.heap.size→k≠bs→k≠bi→k≠be→w'.heap[k]?=w.heap[k]?
theorem RBx.cell_i{w:World}{bs bi be:Nat}{cs:Array Value}{b:Bool}{ev:Value}(h:RBx w bs bi be cs b ev):w.cell? ⟨bi,0,none⟩=some (.bool b)∧w.frozen? ⟨bi,0,none⟩=false:=by
 constructor<;>simp[World.cell?,World.frozen?,h.i]
theorem RBx.cell_e{w:World}{bs bi be:Nat}{cs:Array Value}{b:Bool}{ev:Value}(h:RBx w bs bi be cs b ev):w.cell? ⟨be,0,none⟩=some ev∧w.frozen? ⟨be,0,none⟩=false:=by
 constructor<;>simp[World.cell?,World.frozen?,h.e]
theorem Fr3.setRow{bs bi be:Nat}{w w':World}(h:Fr3 bs bi be w w')(cs:Array Value):Fr3 bs bi be w (w'.setRow bs cs):=⟨h.os,h.tape,h.output,by rw[AC];exact h.size,fun k hk h1 h2 h3=>(AA h1).trans (h.block k hk h1 h2 h3)⟩
theorem Fr3.set{bs bi be:Nat}{w w':World}(h:Fr3 bs bi be w w'){b:Nat}(hb:b=bi∨b=be)(v:Value):Fr3 bs bi be w (w'.setCell ⟨b,0,none⟩ v):=⟨h.os,h.tape,h.output,by simpa using h.size,fun k hk h1 h2 h3=>(Below.heap_setCell _ _ _ _ (by rcases hb with rfl|rfl<;>assumption)).trans (h.block k hk h1 h2 h3)⟩
theorem Fr3.of{bs bi be:Nat}{w w':World}(h:Below w.heap.size w w'):Fr3 bs bi be w w':=⟨h.os,h.tape,h.output,h.size,fun k hk _ _ _=>h.block k hk⟩
theorem Fr3.trans{bs bi be:Nat}{a b c:World}(h:Fr3 bs bi be a b)(k:Fr3 bs bi be b c):Fr3 bs bi be a c:=⟨k.os.trans h.os,k.tape.trans h.tape,k.output.trans h.output,Nat.le_trans h.size k.size,fun i hi h1 h2 h3=>(k.block i (Nat.lt_of_lt_of_le hi h.size) h1 h2 h3).trans (h.block i hi h1 h2 h3)⟩
theorem Fr3.below{bs bi be:Nat}{w w':World}{B:Nat}(h:Fr3 bs bi be w w')(hB:B≤w.heap.size)(h1:B≤bs)(h2:B≤bi)(h3:B≤be):Below B w w':=⟨h.os,h.tape,h.output,h.size,fun k hk=>h.block k (by omega) (by omega) (by omega) (by omega)⟩
theorem RBx.below{w w':World}{bs bi be:Nat}{cs:Array Value}{b:Bool}{ev:Value}(h:RBx w bs bi be cs b ev)(hb:Below w.heap.size w w'):RBx w' bs bi be cs b ev:=
 ⟨(hb.block bs (Array.getElem?_eq_some_iff.1 h.s).1).trans h.s,(hb.block bi (Array.getElem?_eq_some_iff.1 h.i).1).trans h.i,(hb.block be (Array.getElem?_eq_some_iff.1 h.e).1).trans h.e,h.z⟩
theorem RBx.setRow{w:World}{bs bi be:Nat}{cs:Array Value}{b:Bool}{ev:Value}(h:RBx w bs bi be cs b ev)(h1:bs≠bi)(h2:bs≠be){cs':Array Value}(hz:cs'.size=19:=by rfl):RBx (w.setRow bs cs') bs bi be cs' b ev:=
 ⟨LD h.s,(AA h1.symm).trans h.i,(AA h2.symm).trans h.e,hz⟩
theorem RBx.setI{w:World}{bs bi be:Nat}{cs:Array Value}{b:Bool}{ev:Value}(h:RBx w bs bi be cs b ev)(h1:bs≠bi)(h3:bi≠be)(b':Bool):RBx (w.setCell ⟨bi,0,none⟩ (.bool b')) bs bi be cs b' ev:=
 ⟨(Below.heap_setCell _ _ _ _ h1).trans h.s,LA h.i _,(Below.heap_setCell _ _ _ _ h3.symm).trans h.e,h.z⟩
theorem RBx.setE{w:World}{bs bi be:Nat}{cs:Array Value}{b:Bool}{ev:Value}(h:RBx w bs bi be cs b ev)(h2:bs≠be)(h3:bi≠be)(ev':Value):RBx (w.setCell ⟨be,0,none⟩ ev') bs bi be cs b ev':=
 ⟨(Below.heap_setCell _ _ _ _ h2).trans h.s,(Below.heap_setCell _ _ _ _ h3).trans h.i,LA h.e _,h.z⟩
def tE(t:TypeId)(p:Value)(r:Bool):PanicEntry:={v:=.iface 88 (.agg #[.iface t p]),recovered:=r}
def FV(bs bi be:Nat)(t:TypeId)(p:Value)(older:List PanicEntry)(w:World)(e:Ending)(u':FrameMode)(w':World):Prop:=
 e=.returned (.tuple #[])∧u'=.panicking (tE t p true::older)∧RBx w' bs bi be zS true (.iface t p)∧Fr3 bs bi be w w'
theorem wS{bs bi be:Nat}{cs:Array Value}{b:Bool}{ev:Value}{w:World}(h:RBx w bs bi be cs b ev)(h1:bs≠bi)(h2:bs≠be)(h3:bi≠be)(t:TypeId)(p:Value)(older:List PanicEntry):
 CallsD Tryz.prog 15 #[.pointer (some ⟨bs,0,none⟩),.pointer (some ⟨bi,0,none⟩),.pointer (some ⟨be,0,none⟩)] (.panicking (tE t p false::older)) w (FV bs bi be t p older w):=by
 have hci:=h.cell_i
 have hce:=h.cell_e
 refine callsD_of_wpS Tryz.func15 rfl fun c₀ fs hu=>?_
 apply wpS_seq
 apply wpS_region
 simp[wpOpsS,go_sem,recoverD,hu,tE,Tryz.ntmps15,Exit.thenS]
 apply wpS_seq
 apply wpS_region
 simp[wpOpsS,go_sem,Exit.thenS]
 refine wpS_cond (t:=true) (by simp[Act.eval,Array.replicate]) ?_
 simp only[if_true]
 refine wpS_of_wp ?_
 have et:(#[Value.pointer (some ⟨bs,0,none⟩),Value.pointer (some ⟨bi,0,none⟩),Value.pointer (some ⟨be,0,none⟩)]++((((Array.replicate 7 undef).setIfInBounds 1 (Value.iface 88 (Value.agg #[Value.iface t p]))).setIfInBounds 0 (Value.iface 88 (Value.agg #[Value.iface t p]))).setIfInBounds 2 (Value.iface 88 (Value.agg #[Value.iface t p]))).setIfInBounds 3 (Value.bool true))=#[Value.pointer (some ⟨bs,0,none⟩),Value.pointer (some ⟨bi,0,none⟩),Value.pointer (some ⟨be,0,none⟩),.iface 88 (.agg #[.iface t p]),.iface 88 (.agg #[.iface t p]),.iface 88 (.agg #[.iface t p]),.bool true,undef,undef,undef]:=rfl
 rw[et]
 clear et
 have HC:=aA (fun W=>aL t p W)
 have HF:Hid (∀W,Below w.heap.size w W→RBx W bs bi be cs b ev):=fun W hb=>h.below hb
 have hz:=h.z
 clear hci hce
 go_wp2_with (first|(refine YG rfl rfl ?_)|(go_at_call 16;refine(HC.out _).mono ?_;rintro e w1 ⟨rfl,hb1⟩;(have HB:=aA hb1);(have HX:=aA (HF.out w1 hb1));(have HY:=aA (HX.out.setRow h1 h2 (cs':=zS)));(obtain⟨ci,fi⟩:=HY.out.cell_i);(obtain⟨ce,fe⟩:=HY.out.cell_e);clear hb1)|(refine wpList_store_row rfl 30 (.tmp 0) (.tmp 7) rfl bs zS (by simp[Act.eval]) (by simp[Act.eval]) 30 cs HX.out.s (infoSent.trans (by rw[GD])) (by rw[hz,GD]) yG ?_))
 have hR:FV bs bi be t p older w (.returned (.tuple #[])) (.panicking (tE t p true::older)) (((w1.setRow bs zS).setCell ⟨bi,0,none⟩ (.bool true)).setCell ⟨be,0,none⟩ (.iface t p)):=
  ⟨rfl,rfl,(HY.out.setI h1 h3 true).setE h2 h3 _,(((Fr3.of HB.out).setRow zS).set (.inl rfl) _).set (.inr rfl) _⟩
 simp[bodyPostS,results,Tryz.results15]
 exact hR
theorem vS(bs bi be:Nat)(w:World):
 CallsD Tryz.prog 15 #[.pointer (some ⟨bs,0,none⟩),.pointer (some ⟨bi,0,none⟩),.pointer (some ⟨be,0,none⟩)] .returning w fun e u' w'=>e=.returned (.tuple #[])∧u'=.returning∧w'=w:=by
 refine callsD_of_wpS Tryz.func15 rfl fun c₀ fs hu=>?_
 apply wpS_seq
 apply wpS_region
 simp[wpOpsS,go_sem,recoverD,hu,Tryz.ntmps15,Exit.thenS]
 apply wpS_seq
 apply wpS_region
 simp[wpOpsS,go_sem,Exit.thenS]
 refine wpS_cond (t:=false) (by simp[Act.eval,Array.replicate]) ?_
 simp only[Bool.false_eq_true,if_false]
 refine wpS_of_wp (wp_skip ?_)
 cases c₀
 simp_all [bodyPostS,results,Tryz.results15]
theorem bL{L:List Tok}:∀(f:Nat) (l:List ByteArray) (k n:Nat) (x:List ByteArray) (k' n':Nat),YD L f l k n=.ok x k' n'→k≤k'
 |0,l,k,n,x,k',n',h=>by cases h
 |f+1,l,k,n,x,k',n',h=>by
  rw[YD] at h
  split at h
  ·obtain⟨_,k1,n1,e1,h⟩:=PR.bind_okE h
   have:=jE e1
   have:=bL f _ _ _ _ _ _ h
   omega
  ·injection h with _ h _;omega
theorem AN{L:List Tok}:∀(f:Nat) (l:List ByteArray) (k n:Nat),L.length - k<f→YD L f l k n≠.out
 |0,l,k,n,h=>by omega
 |f+1,l,k,n,h=>by
  rw[YD]
  split
  ·rename_i hi
   have hk:=gD (OA 44) hi
   refine yA TE fun _ k1 n1 e1=>?_
   have:=jE e1
   exact AN f _ _ _ (by omega)
  ·exact wD
theorem gR{L:List Tok}:∀(f:Nat) (l:List ByteArray) (k n:Nat),L.length - k+1<f→CF L f l k n≠.out
 |0,l,k,n,h=>by omega
 |f+1,l,k,n,h=>by
  rw[CF]
  split
  ·rename_i hi
   have hk:=gD (OA 59) hi
   refine yA tF fun _ k1 n1 e1=>yA TE fun _ k2 n2 e2=>?_
   have a1:=lE (s:=⟨#[111,118,101,114]⟩) (by rw[Lib.toList_data];simp) e1
   have a2:=jE e2
   refine yA (AN f _ _ _ (by omega)) fun _ k3 n3 e3=>?_
   have a3:=bL _ _ _ _ _ _ _ e3
   exact gR f _ _ _ (by omega)
  ·exact wD
theorem ZT{L:List Tok}{k n:Nat}:GH L k n≠.out:=yA TE fun _ _ _ _=>wD
theorem zQ{L:List Tok}{ls:List ByteArray}{k n:Nat}:OC L ls k n≠.out:=UF
theorem sV(L:List Tok)(k n:Nat):mD L (20 * L.length+20) k n≠.out:=by
 have F:=fun k=>gQ L k
 have hc:∀k n,iF L (20 * L.length+20) k n≠.out:=fun k n=>by
  unfold iF
  split
  ·exact(F _).ei _ _ (by omega)
  ·exact wD
 unfold mD
 refine yA TE fun _ k1 n1 _=>yA tF fun _ k2 n2 _=>yA ?_ fun _ k3 n3 _=>?_
 ·unfold DE
  split
  ·exact yA ((F k2).ei _ _ (by omega)) fun _ _ _ _=>wD
  ·split
   ·exact yA (yA ZT fun _ _ _ _=>yA (hc _ _) fun _ _ _ _=>yA (gR _ _ _ _ (by omega)) fun _ _ _ _=>wD) fun _ _ _ _=>wD
   ·split
    ·refine yA (yA ((F k2).su _ _ (by omega)) fun _ _ _ _=>yA (hc _ _) fun _ _ _ _=>?_) fun _ _ _ _=>wD
     split
     ·exact yA tF fun _ _ _ _=>yA zQ fun _ _ _ _=>wD
     ·exact wD
    ·split
     ·refine yA (yA ZT fun _ _ _ _=>yA tF fun _ _ _ _=>yA ?_ fun _ _ _ _=>yA zQ fun _ _ _ _=>yA ?_ fun _ _ _ _=>yA ?_ fun _ _ _ _=>wD) fun _ _ _ _=>wD
      ·unfold DD
       split
       ·exact wD
       ·exact LP
      ·unfold jJ
       split
       ·exact zQ
       ·exact wD
      ·unfold pJ
       split
       ·exact TE
       ·exact wD
     ·exact wD
 ·split
  ·exact wD
  ·exact LP
theorem YR:∀(l:List UInt8) (c:UInt8),c∈l.takeWhile lA→lA c=true
 | [],c,h=>by cases h
 |x::l,c,h=>by
  cases hx:lA x with
  |false=>rw[List.takeWhile_cons_of_neg (by rw[hx];simp)] at h;cases h
  |true=>
   rw[List.takeWhile_cons_of_pos hx] at h
   rcases List.mem_cons.1 h with rfl|h
   ·exact hx
   ·exact YR l c h
theorem vQ(l:List UInt8)(h:l.length≤400):NumForm ⟨(l.take (UB l)).toArray⟩:=by
 refine⟨?_,l.takeWhile lA,YR l,?_⟩
 ·simp only[ByteArray.size,List.size_toArray,List.length_take]
  omega
 ·have e0:l.take (l.takeWhile lA).length=l.takeWhile lA:=by
   conv=>lhs;arg 2;rw[←List.takeWhile_append_dropWhile (p:=lA) (l:=l)]
   rw[List.take_left' rfl]
  show (l.take (UB l)).toArray.toList=_∨_
  unfold UB
  split
  ·rename_i hp
   right
   have e1:l=l.takeWhile lA++l.drop (l.takeWhile lA).length:=by
    conv=>lhs;rw[←List.take_append_drop (l.takeWhile lA).length l,e0]
   match hd:l.drop (l.takeWhile lA).length,hp with
   |a::b::c::r,hp=>
    rw[AB] at hp
    simp only[Bool.and_eq_true,decide_eq_true_eq] at hp
    refine⟨b,c,hp.1.2,hp.2,?_⟩
    have ea:a=46:=UInt8.toNat_inj.1 hp.1.1
    show (l.take _).toArray.toList=_
    rw[List.toList_toArray]
    conv=>lhs;arg 2;rw[e1,hd]
    rw[List.take_append,List.take_of_length_le (by omega),show (l.takeWhile lA).length+3 - (l.takeWhile lA).length=3 by omega,ea]
    rfl
  ·left
   rw[List.toList_toArray,e0]
structure TokOk(n:Nat)(t:Tok):Prop where
 k:t.kind≠.e
 s:t.text.size≠0
 m:t.kind=.n→NumForm t.text
theorem BV(l:List UInt8)(p:Nat)(h1:1≤l.length)(h:l.length≤400):TokOk 400 (VC l p):=by
 have hz:(VC l p).text.size=(wA l).2:=by
  show (l.take (wA l).2).toArray.size=_
  rw[List.size_toArray,List.length_take]
  have:=NH h1
  omega
 refine⟨?_,by rw[hz];have:=DF l;omega,?_⟩
 ·show (wA l).1≠_
  match l,h1 with
  |c::r,_=>
   rw[PC]
   split
   ·intro e;cases e
   ·split
    ·intro e;cases e
    ·split<;>(intro e;cases e)
 ·intro hk
  have hk:(wA l).1=.n:=hk
  show NumForm ⟨(l.take (wA l).2).toArray⟩
  match l,h1 with
  |c::r,_=>
   rw[PC] at hk ⊢
   split at hk
   ·cases hk
   ·rename_i h2
    split at hk
    ·rename_i h3
     rw[if_neg h2,if_pos h3]
     exact vQ _ h
    ·split at hk<;>cases hk
theorem fJ:∀(f:Nat) (l:List UInt8) (p:Nat),l.length<f→l.length≤400→∃ts,DB f l p=ts++[⟨.e,⟨#[]⟩,p+l.length,0⟩]∧ts.length≤l.length∧∀t,t∈ts→TokOk 400 t
 |0,l,p,h,_=>by omega
 |f+1,[],p,h,_=>⟨[],rfl,nR _,fun t ht=>by cases ht⟩
 |f+1,c::r,p,h,h4=>by
  rw[DB]
  simp only[List.length_cons] at h h4
  split
  ·obtain⟨ts,e,hl,ht⟩:=fJ f r (p+1) (by omega) (by omega)
   refine⟨ts,?_,by simp only[List.length_cons];omega,ht⟩
   rw[e,List.length_cons,show p+1+r.length=p+(r.length+1) by omega]
  ·have h1:=NH (l:=c::r) (by simp)
   have h2:=DF (c::r)
   simp only[List.length_cons] at h1
   obtain⟨ts,e,hl,ht⟩:=fJ f ((c::r).drop (wA (c::r)).2) (p+(wA (c::r)).2) (by rw[List.length_drop,List.length_cons];omega) (by rw[List.length_drop,List.length_cons];omega)
   rw[List.length_drop,List.length_cons] at hl e
   refine⟨VC (c::r) p::ts,?_,by simp only[List.length_cons];omega,fun t h9=>?_⟩
   ·rw[e,List.cons_append,List.length_cons,show p+(wA (c::r)).2+(r.length+1 - (wA (c::r)).2)=p+(r.length+1) by omega]
   ·rcases List.mem_cons.1 h9 with rfl|h9
    ·exact BV _ _ (by simp) (by simp only[List.length_cons];omega)
    ·exact ht t h9
theorem TU{ts:List Tok}{p:Nat}(hl:ts.length≤399)(ht:∀t,t∈ts→TokOk 400 t):LOk (ts++[⟨.e,⟨#[]⟩,p,0⟩]):=by
 have hg:∀(i:Nat) (t:Tok),(ts++[(⟨.e,⟨#[]⟩,p,0⟩:Tok)])[i]?=some t→(i<ts.length∧TokOk 400 t)∨(i=ts.length∧t=⟨.e,⟨#[]⟩,p,0⟩):=fun i t h=>by
  rcases Nat.lt_or_ge i ts.length with hi|hi
  ·rw[List.getElem?_append_left hi] at h
   exact .inl ⟨hi,ht t (List.mem_of_getElem? h)⟩
  ·have hlt:=(List.getElem?_eq_some_iff.1 h).1
   simp only[List.length_append,List.length_singleton] at hlt
   have hi2:i=ts.length:=by omega
   subst hi2
   rw[List.getElem?_append_right (nR _)] at h
   simp at h
   exact .inr ⟨rfl,h.symm⟩
 have hlen:(ts++[(⟨.e,⟨#[]⟩,p,0⟩:Tok)]).length=ts.length+1:=by simp
 refine⟨by rw[hlen];omega,fun i t h=>?_,fun i t h=>?_,fun i t h hk=>?_⟩
 ·rw[hlen]
  rcases hg i t h with ⟨h1,h2⟩|⟨rfl,rfl⟩
  ·exact⟨fun e=>by omega,fun e=>absurd e h2.s⟩
  ·exact⟨fun _=>rfl,fun _=>rfl⟩
 ·rw[hlen]
  rcases hg i t h with ⟨h1,h2⟩|⟨rfl,rfl⟩
  ·exact⟨fun e=>by omega,fun e=>absurd e h2.k⟩
  ·exact⟨fun _=>rfl,fun _=>rfl⟩
 ·rcases hg i t h with ⟨h1,h2⟩|⟨rfl,rfl⟩
  ·exact h2.m hk
  ·cases hk
theorem LE(s:ByteArray)(hs:s.size≤390):LOk (dB s)∧1≤(dB s).length:=by
 obtain⟨ts,e,hl,ht⟩:=fJ (s.size+1) s.data.toList 0 (by rw[xA];omega) (by rw[xA];omega)
 rw[xA] at hl
 have e':dB s=ts++[⟨.e,⟨#[]⟩,0+s.data.toList.length,0⟩]:=e
 rw[e']
 exact⟨TU (by omega) ht,by simp⟩
theorem TL{s:ByteArray}(h:IC s=true):∃(K r:List UInt8),s.data.toList=K++32::r∧(K=wDefine.data.toList∨K=wRule.data.toList∨K=wAmount.data.toList∨K=wDuty.data.toList):=by
 unfold IC at h
 rw[Bool.and_eq_true] at h
 obtain⟨h1,h2⟩:=h
 unfold iA at h2
 rw[List.findIdx?_isSome] at h2
 simp only[kindsW,List.any_cons,List.any_nil,Bool.or_false,Bool.or_eq_true,vA,beq_iff_eq,Lib.toList_data] at h2
 have e0:(SP s).data.toList=(Lib.cut s.data.toList [32]).1:=by unfold SP;simp
 rw[e0] at h2
 unfold Lib.cut at h1 h2
 split at h1
 ·rename_i hi
  rw[if_pos hi] at h2
  rw[Lib.index_one] at hi h2
  obtain⟨o,ho⟩:∃o:Nat,Lib.indexByte s.data.toList 32=o:=⟨(Lib.indexByte s.data.toList 32).toNat,by omega⟩
  obtain⟨h3,_⟩:=Lib.indexByte_some ho
  rw[ho] at h2
  have h2:wDefine.data.toList=s.data.toList.take o∨wRule.data.toList=s.data.toList.take o∨wAmount.data.toList=s.data.toList.take o∨wDuty.data.toList=s.data.toList.take o:=by
   simpa using h2
  have hlt:=(List.getElem?_eq_some_iff.1 h3).1
  have hd:s.data.toList.drop o=32::s.data.toList.drop (o+1):=by
   rw[List.drop_eq_getElem_cons hlt]
   congr 1
   exact(List.getElem?_eq_some_iff.1 h3).2
  refine⟨s.data.toList.take o,s.data.toList.drop (o+1),?_,?_⟩
  ·rw[←hd,List.take_append_drop]
  ·rcases h2 with h|h|h|h
   ·exact .inl h.symm
   ·exact .inr (.inl h.symm)
   ·exact .inr (.inr (.inl h.symm))
   ·exact .inr (.inr (.inr h.symm))
 ·cases h1
theorem nO{K r:List UInt8}(h:∀c,c∈K→JA c=true):(K++32::r).takeWhile JA=K:=by
 rw[List.takeWhile_append_of_pos h,List.takeWhile_cons_of_neg (by decide),List.append_nil]
theorem WM{s:ByteArray}(h:IC s=true):∃(K:ByteArray) (ts:List Tok),dB s=⟨.w,K,0,0⟩::ts∧(K=wDefine∨K=wRule∨K=wAmount∨K=wDuty):=by
 obtain⟨K,r,e,hK⟩:=TL h
 have hK2:∃c K',K=c::K'∧PB c=true∧c≠32∧∀x,x∈K→JA x=true:=by
  rcases hK with rfl|rfl|rfl|rfl
  ·exact⟨100,[101,102,105,110,101],rfl,by decide,by decide,by decide⟩
  ·exact⟨114,[117,108,101],rfl,by decide,by decide,by decide⟩
  ·exact⟨97,[109,111,117,110,116],rfl,by decide,by decide,by decide⟩
  ·exact⟨100,[117,116,121],rfl,by decide,by decide,by decide⟩
 obtain⟨c,K',eK,hc,h32,hw⟩:=hK2
 have e1:wA s.data.toList=(.w,K.length):=by
  rw[e]
  have e2:K++32::r=c::(K'++32::r):=by rw[eK];rfl
  rw[e2,PC,if_pos hc,←e2,nO hw]
 have e3:dB s=VC s.data.toList 0::DB s.size (s.data.toList.drop K.length) (0+K.length):=by
  unfold dB
  have e4:s.data.toList=c::(K'++32::r):=by rw[e,eK];rfl
  conv=>lhs;rw[e4,DB,if_neg h32,←e4,e1]
 refine⟨⟨K.toArray⟩,DB s.size (s.data.toList.drop K.length) (0+K.length),?_,?_⟩
 ·rw[e3]
  congr 1
  unfold VC
  rw[e1,e,List.take_left' rfl]
 ·rcases hK with rfl|rfl|rfl|rfl
  ·exact .inl rfl
  ·exact .inr (.inl rfl)
  ·exact .inr (.inr (.inl rfl))
  ·exact .inr (.inr (.inr rfl))
inductive RO where
 |none
 |bad
 |ok (x:SentW)
def EF(s:ByteArray)(f:Nat):RO:=if IC s=true then (if 300<s.size then .bad else match mD (dB s) f 0 0 with
    | .ok x _ _=>.ok x
    |_=>.bad) else .none
def MT(s:ByteArray)(f:Nat)(w:World)(e:Ending)(w':World):Prop:=
 Below w.heap.size w w'∧match EF s f with
  | .none=>e=.returned (.tuple #[.agg zS,.bool false,.nilIface])
  | .bad=>∃a,e=.returned (.tuple #[.agg zS,.bool true,.iface 55 (.pointer (some a))])
  | .ok x=>∃cs,e=.returned (.tuple #[.agg cs,.bool true,.nilIface])∧SentC w.heap.size x cs w'
structure TP where
 a:Addr
abbrev TA[Inhabited TP]:Type:={a:Addr // a=(default:TP).a}
set_option linter.unusedSectionVars false
variable [Inhabited TP]
structure GlobQ(w:World):Prop where
 t:∃p:TA,w.cell? ⟨1,0,none⟩=some (.iface 189 (.pointer (some p.1)))
 b:∃p,w.cell? ⟨0,0,none⟩=some (.iface 189 (.pointer (some p)))
 m:∃m,w.cell? ⟨12,0,none⟩=some (.int .i64 m)
theorem GlobQ.below{w w':World}{B:Nat}(h:GlobQ w)(hB2:1<B∧0<B∧12<B)(hb:Below B w w'):GlobQ w':=by
 obtain⟨p,h1⟩:=h.t
 obtain⟨q,h2⟩:=h.b
 obtain⟨m,h3⟩:=h.m
 exact⟨⟨p,(hb.cell (p:=⟨1,0,none⟩) hB2.1).trans h1⟩,⟨q,(hb.cell (p:=⟨0,0,none⟩) hB2.2.1).trans h2⟩,⟨m,(hb.cell (p:=⟨12,0,none⟩) hB2.2.2).trans h3⟩⟩
theorem GlobQ.lt{w:World}(h:GlobQ w):1<w.heap.size∧0<w.heap.size∧12<w.heap.size:=by
 obtain⟨p,h1⟩:=h.t
 obtain⟨q,h2⟩:=h.b
 obtain⟨m,h3⟩:=h.m
 exact⟨fB h1,fB h2,fB h3⟩
theorem GlobQ.step{w w':World}(h:GlobQ w)(hb:Below w.heap.size w w'):GlobQ w':=h.below h.lt hb
theorem bI(w:World):RBx (((w.alloc (.cells zS 30)).alloc (.cells #[.bool false] 4)).alloc (.cells #[.nilIface] 32)) w.heap.size (w.heap.size+1) (w.heap.size+1+1) zS false .nilIface∧Below w.heap.size w (((w.alloc (.cells zS 30)).alloc (.cells #[.bool false] 4)).alloc (.cells #[.nilIface] 32)):=by
 refine⟨⟨?_,?_,?_,rfl⟩,((bA _ _).alloc (by simp) _).alloc (by simp;omega) _⟩
 ·rw[Go.Deep.blk_alloc_lt _ _ _ (by simp;omega),Go.Deep.blk_alloc_lt _ _ _ (by simp)]
  exact heap_alloc_new _ _
 ·rw[Go.Deep.blk_alloc_lt _ _ _ (by simp)]
  have:=heap_alloc_new (w.alloc (.cells zS 30)) (.cells #[.bool false] 4)
  simpa using this
 ·have:=heap_alloc_new ((w.alloc (.cells zS 30)).alloc (.cells #[.bool false] 4)) (.cells #[.nilIface] 32)
  simpa using this
theorem oE{w:World}{bs bi be:Nat}{cs:Array Value}{b:Bool}{ev:Value}(h:RBx w bs bi be cs b ev)(tmps:Array Value)(h2:tmps[2]?.getD undef=.pointer (some ⟨bs,0,none⟩))(h3:tmps[3]?.getD undef=.pointer (some ⟨bi,0,none⟩))(h4:tmps[4]?.getD undef=.pointer (some ⟨be,0,none⟩)):
 (results Tryz.f6 tmps).run Tryz.prog w=.ok (.tuple #[.agg cs,.bool b,ev]) w:=by
 have c1:=h.cell_i.1
 have c2:=h.cell_e.1
 have c0:=run_loadVar_row (P:=Tryz.prog) w bs 30 30 cs (0,0) _ h.s Tryz.underlying30 rfl (infoSent.trans (by rw[h.z]))
 have d1:(loadVar 4 ⟨bi,0,none⟩).run Tryz.prog w=.ok (.bool b) w:=by simp[go_sem,c1]
 have d2:(loadVar 32 ⟨be,0,none⟩).run Tryz.prog w=.ok ev w:=by simp[go_sem,c2]
 simp[results,Tryz.results6,h2,h3,h4,asAddr,c0,d1,d2]
theorem gP{s:ByteArray}(hs:s.size≤100000){w:World}(hg:GlobQ w)(hr:IC s=false):
 Calls Tryz.prog 6 #[.string s] w fun e w'=>e=.returned (.tuple #[.agg zS,.bool false,.nilIface])∧Below w.heap.size w w':=by
 obtain⟨hbx,hb0⟩:=bI w
 obtain⟨W,hW⟩:∃W,W=(((w.alloc (.cells zS 30)).alloc (.cells #[.bool false] 4)).alloc (.cells #[.nilIface] 32)):=⟨_,rfl⟩
 rw[←hW] at hbx hb0
 have HW:Hid (W=(((w.alloc (.cells #[.string ⟨#[]⟩,.string ⟨#[]⟩,.int .i64 0,.bool false,.string ⟨#[]⟩,.string ⟨#[]⟩,.string ⟨#[]⟩,.int .i64 0,.slice none 0 0,.string ⟨#[]⟩,.string ⟨#[]⟩,.int .i64 0,.slice none 0 0,.int .i64 0,.slice none 0 0,.int .i64 0,.int .i64 0,.int .i64 0,.string ⟨#[]⟩] 30)).alloc (.cells #[.bool false] 4)).alloc (.cells #[.nilIface] 32))):=hW
 obtain⟨m,hm⟩:=(hg.step hb0).m
 have HI:=aA (NF s hs m W hm)
 rw[hr] at HI
 clear hW hm hg
 go_enter_defers Tryz.func6,Tryz.ntmps6
 go_upto_region 1 with fail
 rw[←HW.out]
 have hz:=hbx.z
 have HX:=aA hbx
 have HB0:=aA hb0
 have n1:w.heap.size≠w.heap.size+1:=by omega
 have n2:w.heap.size≠w.heap.size+1+1:=by omega
 have n3:w.heap.size+1≠w.heap.size+1+1:=by omega
 clear hbx hb0
 go_wp2_with (first|(go_at_call 14;refine HI.out.mono ?_;rintro e w' ⟨rfl,n,h9⟩;subst h9;(have HX1:=aA (HX.out.below (Below.drewN_ W n)));(have HY:=aA (HX1.out.setRow n1 n2 (cs':=zS)));(obtain⟨ci,fi⟩:=HY.out.cell_i);(obtain⟨ce,fe⟩:=HY.out.cell_e))|(refine YG rfl rfl ?_)|(refine wpList_store_row rfl 30 (.tmp 2) (.tmp 9) rfl w.heap.size zS (by first|(simp[Act.eval];done)|simp[Act.eval,Act.put]) (by first|(simp[Act.eval];done)|simp[Act.eval,Act.put]) 30 zS HX1.out.s (infoSent.trans (by rw[GD])) rfl yG ?_))
 refine⟨_,oE ((HY.out.setI n1 n3 false).setE n2 n3 .nilIface) _ rfl rfl rfl,rfl,?_⟩
 exact HB0.out.trans (((((Fr3.of (Below.drewN_ W n)).setRow zS).set (.inl rfl) _).set (.inr rfl) _).below (bs:=w.heap.size) (bi:=w.heap.size+1) (be:=w.heap.size+1+1) HB0.out.size (nR _) (by omega) (by omega))
end Go.Proofs.YtehbinobohjadaaGreatDoor

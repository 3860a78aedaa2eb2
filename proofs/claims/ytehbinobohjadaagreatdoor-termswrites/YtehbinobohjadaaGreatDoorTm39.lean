import Derived.Test.YtehbinobohjadaaGreatDoorTm00
import Derived.Test.YtehbinobohjadaaGreatDoorTm38
import Derived.Test.YtehbinobohjadaaGreatDoorTm35
import Derived.Test.YtehbinobohjadaaGreatDoorTm37
import Derived.Test.YtehbinobohjadaaGreatDoorTm10
set_option maxHeartbeats 20000000
set_option maxRecDepth 20000
namespace Go.Proofs.YtehbinobohjadaaGreatDoor
open Go.RowKit Go.Sort Go.Extern.Stop Go.Stop Go.Extern
set_option linter.unusedSectionVars false
variable [Inhabited TP]
structure WBx(w:World)(bl be:Nat)(s:ByteArray)(ev:Value):Prop where
 l:w.heap[bl]?=some (.cells #[.string s] 9 (0,0))
 e:w.heap[be]?=some (.cells #[ev] 32 (0,0))
theorem WBx.cells{w:World}{bl be:Nat}{s:ByteArray}{ev:Value}(h:WBx w bl be s ev):w.cell? ⟨bl,0,none⟩=some (.string s)∧w.frozen? ⟨bl,0,none⟩=false∧w.cell? ⟨be,0,none⟩=some ev∧w.frozen? ⟨be,0,none⟩=false:=by
 refine⟨?_,?_,?_,?_⟩<;>simp[World.cell?,World.frozen?,h.l,h.e]
theorem WBx.setL{w:World}{bl be:Nat}{s:ByteArray}{ev:Value}(h:WBx w bl be s ev)(hne:bl≠be)(s':ByteArray):WBx (w.setCell ⟨bl,0,none⟩ (.string s')) bl be s' ev:=
 ⟨LA h.l _,(Below.heap_setCell _ _ _ _ (fun e=>hne e.symm)).trans h.e⟩
theorem WBx.setE{w:World}{bl be:Nat}{s:ByteArray}{ev:Value}(h:WBx w bl be s ev)(hne:bl≠be)(ev':Value):WBx (w.setCell ⟨be,0,none⟩ ev') bl be s ev':=
 ⟨(Below.heap_setCell _ _ _ _ hne).trans h.l,LA h.e _⟩
theorem WBx.on{w w':World}{bl be:Nat}{s:ByteArray}{ev:Value}(h:WBx w bl be s ev)(h1:w'.heap[bl]?=w.heap[bl]?)(h2:w'.heap[be]?=w.heap[be]?):WBx w' bl be s ev:=⟨h1.trans h.l,h2.trans h.e⟩
structure Fr2(bl be:Nat)(w w':World):Prop where
 os:w'.os=w.os
 tape:w'.tape=w.tape
 output:w'.output=w.output
 size:w.heap.size≤w'.heap.size
 block:∀k,k<w.heap.size→k≠bl→k≠be→w'.heap[k]?=w.heap[k]?
theorem Fr2.of{bl be:Nat}{w w':World}(h:Below w.heap.size w w'):Fr2 bl be w w':=⟨h.os,h.tape,h.output,h.size,fun k hk _ _=>h.block k hk⟩
theorem Fr2.set{bl be:Nat}{w w':World}(h:Fr2 bl be w w'){b:Nat}(hb:b=bl∨b=be)(v:Value):Fr2 bl be w (w'.setCell ⟨b,0,none⟩ v):=⟨h.os,h.tape,h.output,by simpa using h.size,fun k hk h1 h2=>(Below.heap_setCell _ _ _ _ (by show k≠b;rcases hb with rfl|rfl<;>assumption)).trans (h.block k hk h1 h2)⟩
theorem Fr2.below{bl be:Nat}{w w':World}{B:Nat}(h:Fr2 bl be w w')(hB:B≤w.heap.size)(h1:B≤bl)(h2:B≤be):Below B w w':=⟨h.os,h.tape,h.output,h.size,fun k hk=>h.block k (by omega) (by omega) (by omega)⟩
theorem WBx.fr{w w':World}{bl be:Nat}{s:ByteArray}{ev:Value}(h:WBx w bl be s ev)(hb:Below w.heap.size w w'):WBx w' bl be s ev:=h.on (hb.block bl (Array.getElem?_eq_some_iff.1 h.l).1) (hb.block be (Array.getElem?_eq_some_iff.1 h.e).1)
def GV(bl be:Nat)(t:TypeId)(p:Value)(older:List PanicEntry)(w:World)(e:Ending)(u':FrameMode)(w':World):Prop:=
 e=.returned (.tuple #[])∧u'=.panicking (tE t p true::older)∧WBx w' bl be ⟨#[]⟩ (.iface t p)∧Fr2 bl be w w'
theorem jS{bl be:Nat}{s:ByteArray}{ev:Value}{w:World}(h:WBx w bl be s ev)(h1:bl≠be)(t:TypeId)(p:Value)(older:List PanicEntry):
 CallsD Tryz.prog 19 #[.pointer (some ⟨bl,0,none⟩),.pointer (some ⟨be,0,none⟩)] (.panicking (tE t p false::older)) w (GV bl be t p older w):=by
 refine callsD_of_wpS Tryz.func19 rfl fun c₀ fs hu=>?_
 apply wpS_seq
 apply wpS_region
 simp[wpOpsS,go_sem,recoverD,hu,tE,Tryz.ntmps19,Exit.thenS]
 apply wpS_seq
 apply wpS_region
 simp[wpOpsS,go_sem,Exit.thenS]
 refine wpS_cond (t:=true) (by simp[Act.eval,Array.replicate]) ?_
 simp only[if_true]
 refine wpS_of_wp ?_
 have HC:=aA (fun W=>aL t p W)
 have HF:Hid (∀W,Below w.heap.size w W→WBx W bl be s ev):=fun W hb=>h.fr hb
 go_wp2_with (go_at_call 16;refine(HC.out _).mono ?_;rintro e w1 ⟨rfl,hb1⟩;(have HB:=aA hb1);(have HX:=aA (HF.out w1 hb1));(obtain⟨cl,fl,ce,fe⟩:=HX.out.cells);(obtain⟨cl2,fl2,ce2,fe2⟩:=(HX.out.setL h1 ⟨#[]⟩).cells);clear hb1)
 have hR:GV bl be t p older w (.returned (.tuple #[])) (.panicking (tE t p true::older)) ((w1.setCell ⟨bl,0,none⟩ (.string ⟨#[]⟩)).setCell ⟨be,0,none⟩ (.iface t p)):=
  ⟨rfl,rfl,(HX.out.setL h1 ⟨#[]⟩).setE h1 _,((Fr2.of HB.out).set (.inl rfl) _).set (.inr rfl) _⟩
 simp[bodyPostS,results,Tryz.results19]
 exact hR
theorem tJ(bl be:Nat)(w:World):
 CallsD Tryz.prog 19 #[.pointer (some ⟨bl,0,none⟩),.pointer (some ⟨be,0,none⟩)] .returning w fun e u' w'=>e=.returned (.tuple #[])∧u'=.returning∧w'=w:=by
 refine callsD_of_wpS Tryz.func19 rfl fun c₀ fs hu=>?_
 apply wpS_seq
 apply wpS_region
 simp[wpOpsS,go_sem,recoverD,hu,Tryz.ntmps19,Exit.thenS]
 apply wpS_seq
 apply wpS_region
 simp[wpOpsS,go_sem,Exit.thenS]
 refine wpS_cond (t:=false) (by simp[Act.eval,Array.replicate]) ?_
 simp only[Bool.false_eq_true,if_false]
 refine wpS_of_wp (wp_skip ?_)
 cases c₀
 simp_all [bodyPostS,results,Tryz.results19]
theorem mF{w:World}{bl be:Nat}{s:ByteArray}{ev:Value}(h:WBx w bl be s ev)(tmps:Array Value)(h2:tmps[2]?.getD undef=.pointer (some ⟨bl,0,none⟩))(h3:tmps[3]?.getD undef=.pointer (some ⟨be,0,none⟩)):
 (results Tryz.f7 tmps).run Tryz.prog w=.ok (.tuple #[.string s,ev]) w:=by
 obtain⟨c1,_,c2,_⟩:=h.cells
 have d1:(loadVar 9 ⟨bl,0,none⟩).run Tryz.prog w=.ok (.string s) w:=by simp[go_sem,c1]
 have d2:(loadVar 32 ⟨be,0,none⟩).run Tryz.prog w=.ok ev w:=by simp[go_sem,c2]
 simp[results,Tryz.results7,h2,h3,asAddr,d1,d2]
def DU(e:Ending):Prop:=∃p:TA,e=.returned (.tuple #[.string ⟨#[]⟩,.iface 189 (.pointer (some p.1))])
def zT:SentT:=⟨⟨#[]⟩,⟨#[]⟩,0,false,⟨#[]⟩,.mk ⟨#[]⟩ ⟨#[]⟩ 0 [],.mk ⟨#[]⟩ ⟨#[]⟩ 0 [],0,[],0,0,0,⟨#[]⟩⟩
def GL(x:SentT)(f:Nat):Option ByteArray:=match WD x with
 |none=>none
 |some s=>match EF (ZB s.ts) f with
  | .ok y=>if xP x (AV y)=true then some (ZB s.ts) else none
  |_=>none
def EP(x:SentT)(f:Nat)(w:World)(e:Ending)(w':World):Prop:=
 Below w.heap.size w w'∧match GL x f with
  |none=>DU e
  |some L=>e=.returned (.tuple #[.string L,.nilIface])
def wB(w:World)(cs:Array Value):World:=((w.alloc (.cells cs 30)).alloc (.cells #[.string ⟨#[]⟩] 9)).alloc (.cells #[.nilIface] 32)
def yP(w:World)(cs:Array Value):World:=(wB w cs).alloc (.cells #[.slice none 0 0,.int .i64 0,.int .i64 0] 65)
theorem CT(w:World)(cs:Array Value):(wB w cs).heap.size=w.heap.size+1+1+1:=by simp[wB]
theorem sJ(w:World)(cs:Array Value):(yP w cs).heap.size=w.heap.size+1+1+1+1:=by simp[yP,wB]
theorem aS(w:World)(cs:Array Value):Below w.heap.size w (wB w cs):=((bA _ _).alloc (by simp) _).alloc (by simp;omega) _
theorem MG(w:World)(cs:Array Value):Below w.heap.size w (yP w cs):=(aS w cs).alloc (by rw[CT];omega) _
theorem MK(w:World)(cs:Array Value):(yP w cs).heap[w.heap.size]?=some (.cells cs 30 (0,0))∧WBx (yP w cs) (w.heap.size+1) (w.heap.size+1+1) ⟨#[]⟩ .nilIface∧(yP w cs).heap[w.heap.size+1+1+1]?=some (.cells #[.slice none 0 0,.int .i64 0,.int .i64 0] 65 (0,0)):=by
 unfold yP wB
 refine⟨?_,⟨?_,?_⟩,?_⟩
 ·rw[Go.Deep.blk_alloc_lt _ _ _ (by first|(simp;done)|(simp;omega)),Go.Deep.blk_alloc_lt _ _ _ (by first|(simp;done)|(simp;omega)),Go.Deep.blk_alloc_lt _ _ _ (by simp)]
  exact heap_alloc_new _ _
 ·rw[Go.Deep.blk_alloc_lt _ _ _ (by first|(simp;done)|(simp;omega)),Go.Deep.blk_alloc_lt _ _ _ (by simp)]
  have:=heap_alloc_new (w.alloc (.cells cs 30)) (.cells #[.string ⟨#[]⟩] 9)
  simpa using this
 ·rw[Go.Deep.blk_alloc_lt _ _ _ (by simp)]
  have:=heap_alloc_new ((w.alloc (.cells cs 30)).alloc (.cells #[.string ⟨#[]⟩] 9)) (.cells #[.nilIface] 32)
  simpa using this
 ·have:=heap_alloc_new (((w.alloc (.cells cs 30)).alloc (.cells #[.string ⟨#[]⟩] 9)).alloc (.cells #[.nilIface] 32)) (.cells #[.slice none 0 0,.int .i64 0,.int .i64 0] 65)
  simpa using this
theorem oN{w:World}(hg:GlobQ w)(ht:TabW w)(cs:Array Value):SW (yP w cs) (yP w cs) (w.heap.size+1+1+1) ⟨[],0,0⟩:=by
 have hb:=MG w cs
 obtain⟨p,h1⟩:=hg.t
 have hlt:=hg.lt
 have htl:=ht.lt
 refine⟨⟨⟨none,0,0,(MK w cs).2.2,RowG.nil _ _⟩,by show 0≤300;omega,by show 0≤300;omega,nR _,⟨p,(hb.cell (p:=⟨1,0,none⟩) hlt.1).trans h1⟩,by omega⟩,WFr.refl _ _,ht.below hb htl,by omega⟩
theorem WBx.wf{w w':World}{wp bl be:Nat}{s:ByteArray}{ev:Value}(h:WBx w bl be s ev)(hf:WFr wp w w')(h1:bl<wp)(h2:be<wp):WBx w' bl be s ev:=h.on (hf.low bl h1) (hf.low be h2)
theorem XI{x:SentT}{s:WS}(h:WD x=some s)(hz:s.z≤300):(∀t,t∈s.ts→0<t.size)∧s.ts≠[]∧(∀ap,(BB ap ⟨#[]⟩ s.ts).length≤1000000)∧(ZB s.ts).size≤100000:=by
 obtain⟨h1,h2,r,h3⟩:=SL h
 have hl:=QN h1
 have hj:∀ap,(BB ap ⟨#[]⟩ s.ts).length≤600:=fun ap=>Nat.le_trans (rL _ _) (by omega)
 refine⟨h1,by rw[h3];simp,fun ap=>Nat.le_trans (hj ap) (by omega),?_⟩
 have e0:ZB s.ts=if (jB aK s.ts).size≤300 then jB aK s.ts else if (jB xJ s.ts).size≤300 then jB xJ s.ts else jB yJ s.ts:=rfl
 have hw:(jB yJ s.ts).size≤600:=by
  show (⟨(BB yJ ⟨#[]⟩ s.ts).toArray⟩:ByteArray).size≤600
  rw[yN]
  exact hj _
 rw[e0]
 split
 ·omega
 ·split<;>omega
theorem tN{x:SentT}(hO:SOk x){w:World}{ca sa:Option Addr}{cc sc:Nat}{oa:Option Addr}{oc:Nat}{cs:Array Value}(hT:STc w (·<w.heap.size) x ca sa cc sc oa oc cs)(hg:GlobQ w)(ht:TabW w)(hn:WD x=none):
 Calls Tryz.prog 7 #[.agg cs] w fun e w'=>DU e∧Below w.heap.size w w':=by
 have hmf:∀(fn:Fn) (first cap:Array Value) (w:World),(Instr.makeFunc fn first cap).run Tryz.prog w=.ok (.func fn first cap) w:=fun _ _ _ _=>rfl
 obtain⟨V,hV⟩:∃V,V=yP w cs:=⟨_,rfl⟩
 have hz:cs.size=19:=by rw[hT.eq];rfl
 have hat:=MK w cs
 have hsw:=oN hg ht cs
 have hbw:=MG w cs
 have hsz:=sJ w cs
 rw[←hV] at hat hsw hbw hsz
 have HS:=aA (xG hO V (w.heap.size+1+1+1) ⟨[],0,0⟩ ca sa cc sc oa oc cs hsw (hT.step fun k hk=>⟨hbw.block k hk,by omega⟩))
 have e0:oF x ⟨[],0,0⟩=WD x:=rfl
 rw[e0,hn] at HS
 have HV:Hid (V=(((w.alloc (.cells cs 30)).alloc (.cells #[.string ⟨#[]⟩] 9)).alloc (.cells #[.nilIface] 32)).alloc (.cells #[.slice none 0 0,.int .i64 0,.int .i64 0] 65)):=hV
 have HA:=aA hat
 have HB:=aA hbw
 have HZ:=aA hz
 clear hV hat hsw hbw hz hT hg ht e0 hn
 obtain⟨b1,hb1⟩:∃b1,b1=w.heap.size:=⟨_,rfl⟩
 have HB1:=aA hb1
 go_enter_defers Tryz.func7,Tryz.ntmps7
 go_upto_region 3 with fail
 rw[←HV.out]
 clear HV
 go_wp2_with (first|(refine wpList_load_row rfl 30 (.tmp 1) rfl w.heap.size (by first|(simp[Act.eval];done)|simp[Act.eval,Act.put]) 30 cs (0,0) _ HA.out.1 Tryz.underlying30 rfl (infoSent.trans (by rw[HZ.out])) ?_)|(go_at_call 20;refine HS.out.mono ?_;rintro e V2 hE;(obtain⟨hf2,p,rfl⟩:=hE);refine leaves_cons (f:=19) (args:=#[.pointer (some ⟨w.heap.size+1,0,none⟩),.pointer (some ⟨w.heap.size+1+1,0,none⟩)]) (by simp) (by simp[go_sem]) ?_;refine(jS (HA.out.2.1.wf hf2 (by omega) (by omega)) (by omega) _ _ []).mono ?_;rintro e u' w9 ⟨rfl,rfl,hx9,hf9⟩;exact⟨_,mF hx9 _ rfl rfl,⟨_,rfl⟩,(HB.out.trans (hf2.below.mono (by omega))).trans (hf9.below (by have:=hf2.size;omega) (by omega) (by omega))⟩))
theorem rW(w:World)(P:Nat→Prop):STc w P zT none none 0 0 none 0 zS:=
 ⟨rfl,.mk _ _ _ (fun _=>none) (fun _=>0) (fun i k h=>by cases h) (fun i k h=>by cases h) (nR _) (by show 0≤_;omega),.mk _ _ _ (fun _=>none) (fun _=>0) (fun i k h=>by cases h) (fun i k h=>by cases h) (nR _) (by show 0≤_;omega),RdS.nil0 _ _ _ _⟩
structure WrAt(w V:World)(cs:Array Value)(L:ByteArray):Prop where
 bel:Below w.heap.size w V
 b1:V.heap[w.heap.size]?=some (.cells cs 30 (0,0))
 bx:WBx V (w.heap.size+1) (w.heap.size+1+1) L .nilIface
theorem WrAt.below{w V V':World}{cs:Array Value}{L:ByteArray}(h:WrAt w V cs L)(hb:Below V.heap.size V V'):WrAt w V' cs L:=
 ⟨h.bel.trans (hb.mono h.bel.size),(hb.block _ (Array.getElem?_eq_some_iff.1 h.b1).1).trans h.b1,h.bx.fr hb⟩
theorem WrAt.setL{w V:World}{cs:Array Value}{L:ByteArray}(h:WrAt w V cs L)(L':ByteArray):WrAt w (V.setCell ⟨w.heap.size+1,0,none⟩ (.string L')) cs L':=
 ⟨h.bel.setCell (by show w.heap.size≤w.heap.size+1;omega) _,(Below.heap_setCell _ _ _ _ (by show w.heap.size≠w.heap.size+1;omega)).trans h.b1,h.bx.setL (by omega) L'⟩
def MV(y:SentT)(V:World)(e:Ending)(V':World):Prop:=Below V.heap.size V V'∧∃ds is ca sa cc sc oa oc,e=.returned (.tuple #[.agg ds,.bool is,.nilIface])∧STc V' (·<V'.heap.size) y ca sa cc sc oa oc ds
def LV(V:World)(e:Ending)(V':World):Prop:=Below V.heap.size V V'∧∃a,e=.returned (.tuple #[.agg zS,.bool true,.iface 55 (.pointer (some a))])
theorem STc.one{w:World}{P:Nat→Prop}{x:SentT}{ca sa:Option Addr}{cc sc:Nat}{oa:Option Addr}{oc:Nat}{cs:Array Value}(h:STc w P x ca sa cc sc oa oc cs):cs.size=19∧cs.all (·.oneCell')=true:=by
 rw[h.eq]
 exact⟨rfl,by simp[Value.oneCell']⟩
def SV(b:Bool)(L:ByteArray)(w:World)(e:Ending)(w':World):Prop:=Below w.heap.size w w'∧(if b=true then e=.returned (.tuple #[.string L,.nilIface]) else DU e)
theorem WBx.drew{w:World}{bl be:Nat}{s:ByteArray}{ev:Value}(h:WBx w bl be s ev):WBx w.drew bl be s ev:=⟨h.l,h.e⟩
theorem rF{P:Program}{ops:Array Oper}{rest:List Oper}{o:Oper}{a:Act}{w:World}{Q:Exit→Act→World→Prop}(hw:Region.wanted o (yielded ops a.tmps)=true)(ty:TypeId)(x:Operand)(ho:o.op=.load ty x)
 (g:Nat) (hx:a.eval x=.pointer (some ⟨g,0,none⟩)) (t:TypeId) (cs:Array Value) (fr:Nat×Nat) (d:TypeDesc) (hg:w.heap[g]?=some (.cells cs t fr))
 (hu:P.underlying ty=some d) (hd:(match d with| .struct _| .array _ _=>true|_=>false)=true) (hi:(P.info? ty).map (·.size)=some cs.size)
 (h:wpList P ops Q rest (a.put o.dst (.agg cs)) w):wpList P ops Q (o::rest) a w:=by
 rw[wpList,if_pos hw]
 exact .inl (wp_load_row ty x ho g hx t cs fr d hg hu hd hi h)
theorem mH{P:Program}{ops:Array Oper}{rest:List Oper}{o:Oper}{a:Act}{w:World}{Q:Exit→Act→World→Prop}(hw:Region.wanted o (yielded ops a.tmps)=true){v:Value}(he:(execOp a.eval o).run P w=.ok (.value v) w)(h:wpList P ops Q rest (a.put o.dst v) w):wpList P ops Q (o::rest) a w:=by
 rw[wpList,if_pos hw]
 refine .inl ?_
 unfold Oper.wp
 rw[he]
 exact h
theorem vJ{x y:SentT}(hO:SOk x){w:World}{ca sa:Option Addr}{cc sc:Nat}{oa:Option Addr}{oc:Nat}{cs:Array Value}(hT:STc w (·<w.heap.size) x ca sa cc sc oa oc cs)(hg:GlobQ w)(ht:TabW w){s:WS}(hn:WD x=some s)
 (hrd:∀V,Below w.heap.size w V→Calls Tryz.prog 6 #[.string (ZB s.ts)] V (MV y V)):
 Calls Tryz.prog 7 #[.agg cs] w (SV (xP x y) (ZB s.ts) w):=by
 have hmf:∀(fn:Fn) (first cap:Array Value) (w:World),(Instr.makeFunc fn first cap).run Tryz.prog w=.ok (.func fn first cap) w:=fun _ _ _ _=>rfl
 obtain⟨V,hV⟩:∃V,V=yP w cs:=⟨_,rfl⟩
 have hz:=hT.one.1
 have hat:=MK w cs
 have hsw:=oN hg ht cs
 have hbw:=MG w cs
 have hsz:=sJ w cs
 rw[←hV] at hat hsw hbw hsz
 have HS:=aA (xG hO V (w.heap.size+1+1+1) ⟨[],0,0⟩ ca sa cc sc oa oc cs hsw (hT.step fun k hk=>⟨hbw.block k hk,by omega⟩))
 have e0:oF x ⟨[],0,0⟩=WD x:=rfl
 rw[e0,hn] at HS
 have HLn:Hid (∀U,WR U (w.heap.size+1+1+1) s→Calls Tryz.prog 21 #[.pointer (some ⟨w.heap.size+1+1+1,0,none⟩)] U fun e w'=>e=.returned (.string (ZB s.ts))∧Below U.heap.size U w'):=fun U hU=>by
  obtain⟨f1,f2,f3,_⟩:=XI hn hU.z
  exact qQ hU f1 f2 (f3 _) (f3 _) (f3 _)
 have HRd:=aA hrd
 have HSm:Hid (∀U ds da ta dc tc pa pc,Below w.heap.size w U→STc U (·<U.heap.size) y da ta dc tc pa pc ds→Calls Tryz.prog 22 #[.agg cs,.agg ds] U fun e w'=>e=.returned (.bool (xP x y))∧Below U.heap.size U w'):=fun U ds da ta dc tc pa pc hU hy=>jQ (hT.grow hU) hy
 obtain⟨p,hp⟩:=hg.t
 have HG:Hid (∀U,Below w.heap.size w U→U.cell? ⟨1,0,none⟩=some (.iface 189 (.pointer (some p.1)))):=fun U hU=>(hU.cell (p:=⟨1,0,none⟩) hg.lt.1).trans hp
 have HV:Hid (V=(((w.alloc (.cells cs 30)).alloc (.cells #[.string ⟨#[]⟩] 9)).alloc (.cells #[.nilIface] 32)).alloc (.cells #[.slice none 0 0,.int .i64 0,.int .i64 0] 65)):=hV
 have HA:Hid (WrAt w V cs ⟨#[]⟩):=⟨hbw,hat.1,hat.2.1⟩
 have HZ:=aA hz
 have HX:=aA hT.eq
 have HGl:=aA hg.lt.1
 obtain⟨L,hL⟩:∃L,L=ZB s.ts:=⟨_,rfl⟩
 rw[←hL] at HLn HRd ⊢
 clear hV hat hsw hbw hz hT hg ht e0 hn hrd hp hL
 go_enter_defers Tryz.func7,Tryz.ntmps7
 go_upto_region 3 with fail
 rw[←HV.out]
 clear HV
 go_upto_region 4 with (first|(refine wpList_load_row rfl 30 (.tmp 1) rfl w.heap.size (by first|(simp[Act.eval];done)|simp[Act.eval,Act.put]) 30 cs (0,0) _ HA.out.b1 Tryz.underlying30 rfl (infoSent.trans (by rw[HZ.out])) ?_)|(go_at_call 20;refine HS.out.mono ?_;rintro e V2 hE;(obtain⟨hf2,rfl,hw2⟩:=hE);(have HA2:Hid (WrAt w V2 cs ⟨#[]⟩):=⟨HA.out.bel.trans (hf2.below.mono (by omega)),(hf2.low _ (by omega)).trans HA.out.b1,HA.out.bx.wf hf2 (by omega) (by omega)⟩);(have HW2:=aA hw2);clear hf2 hw2))
 clear HS HA hsz
 go_upto_region 5 with (go_at_call 21;refine(HLn.out _ HW2.out).mono ?_;rintro e V3 ⟨rfl,hb3⟩;(have HA3:=aA (HA2.out.below hb3));(obtain⟨cl,fl,ce,fe⟩:=HA3.out.bx.cells);clear hb3)
 have HA4:=aA (HA3.out.setL L)
 clear cl fl ce fe
 generalize V3.setCell ⟨w.heap.size+1,0,none⟩ (.string L)=V4 at *
 clear HA3 HA2 HW2 HLn
 obtain⟨cl,fl,ce,fe⟩:=HA4.out.bx.cells
 go_upto_region 6 with (first|(go_at_call 6;refine(HRd.out _ HA4.out.bel).mono ?_;rintro e V5 ⟨hb5,ds,is,da,ta,dc,tc,pa,pc,rfl,hy5⟩;(have HA5:=aA (HA4.out.below hb5));(have HY5:=aA hy5);clear hb5 hy5)|(refine wpList_store_row rfl 30 (.tmp 5) (.tmp 15) rfl V5.heap.size ds (by simp[Act.eval]) (by simp[Act.eval]) 30 zS (heap_alloc_new V5 (.cells zS 30)) (infoSent.trans (by rw[HY5.out.one.1])) (by rw[GD,HY5.out.one.1]) HY5.out.one.2 ?_))
 rw[World.setRow_alloc_new]
 have hb6:Below V5.heap.size V5 (V5.alloc (.cells ds 30)):=bA _ _
 have HA6:=aA (HA5.out.below hb6)
 have HY6:=aA (HY5.out.grow hb6)
 have HL2:Hid ((V5.alloc (.cells ds 30)).heap[V5.heap.size]?=some (.cells ds 30 (0,0))∧ds.size=19):=⟨heap_alloc_new V5 (.cells ds 30),HY5.out.one.1⟩
 have HI:=aA (HSm.out _ ds da ta dc tc pa pc HA6.out.bel HY6.out)
 clear hb6 cl fl ce fe HSm HRd HY6 HY5 HA5
 generalize V5.alloc (.cells ds 30)=V6 at *
 generalize xP x y=E at *
 refine wp_region_list ?_
 refine mH (v:=.nilIface) rfl rfl ?_
 refine mH (v:=.bool false) rfl (by simp[execOp,Act.eval,Act.put,go_sem]) ?_
 refine mH (v:=.bool false) rfl rfl ?_
 refine rF rfl 30 (.tmp 1) rfl w.heap.size rfl 30 cs (0,0) _ HA6.out.b1 Tryz.underlying30 rfl (infoSent.trans (by rw[HZ.out])) ?_
 refine rF rfl 30 (.tmp 5) rfl V5.heap.size rfl 30 ds (0,0) _ HL2.out.1 Tryz.underlying30 rfl (infoSent.trans (by rw[HL2.out.2])) ?_
 go_simp
 have hne1:¬w.heap.size+1=w.heap.size+1+1:=by omega
 have hne2:¬w.heap.size+1+1=w.heap.size+1:=by omega
 cases E
 ·go_upto_region 7 with (go_at_call 22;refine HI.out.mono ?_;rintro e V7 ⟨rfl,hb7⟩;(have HA7:=aA (HA6.out.below hb7));clear hb7)
  obtain⟨cl,fl,ce,fe⟩:=HA7.out.bx.cells
  obtain⟨cl2,fl2,ce2,fe2⟩:=(HA7.out.setL ⟨#[]⟩).bx.cells
  have hgc:=HG.out _ HA7.out.bel
  have hgl:=HGl.out
  have hgn:¬1=w.heap.size+1:=by omega
  have hgn2:¬w.heap.size+1=1:=by omega
  go_region
  go_wp2
  refine leaves_cons (f:=19) (args:=#[.pointer (some ⟨w.heap.size+1,0,none⟩),.pointer (some ⟨w.heap.size+1+1,0,none⟩)]) (by simp) (by simp[go_sem]) ?_
  refine(tJ _ _ _).mono ?_
  rintro e u' w9 ⟨rfl,rfl,rfl⟩
  refine⟨_,mF ((HA7.out.setL ⟨#[]⟩).bx.setE (by omega) (.iface 189 (.pointer (some p.1)))).drew _ rfl rfl,?_⟩
  exact⟨((HA7.out.setL ⟨#[]⟩).bel.setCell (by show w.heap.size≤w.heap.size+1+1;omega) _).drew,⟨_,rfl⟩⟩
 ·go_upto_region 8 with (go_at_call 22;refine HI.out.mono ?_;rintro e V7 ⟨rfl,hb7⟩;(have HA7:=aA (HA6.out.below hb7));clear hb7)
  obtain⟨cl,fl,ce,fe⟩:=HA7.out.bx.cells
  obtain⟨cl2,fl2,ce2,fe2⟩:=(HA7.out.setL L).bx.cells
  go_wp2
  refine leaves_cons (f:=19) (args:=#[.pointer (some ⟨w.heap.size+1,0,none⟩),.pointer (some ⟨w.heap.size+1+1,0,none⟩)]) (by simp) (by simp[go_sem]) ?_
  refine(tJ _ _ _).mono ?_
  rintro e u' w9 ⟨rfl,rfl,rfl⟩
  refine⟨_,mF ((HA7.out.setL L).bx.setE (by omega) .nilIface) _ rfl rfl,?_⟩
  exact⟨(HA7.out.setL L).bel.setCell (by show w.heap.size≤w.heap.size+1+1;omega) _,rfl⟩
theorem tP{x:SentT}(hO:SOk x){w:World}{ca sa:Option Addr}{cc sc:Nat}{oa:Option Addr}{oc:Nat}{cs:Array Value}(hT:STc w (·<w.heap.size) x ca sa cc sc oa oc cs)(hg:GlobQ w)(ht:TabW w){s:WS}(hn:WD x=some s)
 (hrd:∀V,Below w.heap.size w V→Calls Tryz.prog 6 #[.string (ZB s.ts)] V (LV V)):
 Calls Tryz.prog 7 #[.agg cs] w fun e w'=>SV false (ZB s.ts) w e w':=by
 have hmf:∀(fn:Fn) (first cap:Array Value) (w:World),(Instr.makeFunc fn first cap).run Tryz.prog w=.ok (.func fn first cap) w:=fun _ _ _ _=>rfl
 obtain⟨V,hV⟩:∃V,V=yP w cs:=⟨_,rfl⟩
 have hz:=hT.one.1
 have hat:=MK w cs
 have hsw:=oN hg ht cs
 have hbw:=MG w cs
 have hsz:=sJ w cs
 rw[←hV] at hat hsw hbw hsz
 have HS:=aA (xG hO V (w.heap.size+1+1+1) ⟨[],0,0⟩ ca sa cc sc oa oc cs hsw (hT.step fun k hk=>⟨hbw.block k hk,by omega⟩))
 have e0:oF x ⟨[],0,0⟩=WD x:=rfl
 rw[e0,hn] at HS
 have HLn:Hid (∀U,WR U (w.heap.size+1+1+1) s→Calls Tryz.prog 21 #[.pointer (some ⟨w.heap.size+1+1+1,0,none⟩)] U fun e w'=>e=.returned (.string (ZB s.ts))∧Below U.heap.size U w'):=fun U hU=>by
  obtain⟨f1,f2,f3,_⟩:=XI hn hU.z
  exact qQ hU f1 f2 (f3 _) (f3 _) (f3 _)
 have HRd:=aA hrd
 obtain⟨p,hp⟩:=hg.t
 have HG:Hid (∀U,Below w.heap.size w U→U.cell? ⟨1,0,none⟩=some (.iface 189 (.pointer (some p.1)))):=fun U hU=>(hU.cell (p:=⟨1,0,none⟩) hg.lt.1).trans hp
 have HV:Hid (V=(((w.alloc (.cells cs 30)).alloc (.cells #[.string ⟨#[]⟩] 9)).alloc (.cells #[.nilIface] 32)).alloc (.cells #[.slice none 0 0,.int .i64 0,.int .i64 0] 65)):=hV
 have HA:Hid (WrAt w V cs ⟨#[]⟩):=⟨hbw,hat.1,hat.2.1⟩
 have HZ:=aA hz
 have HGl:=aA hg.lt.1
 obtain⟨L,hL⟩:∃L,L=ZB s.ts:=⟨_,rfl⟩
 rw[←hL] at HLn HRd ⊢
 clear hV hat hsw hbw hz hT hg ht e0 hn hrd hp hL
 go_enter_defers Tryz.func7,Tryz.ntmps7
 go_upto_region 3 with fail
 rw[←HV.out]
 clear HV
 go_upto_region 4 with (first|(refine wpList_load_row rfl 30 (.tmp 1) rfl w.heap.size (by first|(simp[Act.eval];done)|simp[Act.eval,Act.put]) 30 cs (0,0) _ HA.out.b1 Tryz.underlying30 rfl (infoSent.trans (by rw[HZ.out])) ?_)|(go_at_call 20;refine HS.out.mono ?_;rintro e V2 hE;(obtain⟨hf2,rfl,hw2⟩:=hE);(have HA2:Hid (WrAt w V2 cs ⟨#[]⟩):=⟨HA.out.bel.trans (hf2.below.mono (by omega)),(hf2.low _ (by omega)).trans HA.out.b1,HA.out.bx.wf hf2 (by omega) (by omega)⟩);(have HW2:=aA hw2);clear hf2 hw2))
 clear HS HA hsz
 go_upto_region 5 with (go_at_call 21;refine(HLn.out _ HW2.out).mono ?_;rintro e V3 ⟨rfl,hb3⟩;(have HA3:=aA (HA2.out.below hb3));(obtain⟨cl,fl,ce,fe⟩:=HA3.out.bx.cells);clear hb3)
 have HA4:=aA (HA3.out.setL L)
 clear cl fl ce fe
 generalize V3.setCell ⟨w.heap.size+1,0,none⟩ (.string L)=V4 at *
 clear HA3 HA2 HW2 HLn
 obtain⟨cl,fl,ce,fe⟩:=HA4.out.bx.cells
 go_upto_region 6 with (first|(go_at_call 6;refine(HRd.out _ HA4.out.bel).mono ?_;rintro e V5 ⟨hb5,fa,rfl⟩;(have HA5:=aA (HA4.out.below hb5));clear hb5)|(refine wpList_store_row rfl 30 (.tmp 5) (.tmp 15) rfl V5.heap.size zS (by simp[Act.eval]) (by simp[Act.eval]) 30 zS (heap_alloc_new V5 (.cells zS 30)) (infoSent.trans (by rw[GD])) rfl yG ?_))
 rw[World.setRow_alloc_new]
 have hb6:Below V5.heap.size V5 (V5.alloc (.cells zS 30)):=bA _ _
 have HA7:=aA (HA5.out.below hb6)
 clear hb6 cl fl ce fe HRd HA5
 generalize V5.alloc (.cells zS 30)=V7 at *
 have hne1:¬w.heap.size+1=w.heap.size+1+1:=by omega
 have hne2:¬w.heap.size+1+1=w.heap.size+1:=by omega
 ·go_upto_region 7 with fail
  obtain⟨cl,fl,ce,fe⟩:=HA7.out.bx.cells
  obtain⟨cl2,fl2,ce2,fe2⟩:=(HA7.out.setL ⟨#[]⟩).bx.cells
  have hgc:=HG.out _ HA7.out.bel
  have hgl:=HGl.out
  have hgn:¬1=w.heap.size+1:=by omega
  have hgn2:¬w.heap.size+1=1:=by omega
  go_region
  go_wp2
  refine leaves_cons (f:=19) (args:=#[.pointer (some ⟨w.heap.size+1,0,none⟩),.pointer (some ⟨w.heap.size+1+1,0,none⟩)]) (by simp) (by simp[go_sem]) ?_
  refine(tJ _ _ _).mono ?_
  rintro e u' w9 ⟨rfl,rfl,rfl⟩
  refine⟨_,mF ((HA7.out.setL ⟨#[]⟩).bx.setE (by omega) (.iface 189 (.pointer (some p.1)))).drew _ rfl rfl,?_⟩
  exact⟨((HA7.out.setL ⟨#[]⟩).bel.setCell (by show w.heap.size≤w.heap.size+1+1;omega) _).drew,⟨_,rfl⟩⟩
theorem ZP{x:SentT}(h:0<x.kind.size):xP x zT=false:=by
 have:(x.kind.toList==zT.kind.toList)=false:=by
  cases e:(x.kind.toList==zT.kind.toList)
  ·rfl
  ·have e2:=MD (beq_iff_eq.1 e)
   rw[e2] at h
   exact absurd h (by decide)
 rw[AM,this]
 rfl
theorem GT{x:SentT}(hO:SOk x){w:World}{ca sa:Option Addr}{cc sc:Nat}{oa:Option Addr}{oc:Nat}{cs:Array Value}(hT:STc w (·<w.heap.size) x ca sa cc sc oa oc cs)(hg:GlobQ w)(ht:TabW w){f:Nat}
 (hf:∀s,WD x=some s→IC (ZB s.ts)=true→(ZB s.ts).size≤300→mD (dB (ZB s.ts)) f 0 0≠.out):Calls Tryz.prog 7 #[.agg cs] w (EP x f w):=by
 cases hn:WD x with
 |none=>
  refine(tN hO hT hg ht hn).mono ?_
  rintro e w' ⟨he,hb⟩
  refine⟨hb,?_⟩
  rw[GL,hn]
  exact he
 |some s=>
  obtain⟨f1,f2,r,f3⟩:=SL hn
  have hz:s.z≤300:=lT hn
  have hsz:=(XI hn hz).2.2.2
  have hrd:∀V,Below w.heap.size w V→Calls Tryz.prog 6 #[.string (ZB s.ts)] V (MT (ZB s.ts) f V):=fun V hV=>vR hsz (hg.step hV) (hf s hn)
  have hk:0<x.kind.size:=f1 _ (by rw[f3];simp)
  cases hr:EF (ZB s.ts) f with
  |none=>
   refine(vJ (y:=zT) hO hT hg ht hn fun V hV=>(hrd V hV).mono ?_).mono ?_
   ·rintro e V' ⟨hb,he⟩
    rw[hr] at he
    exact⟨hb,zS,false,none,none,0,0,none,0,he,rW _ _⟩
   ·rintro e w' ⟨hb,he⟩
    refine⟨hb,?_⟩
    rw[GL,hn]
    simp only[hr]
    rw[ZP hk] at he
    simpa using he
  |bad=>
   refine(tP hO hT hg ht hn fun V hV=>(hrd V hV).mono ?_).mono ?_
   ·rintro e V' ⟨hb,he⟩
    rw[hr] at he
    exact⟨hb,he⟩
   ·rintro e w' ⟨hb,he⟩
    refine⟨hb,?_⟩
    rw[GL,hn]
    simp only[hr]
    simpa using he
  |ok y=>
   have hP:=iJ hr
   refine(vJ (y:=AV y) hO hT hg ht hn fun V hV=>(hrd V hV).mono ?_).mono ?_
   ·rintro e V' ⟨hb,he⟩
    rw[hr] at he
    obtain⟨ds,e1,hC⟩:=he
    obtain⟨ca,sa,cc,sc,oa,oc,hst,_⟩:=hC.st hP.1 hP.2.1 hP.2.2
    exact⟨hb,ds,true,ca,sa,cc,sc,oa,oc,e1,hst⟩
   ·rintro e w' ⟨hb,he⟩
    refine⟨hb,?_⟩
    rw[GL,hn]
    simp only[hr]
    cases hE:xP x (AV y)
    ·rw[hE] at he;simpa using he
    ·rw[hE] at he;simpa using he
end Go.Proofs.YtehbinobohjadaaGreatDoor
namespace Go.Proofs.YtehbinobohjadaaGreatDoor
open Go.RowKit
set_option linter.unusedSectionVars false
variable [Inhabited TP]
theorem uS(w:World)(o:Obj):Below w.heap.size w (w.alloc o):=bA _ _
theorem UV{W:World}{b i:Nat}{v:Value}(h:W.cell? ⟨b,i,none⟩=some v)(o:Obj):(W.alloc o).cell? ⟨b,i,none⟩=some v:=((uS W o).cell (p:=⟨b,i,none⟩) (fB h)).trans h
inductive SmT:Tn→Prop
 |mk (t:Tn) (h:t.kids.length≤1000) (hk:∀(i:Nat) (k:Tn),t.kids[i]?=some k→SmT k):SmT t
theorem SmT.of{t:Tn}(h:SmT t):t.kids.length≤1000∧∀(i:Nat) (k:Tn),t.kids[i]?=some k→SmT k:=by
 cases h with
 |mk _ h hk=>exact⟨h,hk⟩
def ntE:Enc (Tn×SlV):=⟨fun p=>[.string p.1.kind,.string p.1.word,.int .i64 p.1.num,.slice p.2.a p.2.n p.2.c],4,by decide,fun _=>rfl,fun p u h=>by
 simp only[List.mem_cons,List.not_mem_nil,or_false] at h
 rcases h with rfl|rfl|rfl|rfl<;>rfl⟩
theorem RI{w:World}{b:Nat}{o:Obj}(h:w.heap[b]?=some o):b<w.heap.size:=(Array.getElem?_eq_some_iff.1 h).1
end Go.Proofs.YtehbinobohjadaaGreatDoor

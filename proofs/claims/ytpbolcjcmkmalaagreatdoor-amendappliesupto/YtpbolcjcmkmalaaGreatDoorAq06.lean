import Derived.Test.YtpbolcjcmkmalaaGreatDoorAq00
import Derived.Test.YtpbolcjcmkmalaaGreatDoorAq04
import Derived.Test.YtpbolcjcmkmalaaGreatDoorAq05
import Derived.Test.YtpbolcjcmkmalaaGreatDoorAq01
import Derived.Test.YtpbolcjcmkmalaaGreatDoorAq03
set_option maxHeartbeats 20000000
set_option maxRecDepth 20000
namespace Go.Proofs.YtpbolcjcmkmalaaGreatDoor
open Go.RowKit Go.Extern.Stop Go.Stop Go.Extern
structure Env(w:World)(p:Nat→Addr)(m:Int):Prop where
 L:Laid w p
 T:Lib.Utf8Tabs 13 14 w
 M:w.cell? ⟨12,0,none⟩=some (.int .i64 m)
theorem Env.on{w w':World}{p:Nat→Addr}{m:Int}(h:Env w p m)(hb:Below w.heap.size w w'):Env w' p m:=
 ⟨h.L.below hb,xC h.T hb,(hb.cell (p:=⟨12,0,none⟩) (World.block_lt_of_cell? w _ h.M)).trans h.M⟩
theorem AO{w:World}{P:Nat→Prop}{t:It}{V:Nat→Nat→Value}(hr:∀i k,t.kids[i]?=some k→Lies w P (V i) k)(s:ByteArray):hasKid t s=true↔∃i,i<t.kids.length∧((WG (V i 0)).toList==s.toList)=true:=by
 unfold hasKid
 rw[List.any_eq_true]
 constructor
 ·rintro ⟨k,hk,e⟩
  obtain⟨i,hi,rfl⟩:=List.getElem_of_mem hk
  refine⟨i,hi,?_⟩
  rw[(hr i _ (List.getElem?_eq_getElem hi)).forms.1]
  exact e
 ·rintro ⟨i,hi,e⟩
  refine⟨t.kids[i],List.getElem_mem hi,?_⟩
  rw[(hr i _ (List.getElem?_eq_getElem hi)).forms.1] at e
  exact e
theorem MG(s:ByteArray)(hs:s.size≤1000000)(w:World)(hT:Lib.Utf8Tabs 13 14 w):
 Calls Tryz.prog 80 #[.string s] w fun e w'=>e=.returned (.bool (isLab s))∧Below w.heap.size w w':=by
 have HC:=aA (BI s hs w hT)
 clear hT
 go_enter Tryz.func80,Tryz.ntmps80
 go_wp2_with fail
 refine HC.out.mono ?_
 rintro e w1 ⟨hb,h|h⟩
 ·obtain⟨k,l,hl,rfl⟩:=h
  have HB:=aA hb
  have HL:=aA hl
  clear hb hl
  go_wp2
  go_ret
  refine⟨rC (by unfold isLab;exact(@decide_eq_true _ (Classical.propDecidable _) (⟨k,l,HL.out⟩:∃k l,Lab s k l)).symm),?_⟩
  exact HB.out.alloc HB.out.size _
 ·obtain⟨hn,v0,v1,v2,rfl⟩:=h
  have HB:=aA hb
  have HN:=aA hn
  clear hb hn
  go_wp2
  go_ret
  refine⟨rC (by unfold isLab;exact(@decide_eq_false _ (Classical.propDecidable _) HN.out).symm),?_⟩
  exact HB.out.alloc HB.out.size _
theorem Lies.linesIn{w:World}{P:Nat→Prop}{v:Nat→Value}{t:It}(h:Lies w P v t){la:Option Addr}{n lc:Nat}(e:v 2=.slice la n lc):n=t.lines.length∧∀i s,t.lines[i]?=some s→∃b o,la=some ⟨b,o,none⟩∧P b∧w.cell? ⟨b,o+i,none⟩=some (.string s):=by
 cases h with
 |mk v t la' ka lc' kc V h0 h1 h2 h3 hl hk hr hlc hkc=>
  rw[h2] at e
  injection e with e1 e2 e3
  subst e1 e2 e3
  exact⟨rfl,hl⟩
structure BoxI(w wr:World)(a b c d:Value):Prop where
 bx:wr.heap[w.heap.size]?=some (.cells #[a,b,c,d] 25 (0,0))
 bel:Below w.heap.size w wr
theorem BoxI.start(w:World)(a b c d:Value):BoxI w (w.alloc (.cells #[a,b,c,d] 25)) a b c d:=⟨heap_alloc_new _ _,bA _ _⟩
theorem BoxI.on{w wr wr':World}{a b c d:Value}(h:BoxI w wr a b c d)(hb:Below wr.heap.size wr wr'):BoxI w wr' a b c d:=
 ⟨(hb.block _ (lt_of_block h.bx)).trans h.bx,h.bel.trans (hb.mono (by have:=lt_of_block h.bx;omega))⟩
set_option maxRecDepth 10000 in
theorem fJ:∀(N:Nat) (t:It),jA t≤N→N≤4194304→∀(d:Nat) (v:Nat→Value) (w:World) (P:Nat→Prop),Lies w P v t→d≤13→
 Calls Tryz.prog 15 #[.agg #[v 0,v 1,v 2,v 3],.int .i64 d] w fun e w'=>e=.returned (.int .i64 (YA d t))∧Below w.heap.size w w'
 |0,t,h,_,d,v,w,P,hL,hd=>by have:=uA t;omega
 |N+1,t,h,hN,d,v,w,P,hL,hd=>by
  have hst:=uA t
  have hbd:=ZH (N+1) t h
  have hl4:=jE t.lines
  have hkl:=kD t.kids
  obtain⟨f0,f1,⟨la,lc,f2⟩,⟨ka,kc,f3⟩⟩:=hL.forms
  have hlx:=(hL.linesIn f2).2
  obtain⟨_,V,hk,hr⟩:=hL.kidsAt f3
  have HIH:=aA (fun k (hk:k∈t.kids) v w P hL hd=>fJ N k (by have:=rB hk;omega) (by omega) (d+1) v w P hL hd)
  have HLx:=aA hlx
  have HK:=aA (aI hk hr)
  have HEq:=aA (TC d t)
  rw[f0,f1,f2,f3]
  clear hL hlx hk hr f0 f1 f2 f3
  by_cases h12:12<d
  ·have hdz:(12:Int)<(d:Int):=by omega
   have HV:Hid (YA d t=1000):=by show _=_;rw[HEq.out,if_pos h12]
   generalize t.label=lb at *
   generalize t.head=hh at *
   clear h12 hbd
   go_enter Tryz.func15,Tryz.ntmps15
   go_wp2
   go_ret
   exact⟨by rw[HV.out];rfl,bA _ _⟩
  have hdz:(d:Int)≤12:=by omega
  have HV:Hid (YA d t=QA d (1+t.lines.length+(t.head.size+t.label.size) / 400+yA t.lines) t.kids):=by show _=_;rw[HEq.out,if_neg h12]
  have hbd2:=hbd d
  obtain⟨ln,hln⟩:∃ln,ln=t.lines.length:=⟨_,rfl⟩
  obtain⟨kn,hkn⟩:∃kn,kn=t.kids.length:=⟨_,rfl⟩
  obtain⟨n0,hn0⟩:∃n0,n0=1+t.lines.length+(t.head.size+t.label.size) / 400:=⟨_,rfl⟩
  have HN0:=aA hn0
  have hn0b:n0≤4194304 * 2:=by omega
  have hl4b:yA t.lines≤4194304:=by omega
  rw[←hn0] at HV
  rw[←hln,←hkn]
  have hlnb:ln≤4194304:=by omega
  have hknb:kn≤4194304:=by omega
  have hhb:t.head.size+t.label.size≤4194304:=by omega
  have hn0e:(1:Int)+(ln:Int)+((t.head.size:Int)+(t.label.size:Int)) / 400=(n0:Int):=by rw[hn0,hln];omega
  have HLk:=aA (aI hln hkn)
  clear hn0 hln hkn h12 hbd hst hl4 hkl
  generalize t.label=lb at *
  generalize t.head=hh at *
  go_enter Tryz.func15,Tryz.ntmps15
  have HBx:=aA (BoxI.start w (.string lb) (.string hh) (.slice la ln lc) (.slice ka kn kc))
  go_wp2_with fail
  obtain⟨w2,hw2⟩:∃w2,w2=w.alloc (.cells #[.string lb,.string hh,.slice la ln lc,.slice ka kn kc] 25):=⟨_,rfl⟩
  rw[←hw2] at HBx
  try simp only[←hw2]
  clear hw2
  obtain⟨c0,c1,c2,c3,cf⟩:=gA HBx.out.bx
  have hT:Hid (n0=1+t.lines.length+(hh.size+lb.size) / 400):=HN0.out
  clear hT
  have HLt:=aA (fun i s h=>wI t.lines i s h)
  have HLa:=aA (fun i=>zJ t.lines i)
  go_loop [5,6] (fun n y=>∃i:Nat,i≤ln∧y=.int .i64 i∧n=.int .i64 ((n0+yA (t.lines.take i):Nat))) (fun _ y=>(ln - RowKit.intOf y).toNat)
  case atStart=>exact⟨0,by omega,rfl,by rw[List.take_zero];show _=Value.int .i64 ((n0+0:Nat):Int);rw[Nat.add_zero]⟩
  case round=>
   obtain⟨i,hi,rfl,rfl⟩:=hrel
   have hla:=HLa.out i
   by_cases hin:i<ln
   ·have hiz:(i:Int)<ln:=by omega
    obtain⟨x,hx⟩:∃x,t.lines[i]?=some x:=⟨_,List.getElem?_eq_getElem (by rw[←HLk.out.1];exact hin)⟩
    obtain⟨b,o,rfl,_,cx⟩:=HLx.out i x hx
    have dx:=(HBx.out.bel.cell (p:=⟨b,o+i,none⟩) (dA cx)).trans cx
    have hnx:=HLt.out i x hx
    have hmq:yA (t.lines.take i)+x.size / 400≤4194304:=by have:=HLa.out (i+1);omega
    have HNx:=aA hnx
    clear hnx hla
    generalize yA (t.lines.take i)=m at *
    have hdiv:(x.size:Int) / 400=((x.size / 400:Nat):Int):=by omega
    generalize x.size / 400=xq at *
    clear hx cx
    have hmb:(n0:Int)+(m:Int)+(xq:Int)≤100000000:=by omega
    go_wp2
    go_round
    case rel=>exact⟨i+1,by omega,by go_num,by rw[HNx.out];go_num⟩
    case measure=>simp[RowKit.intOf];omega
   ·obtain rfl:i=ln:=by omega
    have hall:t.lines.take i=t.lines:=List.take_of_length_le (by rw[←HLk.out.1];exact nR _)
    rw[hall] at hla
    rw[hall]
    generalize hm1:n0+yA t.lines=m1 at *
    have hm1b:m1≤5000000000:=by omega
    have HM1:=aA hm1
    clear hall hla hm1
    go_wp2_with fail
    go_loopw [5,7] (fun n y wr=>∃j m:Nat,j≤kn∧y=.int .i64 j∧n=.int .i64 (m:Nat)∧m≤5000000000∧QA d m (t.kids.drop j)=YA d t∧BoxI w wr (.string lb) (.string hh) (.slice la i lc) (.slice ka kn kc)) (fun _ y _=>(kn - RowKit.intOf y).toNat)
    case atStart=>exact⟨0,m1,by omega,rfl,rfl,hm1b,by rw[List.drop_zero,HV.out],HBx.out⟩
    case round=>
     obtain⟨j,m,hj,rfl,rfl,hmb,hsk,hbx⟩:=hrel
     have HX:=aA hbx
     have HSk:=aA hsk
     clear c0 c1 c2 c3 cf
     obtain⟨c0,c1,c2,c3,cf⟩:=gA hbx.bx
     clear hbx hsk
     by_cases hin:j<kn
     ·have hjz:(j:Int)<kn:=by omega
      have hjd:decide ((j:Int)<(kn:Int))=true:=decide_eq_true hjz
      by_cases hm:m<1000
      ·have hmz:(m:Int)<1000:=by omega
       obtain⟨x,hx⟩:∃x,t.kids[j]?=some x:=⟨_,List.getElem?_eq_getElem (by rw[←HLk.out.2];exact hin)⟩
       obtain⟨b,o,hka,_,cx⟩:=HK.out.1 j (by rw[←HLk.out.2];exact hin)
       subst hka
       have hLx:=(HK.out.2 j x hx).bel HX.out.bel
       have hxm:=List.mem_of_getElem? hx
       have HC:=aA (HIH.out x hxm (V j) wr P hLx (by omega))
       have hsm:=ZH (jA x) x (nR _) (d+1)
       have hxs:=rB hxm
       have HSt:=aA ((aL (d:=d) hx hm).symm.trans HSk.out)
       obtain⟨g0,g1,⟨pa,pc,g2⟩,⟨pk,pkc,g3⟩⟩:=hLx.forms
       have hbl:=dA (cx 0 (by omega))
       have y0:=(HX.out.bel.cell (p:=⟨b,o+j * 4,none⟩) hbl).trans (cx 0 (by omega))
       have y1:=(HX.out.bel.cell (p:=⟨b,o+j * 4+1,none⟩) hbl).trans (cx 1 (by omega))
       have y2:=(HX.out.bel.cell (p:=⟨b,o+j * 4+2,none⟩) hbl).trans (cx 2 (by omega))
       have y3:=(HX.out.bel.cell (p:=⟨b,o+j * 4+3,none⟩) hbl).trans (cx 3 (by omega))
       rw[g0] at y0
       rw[g1] at y1
       rw[g2] at y2
       rw[g3] at y3
       rw[g0,g1,g2,g3] at HC
       have hsb:YA (d+1) x≤4999999000:=by omega
       generalize YA (d+1) x=sx at *
       generalize x.label=xl at *
       generalize x.head=xh at *
       generalize x.lines.length=xn at *
       generalize x.kids.length=xk at *
       clear hLx cx g0 g1 g2 g3 hx hxm hxs hsm
       go_wp2_with fail
       go_at_call 15
       refine HC.out.mono ?_
       rintro e w5 ⟨rfl,hb5⟩
       have HX5:=aA (HX.out.on hb5)
       clear hb5
       go_wp2
       go_roundw
       case rel=>exact⟨j+1,m+sx,by omega,by go_num,by go_num,by omega,HSt.out,HX5.out⟩
       case measure=>simp[RowKit.intOf];omega
      ·have hmz:(1000:Int)≤(m:Int):=by omega
       have HR:Hid (YA d t=m):=HSk.out.symm.trans (cL (by omega))
       go_wp2
       go_ret
       exact⟨by rw[HR.out];rfl,HX.out.bel⟩
     ·have hjd:decide ((j:Int)<(kn:Int))=false:=decide_eq_false (by omega)
      have HR:Hid (YA d t=m):=HSk.out.symm.trans (XL (by rw[←HLk.out.2];omega))
      go_wp2
      go_ret
      exact⟨by rw[HR.out];rfl,HX.out.bel⟩
theorem nM(t:It)(hs:jA t≤4194304)(v:Nat→Value)(w:World)(P:Nat→Prop)(hL:Lies w P v t):
 Calls Tryz.prog 7 #[.agg #[v 0,v 1,v 2,v 3]] w fun e w'=>e=.returned (.bool (decide (YA 0 t≤400)))∧Below w.heap.size w w':=by
 obtain⟨f0,f1,⟨la,lc,f2⟩,⟨ka,kc,f3⟩⟩:=hL.forms
 have hb:Below w.heap.size w (w.alloc (.cells #[v 0,v 1,v 2,v 3] 25)):=bA _ _
 have HC:=aA (fJ _ t (nR _) hs 0 v _ P (hL.bel hb) (by omega))
 rw[f0,f1,f2,f3] at HC
 rw[f0,f1,f2,f3]
 generalize t.label=l0 at *
 generalize t.head=l1 at *
 generalize t.lines.length=l2 at *
 generalize t.kids.length=l3 at *
 generalize YA 0 t=n at *
 clear hL f0 f1 f2 f3 hb hs
 go_enter Tryz.func7,Tryz.ntmps7
 go_wp2_with fail
 go_at_call 15
 refine HC.out.mono ?_
 rintro e w1 ⟨rfl,hb1⟩
 have HB1:=aA hb1
 clear hb1
 go_wp2
 go_ret
 refine⟨rC ?_,(bA _ _).trans (HB1.out.mono (by simp))⟩
 rw[decide_eq_decide];omega
end Go.Proofs.YtpbolcjcmkmalaaGreatDoor

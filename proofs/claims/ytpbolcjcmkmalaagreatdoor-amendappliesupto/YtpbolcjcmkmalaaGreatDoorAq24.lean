import Derived.Test.YtpbolcjcmkmalaaGreatDoorAq00
import Derived.Test.YtpbolcjcmkmalaaGreatDoorAq11
import Derived.Test.YtpbolcjcmkmalaaGreatDoorAq06
import Derived.Deep.RegionWith
import Derived.Deep.DrawnRows
set_option maxHeartbeats 20000000
set_option maxRecDepth 20000
namespace Go.Proofs.YtpbolcjcmkmalaaGreatDoor
open Go.RowKit Go.Extern.Stop Go.Stop Go.Extern
attribute [local go_sem ↓] Go.wp_at_zero Go.wp_at_succ
def OD(bc n:Nat)(w:World):Prop:=w.heap[bc]?=some (.cells #[.int .i64 n] 69 (0,0))
def RS(bc:Nat)(p:Nat→Addr)(e:Ending)(w':World):VOut→Prop
 | .bad c=>∃k,c=k+1∧k<11∧e=.returned (fD (p k))
 | .ok n=>e=.returned .nilIface∧OD bc n w'
inductive VLoop(bc d:Nat)(w:World)(t:It)(O:VOut)(a b c k:Value)(y:Value)(wr:World):Prop
 |mk (i n:Nat) (h1:i≤t.kids.length) (h2:y=.int .i64 i) (h3:OD bc n wr) (hn:n≤300) (h4:vKs d n (t.kids.take i) (t.kids.drop i)=O) (h5:BelX w.heap.size bc w wr) (h6:wr.heap[w.heap.size]?=some (.cells #[a,b,c,k] 25 (0,0)))
theorem one{W:World}{g:Nat}{a:Value}{t:TypeId}(h:W.heap[g]?=some (.cells #[a] t (0,0))):W.cell? ⟨g,0,none⟩=some a∧∀i,W.frozen? ⟨g,i,none⟩=false:=by
 simp[World.cell?,World.frozen?,h]
theorem pU(d:Nat)(h:d≤7):IntKind.i64.wrap ((d:Int)+1)=(d:Int)+1:=by
 have:d=0∨d=1∨d=2∨d=3∨d=4∨d=5∨d=6∨d=7:=by omega
 rcases this with rfl|rfl|rfl|rfl|rfl|rfl|rfl|rfl<;>decide
set_option maxRecDepth 10000 in
theorem rK(bc:Nat)(p:Nat→Addr)(m:Int)(W0:World)(hE0:Env W0 p m)(hb0:W0.heap.size≤bc):∀(N:Nat) (t:It),jA t≤N→FewIt t→∀(d n:Nat) (v:Nat→Value) (w:World) (aa:Option Addr) (ac:Nat) (ah:List It) (V:Nat→Nat→Value),Lies w (fun b=>b≠bc) v t→AheadAt w (fun b=>b≠bc) aa ah V→OD bc n w→Below W0.heap.size W0 w→d≤7→n≤301→ah.length≤1000→
 Calls Tryz.prog 26 #[.pointer (some ⟨bc,0,none⟩),.agg #[v 0,v 1,v 2,v 3],.int .i64 d,.slice aa ah.length ac] w fun e w'=>RS bc p e w' (vIt d n ah t)∧BelX w.heap.size bc w w'
 |0,t,h,hF,d,n,v,w,aa,ac,ah,V,hL,hA,hc,hW,hd,hn,han=>by have:=uA t;omega
 |N+1,t,h,hF,d,n,v,w,aa,ac,ah,V,hL,hA,hc,hW,hd,hn,han=>by
  obtain⟨k1,k2,k3,k4,k5,k6⟩:=hF.get
  obtain⟨f0,f1,⟨la,lc,f2⟩,⟨ka,kc,f3⟩⟩:=hL.forms
  have hcl:bc<w.heap.size:=lt_of_block hc
  have hkcp:=(hL.caps f2 f3).2
  have HV:=aA (MJ d n ah t)
  have HEn:=aA (fun w' (hb:Below w.heap.size w w')=>hE0.on (hW.trans (hb.mono hW.size)))
  have hw0:=hW.size
  have HIH:=aA (fun k (hk:k∈t.kids) d n v w aa ac ah V hL hA hc hW hd hn han=>rK bc p m W0 hE0 hb0 N k (by have:=rB hk;omega) (k6 k hk) d n v w aa ac ah V hL hA hc hW hd hn han)
  obtain⟨_,VK,hkk,hkr⟩:=hL.kidsAt f3
  have hll:=(hL.linesIn f2).2
  have HGr:=aA (fun W (hb:Below w.heap.size w W)=>FH t hF v W _ (hL.bel hb))
  have HRi:=aA (fun W (hb:Below w.heap.size w W) hT=>rJ t hF d (by omega) v W _ _ (hL.bel hb) aa ac ah V (hA.on (fun b hbb _=>hb.block b hbb)) han hT)
  have HIl:=aA (fun W=>UE t.head (by omega) W)
  have HAl:=aA (fun W (hb:Below w.heap.size w W)=>lJ t.lines la lc W (by omega) k3 (fun i s e=>by
   obtain⟨b,o,e1,_,e3⟩:=hll i s e
   exact⟨b,o,e1,(hb.cell (p:=⟨b,o+i,none⟩) (dA e3)).trans e3⟩))
  rw[f0,f1,f2,f3] at HGr HRi
  rw[f0,f1,f2,f3]
  have HK:=aA (aI hkk hkr)
  have HC:=aA hc
  have HW:=aA hW
  have HTx:Hid (textsOk t=(lineB t.head&&!(t.lines.any badB))):=rfl
  clear hL hA hF hkk hkr hll k3 k4 k5 k6 f0 f1 f2 f3 hW
  obtain⟨WB,hWB⟩:∃WB,WB=w.alloc (.cells #[.string t.label,.string t.head,.slice la t.lines.length lc,.slice ka t.kids.length kc] 25):=⟨_,rfl⟩
  have HB0:Hid (Below w.heap.size w WB):=by show Below _ _ _;rw[hWB];exact bA _ _
  have HBx:Hid (WB.heap[w.heap.size]?=some (.cells #[.string t.label,.string t.head,.slice la t.lines.length lc,.slice ka t.kids.length kc] 25 (0,0))):=by show _=_;rw[hWB];exact heap_alloc_new _ _
  have hsz0:w.heap.size<WB.heap.size:=by rw[hWB];simp
  have HX:=aA hWB
  clear hWB
  obtain⟨c0,cf⟩:=one hc
  have c0':=(HB0.out.cell (p:=⟨bc,0,none⟩) hcl).trans c0
  have cf':=fun i=>(HB0.out.frozen (p:=⟨bc,i,none⟩) hcl).trans (cf i)
  obtain⟨x0,x1,x2,x3,xf⟩:=gA HBx.out
  have e1:WB.cell? ⟨0,0,none⟩=some (.iface 214 (.pointer (some (p 1)))):=(HEn.out _ HB0.out).L.cell 1 (by omega)
  clear hc c0 cf
  by_cases hd6:6<d
  ·have hdz:(6:Int)<(d:Int):=by omega
   have hdd:decide ((6:Int)<(d:Int))=true:=decide_eq_true hdz
   have HO:Hid (vIt d n ah t=.bad 2):=by show _=_;rw[HV.out,if_pos (.inl hd6)]
   clear hd6
   go_enter Tryz.func26,Tryz.ntmps26
   go_upto_region 1 with fail
   rw[←HX.out]
   go_wp2
   go_ret
   exact⟨by rw[HO.out];exact⟨1,rfl,by omega,rfl⟩,Below.x HB0.out bc (nR _)⟩
  have hdd:decide ((6:Int)<(d:Int))=false:=decide_eq_false (by omega)
  by_cases hn3:300<n
  ·have hnz:(300:Int)<(n:Int):=by omega
   have hnd:decide ((300:Int)<(n:Int))=true:=decide_eq_true hnz
   have HO:Hid (vIt d n ah t=.bad 2):=by show _=_;rw[HV.out,if_pos (.inr (.inl hn3))]
   clear hn3
   go_enter Tryz.func26,Tryz.ntmps26
   go_upto_region 1 with fail
   rw[←HX.out]
   go_wp2
   go_ret
   exact⟨by rw[HO.out];exact⟨1,rfl,by omega,rfl⟩,Below.x HB0.out bc (nR _)⟩
  have hnd:decide ((300:Int)<(n:Int))=false:=decide_eq_false (by omega)
  go_enter Tryz.func26,Tryz.ntmps26
  go_upto_region 1 with fail
  rw[←HX.out]
  go_wp2_with fail
  go_at_call 58
  refine(HGr.out _ HB0.out).mono ?_
  rintro e w1 ⟨rfl,hb1⟩
  have hb01:Below w.heap.size w w1:=HB0.out.trans (hb1.mono (by omega))
  have HB1:=aA hb01
  have HBx1:Hid (w1.heap[w.heap.size]?=_):=(hb1.block w.heap.size hsz0).trans HBx.out
  have HC1:Hid (OD bc n w1):=(hb01.block bc hcl).trans HC.out
  have hs1:w.heap.size<w1.heap.size:=by have:=hb1.size;omega
  clear hb1 hb01 x0 x1 x2 x3 xf c0' cf' e1
  cases hgr:OB t
  ·obtain⟨x0,x1,x2,x3,xf⟩:=gA HBx1.out
   go_wp2_with fail
   go_at_call 59
   refine(HRi.out _ HB1.out (HEn.out _ HB1.out).T).mono ?_
   rintro e w2 ⟨rfl,hb2⟩
   have hb02:Below w.heap.size w w2:=HB1.out.trans (hb2.mono (by omega))
   have HB2:=aA hb02
   have HBx2:Hid (w2.heap[w.heap.size]?=_):=(hb2.block w.heap.size hs1).trans HBx1.out
   have HC2:Hid (OD bc n w2):=(hb02.block bc hcl).trans HC.out
   have hs2:w.heap.size<w2.heap.size:=by have:=hb2.size;omega
   clear hb2 hb02 x0 x1 x2 x3 xf
   cases hlo:labelOk d ah t
   ·have e6:w2.cell? ⟨6,0,none⟩=some (.iface 214 (.pointer (some (p 6)))):=(HEn.out _ HB2.out).L.cell 6 (by omega)
    have HO:Hid (vIt d n ah t=.bad 7):=by show _=_;rw[HV.out,if_neg (by rw[hgr];simp;omega),if_pos hlo]
    go_wp2
    go_ret
    exact⟨by rw[HO.out];exact⟨6,rfl,by omega,rfl⟩,Below.x HB2.out bc (nR _)⟩
   ·obtain⟨x0,x1,x2,x3,xf⟩:=gA HBx2.out
    have HO:Hid (vIt d n ah t=if textsOk t=false then .bad 1 else vKs d n [] t.kids):=by show _=_;rw[HV.out,if_neg (by rw[hgr];simp;omega),if_neg (by rw[hlo];decide)]
    clear HV
    go_wp2_with fail
    go_at_call 60
    refine(HIl.out _).mono ?_
    rintro e w3 ⟨rfl,hb3⟩
    have hb03:Below w.heap.size w w3:=HB2.out.trans (hb3.mono (by omega))
    have HB3:=aA hb03
    have HBx3:Hid (w3.heap[w.heap.size]?=_):=(hb3.block w.heap.size hs2).trans HBx2.out
    have HC3:Hid (OD bc n w3):=(hb03.block bc hcl).trans HC.out
    have hs3:w.heap.size<w3.heap.size:=by have:=hb3.size;omega
    clear hb3 hb03 x0 x1 x2 x3 xf
    cases hli:lineB t.head
    ·have e0:w3.cell? ⟨1,0,none⟩=some (.iface 214 (.pointer (some (p 0)))):=(HEn.out _ HB3.out).L.cell 0 (by omega)
     have HO2:Hid (vIt d n ah t=.bad 1):=by show _=_;rw[HO.out,if_pos (by rw[HTx.out,hli];rfl)]
     go_wp2
     go_ret
     exact⟨by rw[HO2.out];exact⟨0,rfl,by omega,rfl⟩,Below.x HB3.out bc (nR _)⟩
    ·obtain⟨x0,x1,x2,x3,xf⟩:=gA HBx3.out
     go_wp2_with fail
     go_at_call 61
     refine(HAl.out _ HB3.out).mono ?_
     rintro e w4 ⟨rfl,hb4⟩
     have hb04:Below w.heap.size w w4:=HB3.out.trans (hb4.mono (by omega))
     have HB4:=aA hb04
     have HBx4:Hid (w4.heap[w.heap.size]?=_):=(hb4.block w.heap.size hs3).trans HBx3.out
     have HC4:Hid (OD bc n w4):=(hb04.block bc hcl).trans HC.out
     have hs4:w.heap.size<w4.heap.size:=by have:=hb4.size;omega
     clear hb4 hb04 x0 x1 x2 x3 xf
     cases hba:t.lines.any badB
     ·have HO2:Hid (vIt d n ah t=vKs d n [] t.kids):=by show _=_;rw[HO.out,if_neg (by rw[HTx.out,hli,hba];decide)]
      have hkn:t.kids.length≤1000:=k2
      obtain⟨kn,hkne⟩:∃kn,kn=t.kids.length:=⟨_,rfl⟩
      have HKn:=aA hkne
      rw[←hkne] at hkn HBx4
      obtain⟨O,hOO⟩:∃O,O=vIt d n ah t:=⟨_,rfl⟩
      have HOO:=aA (hOO.trans HO2.out)
      have HOv:=aA hOO
      rw[←hkne]
      clear hkne hOO
      obtain⟨x0,x1,x2,x3,xf⟩:=gA HBx4.out
      go_wp2_with fail
      go_loopw [46] (fun y wr=>VLoop bc d w t O (.string t.label) (.string t.head) (.slice la t.lines.length lc) (.slice ka kn kc) y wr) (fun y _=>(kn - RowKit.intOf y).toNat)
      case atStart=>exact⟨0,n,by omega,rfl,HC4.out,by omega,by rw[List.take_zero,List.drop_zero];exact HOO.out.symm,Below.x HB4.out bc (nR _),HBx4.out⟩
      case round=>
       obtain⟨i,n',hi,rfl,hcnt,hn',hvk,hbx,hbox⟩:=hrel
       rw[←HKn.out] at hi
       have HBX:=aA hbx
       have HVK:=aA hvk
       have HCn:=aA hcnt
       have HBo:=aA hbox
       have hsw:=hbx.size
       have hbl:=lt_of_block hbox
       clear x0 x1 x2 x3 xf
       obtain⟨x0,x1,x2,x3,xf⟩:=gA hbox
       obtain⟨c0,cf⟩:=one hcnt
       clear hcnt hvk hbx hbox
       by_cases hin:i<kn
       ·have hiz:(i:Int)<kn:=by omega
        obtain⟨x,hx⟩:∃x,t.kids[i]?=some x:=⟨_,List.getElem?_eq_getElem (by rw[←HKn.out];exact hin)⟩
        have hxm:=List.mem_of_getElem? hx
        obtain⟨b,o,hka,hbn,cx⟩:=HK.out.1 i (by rw[←HKn.out];exact hin)
        subst hka
        obtain⟨g0,g1,⟨pa,pc,g2⟩,⟨pk,pkc,g3⟩⟩:=(HK.out.2 i x hx).forms
        have hcx:=fun c (hc:c<4)=>(HBX.out.cell (p:=⟨b,o+i * 4+c,none⟩) (dA (cx c hc)) hbn).trans (cx c hc)
        have y0:wr.cell? ⟨b,o+i * 4,none⟩=some (VK i 0):=hcx 0 (by omega)
        have y1:=hcx 1 (by omega)
        have y2:=hcx 2 (by omega)
        have y3:=hcx 3 (by omega)
        rw[g0] at y0
        rw[g1] at y1
        rw[g2] at y2
        rw[g3] at y3
        have HStep:=aA (NP (d:=d) (n:=n') hx)
        have HM7:Hid (∀m',vIt (d+1) (n'+1) (t.kids.take i) x=.ok m'→m'≤300):=fun m' hm'=>JP _ x (nR _) _ _ _ _ hm'
        have hlen:(t.kids.take i).length=i:=by rw[List.length_take,←HKn.out];omega
        have HCi:Hid (∀W W6:World,BelX w.heap.size bc w W6→OD bc (n'+1) W6→LikeW W W6→Calls Tryz.prog 26 #[.pointer (some ⟨bc,0,none⟩),.agg #[VK i 0,VK i 1,VK i 2,VK i 3],.int .i64 ((d:Int)+1),.slice (some ⟨b,o,none⟩) i kc] W fun e w'=>RS bc p e w' (vIt (d+1) (n'+1) (t.kids.take i) x)∧BelX W.heap.size bc W w'):=fun W W6 hx6 hc6 hlk=>by
         have hkeep:∀q,q<w.heap.size→q≠bc→W.heap[q]?=w.heap[q]?:=fun q hq hqn=>by rw[hlk.heap];exact hx6.block q hq hqn
         have h:=HIH.out x hxm (d+1) (n'+1) (VK i) W (some ⟨b,o,none⟩) kc (t.kids.take i) VK ((HK.out.2 i x hx).step fun q hq hqn=>⟨hkeep q hq hqn,hqn⟩) ⟨fun j hj=>by
          obtain⟨b2,o2,q1,q2,q3⟩:=HK.out.1 j (by rw[hlen] at hj;rw[←HKn.out];omega)
          exact⟨b2,o2,q1,q2,fun c hc=>(World.cell?_of_block (a:=⟨b2,o2+j * 4+c,none⟩) (hkeep b2 (dA (q3 0 (by omega))) q2)).trans (q3 c hc)⟩,fun j k e=>by
          rw[List.getElem?_take] at e
          split at e
          ·exact(HK.out.2 j k e).step fun q hq hqn=>⟨hkeep q hq hqn,hqn⟩
          ·cases e⟩ (by unfold OD;rw[hlk.heap];exact hc6) (HW.out.trans ((hx6.down hw0 hb0).trans ⟨hlk.os,hlk.tape,hlk.output,by rw[hlk.heap];exact nR _,fun q _=>by rw[hlk.heap]⟩)) (by omega) (by omega) (by rw[hlen];omega)
         rw[hlen,show ((d+1:Nat):Int)=(d:Int)+1 by omega] at h
         exact h
        rw[g0,g1,g2,g3] at HCi
        generalize x.label=xl at *
        generalize x.head=xh at *
        generalize x.lines.length=xn at *
        generalize x.kids.length=xk at *
        generalize vIt (d+1) (n'+1) (t.kids.take i) x=R at *
        clear hcx cx g0 g1 g2 g3 hx hxm hlen
        have hnw:(n':Int)+1≤1000:=by omega
        have hdw:(d:Int)+1≤1000:=by omega
        have hwrap:IntKind.i64.wrap ((d:Int)+1)=(d:Int)+1:=pU d (by omega)
        have hik:(i:Int)≤(kn:Int):=by omega
        have hikc:(i:Int)≤(kc:Int):=by have:=HKn.out;omega
        have hkkc:(kn:Int)≤(kc:Int):=by have:=HKn.out;omega
        have hbcr:bc<wr.heap.size:=by omega
        have hbcn:bc≠wr.heap.size:=by omega
        have hwn:w.heap.size≠wr.heap.size:=by omega
        have hwbc:w.heap.size≠bc:=by omega
        go_upto_region 11 with fail
        obtain⟨W6,hW6⟩:∃W6,W6=(wr.setCell ⟨bc,0,none⟩ (.int .i64 ((n':Int)+1))).alloc (.cells #[.string xl,.string xh,.slice pa xn pc,.slice pk xk pkc] 25):=⟨_,rfl⟩
        have hse:(wr.setCell ⟨bc,0,none⟩ (.int .i64 ((n':Int)+1))).heap.size=wr.heap.size:=by simp
        have HX6:Hid (BelX w.heap.size bc w W6):=by
         show BelX _ _ _ _
         rw[hW6]
         exact(HBX.out.setCell (p:=⟨bc,0,none⟩) (.inr rfl) _).trans (Below.x (bA _ _) bc (by rw[hse];omega))
        have HC6:Hid (OD bc (n'+1) W6):=by
         show OD _ _ _
         unfold OD
         rw[hW6,Below.heap_alloc _ _ _ (by rw[hse];exact hbcr),heap_setCell_same wr bc 0 _ _ _ HCn.out]
         rfl
        have HK6:Hid (W6.heap[wr.heap.size]?=some (.cells #[.string xl,.string xh,.slice pa xn pc,.slice pk xk pkc] 25 (0,0))):=by
         show _=_
         have h5:=heap_alloc_new (wr.setCell ⟨bc,0,none⟩ (.int .i64 ((n':Int)+1))) (.cells #[.string xl,.string xh,.slice pa xn pc,.slice pk xk pkc] 25)
         rw[hse] at h5
         rw[hW6];exact h5
        have HB6:Hid (W6.heap[w.heap.size]?=some (.cells #[.string t.label,.string t.head,.slice la t.lines.length lc,.slice (some ⟨b,o,none⟩) kn kc] 25 (0,0))):=by
         show _=_
         rw[hW6,Below.heap_alloc _ _ _ (by rw[hse];exact hbl),Below.heap_setCell _ _ _ _ hwbc]
         exact HBo.out
        have hs6:wr.heap.size<W6.heap.size:=by rw[hW6];simp
        rw[←hW6]
        clear hW6 hse x0 x1 x2 x3 xf c0 cf y0 y1 y2 y3
        obtain⟨u0,u1,u2,u3,uf⟩:=gA HK6.out
        obtain⟨x0,x1,x2,x3,xf⟩:=gA HB6.out
        cases R with
        |bad c=>
         have HR:Hid (O=.bad c):=HVK.out.symm.trans HStep.out
         go_region_with
          (first
            |(go_at_call 26
              refine(HCi.out _ W6 HX6.out HC6.out ?_).mono ?_
              ·exact⟨rfl,rfl,rfl,rfl⟩
              rintro e w7 ⟨⟨k,hck,hk,rfl⟩,hb7⟩
              have HB7:=aA hb7
              have HCk:=aA hck
              unfold fD
              clear hb7 hck))
         all_goals
          go_wp2
          go_ret
          refine⟨by rw[←HOv.out,HR.out];exact⟨k,HCk.out,hk,rfl⟩,HX6.out.trans ?_⟩
          exact⟨HB7.out.os,HB7.out.tape,HB7.out.output,HB7.out.size,fun q hq hqn=>HB7.out.block q (by show q<W6.heap.size;omega) hqn⟩
        |ok m'=>
         have HR:Hid (vKs d m' (t.kids.take (i+1)) (t.kids.drop (i+1))=O):=HStep.out.symm.trans HVK.out
         go_region_with
          (first
            |(go_at_call 26
              refine(HCi.out _ W6 HX6.out HC6.out ?_).mono ?_
              ·exact⟨rfl,rfl,rfl,rfl⟩
              rintro e w7 ⟨⟨rfl,hcn7⟩,hb7⟩
              have HB7:=aA hb7
              have HC7:=aA hcn7
              clear hb7 hcn7))
         all_goals
          go_wp2
          go_roundw
          case rel=>
           refine⟨i+1,m',by rw[←HKn.out];omega,by go_num,HC7.out,HM7.out m' rfl,HR.out,HX6.out.trans ?_,?_⟩
           ·exact⟨HB7.out.os,HB7.out.tape,HB7.out.output,HB7.out.size,fun q hq hqn=>HB7.out.block q (by show q<W6.heap.size;omega) hqn⟩
           ·exact(HB7.out.block w.heap.size (by show w.heap.size<W6.heap.size;omega) hwbc).trans HB6.out
          case measure=>simp[RowKit.intOf];omega
       ·have HR:Hid (O=.ok n'):=HVK.out.symm.trans (YQ (by rw[←HKn.out];omega))
        go_wp2
        go_ret
        exact⟨by rw[←HOv.out,HR.out];exact⟨rfl,HCn.out⟩,HBX.out⟩
     ·have e0:w4.cell? ⟨1,0,none⟩=some (.iface 214 (.pointer (some (p 0)))):=(HEn.out _ HB4.out).L.cell 0 (by omega)
      have HO2:Hid (vIt d n ah t=.bad 1):=by show _=_;rw[HO.out,if_pos (by rw[HTx.out,hli,hba];rfl)]
      go_wp2
      go_ret
      exact⟨by rw[HO2.out];exact⟨0,rfl,by omega,rfl⟩,Below.x HB4.out bc (nR _)⟩
  ·have e1:w1.cell? ⟨0,0,none⟩=some (.iface 214 (.pointer (some (p 1)))):=(HEn.out _ HB1.out).L.cell 1 (by omega)
   have HO:Hid (vIt d n ah t=.bad 2):=by show _=_;rw[HV.out,if_pos (.inr (.inr hgr))]
   go_wp2
   go_ret
   exact⟨by rw[HO.out];exact⟨1,rfl,by omega,rfl⟩,Below.x HB1.out bc (nR _)⟩
end Go.Proofs.YtpbolcjcmkmalaaGreatDoor

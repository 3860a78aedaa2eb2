import Derived.Test.YtpbolcjcmkmalaaGreatDoorAq00
import Derived.Test.YtpbolcjcmkmalaaGreatDoorAq18
import Derived.Test.YtpbolcjcmkmalaaGreatDoorAq13
import Derived.Test.YtpbolcjcmkmalaaGreatDoorAq09
set_option maxHeartbeats 20000000
set_option maxRecDepth 20000
namespace Go.Proofs.YtpbolcjcmkmalaaGreatDoor
open Go.RowKit Go.Extern.Stop Go.Stop Go.Extern
def TD(lab:ByteArray)(y:It)(k:It):List It:=if lab.toList==[] then [k] else if zE lab k then [k,y] else [k]
def CB(lab:ByteArray)(y:It)(l:List It):List It:=(if lab.toList==[] then [y] else [])++l.flatMap (TD lab y)
theorem VJ(lab:ByteArray)(y:It):∀l:List It,(l.flatMap (TD lab y)).length≤2 * l.length
 | []=>by simp
 |k::l=>by
  have h:=VJ lab y l
  have h1:(TD lab y k).length≤2:=by unfold TD;split;simp;split<;>simp
  rw[List.flatMap_cons,List.length_append,List.length_cons]
  omega
theorem gM(lab:ByteArray)(y:It)(l:List It):(CB lab y l).length≤2 * l.length+1:=by
 have h:=VJ lab y l
 unfold CB
 rw[List.length_append]
 split
 ·rw[List.length_singleton];omega
 ·rw[List.length_nil];omega
theorem FI{lab:ByteArray}(y:It)(h:(lab.toList==[])=false):CB lab y []=[]:=by unfold CB;rw[h];rfl
theorem VM{lab:ByteArray}(y:It)(h:(lab.toList==[])=true):CB lab y []=[y]:=by unfold CB;rw[h];rfl
theorem GI(lab:ByteArray)(y:It)(l:List It)(j:Nat)(k:It)(h:l[j]?=some k):CB lab y (l.take (j+1))=CB lab y (l.take j)++TD lab y k:=by
 unfold CB
 rw[zF _ _ _ _ h,List.append_assoc]
def KAt(P:Nat→Prop)(B1:Nat)(W1:World)(L:List It)(s:Value)(wr:World):Prop:=
 ∃(K:Nat→Nat→Value) (sa:Option Addr) (sc:Nat),s=.slice sa L.length sc∧KRow P B1 wr (.slice sa L.length sc) L K∧Below B1 W1 wr
theorem KAt.one{P:Nat→Prop}{B1:Nat}{W1 wr W w':World}{K:Nat→Nat→Value}{sa:Option Addr}{sc:Nat}{L:List It}{x:Nat→Value}{y:It}{sv:Value}(h:KRow P B1 wr (.slice sa L.length sc) L K)(hb:Below B1 W1 wr)(h2:B1≤wr.heap.size)(hA:Below wr.heap.size wr W)
 (hx:Lies W (fun k=>(Value.slice sa L.length sc).ownBlock≠some k∧(P k∨B1≤k)∧k<wr.heap.size) x y) (ho:w'.ownsRow B1 25 4 sv (L.length+1) (GA K L.length++[x 0,x 1,x 2,x 3])) (hg:W.grownBy w' (Value.slice sa L.length sc).ownBlock) (hw:sv.ownBlock=(Value.slice sa L.length sc).ownBlock∨sv.ownBlock=some W.heap.size):KAt P B1 W1 (L++[y]) sv w':=by
 have hp:=h.push hA hx ho hg hw
 obtain⟨ga,gc,rfl⟩:=tA ho
 refine⟨mD K L.length x,ga,gc,?_,?_,?_⟩
 ·rw[List.length_append];rfl
 ·rw[List.length_append];exact hp
 ·exact(hb.trans (hA.mono h2)).grown hg (by have:=hA.size;omega) (fun k hk=>(h.row.lt k hk).1)
def QN(P:Nat→Prop)(w:World)(L:List It)(e:Ending)(w':World):Prop:=∃(s:Value) (K:Nat→Nat→Value),e=.returned s∧KRow P (w.heap.size+1) w' s L K∧Below w.heap.size w w'
def PS(P:Nat→Prop)(B1:Nat)(W1:World)(lab:ByteArray)(y:It)(l:List It)(s yv:Value)(wr:World):Prop:=
 ∃j:Nat,j≤l.length∧yv=.int .i64 j∧KAt P B1 W1 (CB lab y (l.take j)) s wr
set_option maxRecDepth 10000 in
theorem PG(P:Nat→Prop)(lab:ByteArray)(l:List It)(y:It)(ka:Option Addr)(kc:Nat)(V:Nat→Nat→Value)(u:Nat→Value)(w:World)(hln:l.length≤1048576)
 (hk:∀i,i<l.length→∃b o,ka=some ⟨b,o,none⟩∧∀c,c<4→w.cell? ⟨b,o+i * 4+c,none⟩=some (V i c)) (hkr:∀i x,l[i]?=some x→Lies w P (V i) x) (hy:Lies w P u y):
 Calls Tryz.prog 88 #[.slice ka l.length kc,.string lab,.agg #[u 0,u 1,u 2,u 3]] w (QN P w (CB lab y l)):=by
 obtain⟨i0,iz,hi0,hi1,hi2,hi3,hi4⟩:=Tryz.infoItem
 have HI:=aA (aI hi0 (aI hi1 (aI hi2 (aI hi3 hi4))))
 clear hi0 hi1 hi2 hi3 hi4
 obtain⟨f0,f1,⟨la,lc,f2⟩,⟨ya,yc,f3⟩⟩:=hy.forms
 have HY:=aA (hy.vals f0 f1 f2 f3)
 have HK:=aA (aI hk hkr)
 rw[f0,f1,f2,f3]
 clear hk hkr hy f0 f1 f2 f3
 generalize y.label=y0 at *
 generalize y.head=y1 at *
 generalize y.lines.length=y2 at *
 generalize y.kids.length=y3 at *
 obtain⟨kn,hknn⟩:∃kn,kn=l.length:=⟨_,rfl⟩
 have HKn:=aA hknn
 rw[←hknn] at hln
 rw[←hknn]
 clear hknn
 obtain⟨W1,hW1⟩:∃W1,W1=w.alloc (.cells #[.string y0,.string y1,.slice la y2 lc,.slice ya y3 yc] 25):=⟨_,rfl⟩
 have c1:=heap_alloc_new w (.cells #[.string y0,.string y1,.slice la y2 lc,.slice ya y3 yc] 25)
 have hb1:=(Below.refl w.heap.size w).alloc (nR _) (.cells #[.string y0,.string y1,.slice la y2 lc,.slice ya y3 yc] 25)
 have hs1:W1.heap.size=w.heap.size+1:=by rw[hW1];simp
 rw[←hW1] at c1 hb1
 have HB1:=aA hb1
 have HC1:=aA c1
 have HW1:=aA hW1
 have hs1a:w.heap.size+1≤W1.heap.size:=by omega
 have hs1b:W1.heap.size≤w.heap.size+1:=by omega
 clear hb1 c1 hW1 hs1
 have HNY:=aA (fun W=>XD W (.string y0) (.string y1) (.slice la y2 lc) (.slice ya y3 yc))
 have HOY:Hid (∀u∈[Value.string y0,.string y1,.slice la y2 lc,.slice ya y3 yc],u.oneCell'=true):=by
  intro u hu
  simp at hu
  rcases hu with rfl|rfl|rfl|rfl<;>rfl
 cases he:(lab.toList==[])
 ·go_enter Tryz.func88,Tryz.ntmps88
  go_upto_region 1 with fail
  rw[←HW1.out]
  clear HW1
  go_wp2_with fail
  go_loopw [7,8] (fun s yv wr=>PS P (w.heap.size+1) W1 lab y l s yv wr) (fun _ yv _=>(kn - RowKit.intOf yv).toNat)
  case atStart=>
   refine⟨0,Nat.zero_le _,rfl,fun _ _=>.bool false,none,0,?_,?_,Below.refl _ _⟩
   ·rw[List.take_zero,FI y he];rfl
   ·rw[List.take_zero,FI y he];exact KRow.nil _ _ _ _
  case round=>
   obtain⟨j,hj,rfl,K,sa,sc,rfl,hrow,hb⟩:=hrel
   obtain⟨L,hLL⟩:∃L,L=CB lab y (l.take j):=⟨_,rfl⟩
   have HLL:=aA hLL
   rw[←hLL] at hrow
   rw[←hLL]
   have hLn:L.length≤2 * j+1:=by
    rw[hLL]
    have h1:=gM lab y (l.take j)
    rw[List.length_take] at h1
    omega
   clear hLL
   rw[←HKn.out] at hj
   have HRow:=aA hrow
   have HB:=aA hb
   have HBw:Hid (Below w.heap.size w wr):=HB1.out.trans (hb.mono (by omega))
   have hsw:=hb.size
   obtain⟨Ln,hLn2⟩:∃Ln,Ln=L.length:=⟨_,rfl⟩
   have HLn:=aA hLn2
   rw[←hLn2] at hrow hLn
   rw[←hLn2]
   clear hrow hb hLn2
   by_cases hin:j<kn
   ·have hiz:(j:Int)<kn:=by omega
    have hjl:j<l.length:=by rw[←HKn.out];exact hin
    obtain⟨x,hx⟩:∃x,l[j]?=some x:=⟨_,List.getElem?_eq_getElem hjl⟩
    obtain⟨b,o,hka,cx⟩:=HK.out.1 j hjl
    have hbB:=dA (cx 0 (by omega))
    subst hka
    have HLx0:=aA (HK.out.2 j x hx)
    obtain⟨u0,u1,⟨ua,uc,u2⟩,⟨uk,ukc,u3⟩⟩:=HLx0.out.forms
    have HLx:=aA (HLx0.out.vals u0 u1 u2 u3)
    have hcc:=fun c (hc:c<4)=>(HBw.out.cell (p:=⟨b,o+j * 4+c,none⟩) (by show b<_;omega)).trans (cx c hc)
    have x0:wr.cell? ⟨b,o+j * 4,none⟩=some (V j 0):=hcc 0 (by omega)
    have x1:=hcc 1 (by omega)
    have x2:=hcc 2 (by omega)
    have x3:=hcc 3 (by omega)
    rw[u0] at x0
    rw[u1] at x1
    rw[u2] at x2
    rw[u3] at x3
    have HFl:Hid (CB lab y (l.take (j+1))=L++TD lab y x):=by show _=_;rw[HLL.out];exact GI _ _ _ _ _ hx
    have HLb:Hid (zE lab x=(x.label.toList==lab.toList)):=rfl
    clear hcc cx hx u0 u1 u2 u3 HLx0
    generalize x.label=xl at *
    generalize x.head=xh at *
    generalize x.lines.length=xln at *
    generalize x.kids.length=xkn at *
    have HKD:Hid (∀W:World,(∀k,k<wr.heap.size→W.heap[k]?=wr.heap[k]?)→W.ownsRow (w.heap.size+1) 25 4 (.slice sa Ln sc) Ln (GA K Ln)):=fun W hW=>by
     have h3:=HRow.out.row
     rw[←HLn.out] at h3
     exact CA h3 fun k _ hk=>hW k hk
    have HNW:=aA (XD wr (.string xl) (.string xh) (.slice ua xln uc) (.slice uk xkn ukc))
    have HOC:Hid (∀u∈[Value.string xl,.string xh,.slice ua xln uc,.slice uk xkn ukc],u.oneCell'=true):=by
     intro u hu
     simp at hu
     rcases hu with rfl|rfl|rfl|rfl<;>rfl
    go_wp2_with (at_builtin;go_loud (refine AA _ rfl (.tmp 21) (.tmp 26) 23 rfl (w.heap.size+1) 25 i0 iz 4 80 Tryz.underlying23 HI.out.1 HI.out.2.1 HI.out.2.2.1 HI.out.2.2.2.1 HI.out.2.2.2.2 (by decide) (.slice sa Ln sc) Ln (GA K Ln) (by simp[Act.eval]) (HKD.out _ (fun k hk=>Below.heap_alloc wr _ k hk)) ⟨wr.heap.size,0,none⟩ 1 1 [Value.string xl,.string xh,.slice ua xln uc,.slice uk xkn ukc] (by simp[Act.eval]) rfl HNW.out HOC.out (by decide) (by unfold maxLen;omega) (by omega) (by simp;omega) ?_))
    intro v' w' ho hg hw
    have hKA:KAt P (w.heap.size+1) W1 (L++[x]) v' w':=by
     have e:=HLn.out
     subst e
     refine KAt.one (W:=wr.alloc (.cells #[.string xl,.string xh,.slice ua xln uc,.slice uk xkn ukc] 25)) (x:=wA (.string xl) (.string xh) (.slice ua xln uc) (.slice uk xkn ukc)) (y:=x) HRow.out HB.out (by omega) (bA _ _) ?_ ho hg (hw.imp id fun h=>h.trans (congrArg some (by simp)))
     exact HRow.out.old (by omega) (by omega) HLx.out (HBw.out.alloc (by omega) _)
    clear ho hg hw
    obtain⟨K2,sa2,sc2,hv',hrow2,hb2⟩:=hKA
    obtain⟨Ln2,hLn2⟩:∃Ln2,Ln2=(L++[x]).length:=⟨_,rfl⟩
    have hLn3:Ln2≤2 * j+2:=by
     have h5:(L++[x]).length=Ln+1:=by rw[List.length_append,←HLn.out];rfl
     omega
    have hs2:=hb2.size
    rw[←hLn2] at hv'
    subst hv'
    have HL2:=aA hLn2
    have HRow2:=aA hrow2
    have HB2:=aA hb2
    have x0':w'.cell? ⟨b,o+j * 4,none⟩=some (.string xl):=(hb2.cell (p:=⟨b,o+j * 4,none⟩) (by show b<_;omega)).trans ((HB.out.cell (p:=⟨b,o+j * 4,none⟩) (by show b<_;omega)).symm.trans x0)
    have hbx:=(hb2.block w.heap.size (by omega)).trans HC1.out
    obtain⟨t0,t1,t2,t3,tf⟩:=gA hbx
    clear hrow2 hb2 hLn2 hbx x0 x1 x2 x3
    cases hq:(xl.toList==lab.toList)
    ·have HBF:Hid (TD lab y x=[x]):=by show _=_;unfold TD;rw[he,HLb.out,hq];rfl
     go_wp2
     go_roundw
     case rel=>
      refine⟨j+1,hjl,by go_num,K2,sa2,sc2,?_,?_,HB2.out⟩
      ·rw[HFl.out,HBF.out,HL2.out]
      ·rw[HFl.out,HBF.out];exact HRow2.out
     case measure=>simp[RowKit.intOf];omega
    ·have HBF:Hid (TD lab y x=[x,y]):=by show _=_;unfold TD;rw[he,HLb.out,hq];rfl
     have HKD2:Hid (∀W:World,(∀k,k<w'.heap.size→W.heap[k]?=w'.heap[k]?)→W.ownsRow (w.heap.size+1) 25 4 (.slice sa2 Ln2 sc2) Ln2 (GA K2 Ln2)):=fun W hW=>by
      have h3:=HRow2.out.row
      rw[←HL2.out] at h3
      exact CA h3 fun k _ hk=>hW k hk
     have HBw2:Hid (Below w.heap.size w w'):=HB1.out.trans (HB2.out.mono (by omega))
     go_wp2_with (at_builtin;go_loud (refine AA _ rfl (.tmp 39) (.tmp 41) 23 rfl (w.heap.size+1) 25 i0 iz 4 80 Tryz.underlying23 HI.out.1 HI.out.2.1 HI.out.2.2.1 HI.out.2.2.2.1 HI.out.2.2.2.2 (by decide) (.slice sa2 Ln2 sc2) Ln2 (GA K2 Ln2) (by simp[Act.eval]) (HKD2.out _ (fun k hk=>Below.heap_alloc w' _ k hk)) ⟨w'.heap.size,0,none⟩ 1 1 [Value.string y0,.string y1,.slice la y2 lc,.slice ya y3 yc] (by simp[Act.eval]) rfl (HNY.out w') HOY.out (by decide) (by unfold maxLen;omega) (by omega) (by simp;omega) ?_))
     intro v5 w5 ho hg hw
     have hKA:KAt P (w.heap.size+1) W1 ((L++[x])++[y]) v5 w5:=by
      have e:=HL2.out
      subst e
      refine KAt.one (W:=w'.alloc (.cells #[.string y0,.string y1,.slice la y2 lc,.slice ya y3 yc] 25)) (x:=wA (.string y0) (.string y1) (.slice la y2 lc) (.slice ya y3 yc)) (y:=y) HRow2.out HB2.out (by omega) (bA _ _) ?_ ho hg (hw.imp id fun h=>h.trans (congrArg some (by simp)))
      exact HRow2.out.old (by omega) (by omega) HY.out (HBw2.out.alloc (by omega) _)
     clear ho hg hw
     rw[List.append_assoc] at hKA
     have HKA:=aA hKA
     obtain⟨K5,sa5,sc5,hv5,_,_⟩:=hKA
     subst hv5
     go_wp2
     go_roundw
     case rel=>
      refine⟨j+1,hjl,by go_num,?_⟩
      rw[HFl.out,HBF.out]
      exact HKA.out
     case measure=>simp[RowKit.intOf];omega
   ·obtain rfl:j=kn:=by omega
    have hiz:¬(j:Int)<j:=by omega
    have hLe:L=CB lab y l:=by rw[HLL.out,HKn.out,List.take_length]
    have HLe:=aA hLe
    clear hLe
    go_wp2
    go_ret
    refine⟨.slice sa Ln sc,K,rfl,?_,HBw.out⟩
    rw[HLn.out,←HLe.out]
    exact HRow.out
 ·go_enter Tryz.func88,Tryz.ntmps88
  go_upto_region 1 with fail
  rw[←HW1.out]
  clear HW1
  obtain⟨t0,t1,t2,t3,tf⟩:=gA HC1.out
  go_wp2_with (at_builtin;go_loud (refine AA _ rfl (.tmp 11) (.tmp 13) 23 rfl (w.heap.size+1) 25 i0 iz 4 80 Tryz.underlying23 HI.out.1 HI.out.2.1 HI.out.2.2.1 HI.out.2.2.2.1 HI.out.2.2.2.2 (by decide) (.slice none 0 0) 0 [] (by simp[Act.eval]) (World.ownsRow_nil _ _ _ _) ⟨W1.heap.size,0,none⟩ 1 1 [Value.string y0,.string y1,.slice la y2 lc,.slice ya y3 yc] (by simp[Act.eval]) rfl (HNY.out W1) HOY.out (by decide) (by unfold maxLen;omega) (by omega) (by simp;omega) ?_))
  intro v5 w5 ho hg hw
  have hKA:KAt P (w.heap.size+1) W1 [y] v5 w5:=by
   refine KAt.one (K:=fun _ _=>.bool false) (L:=[]) (W:=W1.alloc (.cells #[.string y0,.string y1,.slice la y2 lc,.slice ya y3 yc] 25)) (x:=wA (.string y0) (.string y1) (.slice la y2 lc) (.slice ya y3 yc)) (y:=y) (KRow.nil _ _ _ _) (Below.refl _ W1) (by omega) (bA _ _) ?_ ho hg (hw.imp id fun h=>h.trans (congrArg some (by simp)))
   exact KRow.old (KRow.nil P (w.heap.size+1) W1 fun _ _=>.bool false) (by omega) (by omega) HY.out (HB1.out.alloc (by omega) _)
  clear ho hg hw t0 t1 t2 t3 tf
  have HKA0:=aA hKA
  obtain⟨K5,sa5,sc5,hv5,_,_⟩:=hKA
  rw[List.length_singleton] at hv5
  subst hv5
  go_wp2_with fail
  go_loopw [7,8] (fun s yv wr=>PS P (w.heap.size+1) W1 lab y l s yv wr) (fun _ yv _=>(kn - RowKit.intOf yv).toNat)
  case atStart=>
   refine⟨0,Nat.zero_le _,rfl,?_⟩
   rw[List.take_zero,VM y he]
   exact HKA0.out
  case round=>
   obtain⟨j,hj,rfl,K,sa,sc,rfl,hrow,hb⟩:=hrel
   obtain⟨L,hLL⟩:∃L,L=CB lab y (l.take j):=⟨_,rfl⟩
   have HLL:=aA hLL
   rw[←hLL] at hrow
   rw[←hLL]
   have hLn:L.length≤2 * j+1:=by
    rw[hLL]
    have h1:=gM lab y (l.take j)
    rw[List.length_take] at h1
    omega
   clear hLL
   rw[←HKn.out] at hj
   have HRow:=aA hrow
   have HB:=aA hb
   have HBw:Hid (Below w.heap.size w wr):=HB1.out.trans (hb.mono (by omega))
   have hsw:=hb.size
   obtain⟨Ln,hLn2⟩:∃Ln,Ln=L.length:=⟨_,rfl⟩
   have HLn:=aA hLn2
   rw[←hLn2] at hrow hLn
   rw[←hLn2]
   clear hrow hb hLn2
   by_cases hin:j<kn
   ·have hiz:(j:Int)<kn:=by omega
    have hjl:j<l.length:=by rw[←HKn.out];exact hin
    obtain⟨x,hx⟩:∃x,l[j]?=some x:=⟨_,List.getElem?_eq_getElem hjl⟩
    obtain⟨b,o,hka,cx⟩:=HK.out.1 j hjl
    have hbB:=dA (cx 0 (by omega))
    subst hka
    have HLx0:=aA (HK.out.2 j x hx)
    obtain⟨u0,u1,⟨ua,uc,u2⟩,⟨uk,ukc,u3⟩⟩:=HLx0.out.forms
    have HLx:=aA (HLx0.out.vals u0 u1 u2 u3)
    have hcc:=fun c (hc:c<4)=>(HBw.out.cell (p:=⟨b,o+j * 4+c,none⟩) (by show b<_;omega)).trans (cx c hc)
    have x0:wr.cell? ⟨b,o+j * 4,none⟩=some (V j 0):=hcc 0 (by omega)
    have x1:=hcc 1 (by omega)
    have x2:=hcc 2 (by omega)
    have x3:=hcc 3 (by omega)
    rw[u0] at x0
    rw[u1] at x1
    rw[u2] at x2
    rw[u3] at x3
    have HFl:Hid (CB lab y (l.take (j+1))=L++TD lab y x):=by show _=_;rw[HLL.out];exact GI _ _ _ _ _ hx
    have HLb:Hid (zE lab x=(x.label.toList==lab.toList)):=rfl
    clear hcc cx hx u0 u1 u2 u3 HLx0
    generalize x.label=xl at *
    generalize x.head=xh at *
    generalize x.lines.length=xln at *
    generalize x.kids.length=xkn at *
    have HKD:Hid (∀W:World,(∀k,k<wr.heap.size→W.heap[k]?=wr.heap[k]?)→W.ownsRow (w.heap.size+1) 25 4 (.slice sa Ln sc) Ln (GA K Ln)):=fun W hW=>by
     have h3:=HRow.out.row
     rw[←HLn.out] at h3
     exact CA h3 fun k _ hk=>hW k hk
    have HNW:=aA (XD wr (.string xl) (.string xh) (.slice ua xln uc) (.slice uk xkn ukc))
    have HOC:Hid (∀u∈[Value.string xl,.string xh,.slice ua xln uc,.slice uk xkn ukc],u.oneCell'=true):=by
     intro u hu
     simp at hu
     rcases hu with rfl|rfl|rfl|rfl<;>rfl
    go_wp2_with (at_builtin;go_loud (refine AA _ rfl (.tmp 21) (.tmp 26) 23 rfl (w.heap.size+1) 25 i0 iz 4 80 Tryz.underlying23 HI.out.1 HI.out.2.1 HI.out.2.2.1 HI.out.2.2.2.1 HI.out.2.2.2.2 (by decide) (.slice sa Ln sc) Ln (GA K Ln) (by simp[Act.eval]) (HKD.out _ (fun k hk=>Below.heap_alloc wr _ k hk)) ⟨wr.heap.size,0,none⟩ 1 1 [Value.string xl,.string xh,.slice ua xln uc,.slice uk xkn ukc] (by simp[Act.eval]) rfl HNW.out HOC.out (by decide) (by unfold maxLen;omega) (by omega) (by simp;omega) ?_))
    intro v' w' ho hg hw
    have hKA:KAt P (w.heap.size+1) W1 (L++[x]) v' w':=by
     have e:=HLn.out
     subst e
     refine KAt.one (W:=wr.alloc (.cells #[.string xl,.string xh,.slice ua xln uc,.slice uk xkn ukc] 25)) (x:=wA (.string xl) (.string xh) (.slice ua xln uc) (.slice uk xkn ukc)) (y:=x) HRow.out HB.out (by omega) (bA _ _) ?_ ho hg (hw.imp id fun h=>h.trans (congrArg some (by simp)))
     exact HRow.out.old (by omega) (by omega) HLx.out (HBw.out.alloc (by omega) _)
    clear ho hg hw
    obtain⟨K2,sa2,sc2,hv',hrow2,hb2⟩:=hKA
    obtain⟨Ln2,hLn2⟩:∃Ln2,Ln2=(L++[x]).length:=⟨_,rfl⟩
    have hLn3:Ln2≤2 * j+2:=by
     have h5:(L++[x]).length=Ln+1:=by rw[List.length_append,←HLn.out];rfl
     omega
    have hs2:=hb2.size
    rw[←hLn2] at hv'
    subst hv'
    have HL2:=aA hLn2
    have HRow2:=aA hrow2
    have HB2:=aA hb2
    have x0':w'.cell? ⟨b,o+j * 4,none⟩=some (.string xl):=(hb2.cell (p:=⟨b,o+j * 4,none⟩) (by show b<_;omega)).trans ((HB.out.cell (p:=⟨b,o+j * 4,none⟩) (by show b<_;omega)).symm.trans x0)
    have hbx:=(hb2.block w.heap.size (by omega)).trans HC1.out
    obtain⟨t0,t1,t2,t3,tf⟩:=gA hbx
    clear hrow2 hb2 hLn2 hbx x0 x1 x2 x3
    have HBF:Hid (TD lab y x=[x]):=by show _=_;unfold TD;rw[he];rfl
    go_wp2
    go_roundw
    case rel=>
     refine⟨j+1,hjl,by go_num,K2,sa2,sc2,?_,?_,HB2.out⟩
     ·rw[HFl.out,HBF.out,HL2.out]
     ·rw[HFl.out,HBF.out];exact HRow2.out
    case measure=>simp[RowKit.intOf];omega
   ·obtain rfl:j=kn:=by omega
    have hiz:¬(j:Int)<j:=by omega
    have hLe:L=CB lab y l:=by rw[HLL.out,HKn.out,List.take_length]
    have HLe:=aA hLe
    clear hLe
    go_wp2
    go_ret
    refine⟨.slice sa Ln sc,K,rfl,?_,HBw.out⟩
    rw[HLn.out,←HLe.out]
    exact HRow.out
def OM(w:World)(ob q:Nat)(z:Int)(w':World):Prop:=((z≠67108865∧w'.heap=(w.setCell ⟨ob,q+2,none⟩ (.int .i64 z)).heap)∨(z=67108865∧w'.heap=((w.setCell ⟨ob,q+2,none⟩ (.int .i64 z)).setCell ⟨ob,q+1,none⟩ (.slice none 0 0)).heap))∧w'.os=w.os∧w'.tape=w.tape∧w'.output=w.output
theorem dR{w:World}{sb ob q:Nat}{x y:Int}{u:Value}(hs:w.cell? ⟨sb,3,none⟩=some (.int .i64 67108864))(hne:ob≠sb)(d1:w.cell? ⟨ob,q+1,none⟩=some u)(d2:w.cell? ⟨ob,q+2,none⟩=some (.int .i64 x))(hf:∀i,w.frozen? ⟨ob,i,none⟩=false)(hx:0≤x∧x≤67108865)(hy:0≤y∧y≤67108865):
 Calls Tryz.prog 105 #[.pointer (some ⟨sb,0,none⟩),.pointer (some ⟨ob,q,none⟩),.int .i64 y] w fun e w'=>e=.returned (.tuple #[])∧OM w ob q (min (x+y) 67108865) w':=by
 obtain⟨z,hz⟩:∃z:Int,z=min (x+y) 67108865:=⟨_,rfl⟩
 have hw:IntKind.i64.wrap (x+y)=x+y:=by rw[IntKind.wrap_i64];omega
 obtain⟨W,hW⟩:∃W,W=w.setCell ⟨ob,q+2,none⟩ (.int .i64 z):=⟨_,rfl⟩
 have HT:=aA (fun (W:World) (hc:W.cell? ⟨sb,3,none⟩=some (.int .i64 67108864))=>CG hc)
 have HZ:=aA hz
 clear hx hy
 go_enter Tryz.func105,Tryz.ntmps105
 go_upto_region 0 with fail
 go_cut [] (fun wx=>∃k,wx=W.drewN k)
 case first=>
  go_region_with (go_at_call 132;refine(HT.out _ ?_).mono ?_;(· exact hs);rintro e w1 ⟨rfl,ew⟩;subst w1)
  all_goals go_wp2
  all_goals go_meet
  all_goals exact⟨1,by rw[hW,hz];rfl⟩
 case rest=>
  obtain⟨k,hk⟩:=hcut
  have e3:wc.cell? ⟨sb,3,none⟩=some (.int .i64 67108864):=by rw[hk,hW];simp only[World.cell?_drewN];rw[World.cell?_setCell_far _ _ _ _ hne];exact hs
  have e2:wc.cell? ⟨ob,q+2,none⟩=some (.int .i64 z):=by rw[hk,hW];simp only[World.cell?_drewN];rw[World.cell?_setCell_same _ _ _ (by rw[d2])]
  have e1:wc.cell? ⟨ob,q+1,none⟩=some u:=by rw[hk,hW];simp only[World.cell?_drewN];rw[World.cell?_setCell_other _ _ _ _ (by intro e;injection e;omega)];exact d1
  have hf':∀i,wc.frozen? ⟨ob,i,none⟩=false:=fun i=>by rw[hk,hW];simp only[World.frozen?_drewN];rw[World.frozen?_setCell];exact hf i
  have HWe:=aA (aI hk hW)
  clear hk hW hs d1 d2 hf hw hz hne
  by_cases hz:z=67108865
  ·have HQ:=aA hz
   rw[hz] at e2
   clear hz
   go_wp2_with fail
   go_quiet ((first|(go_at_call 132;refine Calls.quiet_of_same (HT.out _ ?_);exact e3)))
   go_wp2
   refine bodyPost_end (results_none rfl _ _ _) rfl ⟨rfl,.inr ⟨by rw[←HZ.out];exact HQ.out,?_⟩,?_⟩
   ·rw[HWe.out.1,HWe.out.2,←HZ.out];rfl
   ·rw[HWe.out.1,HWe.out.2];exact⟨rfl,rfl,rfl⟩
  ·have hzn:=hz
   go_wp2_with fail
   go_quiet ((first|(go_at_call 132;refine Calls.quiet_of_same (HT.out _ ?_);exact e3)))
   go_wp2
   refine bodyPost_end (results_none rfl _ _ _) rfl ⟨rfl,.inl ⟨by rw[←HZ.out];exact hzn,?_⟩,?_⟩
   ·rw[HWe.out.1,HWe.out.2,←HZ.out];rfl
   ·rw[HWe.out.1,HWe.out.2];exact⟨rfl,rfl,rfl⟩
mutual
def EB:It→Nat
 | .mk _ _ l k=>1+l.length+JB k
def JB:List It→Nat
 | []=>0
 |t::r=>EB t+JB r
end
theorem ZB(t:It):EB t=1+t.lines.length+JB t.kids:=by cases t;rw[EB];rfl
theorem LM:∀(l:List It) (k:It),k∈l→EB k≤JB l
 |a::r,k,h=>by
  rw[JB]
  rcases List.mem_cons.1 h with rfl|h
  ·omega
  ·have:=LM r k h;omega
theorem jJ:∀(l m:List It),l.length=m.length→(∀(i:Nat) (x y:It),l[i]?=some x→m[i]?=some y→EB x=EB y)→JB l=JB m
 | [],[],_,_=>rfl
 |a::l,b::m,hl,h=>by
  rw[JB,JB,h 0 a b rfl rfl,jJ l m (by simpa using hl) fun i x y hx hy=>h (i+1) x y (by simpa using hx) (by simpa using hy)]
inductive TreeF(w:World)(N:Nat)(ex:Prop):Nat→Nat→It→Prop
 |mk (b o:Nat) (t:It) (la ka:Option Addr) (lc kc:Nat) (h2:w.cell? ⟨b,o+2,none⟩=some (.slice la t.lines.length lc)) (h3:w.cell? ⟨b,o+3,none⟩=some (.slice ka t.kids.length kc))
  (hl:t.lines.length≤1000000) (hn:t.kids.length≤100000) (hc:t.kids.length≤kc) (hu:UnF w ⟨b,o,none⟩) (hp:ex→PlnF w ⟨b,o,none⟩) (hN:b<N) (ha:t.kids≠[]→∃g q,ka=some ⟨g,q,none⟩)
  (hk:∀i k g q,t.kids[i]?=some k→ka=some ⟨g,q,none⟩→TreeF w N ex g (q+i * 4) k):TreeF w N ex b o t
structure KidsF(w:World)(N:Nat)(ex:Prop)(ka:Option Addr)(ls:List It):Prop where
 a:ls≠[]→∃g q,ka=some ⟨g,q,none⟩
 k:∀i k g q,ls[i]?=some k→ka=some ⟨g,q,none⟩→TreeF w N ex g (q+i * 4) k
section
variable {w:World} {N:Nat} {ex:Prop}
theorem TreeF.parts{b o:Nat}{t:It}(h:TreeF w N ex b o t):∃ka kc,NdW w b o t.lines.length t.kids.length ka kc∧t.kids.length≤kc∧t.kids.length≤100000∧b<N∧(ex→PlnF w ⟨b,o,none⟩)∧KidsF w N ex ka t.kids:=by
 cases h with
 |mk b o t la ka lc kc h2 h3 hl hn hc hu hp hN ha hk=>exact⟨ka,kc,⟨⟨la,lc,h2⟩,hl,h3,hu⟩,hc,hn,hN,hp,ha,hk⟩
theorem TreeF.det{b o:Nat}{t t':It}(h:TreeF w N ex b o t)(h':TreeF w N ex b o t'):EB t=EB t':=by
 induction h generalizing t' with
 |mk b o t la ka lc kc h2 h3 hl hn hc hu hp hN ha hk ih=>
  cases h' with
  |mk _ _ _ la' ka' lc' kc' h2' h3' hl' hn' hc' hu' hp' hN' ha' hk'=>
   rw[h2] at h2'
   rw[h3] at h3'
   injection h2' with h2'
   injection h2' with _ e1 _
   injection h3' with h3'
   injection h3' with e0 e2 _
   subst e0
   rw[ZB,ZB,e1,jJ t.kids t'.kids e2 fun i x y hx hy=>?_]
   obtain⟨g,q,hg⟩:=ha (fun e=>by rw[e] at hx;cases hx)
   exact ih i x g q hx hg (hk' i y g q hy hg)
theorem KidsF.tail{g q kc:Nat}{k:It}{r:List It}(h:KidsF w N ex (some ⟨g,q,none⟩) (k::r))(hc:r.length+1≤kc):KidsF w N ex (if kc=1 then some ⟨g,q,none⟩ else some ⟨g,q+4,none⟩) r:=by
 by_cases h1:kc=1
 ·have:r=[]:=List.eq_nil_of_length_eq_zero (by omega)
  subst this
  exact⟨fun e=>absurd rfl e,fun i k g q hi=>by cases hi⟩
 ·rw[if_neg h1]
  refine⟨fun _=>⟨g,q+4,rfl⟩,fun i k' g' q' hi e=>?_⟩
  injection e with e
  injection e with e1 e2 _
  subst e1 e2
  have:=h.k (i+1) k' g q (by simpa using hi) rfl
  rwa [show q+4+i * 4=q+(i+1) * 4 by omega]
theorem KidsF.head{g q:Nat}{k:It}{r:List It}(h:KidsF w N ex (some ⟨g,q,none⟩) (k::r)):TreeF w N ex g q k:=by
 have:=h.k 0 k g q rfl rfl
 rwa [Nat.zero_mul,Nat.add_zero] at this
structure EntOk(w:World)(N:Nat)(ex:Prop)(e:Ent):Prop where
 tr:TreeF w N ex e.nb e.no e.t
 ks:KidsF w N ex e.la e.ls
 cap:e.ls.length≤e.lc
 len:e.ls.length≤100000
 x0:0≤e.x
 x1:e.x≤67108865
 lt:∀k,k∈e.ls→EB k<EB e.t
theorem EntOk.of{b o kc:Nat}{t:It}{ka:Option Addr}{x:Int}(ht:TreeF w N ex b o t)(hc:t.kids.length≤kc)(hl:t.kids.length≤100000)(hk:KidsF w N ex ka t.kids)(h0:0≤x)(h1:x≤67108865):EntOk w N ex ⟨b,o,ka,kc,t.kids,x,t⟩:=
 ⟨ht,hk,hc,hl,h0,h1,fun k hk=>by have h1:=LM t.kids k hk;have h2:=ZB t;show EB k<EB t;omega⟩
end
def pN(e:Ent):Nat:=1+2 * JB e.ls
def bC:List Ent→Nat
 | []=>0
 |e::r=>pN e+bC r
theorem FK:∀(a b:List Ent),bC (a++b)=bC a+bC b
 | [],b=>by rw[List.nil_append];show _=0+_;omega
 |e::r,b=>by rw[List.cons_append];show pN e+bC (r++b)=pN e+bC r+bC b;rw[FK r b];omega
theorem wB(a:List Ent)(e:Ent):bC (a++[e])=bC a+(1+2 * JB e.ls):=by rw[FK];show _+(pN e+0)=_;rfl
theorem GK:∀l:List Ent,l.length≤bC l
 | []=>nR _
 |e::r=>by show r.length+1≤pN e+bC r;have:=GK r;unfold pN;omega
def sU(tot:Int):Int→List Ent→Prop
 |s,[]=>s=tot
 |s,e::r=>e.x+JB e.ls+s=EB e.t∧sU tot (EB e.t) r
theorem cO{tot:Int}:∀(l:List Ent) (s:Int),(∀e,e∈l→0≤e.x)→sU tot s l→s≤tot
 | [],s,_,h=>by have h:s=tot:=h;omega
 |e::r,s,ho,h=>by
  have h1:=cO r _ (fun e he=>ho e (List.mem_cons_of_mem _ he)) h.2
  have:=ho e List.mem_cons_self
  have:=h.1
  omega
def MF(w:World)(N:Nat)(ex:Prop)(E:List Ent)(c:Addr)(x:Int):Prop:=c.block<N∧0≤x∧x≤67108865∧(ex→∃b o t',c=⟨b,o,none⟩∧TreeF w N ex b o t'∧(x=EB t'∨∃e,e∈E∧c=⟨e.nb,e.no,none⟩))
abbrev nJ:Nat:=161
theorem RR(e:Ent):encE.f e=[.pointer (some ⟨e.nb,e.no,none⟩),.slice e.la e.ls.length e.lc,.int .i64 e.x]:=rfl
theorem YC(l:List Ent):(encE.all l).length=l.length * 3:=encE.all_len l
theorem PC(l:List Ent)(e:Ent):encE.all (l++[e])=encE.all l++[.pointer (some ⟨e.nb,e.no,none⟩),.slice e.la e.ls.length e.lc,.int .i64 e.x]:=by rw[encE.all_app,encE.all_cons,encE.all_nil,List.append_nil,RR]
theorem RowG.last{w:World}{B g n cap:Nat}{l:List Ent}{e:Ent}(h:RowG encE nJ w B (.slice (some ⟨g,0,none⟩) n cap) (l++[e])):w.cell? ⟨g,l.length * 3,none⟩=some (.pointer (some ⟨e.nb,e.no,none⟩))∧w.cell? ⟨g,l.length * 3+1,none⟩=some (.slice e.la e.ls.length e.lc)∧w.cell? ⟨g,l.length * 3+2,none⟩=some (.int .i64 e.x):=by
 have hc:=h.cells (g:=g) rfl
 have hl:=YC l
 rw[PC] at hc
 refine⟨hc _ _ ?_,hc _ _ ?_,hc _ _ ?_⟩
 ·rw[List.getElem?_append_right (by omega),hl,Nat.sub_self];rfl
 ·rw[List.getElem?_append_right (by omega),hl,show l.length * 3+1 - l.length * 3=1 by omega];rfl
 ·rw[List.getElem?_append_right (by omega),hl,show l.length * 3+2 - l.length * 3=2 by omega];rfl
theorem RowG.form{w:World}{B:Nat}{v:Value}{l:List Ent}(h:RowG encE nJ w B v l)(hl:l≠[]):∃g cap,v=.slice (some ⟨g,0,none⟩) l.length cap∧B≤g∧g<w.heap.size∧∃cur,w.heap[g]?=some (.cells cur nJ (0,0)):=by
 rcases h.row.2 with ⟨_,e⟩|⟨g,cap,cur,e,hb,hg,_⟩
 ·exact absurd (List.eq_nil_of_length_eq_zero e) hl
 ·exact⟨g,cap,e,hb,(Array.getElem?_eq_some_iff.1 hg).1,cur,hg⟩
theorem RowG.left{w:World}{B g n cap:Nat}{l:List Ent}{e:Ent}(h:RowG encE nJ w B (.slice (some ⟨g,0,none⟩) n cap) (l++[e]))(la:Option Addr)(lc:Nat)(ls:List It):RowG encE nJ (w.setCell ⟨g,l.length * 3+1,none⟩ (.slice la ls.length lc)) B (.slice (some ⟨g,0,none⟩) n cap) (l++[{e with la:=la,lc:=lc,ls:=ls}]):=by
 have hn:n=(l++[e]).length:=by
  rcases h.row.2 with ⟨e1,_⟩|⟨_,_,_,e1,_⟩
  ·cases e1
  ·injection e1
 subst hn
 have hs:=World.ownsRow.stored h.row (l.length * 3+1) (.slice la ls.length lc)
 refine⟨?_,by have:=h.len;simpa using this⟩
 have e1:(encE.all (l++[e])).set (l.length * 3+1) (.slice la ls.length lc)=encE.all (l++[{e with la:=la,lc:=lc,ls:=ls}]):=by
  rw[PC,PC,List.set_append_right _ _ (by rw[YC];omega),YC,show l.length * 3+1 - l.length * 3=1 by omega]
  rfl
 rw[e1] at hs
 have e2:(l++[{e with la:=la,lc:=lc,ls:=ls}]).length=(l++[e]).length:=by simp
 rw[e2]
 exact hs.1
theorem RowG.sum{w:World}{B g n cap:Nat}{l:List Ent}{e:Ent}(h:RowG encE nJ w B (.slice (some ⟨g,0,none⟩) n cap) (l++[e]))(x:Int):RowG encE nJ (w.setCell ⟨g,l.length * 3+2,none⟩ (.int .i64 x)) B (.slice (some ⟨g,0,none⟩) n cap) (l++[{e with x:=x}]):=by
 have hn:n=(l++[e]).length:=by
  rcases h.row.2 with ⟨e1,_⟩|⟨_,_,_,e1,_⟩
  ·cases e1
  ·injection e1
 subst hn
 have hs:=World.ownsRow.stored h.row (l.length * 3+2) (.int .i64 x)
 refine⟨?_,by have:=h.len;simpa using this⟩
 have e1:(encE.all (l++[e])).set (l.length * 3+2) (.int .i64 x)=encE.all (l++[{e with x:=x}]):=by
  rw[PC,PC,List.set_append_right _ _ (by rw[YC];omega),YC,show l.length * 3+2 - l.length * 3=2 by omega]
  rfl
 rw[e1] at hs
 have e2:(l++[{e with x:=x}]).length=(l++[e]).length:=by simp
 rw[e2]
 exact hs.1
theorem RowG.heap{w w':World}{B:Nat}{v:Value}{l:List Ent}(h:RowG encE nJ w B v l)(hh:w'.heap=w.heap):RowG encE nJ w' B v l:=h.on fun g _ _ _=>by rw[hh]
theorem RowG.pop{w:World}{B g n cap:Nat}{l:List Ent}{e:Ent}(h:RowG encE nJ w B (.slice (some ⟨g,0,none⟩) n cap) (l++[e])):RowG encE nJ w B (.slice (some ⟨g,0,none⟩) l.length cap) l:=by
 have hn:n=l.length+1:=by
  rcases h.row.2 with ⟨e1,_⟩|⟨_,_,_,e1,_⟩
  ·cases e1
  ·injection e1 with _ e1 _;simpa using e1
 have h1:=h.row
 have e1:(l++[e]).length=n:=by simpa using hn.symm
 rw[e1] at h1
 have h2:=oP h1 l.length (by omega)
 refine⟨?_,by have:=h.len;rw[List.length_append] at this;omega⟩
 rw[PC,List.take_append_of_le_length (by rw[YC];exact nR _),List.take_of_length_le (by rw[YC];exact nR _)] at h2
 exact h2
theorem MpF.x{a b:World}{mb B:Nat}(h:MpF a b mb)(hB:B≤a.heap.size):BelX B mb a b:=⟨h.os,h.tape,h.output,h.size,fun k hk hn=>h.block k (by omega) hn⟩
structure WgI(w:World)(N sb mb:Nat)(ex:Prop)(tot s:Int)(v:Value)(E:List Ent)(wr:World):Prop where
 row:RowG encE nJ wr w.heap.size v E
 sc:SC wr sb mb ex (MF w N ex E)
 fr:BelX w.heap.size mb w wr
 ok:∀e,e∈E→EntOk w N ex e
 dec:E.Pairwise fun a b=>EB b.t<EB a.t
 ch:ex→sU tot s E.reverse
section
variable {w wr:World} {N sb mb:Nat} {ex:Prop} {tot s:Int} {v:Value} {E0:List Ent} {e:Ent}
theorem MF.less{E E':List Ent}{c:Addr}{x:Int}(h:MF w N ex E c x)(hE:∀e,e∈E→e∈E'):MF w N ex E' c x:=
 ⟨h.1,h.2.1,h.2.2.1,fun hx=>by
   obtain⟨b,o,t',h1,h2,h3⟩:=h.2.2.2 hx
   exact⟨b,o,t',h1,h2,h3.imp (fun h=>h) fun ⟨e,he,h4⟩=>⟨e,hE e he,h4⟩⟩⟩
theorem WgI.top(h:WgI w N sb mb ex tot s v (E0++[e]) wr):∃g cap,v=.slice (some ⟨g,0,none⟩) (E0.length+1) cap∧w.heap.size≤g∧g≠sb∧g≠mb∧g<wr.heap.size∧(∀i,wr.frozen? ⟨g,i,none⟩=false)∧wr.cell? ⟨g,E0.length * 3,none⟩=some (.pointer (some ⟨e.nb,e.no,none⟩))∧wr.cell? ⟨g,E0.length * 3+1,none⟩=some (.slice e.la e.ls.length e.lc)∧wr.cell? ⟨g,E0.length * 3+2,none⟩=some (.int .i64 e.x)∧E0.length+1≤cap:=by
 obtain⟨g,cap,e1,h1,h2,cur,h3⟩:=h.row.form (by simp)
 have e1':v=.slice (some ⟨g,0,none⟩) (E0.length+1) cap:=by rw[e1];simp
 subst e1'
 have hr:=h.row
 obtain⟨c0,c1,c2⟩:=hr.last
 refine⟨g,cap,rfl,h1,fun e2=>?_,fun e2=>?_,h2,fun i=>?_,c0,c1,c2,?_⟩
 ·have:=h.sc.bk
  rw[←e2,h3] at this
  injection this with this
  injection this with _ this _
  exact absurd this (by decide)
 ·obtain⟨es,cl,h4,_⟩:=h.sc.mp
  rw[←e2,h3] at h4
  cases h4
 ·unfold World.frozen?
  rw[h3]
  simp
 ·rcases hr.row.2 with ⟨e1,_⟩|⟨_,_,_,e1,_,_,h5,_⟩
  ·cases e1
  ·injection e1 with _ _ e1
   subst e1
   simpa using h5
theorem WgI.low(h:WgI w N sb mb ex tot s v E0 wr)(hN:N≤w.heap.size)(hmb:N≤mb):∀k,k<N→wr.heap[k]?=w.heap[k]?:=fun k hk=>h.fr.block k (by omega) (by omega)
theorem WgI.upd(h:WgI w N sb mb ex tot 0 v (E0++[e]) wr)(hN:N≤w.heap.size)(hmb:N≤mb)(hls:e.ls=[]):
 ∃w2,(Instr.mapUpdate 155 (.map (some mb)) (.pointer (some ⟨e.nb,e.no,none⟩)) (.int .i64 e.x)).run Tryz.prog wr.drew=.ok () w2∧MpF wr w2 mb∧(ex→e.x=EB e.t)∧∀g cap,v=.slice (some ⟨g,0,none⟩) (E0.length+1) cap→WgI w N sb mb ex tot e.x (.slice (some ⟨g,0,none⟩) E0.length cap) E0 w2:=by
 have hok:=h.ok e (by simp)
 have hx:ex→e.x=EB e.t:=fun hx=>by
  have:=h.ch hx
  rw[List.reverse_append] at this
  have:=this.1
  rw[hls,JB] at this
  omega
 have hlow:=h.low hN hmb
 obtain⟨ka,kc,hn,_,_,hb,hp,_⟩:=hok.tr.parts
 have hbk:wr.drew.heap[e.nb]?=w.heap[e.nb]?:=hlow e.nb hb
 have huf:UnF wr.drew ⟨e.nb,e.no,none⟩:=hn.uf.on hbk
 have hmfe:∀c,c.block<N→(ex→c=⟨e.nb,e.no,none⟩)→MF w N ex E0 c e.x:=fun c hcl hc=>⟨hcl,hok.x0,hok.x1,fun hh=>⟨e.nb,e.no,e.t,hc hh,hok.tr,.inl (hx hh)⟩⟩
 obtain⟨w2,hrun,hm2,hg⟩:=(h.sc.mp.drewN 1).store huf (fun hh=>(hp hh).on hbk) (x:=e.x) (F':=MF w N ex E0) (fun c y hF hne=>⟨hF.1,hF.2.1,hF.2.2.1,fun hh=>by
  obtain⟨b,o,t',h1,h2,h3⟩:=hF.2.2.2 hh
  refine⟨b,o,t',h1,h2,h3.imp (fun h=>h) fun ⟨e',he',h4⟩=>?_⟩
  rcases List.mem_append.1 he' with he'|he'
  ·exact⟨e',he',h4⟩
  ·obtain rfl:e'=e:=by simpa using he'
   exact absurd h4 (hne hh)⟩) (hmfe _ hb fun _=>rfl) (fun c y hF hc=>hmfe c hF.1 hc)
 have hgb:∀k,k<wr.heap.size→k≠mb→w2.heap[k]?=wr.heap[k]?:=fun k hk hne=>hg.block k hk (fun e=>hne (by injection e))
 have hfr:MpF wr w2 mb:=⟨hg.os,hg.tape,hg.output,hg.size,hgb⟩
 refine⟨w2,hrun,hfr,hx,fun g cap hv=>?_⟩
 obtain⟨g',cap',hv',hg1,hg2,hg3,hg4,_⟩:=h.top
 rw[hv] at hv'
 injection hv' with hv' _ hc
 injection hv' with hv'
 injection hv' with hv' _ _
 subst hv' hc
 have hr:=h.row
 rw[hv] at hr
 refine⟨hr.pop.on fun q hq _ _=>?_,h.sc.on (hgb sb h.sc.lt h.sc.ne) hm2,h.fr.trans (hfr.x h.fr.size),fun e' he'=>h.ok e' (by simp[he']),(List.pairwise_append.1 h.dec).1,fun hh=>?_⟩
 ·obtain rfl:g=q:=Option.some.inj hq
  exact hgb g hg4 hg3
 ·have:=h.ch hh
  rw[List.reverse_append] at this
  rw[hx hh]
  exact this.2
theorem WgI.addR{w3:World}{g cap:Nat}{y:Int}(h:WgI w N sb mb ex tot s (.slice (some ⟨g,0,none⟩) (E0.length+1) cap) (E0++[e]) wr)(htot:ex→tot≤67108864)(hgw:w.heap.size≤g)(hgs:g≠sb)(hgm:g≠mb)(hy:0≤y∧y≤67108865)(hs:ex→y=s)(ha:OM wr g (E0.length * 3) (min (e.x+y) 67108865) w3):
 ∃e',WgI w N sb mb ex tot 0 (.slice (some ⟨g,0,none⟩) (E0.length+1) cap) (E0++[e']) w3∧bC (E0++[e'])≤bC (E0++[e]):=by
 have hok:=h.ok e (by simp)
 have hx0:=hok.x0
 have hx1:=hok.x1
 have hdec:∀e':Ent,e'.t=e.t→(E0++[e']).Pairwise fun a b=>EB b.t<EB a.t:=fun e' he'=>by
  have:=List.pairwise_append.1 h.dec
  refine List.pairwise_append.2 ⟨this.1,by simp,fun a ha b hb=>?_⟩
  obtain rfl:b=e':=by simpa using hb
  rw[he']
  exact this.2.2 a ha e (by simp)
 have hmf:∀e':Ent,e'.nb=e.nb→e'.no=e.no→∀c x,MF w N ex (E0++[e]) c x→MF w N ex (E0++[e']) c x:=fun e' h1 h2 c x hF=>⟨hF.1,hF.2.1,hF.2.2.1,fun hh=>by
  obtain⟨b,o,t',h3,h4,h5⟩:=hF.2.2.2 hh
  refine⟨b,o,t',h3,h4,h5.imp (fun h=>h) fun ⟨a,ha,h6⟩=>?_⟩
  rcases List.mem_append.1 ha with ha|ha
  ·exact⟨a,by simp[ha],h6⟩
  ·obtain rfl:a=e:=by simpa using ha
   exact⟨e',by simp,by rw[h6,h1,h2]⟩⟩
 have hok':∀e':Ent,EntOk w N ex e'→∀a,a∈E0++[e']→EntOk w N ex a:=fun e' he' a ha=>by
  rcases List.mem_append.1 ha with ha|ha
  ·exact h.ok a (by simp[ha])
  ·obtain rfl:a=e':=by simpa using ha
   exact he'
 obtain⟨ha,hos,htp,hou⟩:=ha
 have key:∀W:World,W.heap=w3.heap→(∀k,k≠g→W.heap[k]?=wr.heap[k]?)→(∀a,UnF wr a→UnF W a)→(∀a,PlnF wr a→PlnF W a)→W.heap.size=wr.heap.size→∀e':Ent,e'.nb=e.nb→e'.no=e.no→SC w3 sb mb ex (MF w N ex (E0++[e']))∧BelX w.heap.size mb w w3:=fun W hW hk hu hp hz e' h1 h2=>by
  have hu3:∀a,UnF wr a→UnF w3 a:=fun a h=>⟨by have:=(hu a h).1;unfold World.cell? at this ⊢;rwa [hW] at this,by have:=(hu a h).2;unfold World.frozen? at this ⊢;rwa [hW] at this⟩
  have hp3:∀a,PlnF wr a→PlnF w3 a:=fun a h=>by have:=hp a h;unfold PlnF at this ⊢;rwa [hW] at this
  refine⟨h.sc.on (by rw[←hW];exact hk sb hgs.symm) ((h.sc.mp.imp (hmf e' h1 h2)).on (by rw[←hW];exact hk mb hgm.symm) hu3 hp3),⟨hos.trans h.fr.os,htp.trans h.fr.tape,hou.trans h.fr.output,by rw[←hW,hz];exact h.fr.size,fun k hk' hne=>?_⟩⟩
  rw[←hW,hk k (by omega)]
  exact h.fr.block k hk' hne
 have hch:ex→e.x+JB e.ls+s=EB e.t∧sU tot (EB e.t) E0.reverse:=fun hh=>by
  have:=h.ch hh
  rwa [List.reverse_append] at this
 have hle:ex→(EB e.t:Int)≤tot:=fun hh=>cO _ _ (fun a ha=>(h.ok a (by simp at ha;simp[ha])).x0) (hch hh).2
 rcases ha with ⟨hz,hh⟩|⟨hz,hh⟩
 ·obtain⟨k1,k2⟩:=key _ hh.symm (fun k hk=>Below.heap_setCell _ _ _ _ hk) (fun a ha=>ha.set _) (fun a ha=>ha.set _ _ _) (by simp) {e with x:=min (e.x+y) 67108865} rfl rfl
  refine⟨{e with x:=min (e.x+y) 67108865},⟨(h.row.sum _).heap hh,k1,k2,hok' _ ⟨hok.tr,hok.ks,hok.cap,hok.len,by show 0≤min _ _;omega,by show min _ _≤_;omega,hok.lt⟩,hdec _ rfl,fun hx=>?_⟩,by rw[wB,wB];exact nR _⟩
  rw[List.reverse_append]
  refine⟨?_,(hch hx).2⟩
  show min (e.x+y) 67108865+JB e.ls+0=EB e.t
  have:=(hch hx).1
  have:=hs hx
  omega
 ·obtain⟨k1,k2⟩:=key _ hh.symm (fun k hk=>by rw[Below.heap_setCell _ _ _ _ hk,Below.heap_setCell _ _ _ _ hk]) (fun a ha=>(ha.set _).set _) (fun a ha=>(ha.set _ _ _).set _ _ _) (by simp) {e with x:=min (e.x+y) 67108865,la:=none,lc:=0,ls:=[]} rfl rfl
  refine⟨{e with x:=min (e.x+y) 67108865,la:=none,lc:=0,ls:=[]},⟨((h.row.sum (min (e.x+y) 67108865)).left none 0 []).heap hh,k1,k2,hok' _ ⟨hok.tr,⟨fun e=>absurd rfl e,fun i k g q hi=>by cases hi⟩,nR _,Nat.zero_le _,by show 0≤min _ _;omega,by show min _ _≤_;omega,fun k hk=>by cases hk⟩,hdec _ rfl,fun hx=>?_⟩,by rw[wB,wB];show _+(1+2 * JB [])≤_;rw[JB];omega⟩
  exfalso
  have:=(hch hx).1
  have:=hs hx
  have:=hle hx
  have:=htot hx
  omega
theorem MpP.onF{W W':World}{F:Addr→Int→Prop}(h:MpP W mb ex F)(hb:W'.heap[mb]?=W.heap[mb]?)(hF:∀a x,F a x→W'.heap[a.block]?=W.heap[a.block]?):MpP W' mb ex F:=by
 obtain⟨es,cl,h1,h2,h3⟩:=h
 exact⟨es,cl,hb.trans h1,fun e he=>(by obtain⟨a,x,h3,h4,h5,h6,h7⟩:=h2 e he;exact⟨a,x,h3,h4,h5.on (hF a x h7),fun hx=>(h6 hx).on (hF a x h7),h7⟩),h3⟩
theorem WgI.take{g cap:Nat}{k:It}{r:List It}{la:Option Addr}(h:WgI w N sb mb ex tot 0 (.slice (some ⟨g,0,none⟩) (E0.length+1) cap) (E0++[e]) wr)(hN:N≤w.heap.size)(hgw:w.heap.size≤g)(hgs:g≠sb)(hgm:g≠mb)(hls:e.ls=k::r)(hk:KidsF w N ex la r):WgI w N sb mb ex tot (EB k) (.slice (some ⟨g,0,none⟩) (E0.length+1) cap) (E0++[{e with la:=la,lc:=e.lc - 1,ls:=r}]) (wr.setCell ⟨g,E0.length * 3+1,none⟩ (.slice la r.length (e.lc - 1))):=by
 have hok:=h.ok e (by simp)
 have hcap:=hok.cap
 have hlen:=hok.len
 rw[hls,List.length_cons] at hcap hlen
 have hb:∀q,q≠g→(wr.setCell ⟨g,E0.length * 3+1,none⟩ (.slice la r.length (e.lc - 1))).heap[q]?=wr.heap[q]?:=fun q hq=>Below.heap_setCell _ _ _ _ hq
 refine⟨h.row.left la (e.lc - 1) r,h.sc.on (hb sb hgs.symm) ((h.sc.mp.imp fun c x hF=>?_).onF (hb mb hgm.symm) fun a x hF=>hb _ (by have:=hF.1;omega)),⟨h.fr.os,h.fr.tape,h.fr.output,by simpa using h.fr.size,fun q hq hne=>(hb q (by omega)).trans (h.fr.block q hq hne)⟩,fun a ha=>?_,?_,fun hx=>?_⟩
 ·refine⟨hF.1,hF.2.1,hF.2.2.1,fun hh=>?_⟩
  obtain⟨b,o,t',h3,h4,h5⟩:=hF.2.2.2 hh
  refine⟨b,o,t',h3,h4,h5.imp (fun h=>h) fun ⟨a,ha,h6⟩=>?_⟩
  rcases List.mem_append.1 ha with ha|ha
  ·exact⟨a,by simp[ha],h6⟩
  ·obtain rfl:a=e:=by simpa using ha
   exact⟨{a with la:=la,lc:=a.lc - 1,ls:=r},by simp,h6⟩
 ·rcases List.mem_append.1 ha with ha|ha
  ·exact h.ok a (by simp[ha])
  ·obtain rfl:a=_:=by simpa using ha
   exact⟨hok.tr,hk,by show r.length≤e.lc - 1;omega,by show r.length≤100000;omega,hok.x0,hok.x1,fun q hq=>hok.lt q (by rw[hls];exact List.mem_cons_of_mem _ hq)⟩
 ·have:=List.pairwise_append.1 h.dec
  refine List.pairwise_append.2 ⟨this.1,by simp,fun a ha b hb=>?_⟩
  obtain rfl:b=_:=by simpa using hb
  exact this.2.2 a ha e (by simp)
 ·have:=h.ch hx
  rw[List.reverse_append] at this ⊢
  refine⟨?_,this.2⟩
  have h1:=this.1
  rw[hls,JB] at h1
  show e.x+JB r+EB k=EB e.t
  omega
theorem WgI.kid_lt{k:It}{r:List It}(h:WgI w N sb mb ex tot s v (E0++[e]) wr)(hls:e.ls=k::r):∀a,a∈E0++[e]→EB k<EB a.t:=by
 intro a ha
 have h1:=(h.ok e (by simp)).lt k (by rw[hls];simp)
 rcases List.mem_append.1 ha with ha|ha
 ·have:=(List.pairwise_append.1 h.dec).2.2 a ha e (by simp)
  omega
 ·obtain rfl:a=e:=by simpa using ha
  exact h1
theorem MF.told{E:List Ent}{b o:Nat}{k:It}{c:Addr}{x:Int}(h:MF w N ex E c x)(hc:ex→c=⟨b,o,none⟩)(hk:TreeF w N ex b o k)(hlt:∀a,a∈E→EB k<EB a.t)(ho:∀a,a∈E→EntOk w N ex a):0≤x∧x≤67108865∧(ex→x=EB k):=by
 refine⟨h.2.1,h.2.2.1,fun hx=>?_⟩
 obtain⟨b',o',t',h1,h2,h3⟩:=h.2.2.2 hx
 rw[hc hx] at h1 h3
 injection h1 with h1 h1' _
 subst h1 h1'
 rcases h3 with h3|⟨e,he,h4⟩
 ·rw[h3,h2.det hk]
 ·injection h4 with h4 h5 _
  subst h4 h5
  have h6:=(ho e he).tr.det hk
  have:=hlt e he
  omega
theorem MF.open{E:List Ent}{b o kc:Nat}{ka:Option Addr}{k:It}{x:Int}(hk:TreeF w N ex b o k)(hb:b<N):
 (∀c y,MF w N ex E c y→(ex→c≠⟨b,o,none⟩)→MF w N ex (E++[⟨b,o,ka,kc,k.kids,x,k⟩]) c y)∧MF w N ex (E++[⟨b,o,ka,kc,k.kids,x,k⟩]) ⟨b,o,none⟩ 67108865∧∀c y,MF w N ex E c y→(ex→c=⟨b,o,none⟩)→MF w N ex (E++[⟨b,o,ka,kc,k.kids,x,k⟩]) c 67108865:=by
 have h0:∀c,c.block<N→(ex→c=⟨b,o,none⟩)→MF w N ex (E++[⟨b,o,ka,kc,k.kids,x,k⟩]) c 67108865:=fun c hcl hc=>⟨hcl,by omega,by omega,fun hx=>⟨b,o,k,hc hx,hk,.inr ⟨⟨b,o,ka,kc,k.kids,x,k⟩,by simp,hc hx⟩⟩⟩
 exact⟨fun c y h _=>h.less fun e he=>by simp[he],h0 _ hb fun _=>rfl,fun c y h hc=>h0 c h.1 hc⟩
theorem WgI.more{E:List Ent}{b o kc m:Nat}{ka:Option Addr}{k:It}{v':Value}{w2 w3:World}(h:WgI w N sb mb ex tot (EB k) v E wr)(hN:N≤w.heap.size)(hsb:sb<w.heap.size)(hmb:mb<w.heap.size)(hk:TreeF w N ex b o k)(hc:k.kids.length≤kc)(hl:k.kids.length≤100000)(hkk:KidsF w N ex ka k.kids)(hm:m=k.lines.length)(hm2:m≤1000000)(hlt:∀a,a∈E→EB k<EB a.t)
 (hs2:SC w2 sb mb ex (MF w N ex (E++[⟨b,o,ka,kc,k.kids,1+m,k⟩]))) (hf2:MpF wr w2 mb) (hr:RowG encE nJ w3 w.heap.size v' (E++[⟨b,o,ka,kc,k.kids,1+m,k⟩])) (hb:Below w.heap.size w2 w3):
 WgI w N sb mb ex tot 0 v' (E++[⟨b,o,ka,kc,k.kids,1+m,k⟩]) w3:=by
 refine⟨hr,hs2.on (hb.block sb hsb) (hs2.mp.onF (hb.block mb hmb) fun a x hF=>hb.block _ (by have:=hF.1;omega)),(h.fr.trans (hf2.x h.fr.size)).trans ⟨hb.os,hb.tape,hb.output,hb.size,fun q hq _=>hb.block q hq⟩,fun a ha=>?_,?_,fun hx=>?_⟩
 ·rcases List.mem_append.1 ha with ha|ha
  ·exact h.ok a ha
  ·obtain rfl:a=_:=by simpa using ha
   exact .of hk hc hl hkk (by omega) (by omega)
 ·refine List.pairwise_append.2 ⟨h.dec,by simp,fun a ha c hc=>?_⟩
  obtain rfl:c=_:=by simpa using hc
  exact hlt a ha
 ·rw[List.reverse_append]
  refine⟨?_,h.ch hx⟩
  show (1:Int)+m+JB k.kids+0=EB k
  have:=ZB k
  omega
end
theorem CK:∀(l:List It) (k:It),IB (l++[k])=max (IB l) (xB k)
 | [],k=>by rw[List.nil_append,IB,IB,IB];omega
 |a::r,k=>by rw[List.cons_append,IB,IB,CK r k];omega
theorem FO{l:List It}{i:Nat}{k:It}(h:l[i]?=some k):IB (l.take (i+1))=max (IB (l.take i)) (xB k):=by
 obtain⟨hi,e⟩:=List.getElem?_eq_some_iff.1 h
 rw[List.take_succ_eq_append_getElem hi,e,CK]
theorem DK:∀(N:Nat) (t:It),jA t≤N→FewIt t→xB t≤1000→∀(v:Nat→Value) (w:World) (P:Nat→Prop),Lies w P v t→
 Calls Tryz.prog 82 #[.agg #[v 0,v 1,v 2,v 3]] w fun e w'=>e=.returned (.int .i64 (xB t))∧Below w.heap.size w w'
 |0,t,h,_,_,_,_,_,_=>by have:=uA t;omega
 |N+1,t,h,hF,hlv,v,w,P,hL=>by
  obtain⟨f0,f1,⟨la,lc,f2⟩,⟨ka,kc,f3⟩⟩:=hL.forms
  obtain⟨_,VK,hkk,hkr⟩:=hL.kidsAt f3
  have hkl:=hF.get.2.1
  have HIH:=aA (fun k (hk:k∈t.kids)=>DK N k (by have:=rB hk;omega) (hF.get.2.2.2.2.2 k hk) (by have:=AE t.kids k hk;rw[DC] at hlv;omega))
  have HLv:=aA (DC t)
  have hlk:IB t.kids≤1000:=by rw[DC] at hlv;omega
  have HLe:Hid (∀i,IB (t.kids.take i)≤1000):=fun i=>Nat.le_trans (BK fun k hk=>AE t.kids k (List.mem_of_mem_take hk)) hlk
  rw[f0,f1,f2,f3]
  obtain⟨WB,hWB⟩:∃WB,WB=w.alloc (.cells #[.string t.label,.string t.head,.slice la t.lines.length lc,.slice ka t.kids.length kc] 25):=⟨_,rfl⟩
  have hb0:Below w.heap.size w WB:=by rw[hWB];exact bA _ _
  have hbx:WB.heap[w.heap.size]?=some (.cells #[.string t.label,.string t.head,.slice la t.lines.length lc,.slice ka t.kids.length kc] 25 (0,0)):=by rw[hWB];exact heap_alloc_new _ _
  obtain⟨x0,x1,x2,x3,xf⟩:=gA hbx
  have HX:=aA hWB
  have HB0:=aA hb0
  have HK:=aA (aI hkk hkr)
  clear hWB hb0 hbx hL f0 f1 f2 f3 hF hkk hkr x0 x1 x2 xf hlk hlv
  generalize xB t=lv at *
  generalize hkn:t.kids.length=kn at *
  have HKn:=aA hkn
  clear hkn
  go_enter Tryz.func82,Tryz.ntmps82
  go_upto_region 1 with fail
  rw[←HX.out]
  go_wp2_with fail
  go_loopw [3,9] (fun mo i wr=>∃j:Nat,j≤kn∧i=.int .i64 j∧mo=.int .i64 (IB (t.kids.take j):Nat)∧Below w.heap.size w wr) (fun _ i _=>(kn - RowKit.intOf i).toNat)
  case atStart=>exact⟨0,by omega,rfl,rfl,HB0.out⟩
  case round=>
   obtain⟨j,hj,rfl,rfl,hb⟩:=hrel
   have HB:=aA hb
   clear hb
   have hle:=HLe.out j
   by_cases hjn:j<kn
   ·have hjz:(j:Int)<kn:=by omega
    obtain⟨k,hk⟩:∃k,t.kids[j]?=some k:=⟨_,List.getElem?_eq_getElem (by have:=HKn.out;omega)⟩
    obtain⟨b,o,rfl,_,hc⟩:=HK.out.1 j (by have:=HKn.out;omega)
    have hkL:=(HK.out.2 j k hk)
    obtain⟨g0,g1,⟨la2,lc2,g2⟩,ka2,kc2,g3⟩:=hkL.forms
    have c0:=(HB.out.cell (p:=⟨b,o+j * 4,none⟩) (dA (hc 0 (by omega)))).trans (hc 0 (by omega))
    have c1:=(HB.out.cell (p:=⟨b,o+j * 4+1,none⟩) (dA (hc 1 (by omega)))).trans (hc 1 (by omega))
    have c2:=(HB.out.cell (p:=⟨b,o+j * 4+2,none⟩) (dA (hc 2 (by omega)))).trans (hc 2 (by omega))
    have c3:=(HB.out.cell (p:=⟨b,o+j * 4+3,none⟩) (dA (hc 3 (by omega)))).trans (hc 3 (by omega))
    rw[g0] at c0
    rw[g1] at c1
    rw[g2] at c2
    rw[g3] at c3
    obtain⟨W2,hW2⟩:∃W2,W2=wr.alloc (.cells #[.string k.label,.string k.head,.slice la2 k.lines.length lc2,.slice ka2 k.kids.length kc2] 25):=⟨_,rfl⟩
    have hb2:Below w.heap.size w W2:=by rw[hW2];exact HB.out.alloc HB.out.size _
    obtain⟨z0,z1,z2,z3,zf⟩:=gA (W:=W2) (g:=wr.heap.size) (by rw[hW2];exact heap_alloc_new _ _)
    have hC:=HIH.out k (List.mem_of_getElem? hk) (VK j) W2 P (hkL.bel hb2)
    rw[g0,g1,g2,g3] at hC
    have HC:=aA hC
    have HB2:=aA hb2
    have HT:=aA (FO hk)
    have hle2:=HLe.out (j+1)
    rw[HT.out] at hle2
    have HW2:=aA hW2
    clear hC hb2 hc hkL g0 g1 g2 g3 hW2 hk
    generalize xB k=lk at *
    have hlk2:lk≤1000:=by omega
    generalize IB (t.kids.take j)=lj at *
    go_upto_region 5 with fail
    rw[←HW2.out]
    go_wp2_with fail
    refine HC.out.mono ?_
    rintro e w3 ⟨rfl,hb3⟩
    have H3:=aA hb3
    clear hb3
    go_wp2
    go_roundw
    case rel=>
     refine⟨j+1,by omega,by go_num,?_,HB2.out.trans (H3.out.mono HB2.out.size)⟩
     rw[HT.out]
     first|rfl|(congr 1;omega)|simp
    case measure=>simp[RowKit.intOf];omega
   ·obtain rfl:j=kn:=by omega
    have HE:Hid (lv=IB (t.kids.take j)+1):=by show _=_;rw[HLv.out,←HKn.out,List.take_length]
    generalize IB (t.kids.take j)=lj at *
    have hw:IntKind.i64.wrap ((lj:Int)+1)=(lj:Int)+1:=by rw[IntKind.wrap_i64];omega
    go_wp2
    go_ret
    rw[HE.out]
    exact⟨rfl,HB.out⟩
end Go.Proofs.YtpbolcjcmkmalaaGreatDoor

import Derived.Test.YtpbolcjcmkmalaaGreatDoorAq00
import Derived.Test.YtpbolcjcmkmalaaGreatDoorAq06
import Derived.BigQuiet
import Derived.Deep.QuietTactic
import Derived.Deep.RegionHeld3
import Derived.Test.YtpbolcjcmkmalaaGreatDoorAq01
import Derived.Test.YtpbolcjcmkmalaaGreatDoorAq11
set_option maxHeartbeats 20000000
set_option maxRecDepth 20000
namespace Go.Proofs.YtpbolcjcmkmalaaGreatDoor
open Go.RowKit Go.Extern.Stop Go.Stop Go.Extern
theorem Lies.linesAt{w:World}{P:Nat→Prop}{v:Nat→Value}{t:It}(h:Lies w P v t){la:Option Addr}{n lc:Nat}(e:v 2=.slice la n lc):n=t.lines.length∧∀i s,t.lines[i]?=some s→∃b o,la=some ⟨b,o,none⟩∧P b∧w.cell? ⟨b,o+i,none⟩=some (.string s):=by
 cases h with
 |mk v t la' ka lc' kc V h0 h1 h2 h3 hl hk hr hlc hkc=>
  rw[h2] at e
  injection e with e1 e2 e3
  subst e1 e2 e3
  exact⟨rfl,hl⟩
inductive SmallIt:It→Prop
 |mk (t:It) (h1:t.lines.length≤100000) (h2:t.kids.length≤100000) (h3:∀k∈t.kids,SmallIt k):SmallIt t
structure BoxS(w wr:World)(a2 a3 b2 b3:Value):Prop where
 c2:wr.cell? ⟨w.heap.size,2,none⟩=some a2
 c3:wr.cell? ⟨w.heap.size,3,none⟩=some a3
 d2:wr.cell? ⟨w.heap.size+1,2,none⟩=some b2
 d3:wr.cell? ⟨w.heap.size+1,3,none⟩=some b3
 bel:Below w.heap.size w wr
 lt:w.heap.size+2≤wr.heap.size
theorem BoxS.start(w:World)(a0 a1 a2 a3 b0 b1 b2 b3:Value)(t:TypeId):BoxS w ((w.alloc (.cells #[a0,a1,a2,a3] t)).alloc (.cells #[b0,b1,b2,b3] t)) a2 a3 b2 b3:=by
 refine⟨?_,?_,?_,?_,((bA _ _).alloc (by simp) _),by simp⟩
 all_goals simp
theorem BoxS.on{w wr wr':World}{a2 a3 b2 b3:Value}(h:BoxS w wr a2 a3 b2 b3)(hb:Below wr.heap.size wr wr'):BoxS w wr' a2 a3 b2 b3:=by
 have:=h.lt
 have:=hb.size
 exact⟨(hb.cell (p:=⟨w.heap.size,2,none⟩) (by show w.heap.size<_;omega)).trans h.c2,(hb.cell (p:=⟨w.heap.size,3,none⟩) (by show w.heap.size<_;omega)).trans h.c3,(hb.cell (p:=⟨w.heap.size+1,2,none⟩) (by show w.heap.size+1<_;omega)).trans h.d2,(hb.cell (p:=⟨w.heap.size+1,3,none⟩) (by show w.heap.size+1<_;omega)).trans h.d3,h.bel.trans (hb.mono (by omega)),by omega⟩
theorem mJ(w:World)(q:Nat):Below w.heap.size w (w.drewN q):=⟨rfl,rfl,rfl,nR _,fun _ _=>rfl⟩
set_option maxRecDepth 10000 in
theorem XK{t:It}(hS:SmallIt t):∀(w:World) (P Q:Nat→Prop) (v v':Nat→Value),Lies w P v t→Lies w Q v' t→
 Calls Tryz.prog 12 #[.agg #[v 0,v 1,v 2,v 3],.agg #[v' 0,v' 1,v' 2,v' 3]] w fun e w'=>e=.returned (.bool true)∧Below w.heap.size w w':=by
 induction hS with
 |mk t h1 h2 h3 ih=>
  intro w P Q v v' hL hL'
  obtain⟨f0,f1,⟨la,lc,f2⟩,⟨ka,kc,f3⟩⟩:=hL.forms
  obtain⟨g0,g1,⟨la',lc',g2⟩,⟨ka',kc',g3⟩⟩:=hL'.forms
  have hl:=(hL.linesAt f2).2
  have hl':=(hL'.linesAt g2).2
  obtain⟨_,V,hk,hr⟩:=hL.kidsAt f3
  obtain⟨_,V',hk',hr'⟩:=hL'.kidsAt g3
  rw[f0,f1,f2,f3,g0,g1,g2,g3]
  have HIH:=aA ih
  have HLn:=aA (aI hl hl')
  have HKd:=aA (aI hk (aI hr (aI hk' hr')))
  obtain⟨ln,hln⟩:∃ln,ln=t.lines.length:=⟨_,rfl⟩
  obtain⟨kn,hkn⟩:∃kn,kn=t.kids.length:=⟨_,rfl⟩
  rw[←hln] at h1
  rw[←hkn] at h2
  rw[←hln,←hkn]
  have HLk:=aA (aI hln hkn)
  clear hL hL' hl hl' hk hr hk' hr' hln hkn ih h3 f0 f1 f2 f3 g0 g1 g2 g3
  have e1:(t.label.toList !=t.label.toList)=false:=by simp
  have e2:(t.head.toList !=t.head.toList)=false:=by simp
  generalize t.label=lb at *
  generalize t.head=hd at *
  go_enter Tryz.func12,Tryz.ntmps12
  have HBx:=aA (BoxS.start w (.string lb) (.string hd) (.slice la ln lc) (.slice ka kn kc) (.string lb) (.string hd) (.slice la' ln lc') (.slice ka' kn kc') 25)
  go_wp2_with fail
  obtain⟨w2,hw2⟩:∃w2,w2=(w.alloc (.cells #[.string lb,.string hd,.slice la ln lc,.slice ka kn kc] 25)).alloc (.cells #[.string lb,.string hd,.slice la' ln lc',.slice ka' kn kc'] 25):=⟨_,rfl⟩
  rw[←hw2] at HBx
  simp only[←hw2]
  clear hw2
  go_loopw [5] (fun t wr=>∃i:Nat,i≤ln∧t=.int .i64 i∧BoxS w wr (.slice la ln lc) (.slice ka kn kc) (.slice la' ln lc') (.slice ka' kn kc')) (fun t _=>(ln - RowKit.intOf t).toNat)
  case atStart=>exact⟨0,by omega,rfl,HBx.out⟩
  case round=>
   obtain⟨i,hi,rfl,hbx⟩:=hrel
   have HX:=aA hbx
   have c2:=hbx.c2
   have d2:=hbx.d2
   clear hbx
   by_cases hin:i<ln
   ·have hiz:(i:Int)<ln:=by omega
    obtain⟨x,hx⟩:∃x,t.lines[i]?=some x:=⟨_,List.getElem?_eq_getElem (by rw[←HLk.out.1];exact hin)⟩
    obtain⟨b,o,rfl,_,cx⟩:=HLn.out.1 i x hx
    obtain⟨b',o',rfl,_,cx'⟩:=HLn.out.2 i x hx
    have y1:=(HX.out.bel.cell (p:=⟨b,o+i,none⟩) (dA cx)).trans cx
    have y2:=(HX.out.bel.cell (p:=⟨b',o'+i,none⟩) (dA cx')).trans cx'
    have ex:(x.toList !=x.toList)=false:=by simp
    clear hx cx cx'
    go_wp2_with fail
    go_quiet (fail)
    go_wp2
    go_roundw
    case rel=>exact⟨i+1,by omega,by go_num,HX.out.on (mJ _ _)⟩
    case measure=>simp[RowKit.intOf];omega
   ·obtain rfl:ln=i:=by omega
    go_wp2_with fail
    go_loopw [6] (fun t wr=>∃i:Nat,i≤kn∧t=.int .i64 i∧BoxS w wr (.slice la ln lc) (.slice ka kn kc) (.slice la' ln lc') (.slice ka' kn kc')) (fun t _=>(kn - RowKit.intOf t).toNat)
    case atStart=>exact⟨0,by omega,rfl,HX.out⟩
    case round=>
     obtain⟨i,hi,rfl,hbx⟩:=hrel
     have HX2:=aA hbx
     have c3:=hbx.c3
     have d3:=hbx.d3
     clear hbx c2 d2
     by_cases hin:i<kn
     ·have hiz:(i:Int)<kn:=by omega
      have hik:i<t.kids.length:=by rw[←HLk.out.2];exact hin
      obtain⟨x,hx⟩:∃x,t.kids[i]?=some x:=⟨_,List.getElem?_eq_getElem hik⟩
      obtain⟨b,o,rfl,_,cx⟩:=HKd.out.1 i hik
      obtain⟨b',o',rfl,_,cx'⟩:=HKd.out.2.2.1 i hik
      have hLx:=(HKd.out.2.1 i x hx).bel HX2.out.bel
      have hLx':=(HKd.out.2.2.2 i x hx).bel HX2.out.bel
      have hbl:=dA (cx 0 (by omega))
      have hbl':=dA (cx' 0 (by omega))
      have HC:=aA (fun W (hW:Below wr.heap.size wr W)=>HIH.out x (List.mem_of_getElem? hx) W P Q (V i) (V' i) (hLx.bel hW) (hLx'.bel hW))
      obtain⟨f0,f1,⟨pa,pc,f2⟩,⟨pk,pkc,f3⟩⟩:=hLx.forms
      obtain⟨g0,g1,⟨qa,qc,g2⟩,⟨qk,qkc,g3⟩⟩:=hLx'.forms
      have y0:=(HX2.out.bel.cell (p:=⟨b,o+i * 4,none⟩) hbl).trans (cx 0 (by omega))
      have y1:=(HX2.out.bel.cell (p:=⟨b,o+i * 4+1,none⟩) hbl).trans (cx 1 (by omega))
      have y2:=(HX2.out.bel.cell (p:=⟨b,o+i * 4+2,none⟩) hbl).trans (cx 2 (by omega))
      have y3:=(HX2.out.bel.cell (p:=⟨b,o+i * 4+3,none⟩) hbl).trans (cx 3 (by omega))
      have z0:=(HX2.out.bel.cell (p:=⟨b',o'+i * 4,none⟩) hbl').trans (cx' 0 (by omega))
      have z1:=(HX2.out.bel.cell (p:=⟨b',o'+i * 4+1,none⟩) hbl').trans (cx' 1 (by omega))
      have z2:=(HX2.out.bel.cell (p:=⟨b',o'+i * 4+2,none⟩) hbl').trans (cx' 2 (by omega))
      have z3:=(HX2.out.bel.cell (p:=⟨b',o'+i * 4+3,none⟩) hbl').trans (cx' 3 (by omega))
      rw[f0] at y0
      rw[f1] at y1
      rw[f2] at y2
      rw[f3] at y3
      rw[g0] at z0
      rw[g1] at z1
      rw[g2] at z2
      rw[g3] at z3
      rw[f0,f1,f2,f3,g0,g1,g2,g3] at HC
      generalize x.label=xl at *
      generalize x.head=xh at *
      generalize x.lines.length=xn at *
      generalize x.kids.length=xk at *
      have hlb:b<wr.heap.size:=by have:=HX2.out.bel.size;omega
      have hlb':b'<wr.heap.size:=by have:=HX2.out.bel.size;omega
      clear hLx hLx' cx cx' f0 f1 f2 f3 g0 g1 g2 g3 hx hbl hbl'
      go_wp2_with fail
      go_region_held3 (fun W=>W.cell? ⟨w.heap.size,3,none⟩=some (.slice (some ⟨b,o,none⟩) kn kc)∧W.cell? ⟨w.heap.size+1,3,none⟩=some (.slice (some ⟨b',o',none⟩) kn kc')∧W.cell? ⟨b,o+i * 4,none⟩=some (.string xl)∧W.cell? ⟨b,o+i * 4+1,none⟩=some (.string xh)∧W.cell? ⟨b,o+i * 4+2,none⟩=some (.slice pa xn pc)∧W.cell? ⟨b,o+i * 4+3,none⟩=some (.slice pk xk pkc)∧W.cell? ⟨b',o'+i * 4,none⟩=some (.string xl)∧W.cell? ⟨b',o'+i * 4+1,none⟩=some (.string xh)∧W.cell? ⟨b',o'+i * 4+2,none⟩=some (.slice qa xn qc)∧W.cell? ⟨b',o'+i * 4+3,none⟩=some (.slice qk xk qkc)) (go_keep)
       (first
         |(go_at_call 12
           refine(HC.out _ (mJ _ 1)).mono ?_
           rintro e w5 ⟨rfl,hb5⟩
           have HB5:=aA ((mJ wr 1).trans hb5)
           have k0:=(HB5.out.cell (p:=⟨b,o+i * 4,none⟩) hlb).trans y0
           have k1:=(HB5.out.cell (p:=⟨b,o+i * 4+1,none⟩) hlb).trans y1
           have k2:=(HB5.out.cell (p:=⟨b,o+i * 4+2,none⟩) hlb).trans y2
           have k3:=(HB5.out.cell (p:=⟨b,o+i * 4+3,none⟩) hlb).trans y3
           have j0:=(HB5.out.cell (p:=⟨b',o'+i * 4,none⟩) hlb').trans z0
           have j1:=(HB5.out.cell (p:=⟨b',o'+i * 4+1,none⟩) hlb').trans z1
           have j2:=(HB5.out.cell (p:=⟨b',o'+i * 4+2,none⟩) hlb').trans z2
           have j3:=(HB5.out.cell (p:=⟨b',o'+i * 4+3,none⟩) hlb').trans z3
           have m3:=(HX2.out.on HB5.out).c3
           have n3:=(HX2.out.on HB5.out).d3
           clear hb5))
      go_wp2
      go_roundw
      case rel=>exact⟨i+1,by omega,by go_num,HX2.out.on HB5.out⟩
      case measure=>simp[RowKit.intOf];omega
     ·obtain rfl:kn=i:=by omega
      go_wp2
      go_ret
      exact⟨rfl,HX2.out.bel⟩
set_option maxRecDepth 100000 in
theorem MR{w:World}{B n i:Nat}{v:Value}{xs:List Value}(h:w.ownsRow B 25 4 v n xs)(h1:∀u∈xs,u.oneCell'=true)(hi:i<n)(hn:n≤1000000):
 Calls Tryz.prog 79 #[v,.int .i64 i,.int .i64 ((i:Int)+1)] w fun e w'=>(∃v',e=.returned v'∧v'.ownBlock=v.ownBlock∧w'.ownsRow B 25 4 v' (n - 1) (xs.take (i * 4)++xs.drop ((i+1) * 4)))∧w.grownBy w' v.ownBlock:=by
 obtain⟨g,cap,cur,rfl,hr⟩:=UK h (by omega)
 obtain⟨i0,iz,hI0,hI1,hI2,hI3,hI4⟩:=Tryz.infoItem
 have hle:=hr.le
 have hmx:cap≤9223372036854775807:=by have:=hr.mx;unfold maxLen at this;omega
 have hlen:=hr.len
 obtain⟨A,hA,hnews⟩:∃A:Addr,(if cap=i+1 then some (⟨g,0,none⟩:Addr) else some ⟨g,(i+1) * 4,none⟩)=some A∧Hid (∀j u,(xs.drop ((i+1) * 4))[j]?=some u→w.drew.cell? (A.add j)=some u):=by
  by_cases hq:cap=i+1
  ·refine⟨⟨g,0,none⟩,by simp[hq],fun j u hu=>?_⟩
   have h0:(xs.drop ((i+1) * 4)).length=0:=by rw[List.length_drop,hlen];omega
   rw[List.length_eq_zero_iff.1 h0] at hu
   simp at hu
  ·refine⟨⟨g,(i+1) * 4,none⟩,by simp[hq],fun j u hu=>?_⟩
   rw[List.getElem?_drop] at hu
   rw[Addr.add_lit]
   exact hr.cell hu
 have hml:(xs.drop ((i+1) * 4)).length=(n - (i+1)) * 4:=by rw[List.length_drop,hlen];omega
 have s1:Hid ((xs.drop ((i+1) * 4)).length=(n - (i+1)) * 4):=hml
 have s2:Hid (∀u∈xs.drop ((i+1) * 4),u.oneCell'=true):=fun u hu=>h1 u (List.mem_of_mem_drop hu)
 have s3:Hid (∀j,j<(xs.drop ((i+1) * 4)).length→(w.drew.cell? ⟨g,0+i * 4+j,none⟩).isSome=true∧w.drew.frozen? ⟨g,0+i * 4+j,none⟩=false):=by
  intro j hj
  rw[hml] at hj
  exact⟨hr.some' (by omega),hr.frozen _⟩
 obtain⟨W1,hW1⟩:∃W1,W1=w.drew.setCells g (i * 4) (xs.drop ((i+1) * 4)):=⟨_,rfl⟩
 have hrd:RowB w.drew B 25 4 g cap n cur xs:=⟨hr.hB,hr.blk,hr.le,hr.mx,hr.sz,hr.is,hr.len⟩
 have hcl:cur.toList.length=cap * 4:=by simp[hr.sz]
 obtain⟨cur1,hr1,hcur1⟩:=hrd.set (i * 4) (xs.drop ((i+1) * 4)) (by rw[hml];omega) (m:=n - 1) (by omega) (ys:=xs.take (i * 4)++xs.drop ((i+1) * 4)) (by
  rw[List.take_append_of_le_length (by rw[List.length_append,List.length_take,hml,hcl];omega),List.take_of_length_le (by rw[List.length_append,List.length_take,hml,hcl];omega)]
  congr 1
  rw[←hr.is,List.take_take,Nat.min_eq_left (by omega)]) (by rw[List.length_append,List.length_take,hml,hlen];omega)
 rw[←hW1] at hr1
 obtain⟨zs,hzl,hclr⟩:=RG (P:=Tryz.prog) W1 23 25 0 (.agg #[.string ⟨#[]⟩,.string ⟨#[]⟩,.slice none 0 0,.slice none 0 0]) 4 Tryz.underlying23 Tryz.zeroValue25 rfl (by intro i hi;match i,hi with|0,_=>rfl|1,_=>rfl|2,_=>rfl|3,_=>rfl) g ((i+(n - (i+1))) * 4) (n - (i+(n - (i+1)))) (cap - (i+(n - (i+1)))) (by omega) (fun j hj=>hr1.some' (by omega)) (fun j hj=>hr1.frozen _)
 obtain⟨cur2,hr2,_⟩:=hr1.set ((i+(n - (i+1))) * 4) zs (by rw[hzl];omega) (m:=n - 1) (by omega) (ys:=xs.take (i * 4)++xs.drop ((i+1) * 4)) (by
  have e:(i+(n - (i+1))) * 4=(n - 1) * 4:=by omega
  rw[e,List.append_assoc,List.take_append_of_le_length (by rw[List.length_take];simp[hr1.sz];omega),List.take_of_length_le (by rw[List.length_take];omega)]
  exact hr1.is) (by rw[List.length_append,List.length_take,hml,hlen];omega)
 have HR2:=aA hr2
 have HG:Hid (w.grownBy (W1.setCells g ((i+(n - (i+1))) * 4) zs) (some g)):=by
  rw[hW1]
  exact eC (eC (BD (CD w _)) _ _) _ _
 have hic:i≤cap:=by omega
 have hic1:i+1≤cap:=by omega
 have hwr:IntKind.i64.wrap ((i:Int)+1)=(i:Int)+1:=by rw[IntKind.wrap_i64];omega
 have hp0:(0:Int)≤(i:Int)+1:=by omega
 have hp1:(i:Int)+1≤(n:Int):=by omega
 have hp2:((i:Int)+1).toNat=i+1:=by omega
 have hp3:(i:Int)≤(i:Int)+1:=by omega
 have hp4:((i:Int)==(i:Int)+1)=false:=by rw[beq_eq_false_iff_ne];omega
 have hp5:¬((i:Int)=(i:Int)+1):=by omega
 have hp6:(n:Int)≤(cap:Int):=by omega
 have hm1:i+(n - (i+1))≤n:=by omega
 have hm2:¬(cap=i+(n - (i+1))):=by omega
 have hm4:((i:Int)+((n - (i+1):Nat):Int))≤(n:Int):=by omega
 have HN1:Hid (i+(n - (i+1))=n - 1):=by show _=_;omega
 clear h hr hrd hr1 hr2 hcur1 hcl hzl hml hlen
 go_enter Tryz.func79,Tryz.ntmps79
 go_wp2_with fail
 go_region_law (refine step_append_room rfl (.tmp 22) (.tmp 25) 23 rfl 25 i0 4 Tryz.underlying23 hI0 hI2 g 0 i cap (by simp[Act.eval,Act.put]) A (n - (i+1)) (cap - (i+1)) (xs.drop ((i+1) * 4)) (by simp[Act.eval,Act.put]) s1.out hnews.out s2.out (by omega) s3.out ?_)
 rw[←hW1]
 have HCl:=aA hclr
 have HW:=aA hW1
 clear hclr hW1
 go_wp2_with (refine rE _ rfl (.tmp 31) 23 rfl _ rfl HCl.out ?_)
 go_ret
 refine⟨⟨_,rfl,rfl,?_⟩,HG.out⟩
 have h9:=HR2.out.row
 rw[←HN1.out] at h9 ⊢
 exact h9
set_option maxRecDepth 100000 in
theorem NR{w:World}{B n i:Nat}{v:Value}{xs:List Value}(h:w.ownsRow B 9 1 v n xs)(h1:∀u∈xs,u.oneCell'=true)(hi:i<n)(hn:n≤1000000):
 Calls Tryz.prog 113 #[v,.int .i64 i,.int .i64 ((i:Int)+1)] w fun e w'=>(∃v',e=.returned v'∧v'.ownBlock=v.ownBlock∧w'.ownsRow B 9 1 v' (n - 1) (xs.take (i)++xs.drop (i+1)))∧w.grownBy w' v.ownBlock:=by
 obtain⟨g,cap,cur,rfl,hr⟩:=UK h (by omega)
 obtain⟨i0,iz,hI0,hI1,hI2,hI3,hI4⟩:=Tryz.infoStr
 have hle:=hr.le
 have hmx:cap≤9223372036854775807:=by have:=hr.mx;unfold maxLen at this;omega
 have hlen:=hr.len
 obtain⟨A,hA,hnews⟩:∃A:Addr,(if cap=i+1 then some (⟨g,0,none⟩:Addr) else some ⟨g,i+1,none⟩)=some A∧Hid (∀j u,(xs.drop (i+1))[j]?=some u→w.drew.cell? (A.add j)=some u):=by
  by_cases hq:cap=i+1
  ·refine⟨⟨g,0,none⟩,by simp[hq],fun j u hu=>?_⟩
   have h0:(xs.drop (i+1)).length=0:=by rw[List.length_drop,hlen];omega
   rw[List.length_eq_zero_iff.1 h0] at hu
   simp at hu
  ·refine⟨⟨g,i+1,none⟩,by simp[hq],fun j u hu=>?_⟩
   rw[List.getElem?_drop] at hu
   rw[Addr.add_lit]
   exact hr.cell hu
 have hml:(xs.drop (i+1)).length=(n - (i+1)) * 1:=by rw[List.length_drop,hlen];omega
 have s1:Hid ((xs.drop (i+1)).length=(n - (i+1)) * 1):=hml
 have s2:Hid (∀u∈xs.drop (i+1),u.oneCell'=true):=fun u hu=>h1 u (List.mem_of_mem_drop hu)
 have s3:Hid (∀j,j<(xs.drop (i+1)).length→(w.drew.cell? ⟨g,0+i * 1+j,none⟩).isSome=true∧w.drew.frozen? ⟨g,0+i * 1+j,none⟩=false):=by
  intro j hj
  rw[hml] at hj
  exact⟨hr.some' (by omega),hr.frozen _⟩
 obtain⟨W1,hW1⟩:∃W1,W1=w.drew.setCells g (i) (xs.drop (i+1)):=⟨_,rfl⟩
 have hrd:RowB w.drew B 9 1 g cap n cur xs:=⟨hr.hB,hr.blk,hr.le,hr.mx,hr.sz,hr.is,hr.len⟩
 have hcl:cur.toList.length=cap * 1:=by simp[hr.sz]
 obtain⟨cur1,hr1,hcur1⟩:=hrd.set (i) (xs.drop (i+1)) (by rw[hml];omega) (m:=n - 1) (by omega) (ys:=xs.take (i)++xs.drop (i+1)) (by
  rw[List.take_append_of_le_length (by rw[List.length_append,List.length_take,hml,hcl];omega),List.take_of_length_le (by rw[List.length_append,List.length_take,hml,hcl];omega)]
  congr 1
  rw[←hr.is,List.take_take,Nat.min_eq_left (by omega)]) (by rw[List.length_append,List.length_take,hml,hlen];omega)
 rw[←hW1] at hr1
 obtain⟨zs,hzl,hclr⟩:=RG (P:=Tryz.prog) W1 22 9 0 (.string ⟨#[]⟩) 1 Tryz.underlying22 Tryz.zeroValue9 rfl (by intro i hi;match i,hi with|0,_=>rfl) g (i+(n - (i+1))) (n - (i+(n - (i+1)))) (cap - (i+(n - (i+1)))) (by omega) (fun j hj=>hr1.some' (by omega)) (fun j hj=>hr1.frozen _)
 obtain⟨cur2,hr2,_⟩:=hr1.set (i+(n - (i+1))) zs (by rw[hzl];omega) (m:=n - 1) (by omega) (ys:=xs.take (i)++xs.drop (i+1)) (by
  have e:i+(n - (i+1))=(n - 1) * 1:=by omega
  rw[e,List.append_assoc,List.take_append_of_le_length (by rw[List.length_take];simp[hr1.sz];omega),List.take_of_length_le (by rw[List.length_take];omega)]
  exact hr1.is) (by rw[List.length_append,List.length_take,hml,hlen];omega)
 have HR2:=aA hr2
 have HG:Hid (w.grownBy (W1.setCells g (i+(n - (i+1))) zs) (some g)):=by
  rw[hW1]
  exact eC (eC (BD (CD w _)) _ _) _ _
 have hic:i≤cap:=by omega
 have hic1:i+1≤cap:=by omega
 have hwr:IntKind.i64.wrap ((i:Int)+1)=(i:Int)+1:=by rw[IntKind.wrap_i64];omega
 have hp0:(0:Int)≤(i:Int)+1:=by omega
 have hp1:(i:Int)+1≤(n:Int):=by omega
 have hp2:((i:Int)+1).toNat=i+1:=by omega
 have hp3:(i:Int)≤(i:Int)+1:=by omega
 have hp4:((i:Int)==(i:Int)+1)=false:=by rw[beq_eq_false_iff_ne];omega
 have hp5:¬((i:Int)=(i:Int)+1):=by omega
 have hp6:(n:Int)≤(cap:Int):=by omega
 have hm1:i+(n - (i+1))≤n:=by omega
 have hm2:¬(cap=i+(n - (i+1))):=by omega
 have hm4:((i:Int)+((n - (i+1):Nat):Int))≤(n:Int):=by omega
 have HN1:Hid (i+(n - (i+1))=n - 1):=by show _=_;omega
 clear h hr hrd hr1 hr2 hcur1 hcl hzl hml hlen
 go_enter Tryz.func113,Tryz.ntmps113
 go_wp2_with fail
 go_region_law (refine step_append_room rfl (.tmp 22) (.tmp 25) 22 rfl 9 i0 1 Tryz.underlying22 hI0 hI2 g 0 i cap (by simp[Act.eval,Act.put]) A (n - (i+1)) (cap - (i+1)) (xs.drop (i+1)) (by simp[Act.eval,Act.put]) s1.out hnews.out s2.out (by omega) s3.out ?_)
 rw[←hW1]
 have HCl:=aA hclr
 have HW:=aA hW1
 clear hclr hW1
 go_wp2_with (refine rE _ rfl (.tmp 31) 22 rfl _ rfl HCl.out ?_)
 go_ret
 refine⟨⟨_,rfl,rfl,?_⟩,HG.out⟩
 have h9:=HR2.out.row
 rw[←HN1.out] at h9 ⊢
 exact h9
end Go.Proofs.YtpbolcjcmkmalaaGreatDoor

import Derived.Test.YtpbolcjcmkmalaaGreatDoorAq00
import Derived.Test.YtpbolcjcmkmalaaGreatDoorAq39
set_option maxHeartbeats 20000000
set_option maxRecDepth 20000
namespace Go.Proofs.YtpbolcjcmkmalaaGreatDoor
open Go.RowKit Go.Extern.Stop Go.Stop Go.Extern
theorem oE:∀(p:List ByteArray) (t y:It),Rg t→eA t p=some y→∀s,s∈p→isLab s=true
 | [],_,_,_,_,s,h=>by cases h
 |q::r,t,y,ht,e,s,h=>by
  obtain⟨i,z,hi,hz,e⟩:=IA e
  have hm:=List.mem_of_getElem? hz
  rcases List.mem_cons.1 h with rfl|h
  ·obtain⟨k,hk,hl⟩:=LL hi
   rw[hz] at hk
   injection hk with hk
   rw[←hl,←hk]
   exact ht.is.2.2.1 z hm
  ·exact oE r z y (ht.is.2.2.2 z hm) e s h
theorem iH{w:World}{B:Nat}{va:Option Addr}{vc:Nat}{ls:List ByteArray}(h:w.ownsRow B 9 1 (.slice va ls.length vc) ls.length (ls.map Value.string)):WayIs w va ls:=⟨fun i s hs=>by
 obtain⟨g,e,_,hg,hc⟩:=LC h hs
 exact⟨g,0,e,hg,by rw[Nat.zero_add];exact hc⟩⟩
def GoneAt(P:Nat→Prop)(W:World)(T:It)(p:Value)(wx:World):Prop:=∃(g:Nat) (s h:ByteArray) (la ka:Option Addr) (ln lc kn kc:Nat),p=.pointer (some ⟨g,0,none⟩)∧Below W.heap.size W wx∧W.heap.size≤g∧wx.heap[g]?=some (.cells #[.string s,.string h,.slice la ln lc,.slice ka kn kc] rA (0,0))∧s=T.label∧h=T.head∧ln=T.lines.length∧kn=T.kids.length∧Lies wx (fun k=>k≠g∧(P k∨W.heap.size≤k)) (wA (.string s) (.string h) (.slice la ln lc) (.slice ka kn kc)) T
theorem GoneAt.new{P:Nat→Prop}{W wr:World}{n:Nat}{T:It}{la ka:Option Addr}{lc kc:Nat}(hb:Below W.heap.size W wr)(hn:W.heap.size≤n)(hl:Lies wr (fun k=>P k∨n≤k) (wA (.string T.label) (.string T.head) (.slice la T.lines.length lc) (.slice ka T.kids.length kc)) T):
 GoneAt P W T (.pointer (some ⟨wr.heap.size,0,none⟩)) (wr.alloc (.cells #[.string T.label,.string T.head,.slice la T.lines.length lc,.slice ka T.kids.length kc] rA)):=by
 refine⟨wr.heap.size,_,_,la,ka,_,lc,_,kc,rfl,hb.alloc hb.size _,hb.size,heap_alloc_new _ _,rfl,rfl,rfl,rfl,hl.step fun b hb' hp=>⟨Below.heap_alloc _ _ _ hb',by omega,?_⟩⟩
 exact hp.imp id fun h=>Nat.le_trans hn h
theorem GoneAt.old{P:Nat→Prop}{W wr:World}{n g:Nat}{T:It}{la ka:Option Addr}{lc kc:Nat}{a b c d:Value}(hb:Below W.heap.size W wr)(hP:∀k,P k→k<W.heap.size)(hg:W.heap.size≤g)(hgn:g<n)(hr:wr.heap[g]?=some (.cells #[a,b,c,d] rA (0,0)))(hl:Lies wr (fun k=>P k∨n≤k) (wA (.string T.label) (.string T.head) (.slice la T.lines.length lc) (.slice ka T.kids.length kc)) T):
 GoneAt P W T (.pointer (some ⟨g,0,none⟩)) ((((wr.setCell ⟨g,0,none⟩ (.string T.label)).setCell ⟨g,1,none⟩ (.string T.head)).setCell ⟨g,2,none⟩ (.slice la T.lines.length lc)).setCell ⟨g,3,none⟩ (.slice ka T.kids.length kc)):=by
 refine⟨g,_,_,la,ka,_,lc,_,kc,rfl,(((hb.setCell (p:=⟨g,0,none⟩) hg _).setCell (p:=⟨g,1,none⟩) hg _).setCell (p:=⟨g,2,none⟩) hg _).setCell (p:=⟨g,3,none⟩) hg _,hg,NA hr,rfl,rfl,rfl,rfl,hl.step fun k hk hp=>?_⟩
 have hne:k≠g:=fun e=>by
  rcases hp with hp|hp
  ·have:=hP k hp;omega
  ·omega
 exact⟨PA hne,hne,hp.imp id fun h=>by omega⟩
open Classical in
theorem sQ{t k:It}{o:OpW}(h:UC t)(hfk:eA t (cA o.path)=some k)(hp0:o.path.size≠0)(hpath:o.path.size≤100000)(hnew:o.new.size≤100000){w:World}{P:Nat→Prop}{v u iv:Nat→Value}{il ih:ByteArray}{ja qa:Option Addr}{jn jc qn qc:Nat}(i0:iv 0=.string il)(i1:iv 1=.string ih)(i2:iv 2=.slice ja jn jc)(i3:iv 3=.slice qa qn qc)(hv:Lies w P v t)(hu:Lies w P u k):
 Calls Tryz.prog 48 #[.agg #[v 0,v 1,v 2,v 3],.agg (FB o iv),.agg #[u 0,u 1,u 2,u 3]] w (OneR w P (refMove t o k)):=by
 obtain⟨f0,f1,⟨la,lc,f2⟩,ka,kc,f3⟩:=hv.forms
 obtain⟨g0,g1,⟨ma,mc,g2⟩,na,nc,g3⟩:=hu.forms
 have hlabs:∀s,s∈cA o.path→s.size≠0:=fun s hs=>YE (oE _ t k h.1.rg hfk s hs)
 have HLv:=aA (hv.inn.vals f0 f1 f2 f3)
 have HLu:=aA (hu.inn.vals g0 g1 g2 g3)
 have HSz:=aA (sB h)
 have HUp:=aA (fun W=>XQ o.path hpath hp0 hlabs W)
 have HWi:=aA (fun W=>PP o.new o.path (by omega) (by omega) W)
 have HPa:=aA (fun W=>wC o.path hpath W)
 have HFi:Hid (∀W,Below w.heap.size w W→Calls Tryz.prog 39 #[.agg #[.string t.label,.string t.head,.slice la t.lines.length lc,.slice ka t.kids.length kc],.string o.new] W fun e w'=>aG e w' (fun k=>P k∧k<w.heap.size) (eA t (cA o.new))∧Below W.heap.size W w'):=fun W hW=>
  AB t o.new hnew (fun x hx=>by obtain⟨r,hr⟩:=hx;have:=KA (p:=r) h hr;omega) W _ (wA _ _ _ _) (HLv.out.bel hW)
 have HRf:Hid (refMove t o k=match eA t (cA o.new) with
  |none=>.bad 5
  |some y=>if OJ o.new o.path then .bad 5 else
   if o.at'.size≠0∧(iA y.kids o.at'=none∨(vB o.path=o.new∧o.at'=nC o.path)) then .bad 5 else
   if vB o.path≠o.new∧(iA y.kids (nC o.path)).isSome then .bad 7 else
   match vIt 0 0 [] (refMoved t o k) with
   | .bad c=>.bad c
   | .ok _=>.ok (refMoved t o k)):=rfl
 have HFt:=aA (fun y (hy:eA t (cA o.new)=some y) c1 c2=>OL (y:=y) h hfk hp0 hy c1 c2)
 have HKn:Hid (∀y,eA t (cA o.new)=some y→y.kids.length≤300):=fun y hy=>KA h hy
 have HLaw:=aA (aI h hfk)
 have HPn:=aA (aI hp0 (aI hpath hnew))
 unfold FB
 rw[f0,f1,f2,f3,g0,g1,g2,g3,i0,i1,i2,i3]
 obtain⟨W4,hW4,hb4,hs4,hx0,hx1,hx2,hx3⟩:=TN w (.cells #[.string t.label,.string t.head,.slice la t.lines.length lc,.slice ka t.kids.length kc] rA) (.cells #[.int .i64 o.kind,.string o.path,.string o.at',.string o.text,.string o.new,.int .i64 o.line,.string il,.string ih,.slice ja jn jc,.slice qa qn qc] 46) (.cells #[.string k.label,.string k.head,.slice ma k.lines.length mc,.slice na k.kids.length nc] rA) (.cells #[.string ⟨#[]⟩,.string ⟨#[]⟩,.slice none 0 0,.slice none 0 0] rA)
 have HW4:=aA hW4
 have HS4:=aA hs4
 have HBx:Hid (∀W,Below W4.heap.size W4 W→(W.heap[w.heap.size]?=some (.cells #[.string t.label,.string t.head,.slice la t.lines.length lc,.slice ka t.kids.length kc] rA (0,0))∧W.heap[w.heap.size+1]?=some (.cells #[.int .i64 o.kind,.string o.path,.string o.at',.string o.text,.string o.new,.int .i64 o.line,.string il,.string ih,.slice ja jn jc,.slice qa qn qc] 46 (0,0))∧W.heap[w.heap.size+2]?=some (.cells #[.string k.label,.string k.head,.slice ma k.lines.length mc,.slice na k.kids.length nc] rA (0,0))∧W.heap[w.heap.size+3]?=some (.cells #[.string ⟨#[]⟩,.string ⟨#[]⟩,.slice none 0 0,.slice none 0 0] rA (0,0)))):=fun W hW=>
  ⟨(hW.block _ (by omega)).trans hx0,(hW.block _ (by omega)).trans hx1,(hW.block _ (by omega)).trans hx2,(hW.block _ (by omega)).trans hx3⟩
 have HB4:=aA hb4
 obtain⟨r,hr⟩:∃r,r=refMove t o k:=⟨_,rfl⟩
 rw[←hr]
 have HRr:Hid (r=refMove t o k):=hr
 have hE:=LB o.at'
 clear hW4 hb4 hs4 f0 f1 f2 f3 g0 g1 g2 g3 i0 i1 i2 i3 hv hu h hfk hp0 hpath hnew hlabs hr hx0 hx1 hx2 hx3
 obtain⟨hx0,hx1,hx2,hx3⟩:=HBx.out W4 (Below.refl _ _)
 obtain⟨y0,y1,y2,y3,y4,y5,y6,y7,y8,y9⟩:=yB hx1
 obtain⟨l0,l1,l2,l3,_⟩:=gA hx0
 clear hx0 hx1 hx2 hx3
 go_enter Tryz.func48,Tryz.ntmps48
 go_upto_region 1 with fail
 rw[←HW4.out]
 go_wp2_with fail
 refine(HFi.out W4 HB4.out).mono ?_
 rintro e w5 ⟨hfo,hb5⟩
 have HB5:=aA hb5
 clear y0 y1 y2 y3 y4 y5 y6 y7 y8 y9 l0 l1 l2 l3 hb5
 cases hy:eA t (cA o.new) with
 |none=>
  rw[hy] at hfo
  have hfo:e=_:=hfo
  subst hfo
  have HR5:Hid (r=.bad 5):=by show _=_;rw[HRr.out,HRf.out,hy]
  clear hy
  obtain⟨W6,hW6⟩:∃W6,W6=w5.alloc (.cells #[.string ⟨#[]⟩,.string ⟨#[]⟩,.slice none 0 0,.slice none 0 0] rA):=⟨_,rfl⟩
  have HW6:=aA hW6
  have HB6:Hid (Below W4.heap.size W4 W6):=by show Below _ _ _;rw[hW6];exact HB5.out.alloc HB5.out.size _
  clear hW6
  go_upto_region 2 with fail
  rw[←HW6.out]
  obtain⟨hx0,hx1,hx2,hx3⟩:=HBx.out W6 HB6.out
  obtain⟨y0,y1,y2,y3,y4,y5,y6,y7,y8,y9⟩:=yB hx1
  obtain⟨l0,l1,l2,l3,_⟩:=gA hx0
  obtain⟨z0,z1,z2,z3,zf⟩:=gA hx3
  have HZ:=aA hx3
  clear hx0 hx1 hx2 hx3
  go_wp2_with fail
  refine(HWi.out W6).mono ?_
  rintro e w7 ⟨⟨b,rfl,_⟩,h9⟩
  subst w7
  go_wp2
  refine bodyPost_ret (v:=.tuple #[.agg #[.string t.label,.string t.head,.slice la t.lines.length lc,.slice ka t.kids.length kc],.int .i64 5]) (fA Tryz.results48 _ _ (w.heap.size+3) rA #[.string t.label,.string t.head,.slice la t.lines.length lc,.slice ka t.kids.length kc] (0,0) _ _ rfl rfl (NA HZ.out) Tryz.underlying25 rfl rfl) rfl ?_
  rw[HR5.out]
  exact OneR.bad (HB4.out.trans (HB6.out.mono HB4.out.size)) (by omega) (by omega)
 |some y=>
  rw[hy] at hfo
  obtain⟨vy,rfl,hly⟩:=hfo
  have HRs:Hid (r=if OJ o.new o.path then .bad 5 else
   if o.at'.size≠0∧(iA y.kids o.at'=none∨(vB o.path=o.new∧o.at'=nC o.path)) then .bad 5 else
   if vB o.path≠o.new∧(iA y.kids (nC o.path)).isSome then .bad 7 else
   match vIt 0 0 [] (refMoved t o k) with
   | .bad c=>.bad c
   | .ok _=>.ok (refMoved t o k)):=by
   show _=_
   rw[HRr.out,HRf.out,hy]
  have HYk:=aA (aI hy (HKn.out y hy))
  obtain⟨j0,j1,⟨ea,ec,j2⟩,da,dc,j3⟩:=hly.forms
  have hlyv:=hly.vals j0 j1 j2 j3
  have HLy:=aA hlyv
  rw[j0,j1,j2,j3]
  clear hy hly hlyv j0 j1 j2 j3
  obtain⟨W6,hW6⟩:∃W6,W6=w5.alloc (.cells #[.string y.label,.string y.head,.slice ea y.lines.length ec,.slice da y.kids.length dc] rA):=⟨_,rfl⟩
  have HW6:=aA hW6
  have hb56:Below w5.heap.size w5 W6:=by rw[hW6];exact bA _ _
  have HB6:=aA (HB5.out.trans (hb56.mono HB5.out.size))
  have hy6:W6.heap[w5.heap.size]?=some (.cells #[.string y.label,.string y.head,.slice ea y.lines.length ec,.slice da y.kids.length dc] rA (0,0)):=by rw[hW6];exact heap_alloc_new _ _
  have HT6:=aA (aI hb56 hy6)
  clear hW6 hb56 hy6
  go_upto_region 2 with fail
  rw[←HW6.out]
  obtain⟨hx0,hx1,hx2,hx3⟩:=HBx.out W6 HB6.out
  obtain⟨y0,y1,y2,y3,y4,y5,y6,y7,y8,y9⟩:=yB hx1
  obtain⟨l0,l1,l2,l3,_⟩:=gA hx0
  obtain⟨z0,z1,z2,z3,zf⟩:=gA hx3
  have HZ:=aA hx3
  clear hx0 hx1 hx2 hx3
  go_wp2_with fail
  refine(HWi.out W6).mono ?_
  rintro e w7 ⟨⟨b,rfl,hib⟩,h9⟩
  subst w7
  cases b with
  |true=>
   have HR5:Hid (r=.bad 5):=HRs.out.trans (if_pos (hib.1 rfl))
   clear hib
   go_wp2
   refine bodyPost_ret (v:=.tuple #[.agg #[.string t.label,.string t.head,.slice la t.lines.length lc,.slice ka t.kids.length kc],.int .i64 5]) (fA Tryz.results48 _ _ (w.heap.size+3) rA #[.string t.label,.string t.head,.slice la t.lines.length lc,.slice ka t.kids.length kc] (0,0) _ _ rfl rfl (NA HZ.out) Tryz.underlying25 rfl rfl) rfl ?_
   rw[HR5.out]
   exact OneR.bad (HB4.out.trans (HB6.out.mono HB4.out.size)) (by omega) (by omega)
  |false=>
   have HNi:Hid (¬OJ o.new o.path):=fun e=>by
    have:=hib.2 e
    cases this
   clear hib
   have HKo:Hid (∀s W,Below w5.heap.size w5 W→Calls Tryz.prog 47 #[.agg #[.string y.label,.string y.head,.slice ea y.lines.length ec,.slice da y.kids.length dc],.string s] W fun e w'=>e=.returned (.int .i64 (mC (iA y.kids s)))∧Below W.heap.size W w'):=fun s W hW=>
    DE (v:=wA _ _ _ _) (HLy.out.bel hW) (by have:=HYk.out.2;omega) s
   have hsb0:∃sb,((vB o.path).toList==o.new.toList)=sb:=⟨_,rfl⟩
   obtain⟨sb,hsb⟩:=hsb0
   have hlb0:∃lb,(o.at'.toList==(nC o.path).toList)=lb:=⟨_,rfl⟩
   obtain⟨lb,hlb⟩:=hlb0
   have HSb:Hid ((sb=true↔vB o.path=o.new)∧(lb=true↔o.at'=nC o.path)):=⟨by rw[←hsb];exact same_bytes,by rw[←hlb];exact same_bytes⟩
   obtain⟨q1,hq1⟩:∃q,q=iA y.kids o.at':=⟨_,rfl⟩
   obtain⟨q3,hq3⟩:∃q,q=iA y.kids (nC o.path):=⟨_,rfl⟩
   have HQ:=aA (aI hq1 hq3)
   obtain⟨B7,hB7⟩:∃B7:Bool,B7=(!decide (o.at'.size=0)&&(q1.isNone||(sb&&lb))):=⟨_,rfl⟩
   obtain⟨B9,hB9⟩:∃B9:Bool,B9=(!sb&&q3.isSome):=⟨_,rfl⟩
   have HB79:=aA (aI hB7 hB9)
   have HC2:Hid (B7=true↔(o.at'.size≠0∧(iA y.kids o.at'=none∨(vB o.path=o.new∧o.at'=nC o.path)))):=by
    show _↔_
    rw[hB7,←hq1,Bool.and_eq_true,Bool.or_eq_true,Bool.and_eq_true,HSb.out.1,HSb.out.2,Option.isNone_iff_eq_none]
    simp
   have HC3:Hid (B9=true↔(vB o.path≠o.new∧(iA y.kids (nC o.path)).isSome)):=by
    show _↔_
    rw[hB9,←hq3,Bool.and_eq_true,Ne,←HSb.out.1]
    cases sb<;>simp
   clear hq1 hq3 hB7 hB9
   go_wp2_with fail
   refine(HUp.out W6).mono ?_
   rintro e w7 ⟨rfl,hb7⟩
   have HB7:=aA (HB6.out.trans (hb7.mono HB6.out.size))
   have HB57:=aA (HT6.out.1.trans (hb7.mono HT6.out.1.size))
   have hy7:=(hb7.block w5.heap.size (Array.getElem?_eq_some_iff.1 HT6.out.2).1).trans HT6.out.2
   have HY7:=aA hy7
   clear y0 y1 y2 y3 y4 y5 y6 y7 y8 y9 l0 l1 l2 l3 z0 z1 z2 z3 zf HZ hb7
   obtain⟨hx0,hx1,hx2,hx3⟩:=HBx.out w7 HB7.out
   obtain⟨y0,y1,y2,y3,y4,y5,y6,y7,y8,y9⟩:=yB hx1
   obtain⟨e0,e1,e2,e3,_⟩:=gA hy7
   clear hx0 hx1 hx2 hx3 hy7
   have HFq:=aA (fun c2=>HFt.out y HYk.out.1 HNi.out c2)
   generalize vB o.path=ou at *
   generalize nC o.path=lo at *
   go_upto_region 7 with fail
   go_cut [61] (fun q wx=>q=.bool B7∧Below w7.heap.size w7 wx)
   case first=>
    by_cases hat:o.at'.size=0
    ·rw[decide_eq_true hat] at hE
     have hv7:Hid (B7=false):=by show _=_;rw[HB79.out.1,decide_eq_true hat];rfl
     clear hat
     go_wp2
     go_meet
     exact⟨by rw[hv7.out],Below.refl _ _⟩
    ·rw[decide_eq_false hat] at hE
     have hv7:Hid (B7=(q1.isNone||(sb&&lb))):=by show _=_;rw[HB79.out.1,decide_eq_false hat];rfl
     clear hat
     go_wp2_with fail
     refine(HKo.out o.at' w7 HB57.out).mono ?_
     rintro e w8 ⟨rfl,hb8⟩
     rw[←HQ.out.1]
     have HB8:=aA hb8
     have h2:=(hb8.cell (p:=⟨w.heap.size+1,2,none⟩) (dA y2)).trans y2
     clear y0 y1 y2 y3 y4 y5 y6 y7 y8 y9 e0 e1 e2 e3 hb8
     cases q1 with
     |none=>
      have hj:mC none=-1:=rfl
      rw[hj]
      go_wp2
      go_meet
      exact⟨by rw[hv7.out];rfl,HB8.out⟩
     |some j=>
      have hj:mC (some j)=(j:Int):=rfl
      rw[hj]
      have hj0:¬(j:Int)<0:=by omega
      clear hj
      cases sb with
      |false=>
       go_wp2
       go_meet
       exact⟨by rw[hv7.out];rfl,HB8.out⟩
      |true=>
       cases lb with
       |false=>
        go_wp2
        go_meet
        exact⟨by rw[hv7.out];rfl,HB8.out⟩
       |true=>
        go_wp2
        go_meet
        exact⟨by rw[hv7.out];rfl,HB8.out⟩
   case rest=>
    obtain⟨rfl,hbc⟩:=hcut
    obtain⟨w8,e8,hbc⟩:∃w8,w8=_∧Below w7.heap.size w7 w8:=⟨_,rfl,hbc⟩
    subst e8
    have HB8:=aA (HB7.out.trans (hbc.mono HB7.out.size))
    have HB58:=aA (HB57.out.trans (hbc.mono HB57.out.size))
    have HY8:=aA ((hbc.block w5.heap.size (Array.getElem?_eq_some_iff.1 HY7.out).1).trans HY7.out)
    clear y0 y1 y2 y3 y4 y5 y6 y7 y8 y9 e0 e1 e2 e3 hbc
    obtain⟨hx0,hx1,hx2,hx3⟩:=HBx.out w8 HB8.out
    obtain⟨y0,y1,y2,y3,y4,y5,y6,y7,y8,y9⟩:=yB hx1
    obtain⟨l0,l1,l2,l3,_⟩:=gA hx0
    obtain⟨z0,z1,z2,z3,zf⟩:=gA hx3
    obtain⟨e0,e1,e2,e3,_⟩:=gA HY8.out
    have HZ8:=aA hx3
    clear hx0 hx1 hx2 hx3
    cases B7 with
    |true=>
     have HR5:Hid (r=.bad 5):=(HRs.out.trans (if_neg HNi.out)).trans (if_pos (HC2.out.1 rfl))
     go_wp2
     refine bodyPost_ret (v:=.tuple #[.agg #[.string t.label,.string t.head,.slice la t.lines.length lc,.slice ka t.kids.length kc],.int .i64 5]) (fA Tryz.results48 _ _ (w.heap.size+3) rA #[.string t.label,.string t.head,.slice la t.lines.length lc,.slice ka t.kids.length kc] (0,0) _ _ rfl rfl (NA HZ8.out) Tryz.underlying25 rfl rfl) rfl ?_
     rw[HR5.out]
     exact OneR.bad (HB4.out.trans (HB8.out.mono HB4.out.size)) (by omega) (by omega)
    |false=>
     have HN2:Hid (¬(o.at'.size≠0∧(iA y.kids o.at'=none∨(ou=o.new∧o.at'=lo)))):=fun e=>by
      have:=HC2.out.2 e
      cases this
     go_upto_region 9 with fail
     go_cut [70] (fun q wx=>q=.bool B9∧Below w8.heap.size w8 wx)
     case first=>
      cases sb with
      |true=>
       have hv9:Hid (B9=false):=by show _=_;rw[HB79.out.2];rfl
       go_wp2
       go_meet
       exact⟨by rw[hv9.out],Below.refl _ _⟩
      |false=>
       have hv9:Hid (B9=q3.isSome):=by show _=_;rw[HB79.out.2];rfl
       go_wp2_with fail
       refine(HKo.out lo w8 HB58.out).mono ?_
       rintro e w9 ⟨rfl,hb9⟩
       rw[←HQ.out.2]
       have HB9:=aA hb9
       clear y0 y1 y2 y3 y4 y5 y6 y7 y8 y9 e0 e1 e2 e3 l0 l1 l2 l3 z0 z1 z2 z3 zf hb9
       cases q3 with
       |none=>
        have hj:mC none=-1:=rfl
        rw[hj]
        go_wp2
        go_meet
        exact⟨by rw[hv9.out];rfl,HB9.out⟩
       |some j=>
        have hj:mC (some j)=(j:Int):=rfl
        rw[hj]
        have hj0:(0:Int)≤(j:Int):=by omega
        clear hj
        go_wp2
        go_meet
        exact⟨by rw[hv9.out];rfl,HB9.out⟩
     case rest=>
      obtain⟨rfl,hbc⟩:=hcut
      obtain⟨w9,e9,hbc⟩:∃w9,w9=_∧Below w8.heap.size w8 w9:=⟨_,rfl,hbc⟩
      subst e9
      have HB9:=aA (HB8.out.trans (hbc.mono HB8.out.size))
      have HB59:=aA (HB58.out.trans (hbc.mono HB58.out.size))
      have HY9:=aA ((hbc.block w5.heap.size (Array.getElem?_eq_some_iff.1 HY8.out).1).trans HY8.out)
      clear y0 y1 y2 y3 y4 y5 y6 y7 y8 y9 e0 e1 e2 e3 l0 l1 l2 l3 z0 z1 z2 z3 zf hbc HZ8
      obtain⟨hx0,hx1,hx2,hx3⟩:=HBx.out w9 HB9.out
      obtain⟨y0,y1,y2,y3,y4,y5,y6,y7,y8,y9⟩:=yB hx1
      obtain⟨l0,l1,l2,l3,_⟩:=gA hx0
      obtain⟨z0,z1,z2,z3,zf⟩:=gA hx3
      have HZ9:=aA hx3
      clear hx0 hx1 hx2 hx3
      cases B9 with
      |true=>
       have HR7:Hid (r=.bad 7):=((HRs.out.trans (if_neg HNi.out)).trans (if_neg HN2.out)).trans (if_pos (HC3.out.1 rfl))
       go_wp2
       refine bodyPost_ret (v:=.tuple #[.agg #[.string t.label,.string t.head,.slice la t.lines.length lc,.slice ka t.kids.length kc],.int .i64 7]) (fA Tryz.results48 _ _ (w.heap.size+3) rA #[.string t.label,.string t.head,.slice la t.lines.length lc,.slice ka t.kids.length kc] (0,0) _ _ rfl rfl (NA HZ9.out) Tryz.underlying25 rfl rfl) rfl ?_
       rw[HR7.out]
       exact OneR.bad (HB4.out.trans (HB9.out.mono HB4.out.size)) (by omega) (by omega)
      |false=>
       have HN3:Hid (¬(ou≠o.new∧(iA y.kids lo).isSome)):=fun e=>by
        have:=HC3.out.2 e
        cases this
       have HR8:Hid (r=match vIt 0 0 [] (refMoved t o k) with| .bad c=>.bad c| .ok _=>.ok (refMoved t o k)):=((HRs.out.trans (if_neg HNi.out)).trans (if_neg HN2.out)).trans (if_neg HN3.out)
       have HFm:=aA (HFq.out HN2.out)
       obtain⟨pp,pr,hpp⟩:∃pp pr,cA o.path=pp::pr:=by
        cases hq:cA o.path with
        |nil=>exact absurd hq (fB HPn.out.1).1
        |cons a b=>exact⟨a,b,rfl⟩
       obtain⟨np,hnp⟩:∃np,np=pr.length+1:=⟨_,rfl⟩
       have HPa2:Hid (∀W,Calls Tryz.prog 44 #[.string o.path] W fun e w'=>(∃va vc,e=.returned (.slice va np vc)∧WayIs w' va (pp::pr)∧np≤vc)∧Below W.heap.size W w'):=fun W=>by
        refine(HPa.out W).mono ?_
        rintro e w' ⟨⟨v,rfl,hrow⟩,hb⟩
        obtain⟨va,vc,rfl⟩:=tA hrow
        refine⟨⟨va,vc,by rw[hpp,List.length_cons,hnp],?_,?_⟩,hb⟩
        ·rw[←hpp];exact iH hrow
        ·have:=zB hrow;rw[hpp,List.length_cons] at this;omega
       have HGone:Hid (refGone t o=lB [] (pp::pr) t):=by show _=_;unfold refGone;rw[hpp]
       have HRp:Hid (∀W wa wc,Rcm w W→WayIs W wa (pp::pr)→np≤wc→Calls Tryz.prog 46 #[.agg #[.string t.label,.string t.head,.slice la t.lines.length lc,.slice ka t.kids.length kc],.slice wa np wc,.slice none 0 0] W (RpOut (fun k=>P k∧k<w.heap.size) W (refGone t o))):=fun W wa wc hW hwa hwc=>by
        rw[HGone.out]
        subst hnp
        exact KF (fun k=>P k∧k<w.heap.size) [] none 0 (fun _ _=>.nilIface) pr pp t (wA _ _ _ _) W wa wc (HLv.out.bel hW) hwa hwc (by
         have:=jB o.path
         rw[hpp,List.length_cons] at this
         have:=HPn.out.2.1
         omega) ⟨by simp,fun i hi=>by simp at hi,fun i x hx=>by simp at hx⟩ (by have:=HSz.out;omega)
       clear hpp hnp
       have HSc:Hid (∀V,Rcm w9 V→V.cell? ⟨w.heap.size,0,none⟩=some (.string t.label)∧V.cell? ⟨w.heap.size,1,none⟩=some (.string t.head)∧V.cell? ⟨w.heap.size,2,none⟩=some (.slice la t.lines.length lc)∧V.cell? ⟨w.heap.size,3,none⟩=some (.slice ka t.kids.length kc)∧V.cell? ⟨w.heap.size+1,1,none⟩=some (.string o.path)):=fun V hV=>by
        obtain⟨hx0,hx1,_,_⟩:=HBx.out V (HB9.out.trans (Below.mono hV HB9.out.size))
        obtain⟨c0,c1,c2,c3,_⟩:=gA hx0
        obtain⟨d0,d1,_⟩:=yB hx1
        exact⟨c0,c1,c2,c3,d1⟩
       have hww9:Rcm w w9:=HB4.out.trans (HB9.out.mono HB4.out.size)
       have HWW:=aA hww9
       clear hww9 y0 y2 y3 y4 y5 y6 y7 y8 y9 z0 z1 z2 z3 zf
       go_upto_region 11 with fail
       go_cut [14] (fun p wx=>GoneAt (fun k=>P k∧k<w.heap.size) w9 (refGone t o) p wx)
       case first=>
        go_region_held3 (fun V=>V.cell? ⟨w.heap.size,0,none⟩=some (.string t.label)∧V.cell? ⟨w.heap.size,1,none⟩=some (.string t.head)∧V.cell? ⟨w.heap.size,2,none⟩=some (.slice la t.lines.length lc)∧V.cell? ⟨w.heap.size,3,none⟩=some (.slice ka t.kids.length kc)∧V.cell? ⟨w.heap.size+1,1,none⟩=some (.string o.path)) (first|exact⟨l0,l1,l2,l3,y1⟩|(refine HSc.out _ ?_;repeat (first|exact Rcm.refl _|refine Rcm.drew ?_|refine Rcm.alloc ?_ _|refine Rcm.set ?_ (by omega) _|refine Rcm.trans ?_ rR|refine Rcm.trans ?_ rP))|go_keep) (first
         |(go_simp;go_at_call 44;refine(HPa2.out _).mono ?_;rintro e wp ⟨⟨va9,vc9,rfl,hway,hcap9⟩,hbp⟩;(have rP:=(hbp:Rcm _ wp));(have hsP:w9.heap.size≤wp.heap.size:=(by have:=Below.size rP;simp at this;omega));(have HWy:=aA (aI hway hcap9));clear hway hcap9 hbp)
         |(go_simp;go_at_call 46;refine(HRp.out _ _ _ ?_ ?_ HWy.out.2).mono ?_;(· refine Rcm.trans HWW.out ?_;repeat (first|exact Rcm.refl _|refine Rcm.drew ?_|refine Rcm.alloc ?_ _|refine Rcm.trans ?_ rP));(· first|exact HWy.out.1|exact HWy.out.1.on (bA _ _));rintro e wr ⟨⟨vr,rfl,hlr⟩,hbr⟩;obtain⟨k0,k1,⟨oa9,oc9,k2⟩,pa9,pc9,k3⟩:=hlr.forms;(have HLr:=aA (hlr.vals k0 k1 k2 k3));rw[k0,k1,k2,k3];(have rR:=(hbr:Rcm _ wr));(first|(have hzr:=((show Rcm (wp.alloc (.cells #[.string ⟨#[]⟩,.string ⟨#[]⟩,.slice none 0 0,.slice none 0 0] rA)) wr from rR).block wp.heap.size (by simp)).trans (heap_alloc_new wp _);obtain⟨b0,b1,b2,b3,bf⟩:=gA hzr;have HZb:=aA hzr;clear hzr)|(have hzr:=(rR.block w9.heap.size (by have:=Below.size rP;simp at this;omega)).trans (((show Rcm (w9.drew.alloc (.cells #[.string ⟨#[]⟩,.string ⟨#[]⟩,.slice none 0 0,.slice none 0 0] rA)) wp from rP).block w9.heap.size (by simp)).trans (heap_alloc_new w9.drew _));obtain⟨b0,b1,b2,b3,bf⟩:=gA hzr;have HZf:=aA hzr;clear hzr)|skip);clear hlr k0 k1 k2 k3 hbr))
        all_goals go_wp2_with fail
        all_goals go_meet
        all_goals have hPw:∀q,(P q∧q<w.heap.size)→q<w9.heap.size:=fun q hq=>Nat.lt_of_lt_of_le hq.2 HWW.out.size
        all_goals have hbw:Below w9.heap.size w9 wr:=(by show Rcm w9 wr;repeat (first|exact Rcm.refl _|refine Rcm.drew ?_|refine Rcm.alloc ?_ _|refine Rcm.trans ?_ rR|refine Rcm.trans ?_ rP))
        all_goals first
         |exact GoneAt.old hbw hPw hsP (by simp) HZb.out HLr.out
         |exact GoneAt.old hbw hPw (nR _) (by have:=Below.size rP;simp at this;omega) HZf.out HLr.out
         |exact GoneAt.new hbw hsP HLr.out
       case rest=>
        obtain⟨g,s9,h9,la9,ka9,ln9,lc9,kn9,kc9,rfl,hbg,hgg,hrg,es,eh,el,ek,hlg⟩:=hcut
        obtain⟨w10,e10,hbg,hrg,hlg⟩:∃w10,w10=_∧Below w9.heap.size w9 w10∧w10.heap[g]?=some (.cells #[.string s9,.string h9,.slice la9 ln9 lc9,.slice ka9 kn9 kc9] rA (0,0))∧Lies w10 (fun q=>q≠g∧((P q∧q<w.heap.size)∨w9.heap.size≤q)) (wA (.string s9) (.string h9) (.slice la9 ln9 lc9) (.slice ka9 kn9 kc9)) (refGone t o):=⟨_,rfl,hbg,hrg,hlg⟩
        subst e10
        subst es eh el ek
        have HUe:Hid (refMoved t o k=JA o.new ((refTo t o).setKids (CB o.at' k (refTo t o).kids)) (refGone t o)):=rfl
        clear l0 l1 l2 l3 y1 HSc HRp HPa2 HGone
        generalize refMoved t o k=U at *
        generalize refGone t o=T at *
        generalize refTo t o=Z at *
        have h45:=HB5.out.size
        have h56:=HT6.out.1.size
        have h6l:=(Array.getElem?_eq_some_iff.1 HT6.out.2).1
        have h59:=HB59.out.size
        have hs4:=HS4.out
        have hlt5:w.heap.size+3<w5.heap.size:=by omega
        have h5y:=(Array.getElem?_eq_some_iff.1 HY9.out).1
        have hgl:=(Array.getElem?_eq_some_iff.1 hrg).1
        have HSz5:Hid (w.heap.size+3<w5.heap.size∧w5.heap.size<w9.heap.size∧w9.heap.size≤g∧g<w10.heap.size):=⟨hlt5,h5y,hgg,hgl⟩
        have HB10:=aA (HB9.out.trans (hbg.mono HB9.out.size))
        have HY10:=aA ((hbg.block w5.heap.size h5y).trans HY9.out)
        have HG10:=aA hrg
        have HLg:=aA hlg
        have hfz:=AB T o.new HPn.out.2.2 (fun x hx=>by obtain⟨r,hr⟩:=hx;have:=KA (p:=r) HFm.out.1 hr;omega) w10 _ (wA _ _ _ _) hlg
        rw[HFm.out.2.1] at hfz
        have HFz:=aA hfz
        clear h45 h56 h6l h59 hs4 hlt5 h5y hgl hbg hrg hlg hfz hgg
        obtain⟨hx0,hx1,hx2,hx3⟩:=HBx.out w10 HB10.out
        obtain⟨y0,y1,y2,y3,y4,y5,y6,y7,y8,y9⟩:=yB hx1
        obtain⟨g0,g1,g2,g3,_⟩:=gA HG10.out
        clear hx0 hx1 hx2 hx3
        go_wp2_with fail
        refine HFz.out.mono ?_
        rintro e w11 ⟨⟨vz,rfl,hlz⟩,hb11⟩
        obtain⟨k0,k1,⟨za,zc,k2⟩,xa,xc,k3⟩:=hlz.forms
        have hlzv:=hlz.vals k0 k1 k2 k3
        rw[k0,k1,k2,k3]
        clear k0 k1 k2 k3 hlz y0 y1 y2 y3 y4 y5 y6 y7 y8 y9 g0 g1 g2 g3
        have hy11:=(hb11.block w5.heap.size (by have:=HSz5.out;omega)).trans HY10.out
        obtain⟨W12,hW12⟩:∃W12,W12=((((w11.setCell ⟨w5.heap.size,0,none⟩ (.string Z.label)).setCell ⟨w5.heap.size,1,none⟩ (.string Z.head)).setCell ⟨w5.heap.size,2,none⟩ (.slice za Z.lines.length zc)).setCell ⟨w5.heap.size,3,none⟩ (.slice xa Z.kids.length xc)):=⟨_,rfl⟩
        have hs12:W12.heap.size=w11.heap.size:=by rw[hW12];simp
        have hf12:∀q,q≠w5.heap.size→W12.heap[q]?=w11.heap[q]?:=fun q hq=>by rw[hW12];exact PA hq
        have hy12:W12.heap[w5.heap.size]?=some (.cells #[.string Z.label,.string Z.head,.slice za Z.lines.length zc,.slice xa Z.kids.length xc] rA (0,0)):=by rw[hW12];exact NA hy11
        have hsz11:=hb11.size
        have hbx12:Below w.heap.size w W12:=by
         have h1:Below w.heap.size w w11:=HB4.out.trans ((HB10.out.trans (hb11.mono HB10.out.size)).mono HB4.out.size)
         have hle:w.heap.size≤w5.heap.size:=by have:=HSz5.out;omega
         rw[hW12]
         exact(((h1.setCell (p:=⟨w5.heap.size,0,none⟩) hle _).setCell (p:=⟨w5.heap.size,1,none⟩) hle _).setCell (p:=⟨w5.heap.size,2,none⟩) hle _).setCell (p:=⟨w5.heap.size,3,none⟩) hle _
        have HBx12:Hid (W12.heap[w.heap.size]?=some (.cells #[.string t.label,.string t.head,.slice la t.lines.length lc,.slice ka t.kids.length kc] rA (0,0))∧W12.heap[w.heap.size+1]?=some (.cells #[.int .i64 o.kind,.string o.path,.string o.at',.string o.text,.string o.new,.int .i64 o.line,.string il,.string ih,.slice ja jn jc,.slice qa qn qc] 46 (0,0))∧W12.heap[w.heap.size+2]?=some (.cells #[.string k.label,.string k.head,.slice ma k.lines.length mc,.slice na k.kids.length nc] rA (0,0))∧W12.heap[w.heap.size+3]?=some (.cells #[.string ⟨#[]⟩,.string ⟨#[]⟩,.slice none 0 0,.slice none 0 0] rA (0,0))):=by
         obtain⟨h0,h1,h2,h3⟩:=HBx.out w11 (HB10.out.trans (hb11.mono HB10.out.size))
         have:=HSz5.out
         exact⟨(hf12 _ (by omega)).trans h0,(hf12 _ (by omega)).trans h1,(hf12 _ (by omega)).trans h2,(hf12 _ (by omega)).trans h3⟩
        have hlz12:Lies W12 (fun q=>q≠g∧q≠w5.heap.size∧((P q∧q<w.heap.size)∨w9.heap.size≤q)) (wA (.string Z.label) (.string Z.head) (.slice za Z.lines.length zc) (.slice xa Z.kids.length xc)) Z:=hlzv.step fun b hb hp=>by
         have h1:b≠w5.heap.size:=fun e=>by
          have:=HSz5.out
          rcases hp.2 with h|h
          ·have:=h.2;omega
          ·omega
         exact⟨hf12 b h1,hp.1,h1,hp.2⟩
        have hlk12:Lies W12 (fun q=>q≠g∧q≠w5.heap.size∧((P q∧q<w.heap.size)∨w9.heap.size≤q)) (wA (.string k.label) (.string k.head) (.slice ma k.lines.length mc) (.slice na k.kids.length nc)) k:=HLu.out.step fun b hb hp=>⟨hbx12.block b hb,by have:=HSz5.out;omega,by have:=HSz5.out;omega,.inl hp⟩
        have hlt12:Lies W12 (fun q=>q≠g∧q≠w5.heap.size∧((P q∧q<w.heap.size)∨w9.heap.size≤q)) (wA (.string T.label) (.string T.head) (.slice la9 T.lines.length lc9) (.slice ka9 T.kids.length kc9)) T:=HLg.out.step fun b hb hp=>by
         have h1:b≠w5.heap.size:=fun e=>by
          have:=HSz5.out
          rcases hp.2 with h|h
          ·have:=h.2;omega
          ·omega
         exact⟨(hf12 b h1).trans (hb11.block b hb),hp.1,h1,hp.2⟩
        have hg12:W12.heap[g]?=some (.cells #[.string T.label,.string T.head,.slice la9 T.lines.length lc9,.slice ka9 T.kids.length kc9] rA (0,0)):=(hf12 g (by have:=HSz5.out;omega)).trans ((hb11.block g (by have:=HSz5.out;omega)).trans HG10.out)
        have hbh:Calls Tryz.prog 88 #[.slice xa Z.kids.length xc,.string o.at',.agg #[.string k.label,.string k.head,.slice ma k.lines.length mc,.slice na k.kids.length nc]] W12 (QN (fun q=>q≠g∧q≠w5.heap.size∧((P q∧q<w.heap.size)∨w9.heap.size≤q)) W12 (CB o.at' k Z.kids)):=by
         obtain⟨_,V,hkk,hkr⟩:=hlz12.kidsAt (ka:=xa) (n:=Z.kids.length) (kc:=xc) rfl
         exact PG _ o.at' Z.kids k xa xc V (wA _ _ _ _) W12 (by have:=HFm.out.2.2.1;omega) (fun i hi=>by obtain⟨b,o',e,_,hc⟩:=hkk i hi;exact⟨b,o',e,hc⟩) hkr hlk12
        have HBh:=aA hbh
        have HL12:=aA (aI hlz12 hlt12)
        have HY12:=aA (aI hy12 hg12)
        have HW12:=aA hW12
        have HB12:=aA (aI hbx12 (aI hs12 hsz11))
        obtain⟨e0,e1,e2,e3,ef⟩:=gA hy11
        clear hW12 hs12 hf12 hy12 hsz11 hbx12 hlz12 hlk12 hlt12 hg12 hbh hlzv hb11 hy11 HFz
        go_upto_region 13 with fail
        rw[←HW12.out]
        clear e0 e1 e2 e3 ef
        obtain⟨e0,e1,e2,e3,_⟩:=gA HY12.out.1
        obtain⟨y0,y1,y2,y3,y4,y5,y6,y7,y8,y9⟩:=yB HBx12.out.2.1
        obtain⟨x0,x1,x2,x3,_⟩:=gA HBx12.out.2.2.1
        go_wp2_with fail
        refine HBh.out.mono ?_
        rintro e w13 ⟨sv,K,rfl,hrow,hb13⟩
        obtain⟨sa,sc,rfl⟩:=tA hrow.row
        obtain⟨kln,hkln⟩:∃kln,kln=(CB o.at' k Z.kids).length:=⟨_,rfl⟩
        rw[←hkln]
        obtain⟨W14,hW14⟩:∃W14,W14=w13.setCell ⟨w5.heap.size,3,none⟩ (.slice sa kln sc):=⟨_,rfl⟩
        have h5l:w5.heap.size<W12.heap.size+1:=by have:=HSz5.out;have:=HB12.out.2;omega
        have hlx:=MD (g:=w5.heap.size) hrow (HL12.out.1.bel hb13) (fun q h=>h) (fun q h=>h.2.1) h5l
        rw[←hkln,←hW14] at hlx
        have hf14:∀q,q≠w5.heap.size→W14.heap[q]?=w13.heap[q]?:=fun q hq=>by rw[hW14];exact Below.heap_setCell _ _ _ _ hq
        have hb12l:w.heap.size+3<w5.heap.size∧w5.heap.size<W12.heap.size∧g<W12.heap.size:=by have:=HSz5.out;have:=HB12.out.2;omega
        have hy13:=(hb13.block w5.heap.size hb12l.2.1).trans HY12.out.1
        have hy14:W14.heap[w5.heap.size]?=some (.cells #[.string Z.label,.string Z.head,.slice za Z.lines.length zc,.slice sa kln sc] rA (0,0)):=by rw[hW14,heap_setCell_same _ _ _ _ _ _ hy13];rfl
        have hg14:W14.heap[g]?=some (.cells #[.string T.label,.string T.head,.slice la9 T.lines.length lc9,.slice ka9 T.kids.length kc9] rA (0,0)):=(hf14 g (by have:=HSz5.out;omega)).trans ((hb13.block g hb12l.2.2).trans HY12.out.2)
        have HBx14:Hid (W14.heap[w.heap.size+1]?=some (.cells #[.int .i64 o.kind,.string o.path,.string o.at',.string o.text,.string o.new,.int .i64 o.line,.string il,.string ih,.slice ja jn jc,.slice qa qn qc] 46 (0,0))∧W14.heap[w.heap.size+3]?=some (.cells #[.string ⟨#[]⟩,.string ⟨#[]⟩,.slice none 0 0,.slice none 0 0] rA (0,0))):=by
         obtain⟨h0,h1,h2,h3⟩:=HBx12.out
         exact⟨(hf14 _ (by omega)).trans ((hb13.block _ (by omega)).trans h1),(hf14 _ (by omega)).trans ((hb13.block _ (by omega)).trans h3)⟩
        have hlt14:Lies W14 (fun q=>(q≠g∧q≠w5.heap.size∧((P q∧q<w.heap.size)∨w9.heap.size≤q))∨W12.heap.size+1≤q) (wA (.string T.label) (.string T.head) (.slice la9 T.lines.length lc9) (.slice ka9 T.kids.length kc9)) T:=HL12.out.2.step fun b hb hp=>⟨(hf14 b hp.2.1).trans (hb13.block b hb),.inl hp⟩
        have hwt:=EC _ o.new HPn.out.2.2 T (Z.setKids (CB o.at' k Z.kids)) (wA (.string T.label) (.string T.head) (.slice la9 T.lines.length lc9) (.slice ka9 T.kids.length kc9)) _ W14 hlt14 hlx HFm.out.2.2.2.1
        rw[←HUe.out] at hwt
        have hbw14:Below w.heap.size w W14:=by
         rw[hW14]
         exact(HB12.out.1.trans (hb13.mono HB12.out.1.size)).setCell (by show w.heap.size≤w5.heap.size;omega) _
        have hs14:W14.heap.size=w13.heap.size:=by rw[hW14];simp
        have hsz13:=hb13.size
        obtain⟨e0',e1',e2',e3',ef'⟩:=gA hy13
        have HWt:=aA hwt
        have HW14:=aA hW14
        have HY14:=aA (aI hy14 hg14)
        have HB14:=aA (aI hbw14 (aI hs14 hsz13))
        have HL5:=aA hb12l
        clear e0 e1 e2 e3 y0 y1 y2 y3 y4 y5 y6 y7 y8 y9 x0 x1 x2 x3 hkln hW14 h5l hlx hf14 hb12l hy13 hy14 hg14 hlt14 hwt hbw14 hs14 hsz13 hrow hb13 HBh
        go_upto_region 14 with fail
        rw[←HW14.out]
        clear e0' e1' e2' e3' ef'
        obtain⟨e0,e1,e2,e3,_⟩:=gA HY14.out.1
        obtain⟨g0,g1,g2,g3,_⟩:=gA HY14.out.2
        obtain⟨y0,y1,y2,y3,y4,y5,y6,y7,y8,y9⟩:=yB HBx14.out.1
        go_wp2_with fail
        refine HWt.out.mono ?_
        rintro e w15 ⟨⟨v15,rfl,hl15⟩,hb15⟩
        obtain⟨k0,k1,⟨oa,oc,k2⟩,pa,pc,k3⟩:=hl15.forms
        have hl15v:=hl15.vals k0 k1 k2 k3
        rw[k0,k1,k2,k3]
        obtain⟨W16,hW16⟩:∃W16,W16=((((w15.setCell ⟨g,0,none⟩ (.string U.label)).setCell ⟨g,1,none⟩ (.string U.head)).setCell ⟨g,2,none⟩ (.slice oa U.lines.length oc)).setCell ⟨g,3,none⟩ (.slice pa U.kids.length pc)):=⟨_,rfl⟩
        have hs16:W16.heap.size=w15.heap.size:=by rw[hW16];simp
        have hf16:∀q,q≠g→W16.heap[q]?=w15.heap[q]?:=fun q hq=>by rw[hW16];exact PA hq
        have hall:w.heap.size+3<w5.heap.size∧w5.heap.size<w9.heap.size∧w9.heap.size≤g∧g<W12.heap.size∧W12.heap.size≤W14.heap.size:=by have:=HSz5.out;have:=HL5.out;have:=HB14.out.2;omega
        have hg15:=(hb15.block g (by omega)).trans HY14.out.2
        have hg16:W16.heap[g]?=some (.cells #[.string U.label,.string U.head,.slice oa U.lines.length oc,.slice pa U.kids.length pc] rA (0,0)):=by rw[hW16];exact NA hg15
        have hz16:W16.heap[w.heap.size+3]?=some (.cells #[.string ⟨#[]⟩,.string ⟨#[]⟩,.slice none 0 0,.slice none 0 0] rA (0,0)):=(hf16 _ (by omega)).trans ((hb15.block _ (by omega)).trans HBx14.out.2)
        have hbw16:Below w.heap.size w W16:=by
         have h1:Below w.heap.size w w15:=HB14.out.1.trans (hb15.mono HB14.out.1.size)
         have hle:w.heap.size≤g:=by omega
         rw[hW16]
         exact(((h1.setCell (p:=⟨g,0,none⟩) hle _).setCell (p:=⟨g,1,none⟩) hle _).setCell (p:=⟨g,2,none⟩) hle _).setCell (p:=⟨g,3,none⟩) hle _
        have hl16:Lies W16 (fun q=>(P q∧q<w.heap.size)∨w.heap.size+3<q) (wA (.string U.label) (.string U.head) (.slice oa U.lines.length oc) (.slice pa U.kids.length pc)) U:=hl15v.step fun b hb hp=>by
         rcases hp with (hp|hp)|hp
         ·refine⟨hf16 b hp.1,hp.2.2.imp id fun h=>by omega⟩
         ·exact⟨hf16 b (by omega),.inr (by omega)⟩
         ·exact⟨hf16 b (by omega),.inr (by omega)⟩
        have HVl:Hid (∀W,(∀q,q<W16.heap.size→q≠w.heap.size+3→W.heap[q]?=W16.heap[q]?)→Calls Tryz.prog 19 #[.agg #[.string U.label,.string U.head,.slice oa U.lines.length oc,.slice pa U.kids.length pc]] W fun e w'=>e=.returned (.int .i64 (gC (vIt 0 0 [] U)))∧Below W.heap.size W w'):=fun W hW=>
         NC U HFm.out.2.2.2.2.1 HFm.out.2.2.2.2.2 W (fun _=>True) (wA _ _ _ _) (hl16.step fun b hb hp=>⟨hW b hb (fun e=>by
          rcases hp with hp|hp
          ·have:=hp.2;omega
          ·omega),trivial⟩)
        have HW16:=aA hW16
        have HL16:=aA hl16
        have HB16:=aA (aI hbw16 (aI hg16 hz16))
        obtain⟨c0,c1,c2,c3,cf⟩:=gA hg15
        clear e0 e1 e2 e3 g0 g1 g2 g3 y0 y1 y2 y3 y4 y5 y6 y7 y8 y9 hl15 hb15 k0 k1 k2 k3 hl15v hW16 hs16 hf16 hall hg15 hg16 hz16 hbw16 hl16 HWt
        go_upto_region 15 with fail
        rw[←HW16.out]
        clear c0 c1 c2 c3 cf
        obtain⟨o0,o1,o2,o3,_⟩:=gA HB16.out.2.1
        obtain⟨z0,z1,z2,z3,zf⟩:=gA HB16.out.2.2
        have hg16l:g<W16.heap.size:=(Array.getElem?_eq_some_iff.1 HB16.out.2.1).1
        have hz16l:w.heap.size+3<W16.heap.size:=(Array.getElem?_eq_some_iff.1 HB16.out.2.2).1
        have hne9:¬g=w.heap.size+3:=by have:=HSz5.out;omega
        have hne9':¬w.heap.size+3=g:=by have:=HSz5.out;omega
        have HLt:=aA (aI hg16l hz16l)
        clear hg16l hz16l
        go_region_held3 (fun V=>V.cell? ⟨g,0,none⟩=some (.string U.label)∧V.cell? ⟨g,1,none⟩=some (.string U.head)∧V.cell? ⟨g,2,none⟩=some (.slice oa U.lines.length oc)∧V.cell? ⟨g,3,none⟩=some (.slice pa U.kids.length pc)) (first|exact⟨o0,o1,o2,o3⟩|exact⟨q0,q1',q2,q3'⟩|go_keep) (first|(go_simp;go_at_call 19;refine(HVl.out _ (by first|exact(fun q _ _=>rfl)|exact(fun q _ hne=>PA hne))).mono ?_;rintro e w17 ⟨rfl,hb17⟩;obtain⟨q0,q1',q2,q3',_⟩:=gA (show w17.heap[g]?=some (.cells #[.string U.label,.string U.head,.slice oa U.lines.length oc,.slice pa U.kids.length pc] rA (0,0)) from(by first|exact(hb17.block g HLt.out.1).trans HB16.out.2.1|exact(hb17.block g (by simp;exact HLt.out.1)).trans ((PA hne9).trans HB16.out.2.1)));(first|(have hz17:=(hb17.block (w.heap.size+3) HLt.out.2).trans HB16.out.2.2;obtain⟨r0,r1,r2,r3,rf⟩:=gA hz17;have HZ17:=aA hz17;clear hz17)|(have hz17:=(hb17.block (w.heap.size+3) (by simp;exact HLt.out.2)).trans (NA HB16.out.2.2);have HZ17:=aA hz17;clear hz17));have H17:=aA hb17;clear hb17))
        all_goals go_wp2
        all_goals
         refine bodyPost_ret (v:=.tuple #[.agg #[.string U.label,.string U.head,.slice oa U.lines.length oc,.slice pa U.kids.length pc],.int .i64 (gC (vIt 0 0 [] U))]) (fA Tryz.results48 _ _ (w.heap.size+3) rA #[.string U.label,.string U.head,.slice oa U.lines.length oc,.slice pa U.kids.length pc] (0,0) _ _ rfl rfl (NA HZ17.out) Tryz.underlying25 rfl rfl) rfl ?_
         exact OneR.fin1 HR8.out (v':=wA (.string U.label) (.string U.head) (.slice oa U.lines.length oc) (.slice pa U.kids.length pc)) (HB16.out.1.drew.trans (H17.out.mono HB16.out.1.size)) (by omega) rfl (HL16.out.step fun b hb hp=>⟨H17.out.block b hb,hp⟩)
end Go.Proofs.YtpbolcjcmkmalaaGreatDoor
